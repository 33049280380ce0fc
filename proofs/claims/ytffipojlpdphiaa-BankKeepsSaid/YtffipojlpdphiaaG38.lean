/- tallageref01.Bytes, walked. -/
import Derived.Test.YtffipojlpdphiaaG12
import Derived.Test.YtffipojlpdphiaaG33
import Derived.Test.YtffipojlpdphiaaG37
import Derived.Test.YtffipojlpdphiaaG19
import Derived.Test.YtffipojlpdphiaaG35
import Derived.Test.YtffipojlpdphiaaG27
namespace Go.Proofs.Ytffipojlpdphiaa
open Go.RowKit Go.Sort

theorem infoU8 : (Try.prog.info? 5).map (fun i => (i.zero, i.size, i.bytes)) = some (some (.int .u8 0), 1, 1) := by kernel_rfl
/-- the values of k bytes -/
def u8s (f : Nat → Nat) (k : Nat) : List Value := (List.range k).map fun i => Value.int .u8 (f i : Nat)
theorem u8s_succ (f : Nat → Nat) (k : Nat) : u8s f (k + 1) = u8s f k ++ [.int .u8 (f k : Nat)] := by simp [u8s, List.range_succ]
def RbyRel (a : Nat) (w : World) (x y : Value) (wr : World) : Prop :=
  ∃ k : Nat, k ≤ 32 ∧ y = .int .i64 (31 - (k : Int)) ∧ wr.ownsRow (w.heap.size + 1) 5 1 x k (u8s (fun i => byteAt a (31 - i)) k) ∧ Arr .u64 wr w.heap.size 4 (limb a) ∧ Below w.heap.size w wr ∧ w.heap.size < wr.heap.size
def RbyPost (a : Nat) (w : World) (e : Ending) (w' : World) : Prop :=
  (∃ v, e = .returned v ∧ w'.ownsRow (w.heap.size + 1) 5 1 v 32 (u8s (fun i => byteAt a (31 - i)) 32)) ∧ Below w.heap.size w w'

set_option maxRecDepth 100000 in
set_option maxHeartbeats 2000000 in
theorem rbytes_walk (a : Nat) (w : World) : Calls Try.prog 194 #[U a] w (RbyPost a w) := by
  obtain ⟨i0, hi, hz0, hz1, hz2⟩ := info_parts infoU8
  unfold U
  go_enter Try.func194, Try.ntmps194
  go_wp2
  go_loopw [3, 4] (RbyRel a w) (fun _ y _ => (intOf y + 1).toNat)
  case atStart =>
    exact ⟨0, by omega, rfl, World.ownsRow_nil _ _ _ _, Arr.new4 (f := limb a) rfl, (Below.refl _ _).alloc (Nat.le_refl _) _, by simp⟩
  case round =>
    obtain ⟨k, hk, rfl, hown, hb, hbel, hsz⟩ := hrel
    by_cases hlt : k < 32
    · obtain ⟨q, hq⟩ : ∃ q, q = (31 - k) / 8 := ⟨_, rfl⟩
      obtain ⟨r, hr⟩ : ∃ r, r = (31 - k) % 8 := ⟨_, rfl⟩
      have e0 : (0 : Int) ≤ 31 - (k : Int) := by omega
      have e1 : ((31 : Int) - (k : Int)).tdiv 8 = (q : Int) := by rw [Int.tdiv_eq_ediv_of_nonneg (by omega)]; omega
      have e2 : ((31 : Int) - (k : Int)).tmod 8 = (r : Int) := by rw [Int.tmod_eq_emod_of_nonneg (by omega)]; omega
      have e3 : ((31 : Int) - (k : Int)) / 8 = (q : Int) := by omega
      have hq4 : q < 4 := by omega
      have q7 : (q : Int) < 4 := by omega
      have hr8 : r < 8 := by omega
      have b1 := byte_run (a := a) hq hr
      rw [Nat.mul_comm r 8] at b1
      have i4 : IntKind.i64.wrap (8 * (r : Int)) = 8 * (r : Int) := IntWalk.i64_in _ (by omega)
      have i5 : IntKind.u64.wrap (8 * (r : Int)) = 8 * (r : Int) := IntWalk.u64_in _ (by omega)
      have i6 : (8 * (r : Int)).toNat = 8 * r := by omega
      have i7 : IntKind.i64.wrap (31 - (k : Int) - 1) = 31 - (k : Int) - 1 := IntWalk.i64_in _ (by omega)
      have c1 := hb.cell q hq4
      have hne := own_ne hown (show w.heap.size < w.heap.size + 1 by omega)
      clear hq hr
      go_wp2_with (at_builtin; refine wpList_append_own _ rfl _ _ _ rfl (w.heap.size + 1) 5 i0 _ 1 1 Try.underlying191 hi hz0 hz1 hz2 rfl (by omega) _ k (u8s (fun i => byteAt a (31 - i)) k) rfl (hown.alloc _) ⟨wr.heap.size, 0, none⟩ 1 1 [.int .u8 (byteAt a (31 - k) : Nat)] rfl rfl (World.news_of_block (cs := #[.int .u8 (byteAt a (31 - k) : Nat)]) (t := 5) (fr := (0, 0)) (heap_alloc_new wr _)) (by simp [Value.oneCell']) (by unfold maxLen; omega) (by omega) (by simp; omega) ?_)
      intro v1 w1 hown1 hgrow _
      go_wp2
      have hsz2 : w.heap.size < (wr.alloc (.cells #[.int .u8 (byteAt a (31 - k) : Nat)] 5)).heap.size := by rw [World.size_alloc]; omega
      refine ⟨⟨k + 1, by omega, by congr 1; omega, ?_, (hb.alloc _).grown hgrow hsz2 hne, ?_, Nat.lt_of_lt_of_le hsz2 hgrow.size⟩, by simp [intOf]; omega⟩
      · rw [u8s_succ]; exact hown1
      · exact (hbel.alloc (Nat.le_of_lt hsz) _).grown hgrow (Nat.le_of_lt hsz2) (fun j hj => by have := own_ge hown j hj; omega)
    · obtain rfl : k = 32 := by omega
      go_wp2
      go_ret
      exact ⟨⟨_, rfl, hown⟩, hbel⟩
end Go.Proofs.Ytffipojlpdphiaa

namespace Go.Proofs.Ytffipojlpdphiaa
open Go.RowKit Go.Maps Go.Sort

set_option maxRecDepth 100000 in
set_option maxHeartbeats 1000000 in
theorem ramt9_walk (a : Nat) (w : World) : Calls Try.prog 188 #[U a] w fun e w' => e = .returned (.string (amtStr a)) ∧ Below w.heap.size w w' := by
  have HB := Lib.hid (fun (W : World) => (rbytes_walk a W).mono fun e w' h => (show (∃ g cap, e = .returned (.slice (some ⟨g, 0, none⟩) 32 cap) ∧ ∀ i, i < 32 → w'.cell? ⟨g, i, none⟩ = some (.int .u8 (byteAt a (31 - i) : Nat))) ∧ Below W.heap.size W w' from by
    obtain ⟨⟨v, he, ho⟩, hb⟩ := h
    refine ⟨?_, hb⟩
    have ho2 := ho
    rcases ho.2 with ⟨rfl, h0⟩ | ⟨g, cap, cur, rfl, _⟩
    · cases h0
    · refine ⟨g, cap, he, fun i hi => ?_⟩
      rw [ho2.cellAt i (by omega)]
      simp [u8s, hi]))
  unfold U at HB ⊢
  go_enter Try.func188, Try.ntmps188
  go_wp2_with (go_at_call 194; refine (HB.out _).mono ?_; rintro e w1 ⟨⟨g, cap, rfl, hA⟩, hb1⟩; have hcv := run_convert_bytes_arg (P := Try.prog) w1 191 5 Try.underlying191 Try.underlying5 g 0 32 cap (amtL a) (by simp [amtL]) (fun i hi => by rw [Nat.zero_add, amtL_get a i hi]; exact hA i hi) 9 Try.underlying9; have HB1 := Lib.hid hb1; clear hA hb1)
  go_ret
  exact ⟨rfl, by first | exact HB1.out | exact ((Below.refl _ _).alloc (Nat.le_refl _) _).trans (HB1.out.mono (by simp))⟩
set_option maxRecDepth 100000 in
set_option maxHeartbeats 1000000 in
theorem ramount_at (w W : World) (m : Nat) (L : SL) (R : List Ch) (k : ByteArray) (a : Nat) (h : DS w W m L R) (hr : Rising (skeys L)) (hN : L.length ≤ 1000000) (he : amtAt L k a) (ha : a < 2 ^ 256) :
    Calls Try.prog 30 #[.pointer (some ⟨m, 0, none⟩), .string k] W fun e W' => e = .returned (U a) ∧ Below W.heap.size W W' := by
  obtain ⟨V, hV⟩ : ∃ V, V = (sget L k).getD ⟨#[]⟩ := ⟨_, rfl⟩
  have hV2 : fbv V = a := by
    rw [hV]
    rcases he with ⟨rfl, he⟩ | he
    · rw [he]; decide
    · rw [he]; exact amt_fbv a ha
  obtain ⟨ok, hok⟩ : ∃ ok, decide (V.size = 32) = ok := ⟨_, rfl⟩
  have hG := fun (W1 : World) (hb : Below W.heap.size W W1) => rget_walk m L k W1 (h.below hb).dl hr hN
  rw [← hV] at hG
  obtain ⟨is, his⟩ : ∃ y, y = (sget L k).isSome := ⟨_, rfl⟩
  rw [← his] at hG
  have HG := Lib.hid hG
  have hT := fun w => rtoAmount_walk V a ok w hV2 hok
  unfold U at hT ⊢
  have HT := Lib.hid hT
  have hb0 := (Below.refl W.heap.size W).alloc (Nat.le_refl _) (.cells #[.int .u64 0, .int .u64 0, .int .u64 0, .int .u64 0] 52)
  have r0 := heap_alloc_new W (.cells #[.int .u64 0, .int .u64 0, .int .u64 0, .int .u64 0] 52)
  have H0 := Lib.hid (And.intro hb0 r0)
  clear h hr hN he ha hV hV2 hok hG his hT hb0 r0
  go_enter Try.func30, Try.ntmps30
  go_wp2_with (first
    | (go_at_call 98; refine (HT.out _).mono ?_; rintro e w2 ⟨rfl, hb2⟩; have r2 := (hb2.block _ (hp_lt H0.out.2)).trans H0.out.2; have hbx := (Below.refl w2.heap.size w2).alloc (Nat.le_refl _) (.cells #[.int .u64 (limb a 0 : Nat), .int .u64 (limb a 1 : Nat), .int .u64 (limb a 2 : Nat), .int .u64 (limb a 3 : Nat)] 52); have rx := (hbx.block _ (hp_lt r2)).trans r2; have RX := Lib.hid rx; have H2 := Lib.hid (H0.out.1.trans ((hb2.trans (hbx.mono hb2.size)).mono H0.out.1.size)); have d0 := (hp_cell (i := 0) rx).trans rfl; have d1 := (hp_cell (i := 1) rx).trans rfl; have d2 := (hp_cell (i := 2) rx).trans rfl; have d3 := (hp_cell (i := 3) rx).trans rfl; have g0 := hp_free (i := 0) rx; have g1 := hp_free (i := 1) rx; have g2 := hp_free (i := 2) rx; have g3 := hp_free (i := 3) rx; clear hb2 r2 hbx rx)
    | (go_at_call 97; refine (HG.out _ H0.out.1).mono ?_; rintro e w1 ⟨rfl, rfl⟩))
  obtain ⟨e0, e1, e2, e3⟩ := ((arr_zero RX.out).put4 (n := a)).cells4
  refine bodyPost_ret (v := .agg #[.int .u64 (limb a 0 : Nat), .int .u64 (limb a 1 : Nat), .int .u64 (limb a 2 : Nat), .int .u64 (limb a 3 : Nat)]) (by simp [results, Try.results30, go_sem, e0, e1, e2, e3]) rfl ⟨rfl, below_set4 H2.out (Nat.le_refl _)⟩
/-- the changes that SetAmount leaves -/
def setAR (L : SL) (R : List Ch) (k : ByteArray) (a : Nat) : List Ch := if a = 0 then delR L R k else setR L R k (amtStr a)
theorem delR_le (L : SL) (R : List Ch) (k : ByteArray) : (delR L R k).length ≤ R.length + 1 := by
  unfold delR
  split <;> simp
theorem setAR_le (L : SL) (R : List Ch) (k : ByteArray) (a : Nat) : (setAR L R k a).length ≤ R.length + 1 := by
  unfold setAR
  split
  · exact delR_le L R k
  · unfold setR
    split
    · omega
    · split <;> simp
end Go.Proofs.Ytffipojlpdphiaa

namespace Go.Proofs.Ytffipojlpdphiaa
open Go.RowKit Go.Maps Go.Sort

def KS1 : ByteArray := ⟨#[2, 0, 0, 0, 0, 0, 0, 0, 1]⟩
def KA7 : ByteArray := ⟨#[1, 0, 0, 0, 0, 0, 0, 0, 1, 0, 0, 0, 0, 0, 0, 0, 7]⟩
def KA8 : ByteArray := ⟨#[1, 0, 0, 0, 0, 0, 0, 0, 1, 0, 0, 0, 0, 0, 0, 0, 8]⟩
def KP1 : ByteArray := ⟨#[1, 0, 0, 0, 0, 0, 0, 0, 1]⟩
def KP3 : ByteArray := ⟨#[3, 0, 0, 0, 0, 0, 0, 0, 1]⟩
def KP4 : ByteArray := ⟨#[4, 0, 0, 0, 0, 0, 0, 0, 1]⟩
def KP6 : ByteArray := ⟨#[6, 0, 0, 0, 0, 0, 0, 0, 1]⟩
theorem keyS1 : keyStr 2 (fun _ => 1) 1 = KS1 := by decide +kernel
theorem keyA7 : keyStr 1 (two2 1 7) 2 = KA7 := by decide +kernel
theorem keyA8 : keyStr 1 (two2 1 8) 2 = KA8 := by decide +kernel
theorem keyP1 : keyStr 1 (fun _ => 1) 1 = KP1 := by decide +kernel
theorem keyP3 : keyStr 3 (fun _ => 1) 1 = KP3 := by decide +kernel
theorem keyP4 : keyStr 4 (fun _ => 1) 1 = KP4 := by decide +kernel
theorem keyP6 : keyStr 6 (fun _ => 1) 1 = KP6 := by decide +kernel
def BL1 : SL := setA [] KS1 (0 + 100)
def BL2 : SL := setA BL1 KA7 (0 + 100)
def BL3 : SL := setA BL2 KA8 (0 + 30)
def BL4 : SL := setA BL3 KA7 (100 - 30)
theorem bl1 : amtAt BL1 KA7 0 := .inl ⟨rfl, by decide +kernel⟩
theorem bl2a : amtAt BL2 KA7 100 := .inr (by decide +kernel)
theorem bl2b : amtAt BL2 KA8 0 := .inl ⟨rfl, by decide +kernel⟩
theorem bl3 : amtAt BL3 KA7 100 := .inr (by decide +kernel)
theorem bl4 : amtAt BL4 KA7 70 := .inr (by decide +kernel)
theorem bl4t : amT (fun i => under BL4 (bgs KP1 KP3 KP4 KP6 i)) 4 = 100 := by decide +kernel
theorem bl4k : ∀ p ∈ BL4, p.1.size ≤ maxLen := by decide +kernel
theorem v100 : U 100 = .agg #[.int .u64 100, .int .u64 0, .int .u64 0, .int .u64 0] := by unfold U; rw [show limb 100 0 = 100 by decide, show limb 100 1 = 0 by decide, show limb 100 2 = 0 by decide, show limb 100 3 = 0 by decide]; rfl
theorem v30 : U 30 = .agg #[.int .u64 30, .int .u64 0, .int .u64 0, .int .u64 0] := by unfold U; rw [show limb 30 0 = 30 by decide, show limb 30 1 = 0 by decide, show limb 30 2 = 0 by decide, show limb 30 3 = 0 by decide]; rfl
theorem v70 : U 70 = .agg #[.int .u64 70, .int .u64 0, .int .u64 0, .int .u64 0] := by unfold U; rw [show limb 70 0 = 70 by decide, show limb 70 1 = 0 by decide, show limb 70 2 = 0 by decide, show limb 70 3 = 0 by decide]; rfl
set_option maxRecDepth 100000 in
set_option maxHeartbeats 4000000 in
theorem lives17_walk (w : World) : Calls Try.prog 23 #[] w fun e w' => e = .returned (.bool true) ∧ Below w.heap.size w w' := by
  have D1 := Lib.hid (fun (W W1 : World) (b : Nat) (F : List Nat) (hl : LiveTo w W W1 b F [] 0) => show Calls Try.prog 24 #[.pointer (some ⟨b, 0, none⟩), .int .i64 1, .int .i64 7, .agg #[.int .u64 100, .int .u64 0, .int .u64 0, .int .u64 0]] W1 fun e W2 => e = .returned (.int .i64 0) ∧ LiveTo w W W2 b F BL2 2 from by
    have := hl.seq 2 (fun F1 qa qsa hs hqa => mint_live hs 1 7 100 KS1 KA7 (by decide) (by decide) keyS1 keyA7 (by decide) (by decide) (by decide) (by decide) (.inl ⟨rfl, rfl⟩) bl1 (by decide) (by decide +kernel) (by omega))
    rw [v100] at this
    exact this)
  have D2 := Lib.hid (fun (W W1 : World) (b : Nat) (F : List Nat) (hl : LiveTo w W W1 b F BL2 2) => show Calls Try.prog 26 #[.pointer (some ⟨b, 0, none⟩), .int .i64 1, .int .i64 7, .int .i64 8, .agg #[.int .u64 30, .int .u64 0, .int .u64 0, .int .u64 0]] W1 fun e W2 => e = .returned (.int .i64 0) ∧ LiveTo w W W2 b F BL4 4 from by
    have := hl.seq 2 (fun F1 qa qsa hs hqa => pay_live hs 1 7 8 100 0 30 KA7 KA8 (by decide) (by decide) keyA7 keyA8 (by decide) (by decide) (by decide) (by decide) (by decide) bl2a bl2b bl3 (by decide) (by decide) (by decide) (by decide) (by decide) (by decide +kernel) (by decide +kernel) (by omega))
    rw [v30] at this
    exact this)
  have D3 := Lib.hid (fun (W W1 : World) (b : Nat) (F : List Nat) (hl : LiveTo w W W1 b F BL4 4) => show Calls Try.prog 27 #[.pointer (some ⟨b, 0, none⟩), .int .i64 1] W1 fun e W2 => e = .returned (.tuple #[.agg #[.int .u64 100, .int .u64 0, .int .u64 0, .int .u64 0], .bool true]) ∧ LiveTo w W W2 b F BL4 4 ∧ Below W1.heap.size W1 W2 from by
    have := hl.read (fun F1 qa qsa hs hqa => total_live hs 1 KP1 KP3 KP4 KP6 (by decide) keyP1 keyP3 keyP4 keyP6 bl4k (by decide +kernel) 100 bl4t (by decide))
    rw [v100] at this
    exact this)
  have D4 := Lib.hid (fun (W W1 : World) (b : Nat) (F : List Nat) (hl : LiveTo w W W1 b F BL4 4) => show Calls Try.prog 80 #[.pointer (some ⟨b, 0, none⟩), .int .i64 1, .int .i64 7] W1 fun e W2 => e = .returned (.agg #[.int .u64 70, .int .u64 0, .int .u64 0, .int .u64 0]) ∧ LiveTo w W W2 b F BL4 4 ∧ Below W1.heap.size W1 W2 from by
    have := hl.read (fun F1 qa qsa hs hqa => balance_of (some ⟨b, 0, none⟩) 1 7 70 KA7 keyA7 W1 (by decide) (by decide) (fun W2 hb2 => camount_at (hs.below hb2) KA7 70 (by decide) bl4 (by decide)))
    rw [v70] at this
    exact this)
  obtain ⟨r2, e2⟩ : ∃ x, x = BL2 := ⟨_, rfl⟩
  obtain ⟨r4, e4⟩ : ∃ x, x = BL4 := ⟨_, rfl⟩
  rw [← e2] at D1 D2
  rw [← e4] at D2 D3 D4
  clear e2 e4
  have q100 := fun w => eqU 100 0 0 0 100 0 0 0 w
  have q70 := fun w => eqU 70 0 0 0 70 0 0 0 w
  go_enter Try.func23, Try.ntmps23
  go_wp2_with (first
    | (go_at_call 80; with_reducible refine (D4.out _ _ _ _ (h4.out.al (.cells #[.int .u64 100, .int .u64 0, .int .u64 0, .int .u64 0] 52))).mono ?_; rintro e w5 ⟨rfl, hs5, hb5⟩; have h5 := Lib.hid hs5; have r5 := (hb5.block w4.heap.size (by simp)).trans (heap_alloc_new w4 (.cells #[.int .u64 100, .int .u64 0, .int .u64 0, .int .u64 0] 52)); have a0 := (hp_cell (i := 0) r5).trans rfl; have a1 := (hp_cell (i := 1) r5).trans rfl; have a2 := (hp_cell (i := 2) r5).trans rfl; have a3 := (hp_cell (i := 3) r5).trans rfl; clear hs5 hb5 r5)
    | (go_at_call 27; with_reducible refine (D3.out _ _ _ _ h3.out).mono ?_; rintro e w4 ⟨rfl, hs4, _⟩; have h4 := Lib.hid hs4; clear hs4)
    | (go_at_call 26; with_reducible refine (D2.out _ _ _ _ h2.out).mono ?_; rintro e w3 ⟨rfl, hs3⟩; have h3 := Lib.hid hs3; clear hs3)
    | (go_at_call 24; with_reducible refine (D1.out _ _ _ _ h1.out.start).mono ?_; rintro e w2 ⟨rfl, hs2⟩; have h2 := Lib.hid hs2; clear hs2)
    | (go_at_call 11; refine (SNew.new w _ (Below.refl _ _)).mono ?_; rintro e w1 ⟨b, F1, rfl, hs1, _, _⟩; have h1 := Lib.hid hs1; clear hs1))
  go_ret
  exact ⟨rfl, h5.out.l⟩
end Go.Proofs.Ytffipojlpdphiaa
