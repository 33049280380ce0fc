/- history: a checkpoint that is there, read; Len. -/
import Derived.Test.YtedkhpnlhkjjgaaG16
import Derived.StillTailTactics
import Derived.WalkMore
import Derived.Lib.QuietBelow
import Derived.StillTail
namespace Go.Proofs.Ytedkhpnlhkjjgaa
open Go.RowKit Go.Maps Go.Sort

/-- the value of a checkpoint -/
def hpV (x a : Nat) : ByteArray := numStr (x : Int) ++ amtStr a
theorem ba_size_append (a b : ByteArray) : (a ++ b).size = a.size + b.size := by simp
theorem hpV_size (x a : Nat) : (hpV x a).size = 40 := by unfold hpV; rw [ba_size_append, numStr_sizeA, amtStr_size]
theorem hpV_lo (x a : Nat) : (hpV x a).extract 0 8 = numStr (x : Int) := by
  unfold hpV
  have := ByteArray.extract_append_eq_left (a := numStr (x : Int)) (b := amtStr a) (i := 8) (numStr_sizeA _).symm
  exact this
theorem hpV_hi (x a : Nat) : (hpV x a).extract 8 40 = amtStr a := by
  unfold hpV
  have := ByteArray.extract_append_eq_right (a := numStr (x : Int)) (b := amtStr a) (i := 8) (j := 40) (numStr_sizeA _).symm (by rw [numStr_sizeA, amtStr_size])
  exact this
theorem arr_zero {w : World} {b : Nat} {t : TypeId} (h : w.heap[b]? = some (.cells #[.int .u64 0, .int .u64 0, .int .u64 0, .int .u64 0] t (0, 0))) : Arr .u64 w b 4 (fun _ => 0) :=
  ⟨fun i hi => by
    rw [hp_cell h]
    rcases (by omega : i = 0 ∨ i = 1 ∨ i = 2 ∨ i = 3) with rfl | rfl | rfl | rfl <;> rfl, fun i hi => hp_free h⟩
set_option maxRecDepth 100000 in
set_option maxHeartbeats 2000000 in
/-- a checkpoint that is there -/
theorem read_some (b : Nat) (P : Option Addr) (t : Int) (A : Option Addr) (n c : Nat) (f : Nat → Int) (k : Int) (K : ByteArray) (hK : keyStr t (icat f n fun _ => k) (n + 1) = K) (x a : Nat) (hx : x < 2 ^ 63) (ha : a < 2 ^ 256) (w : World) (h : HisAt w b P t A n c f) (hk : k < 2 ^ 63)
    (hG : ∀ W, Below w.heap.size w W → Calls Try.prog 47 #[.pointer P, .string K] W fun e w' => e = .returned (.tuple #[.string (hpV x a), .bool true]) ∧ Below W.heap.size W w') :
    Calls Try.prog 112 #[.int .i64 k, .pointer (some ⟨b, 0, none⟩), .pointer (some ⟨b + 1, 0, none⟩), .pointer (some ⟨b + 1 + 1, 0, none⟩)] w fun e w' => e = .returned (hisV x a true) ∧ Below w.heap.size w w' := by
  obtain ⟨W0, hW0⟩ : ∃ W0, W0 = w.alloc (.cells #[.int .u64 0, .int .u64 0, .int .u64 0, .int .u64 0] 29) := ⟨_, rfl⟩
  have hb0 : Below w.heap.size w W0 := by rw [hW0]; exact (Below.refl _ _).alloc (Nat.le_refl _) _
  have r0 : W0.heap[w.heap.size]? = some (.cells #[.int .u64 0, .int .u64 0, .int .u64 0, .int .u64 0] 29 (0, 0)) := by rw [hW0]; exact heap_alloc_new _ _
  have hA := h.below hb0
  have f0 := fun (dq : Nat) (osq : Array Obj) => cell_regrown hA.c0 dq osq
  have f1 := fun (dq : Nat) (osq : Array Obj) => cell_regrown hA.c1 dq osq
  have f2 := fun (dq : Nat) (osq : Array Obj) => cell_regrown hA.c2 dq osq
  have HP := Lib.hid (fun (dq : Nat) (osq : Array Obj) => point_is t A n c f k K hK (grow (redrawn W0 dq) osq) (hA.l.below (below_regrown W0 dq osq)) h.z h.n hk)
  have HF := Lib.hid (fun (dq : Nat) (osq : Array Obj) => And.intro (hb0.trans ((below_regrown W0 dq osq).mono hb0.size)) (((below_regrown W0 dq osq).block w.heap.size (hp_lt r0)).trans r0))
  have hs := hpV_size x a
  have hlo := hpV_lo x a
  have hhi := hpV_hi x a
  obtain ⟨V, hV⟩ : ∃ V, V = hpV x a := ⟨_, rfl⟩
  rw [← hV] at hs hlo hhi hG
  have HG := Lib.hid (fun (dq : Nat) (osq : Array Obj) => hG (grow (redrawn W0 dq) osq) (hb0.trans ((below_regrown W0 dq osq).mono hb0.size)))
  have HW := Lib.hid hW0
  have hs0 : ¬ V.size < 8 := by omega
  have hs1 : V.size = 40 := hs
  have HN := Lib.hid (fun w => nums_one x w hx)
  have HT := Lib.hid (fun w => toAmount_walk (amtStr a) a true w (amt_fbv a ha) (by rw [amtStr_size]; rfl))
  clear h hG hA hb0 r0 hK hk hW0 hV hx ha
  unfold hisV
  rw [show U a = .agg #[.int .u64 (limb a 0 : Nat), .int .u64 (limb a 1 : Nat), .int .u64 (limb a 2 : Nat), .int .u64 (limb a 3 : Nat)] from rfl]
  go_enter Try.func112, Try.ntmps112
  go_wp2
  rw [← HW.out]
  refine wp_region_quiet_below (by kernel_rfl) (by kernel_rfl) ?_
  repeat (quiet_step (first
    | (go_at_call 65; with_reducible exact Calls.regrown_of (HP.out _ _))
    | (go_at_call 47; with_reducible exact Calls.regrown_of (HG.out _ _))))
  refine wpQuiet_nil ?_
  intro _ hw'
  obtain ⟨⟨dq, osq⟩, hw''⟩ := hw'
  subst hw''
  have hf := HF.out dq osq
  obtain ⟨W, hW⟩ : ∃ W, W = grow (redrawn W0 dq) osq := ⟨_, rfl⟩
  rw [← hW] at hf ⊢
  clear hW f0 f1 f2 HF HP HG
  have HB := Lib.hid hf.1
  have R := Lib.hid hf.2
  clear hf
  go_upto_region 10 with (first
    | (go_at_call 114; refine (HT.out _).mono ?_; rintro e w3 ⟨rfl, hb3⟩; unfold U; have r3 := (hb3.block w.heap.size (hp_lt R2.out)).trans R2.out; have HB3 := Lib.hid (HB2.out.trans (hb3.mono HB2.out.size)); have HX3 := Lib.hid ((hb3.cell (p := ⟨G, 0, none⟩) HG2.out).trans HX2.out); have R3 := Lib.hid r3; have d0 := (hp_cell (i := 0) r3).trans rfl; have d1 := (hp_cell (i := 1) r3).trans rfl; have d2 := (hp_cell (i := 2) r3).trans rfl; have d3 := (hp_cell (i := 3) r3).trans rfl; have g0 := hp_free (i := 0) r3; have g1 := hp_free (i := 1) r3; have g2 := hp_free (i := 2) r3; have g3 := hp_free (i := 3) r3; clear r3 hb3)
    | (go_at_call 113; refine (HN.out _).mono ?_; rintro e w2 ⟨rfl, hc2, hl2, hb2⟩; obtain ⟨G, hG⟩ : ∃ G, G = W.heap.size := ⟨_, rfl⟩; rw [← hG] at hc2 hl2 ⊢; have HX2 := Lib.hid hc2; have HG2 := Lib.hid hl2; have HB2 := Lib.hid (HB.out.trans (hb2.mono HB.out.size)); have R2 := Lib.hid ((hb2.block w.heap.size (hp_lt R.out)).trans R.out); have HGw := Lib.hid (show w.heap.size < G from by rw [hG]; exact hp_lt R.out); clear hc2 hl2 hb2 hG))
  have x3 := HX3.out
  have n1 : ¬ w.heap.size = G := by have := HGw.out; omega
  have n2 : ¬ G = w.heap.size := by have := HGw.out; omega
  go_region
  all_goals
    go_wp2
    obtain ⟨e0, e1, e2, e3⟩ := ((((arr_zero R3.out).put4 (n := a)).put4 (n := a)).drew).cells4
    refine bodyPost_ret (v := .tuple #[.int .i64 (x : Nat), .agg #[.int .u64 (limb a 0 : Nat), .int .u64 (limb a 1 : Nat), .int .u64 (limb a 2 : Nat), .int .u64 (limb a 3 : Nat)], .bool true]) (by simp [results, Try.results112, go_sem, e0, e1, e2, e3]) rfl ⟨rfl, ?_⟩
    have hB := (below_set4 (x0 := .int .u64 (limb a 0 : Nat)) (x1 := .int .u64 (limb a 1 : Nat)) (x2 := .int .u64 (limb a 2 : Nat)) (x3 := .int .u64 (limb a 3 : Nat)) (below_set4 (x0 := .int .u64 (limb a 0 : Nat)) (x1 := .int .u64 (limb a 1 : Nat)) (x2 := .int .u64 (limb a 2 : Nat)) (x3 := .int .u64 (limb a 3 : Nat)) HB3.out (Nat.le_refl _)) (Nat.le_refl _)).drew
    exact hB
end Go.Proofs.Ytedkhpnlhkjjgaa

namespace Go.Proofs.Ytedkhpnlhkjjgaa
open Go.RowKit Go.Maps Go.Sort

set_option maxRecDepth 100000 in
set_option maxHeartbeats 400000 in
theorem hlen_dead (P : Option Addr) (t : Int) (A : Option Addr) (n c : Nat) (f : Nat → Int) (w : World) (h : SDead w (.pointer P)) (hl : Il w A n f) (hn : n ≤ 20) :
    Calls Try.prog 17 #[.pointer P, .int .i64 t, .slice A n c] w fun e w' => e = .returned (.int .i64 ((0 : Nat) : Int)) ∧ Below w.heap.size w w' := by
  have HK := Lib.hid (key_some t A n c f w hl (by omega))
  have HD := Lib.hid h
  clear h hl hn
  go_enter Try.func17, Try.ntmps17
  go_wp2_with (first
    | (go_at_call 61; refine (cint_dead _ K w1 (HD.out.below HB1.out)).mono ?_; rintro e w2 ⟨rfl, hb2⟩; have HB2 := Lib.hid (HB1.out.trans (hb2.mono HB1.out.size)); clear hb2)
    | (go_at_call 60; refine HK.out.mono ?_; rintro e w1 ⟨⟨K, rfl, _⟩, hb1⟩; have HB1 := Lib.hid hb1; clear hb1))
  go_ret
  exact ⟨rfl, HB2.out⟩
set_option maxRecDepth 100000 in
set_option maxHeartbeats 400000 in
theorem hlen_live {w W : World} {b : Nat} {F : List Nat} {L : SL} {q : Nat} {qs : List Value} (h : SNew w W b F L q qs) (t : Int) (A : Option Addr) (n c : Nat) (f : Nat → Int) (hl : Il W A n f) (hn : n ≤ 20) (K : ByteArray) (hK : keyStr t f n = K) (hk : K.size ≤ maxLen) (m : Nat) (he : intAt L K m) (hm : m < 2 ^ 63) :
    Calls Try.prog 17 #[.pointer (some ⟨b, 0, none⟩), .int .i64 t, .slice A n c] W fun e W' => e = .returned (.int .i64 (m : Nat)) ∧ Below W.heap.size W W' := by
  have HK := Lib.hid (key_is t A n c f K hK W hl (by omega))
  have HI := Lib.hid (fun (W1 : World) (hb : Below W.heap.size W W1) => cint_at (h.below hb) K m hk he hm)
  clear h hK hl hk he hn hm
  go_enter Try.func17, Try.ntmps17
  go_wp2_with (first
    | (go_at_call 61; refine (HI.out w1 HB1.out).mono ?_; rintro e w2 ⟨rfl, hb2⟩; have HB2 := Lib.hid (HB1.out.trans (hb2.mono HB1.out.size)); clear hb2)
    | (go_at_call 60; refine HK.out.mono ?_; rintro e w1 ⟨rfl, hb1⟩; have HB1 := Lib.hid hb1; clear hb1))
  go_ret
  exact ⟨rfl, HB2.out⟩
/-- the halving search -/
def hbs (rx : Int → Int) (ro : Int → Bool) (blk : Int) : Nat → Nat → Nat → Nat
  | 0, l, _ => l
  | k + 1, l, h => if l < h then (if ro ((l + (h - l) / 2 : Nat) : Int) = true ∧ rx ((l + (h - l) / 2 : Nat) : Int) ≤ blk then hbs rx ro blk k (l + (h - l) / 2 + 1) h else hbs rx ro blk k l (l + (h - l) / 2)) else l
theorem hbs_le (rx : Int → Int) (ro : Int → Bool) (blk : Int) : ∀ k l h, l ≤ h → hbs rx ro blk k l h ≤ h
  | 0, _, _, hl => hl
  | k + 1, l, h, hl => by
    unfold hbs
    split
    · split
      · exact hbs_le rx ro blk k _ _ (by omega)
      · exact Nat.le_trans (hbs_le rx ro blk k _ _ (by omega)) (by omega)
    · exact hl
/-- what a reader tells, at whatever block its boxes lie -/
def Reads (w : World) (P : Option Addr) (t : Int) (A : Option Addr) (n c : Nat) (f : Nat → Int) (k : Int) (x : Int) (a : Nat) (o : Bool) : Prop :=
  ∀ (b : Nat) (W : World), Below w.heap.size w W → HisAt W b P t A n c f → Calls Try.prog 112 #[.int .i64 k, .pointer (some ⟨b, 0, none⟩), .pointer (some ⟨b + 1, 0, none⟩), .pointer (some ⟨b + 1 + 1, 0, none⟩)] W fun e w' => e = .returned (hisV x a o) ∧ Below W.heap.size W w'
set_option maxRecDepth 100000 in
set_option maxHeartbeats 2000000 in
theorem hat_walk (P : Option Addr) (t : Int) (A : Option Addr) (n c : Nat) (f : Nat → Int) (blk : Int) (m : Nat) (rx : Int → Int) (ra : Int → Nat) (ro : Int → Bool) (w : World) (hl : Il w A n f) (hz : A = none → n = 0 ∧ c = 0) (hn : n ≤ 20) (hm : m ≤ 1099511627776)
    (HL : ∀ W, Below w.heap.size w W → Calls Try.prog 17 #[.pointer P, .int .i64 t, .slice A n c] W fun e w' => e = .returned (.int .i64 (m : Nat)) ∧ Below W.heap.size W w')
    (HR : ∀ k : Int, -1 ≤ k → k < m → Reads w P t A n c f k (rx k) (ra k) (ro k)) (Z : Nat) (hZ : hbs rx ro blk m 0 m = Z) :
    Calls Try.prog 15 #[.pointer P, .int .i64 t, .slice A n c, .int .i64 blk] w fun e w' => e = .returned (.tuple #[U (ra ((Z : Int) - 1)), .bool (ro ((Z : Int) - 1))]) ∧ Below w.heap.size w w' := by
  have HRd := Lib.hid (fun w => reader_walk P t A n c w)
  have HLn := Lib.hid HL
  have HRs := Lib.hid HR
  have HI := Lib.hid (And.intro hl (And.intro hz hn))
  have HZ := Lib.hid (And.intro hZ hm)
  have hb0 := (Below.refl w.heap.size w).alloc (Nat.le_refl _) (.cells #[.int .u64 0, .int .u64 0, .int .u64 0, .int .u64 0] 29)
  have r0 := heap_alloc_new w (.cells #[.int .u64 0, .int .u64 0, .int .u64 0, .int .u64 0] 29)
  have H0 := Lib.hid (And.intro hb0 r0)
  clear HL HR hl hz hn hZ hm hb0 r0
  go_enter Try.func15, Try.ntmps15
  go_wp2
  go_step3
  go_wp2_with (first
    | (go_at_call 17; refine (HLn.out w1 H1.out.1).mono ?_; rintro e w2 ⟨rfl, hb2⟩; have H2 := Lib.hid (And.intro (H1.out.1.trans (hb2.mono H1.out.1.size)) (And.intro (H1.out.2.1.below hb2) ((hb2.block _ (hp_lt H1.out.2.2)).trans H1.out.2.2))); clear hb2)
    | (go_at_call 62; refine (HRd.out _).mono ?_; rintro e w1 ⟨rfl, hb1, hc0, hc1, hc2, hlt⟩; rw [World.size_alloc] at hc0 hc1 hc2 hlt; have hbx := H0.out.1.trans (hb1.mono H0.out.1.size); have H1 := Lib.hid (And.intro hbx (And.intro (show HisAt w1 (w.heap.size + 1) P t A n c f from ⟨hc0, hc1, hc2, hlt, HI.out.1.below hbx, HI.out.2.1, HI.out.2.2⟩) ((hb1.block w.heap.size (by simp)).trans H0.out.2))); clear hb1 hc0 hc1 hc2 hlt hbx))
  go_step3
  go_wp2
  go_loopw [11, 12] (fun lo hi wr => ∃ l h k : Nat, lo = .int .i64 (l : Nat) ∧ hi = .int .i64 (h : Nat) ∧ l ≤ h ∧ h ≤ m ∧ h - l ≤ k ∧ hbs rx ro blk k l h = Z ∧ Below w.heap.size w wr ∧ HisAt wr (w.heap.size + 1) P t A n c f ∧ wr.heap[w.heap.size]? = some (.cells #[.int .u64 0, .int .u64 0, .int .u64 0, .int .u64 0] 29 (0, 0))) (fun lo hi _ => ((intOf hi).toNat - (intOf lo).toNat))
  case atStart => exact ⟨0, m, m, rfl, rfl, by omega, by omega, by omega, HZ.out.1, H2.out.1, H2.out.2.1, H2.out.2.2⟩
  case round =>
    obtain ⟨l, h, k, rfl, rfl, hlh, hhm, hk, hzz, hb, hi, hr⟩ := hrel
    have HC := Lib.hid (And.intro hb (And.intro hi hr))
    have HK := Lib.hid (And.intro hk hzz)
    have hM := HZ.out.2
    clear hb hi hr hk hzz
    by_cases hlt : l < h
    · have p1 : ¬ (h : Int) ≤ (l : Int) := by omega
      obtain ⟨D, hD⟩ : ∃ D : Nat, D = (h - l) / 2 := ⟨_, rfl⟩
      obtain ⟨M, hMd⟩ : ∃ M : Nat, M = l + D := ⟨_, rfl⟩
      have e1 : ((h : Int) - (l : Int)).tdiv 2 = (D : Int) := by rw [Int.tdiv_eq_ediv_of_nonneg (by omega)]; omega
      have e2 : (l : Int) + (D : Int) = (M : Int) := by omega
      have hMm : M < m := by omega
      have hMM : (M : Int) < 1099511627776 := by omega
      have kh : (h : Int) ≤ 1099511627776 := by omega
      have kl : (l : Int) < (h : Int) := by omega
      have kD : (D : Int) ≤ 1099511627776 := by omega
      have HRm := HRs.out (M : Int) (by omega) (by omega) (w.heap.size + 1) wr HC.out.1 HC.out.2.1
      have HKs := HK.out
      obtain ⟨k, rfl⟩ : ∃ k', k = k' + 1 := ⟨k - 1, by omega⟩
      have hst : hbs rx ro blk (k + 1) l h = if ro (M : Int) = true ∧ rx (M : Int) ≤ blk then hbs rx ro blk k (M + 1) h else hbs rx ro blk k l M := by
        rw [hbs, if_pos hlt, ← hD, ← hMd]
      rw [hst] at HKs
      clear hst
      obtain ⟨x, hx⟩ : ∃ x, x = rx (M : Int) := ⟨_, rfl⟩
      obtain ⟨a, ha⟩ : ∃ a, a = ra (M : Int) := ⟨_, rfl⟩
      obtain ⟨o, ho⟩ : ∃ o, o = ro (M : Int) := ⟨_, rfl⟩
      rw [← hx, ← ha, ← ho] at HRm
      rw [← hx, ← ho] at HKs
      unfold hisV U at HRm
      have HR1 := Lib.hid HRm
      have HK1 := Lib.hid (And.intro HKs (And.intro hMm (And.intro hD (And.intro hMd (And.intro hlh hhm)))))
      clear HRm HKs hx ha ho hMm hD hMd hlh hhm hM hlt
      have Hend : Hid (∀ w4 : World, Below wr.heap.size wr w4 → Below w.heap.size w (w4.alloc (.cells #[.int .u64 (limb a 0 : Nat), .int .u64 (limb a 1 : Nat), .int .u64 (limb a 2 : Nat), .int .u64 (limb a 3 : Nat)] 29)) ∧ HisAt (w4.alloc (.cells #[.int .u64 (limb a 0 : Nat), .int .u64 (limb a 1 : Nat), .int .u64 (limb a 2 : Nat), .int .u64 (limb a 3 : Nat)] 29)) (w.heap.size + 1) P t A n c f ∧ (w4.alloc (.cells #[.int .u64 (limb a 0 : Nat), .int .u64 (limb a 1 : Nat), .int .u64 (limb a 2 : Nat), .int .u64 (limb a 3 : Nat)] 29)).heap[w.heap.size]? = some (.cells #[.int .u64 0, .int .u64 0, .int .u64 0, .int .u64 0] 29 (0, 0))) := Lib.hid fun w4 hb4 => by
        have hbx := hb4.trans (((Below.refl w4.heap.size w4).alloc (Nat.le_refl _) (.cells #[.int .u64 (limb a 0 : Nat), .int .u64 (limb a 1 : Nat), .int .u64 (limb a 2 : Nat), .int .u64 (limb a 3 : Nat)] 29)).mono hb4.size)
        exact ⟨HC.out.1.trans (hbx.mono HC.out.1.size), HC.out.2.1.below hbx, (hbx.block _ (hp_lt HC.out.2.2)).trans HC.out.2.2⟩
      cases o with
      | true =>
        by_cases hxb : x ≤ blk
        · go_wp2_with (go_at_call 112; with_reducible refine HR1.out.mono ?_; rintro e w4 ⟨rfl, hb4⟩; have HB4 := Lib.hid hb4; clear hb4)
          have hE := Hend.out _ HB4.out
          obtain ⟨g1, g2, g3, g4, g5, g6⟩ := HK1.out
          rw [if_pos (by simp [hxb])] at g1
          exact ⟨⟨M + 1, h, k, by simp, rfl, by omega, by omega, by omega, g1.2, hE.1, hE.2.1, hE.2.2⟩, by simp [intOf]; omega⟩
        · have HX := Lib.hid hxb
          have hxb2 : decide (x ≤ blk) = false := decide_eq_false hxb
          clear hxb
          go_wp2_with (go_at_call 112; with_reducible refine HR1.out.mono ?_; rintro e w4 ⟨rfl, hb4⟩; have HB4 := Lib.hid hb4; clear hb4)
          have hxb := HX.out
          have hE := Hend.out _ HB4.out
          obtain ⟨g1, g2, g3, g4, g5, g6⟩ := HK1.out
          rw [if_neg (fun h => absurd h.2 (by omega))] at g1
          exact ⟨⟨l, M, k, rfl, rfl, by omega, by omega, by omega, g1.2, hE.1, hE.2.1, hE.2.2⟩, by simp [intOf]; omega⟩
      | false =>
        go_wp2_with (go_at_call 112; with_reducible refine HR1.out.mono ?_; rintro e w4 ⟨rfl, hb4⟩; have HB4 := Lib.hid hb4; clear hb4)
        have hE := Hend.out _ HB4.out
        obtain ⟨g1, g2, g3, g4, g5, g6⟩ := HK1.out
        rw [if_neg (fun h => by cases h.1)] at g1
        exact ⟨⟨l, M, k, rfl, rfl, by omega, by omega, by omega, g1.2, hE.1, hE.2.1, hE.2.2⟩, by simp [intOf]; omega⟩
    · have p1 : (h : Int) ≤ (l : Int) := by omega
      have hZl : l = Z := by
        have := HK.out.2
        cases k with
        | zero => exact this
        | succ k => rw [hbs, if_neg hlt] at this; exact this
      subst hZl
      have kl : (l : Int) ≤ 1099511627776 := by omega
      have HRm := HRs.out ((l : Int) - 1) (by omega) (by omega) (w.heap.size + 1) wr HC.out.1 HC.out.2.1
      obtain ⟨x, hx⟩ : ∃ x, x = rx ((l : Int) - 1) := ⟨_, rfl⟩
      obtain ⟨a, ha⟩ : ∃ a, a = ra ((l : Int) - 1) := ⟨_, rfl⟩
      obtain ⟨o, ho⟩ : ∃ o, o = ro ((l : Int) - 1) := ⟨_, rfl⟩
      rw [← hx, ← ha, ← ho] at HRm
      unfold hisV U at HRm
      have HR1 := Lib.hid HRm
      have HA := Lib.hid (And.intro ha ho)
      clear HRm hx ha ho hM hlt hlh hhm
      go_wp2_with (go_at_call 112; with_reducible refine HR1.out.mono ?_; rintro e w4 ⟨rfl, hb4⟩; have HB4 := Lib.hid hb4; have r4 := (hb4.block w.heap.size (hp_lt HC.out.2.2)).trans HC.out.2.2; have R4 := Lib.hid r4; have d0 := (hp_cell (i := 0) r4).trans rfl; have d1 := (hp_cell (i := 1) r4).trans rfl; have d2 := (hp_cell (i := 2) r4).trans rfl; have d3 := (hp_cell (i := 3) r4).trans rfl; have g0 := hp_free (i := 0) r4; have g1 := hp_free (i := 1) r4; have g2 := hp_free (i := 2) r4; have g3 := hp_free (i := 3) r4; clear hb4 r4)
      rw [Exit.noGoto_ret]
      obtain ⟨e0, e1, e2, e3⟩ := (((arr_zero R4.out).put4 (n := a)).put4 (n := a)).cells4
      refine bodyPost_ret (v := .tuple #[.agg #[.int .u64 (limb a 0 : Nat), .int .u64 (limb a 1 : Nat), .int .u64 (limb a 2 : Nat), .int .u64 (limb a 3 : Nat)], .bool o]) (by simp [results, Try.results15, go_sem, e0, e1, e2, e3]) rfl ⟨?_, ?_⟩
      · rw [← HA.out.1, ← HA.out.2]
        rfl
      · exact below_set4 (below_set4 (HC.out.1.trans (HB4.out.mono HC.out.1.size)) (Nat.le_refl _)) (Nat.le_refl _)
end Go.Proofs.Ytedkhpnlhkjjgaa

namespace Go.Proofs.Ytedkhpnlhkjjgaa
open Go Go.Sort Go.RowKit

section
variable {P : Program} {ops : Array Oper} {md : Region.Mode} {C : World → Prop}
def headQ (P : Program) (md : Region.Mode) (ops : Array Oper) (C : World → Prop) (n : Nat) (L : Array Bool → Act → Prop) : Nat → Array Bool → Act → Prop
  | 0, d, a => L d a
  | f + 1, d, a => Region.ready md ops d ≠ [] ∧ ∀ i ∈ Region.ready md ops d, i < n ∧ qOp P ops C i (headQ P md ops C n L f (d.setIfInBounds i true)) a
theorem any_of_headQ {n g : Nat} {L : Array Bool → Act → Prop} {Q' : Exit → Act → World → Prop} (hL : ∀ d a w, C w → L d a → wpAny P md ops Q' g d a w) :
    ∀ (f : Nat) (d : Array Bool) (a : Act) (w : World), C w → headQ P md ops C n L f d a → wpAny P md ops Q' (f + g) d a w := by
  intro f
  induction f with
  | zero => intro d a w hw h; rw [Nat.zero_add]; exact hL _ _ _ hw h
  | succ f ih =>
    intro d a w hw h
    have e : f + 1 + g = (f + g) + 1 := by omega
    rw [e]
    exact ⟨fun h0 => absurd h0 h.1, fun i hi => wpOp_of_qOp hw (fun a' w' hw' h' => ih _ a' w' hw' h') (h.2 i hi).2⟩
theorem headQ_first {n i : Nat} {o : Oper} {v : Value} {L : Array Bool → Act → Prop} (ho : ops[i]? = some o) (hsel : ∀ (j : Nat) (o : Oper) cs b, ops[j]? = some o → o.op ≠ .select cs b)
    (hs : Region.sinkB md ops n = true) (hc : Region.chainB md ops n = true) (hn : n < ops.size) (hin : i < n) (hdone : ∀ d a, L d a → ∀ j ∈ Region.ready md ops d, n ≤ j) :
    ∀ (f : Nat) (d : Array Bool) (a : Act), HeadInv md ops n d →
      (∀ j oj, ops[j]? = some oj → j ≠ i → d.getD j true = false → (∀ e ∈ oj.after, Region.binds md e = true → e.on ≠ i) → o.apart ops oj = true) →
      i ∈ Region.ready md ops d → YieldsIn P ops C o v a → headQ P md ops C n L f (d.setIfInBounds i true) (a.put o.dst v) → headQ P md ops C n L (f + 1) d a := by
  intro f
  induction f with
  | zero =>
    intro d a inv _ hr hy H
    have hu := (mem_ready.1 hr).1
    refine ⟨fun h => (by rw [h] at hr; cases hr), fun j hj => ?_⟩
    have hjn : j < n := Nat.lt_of_not_le fun h => absurd hj (tail_waits hs hc hn inv _ i rfl hin hu j h)
    refine ⟨hjn, ?_⟩
    by_cases e : j = i
    · subst e; exact hy.qOp ho H
    · exact absurd (hdone _ _ H j (ready_mono hj e)) (by omega)
  | succ f ih =>
    intro d a inv hfree hr hy H
    have hu := (mem_ready.1 hr).1
    refine ⟨fun h => (by rw [h] at hr; cases hr), fun j hj => ?_⟩
    have hjn : j < n := Nat.lt_of_not_le fun h => absurd hj (tail_waits hs hc hn inv _ i rfl hin hu j h)
    refine ⟨hjn, ?_⟩
    by_cases e : j = i
    · subst e; exact hy.qOp ho H
    · obtain ⟨hju, oj, hoj, hall⟩ := mem_ready.1 hj
      have hno : ∀ x ∈ oj.after, Region.binds md x = true → x.on ≠ i := fun x hx hb heq => by
        have h1 := hall x hx hb
        rw [heq, getD_both hu] at h1
        cases h1
      have h2 := qOp_put hoj (hfree j oj hoj e hju hno) (fun cs b => hsel i o cs b ho) (fun cs b => hsel j oj cs b hoj) hy (H.2 j (ready_mono hj e)).2
      refine qOp_mono (fun a' h3 => ih (d.setIfInBounds j true) a' (inv.set hj hjn) (fun k ok hk hki hun hno' => hfree k ok hk hki ?_ hno') (ready_mono hr (Ne.symm e)) h3.1 ?_) h2
      · by_cases q : j = k
        · subst q; exact hju
        · rw [getD_set_ne true q] at hun; exact hun
      · rw [Array.setIfInBounds_comm _ _ e]
        exact h3.2
theorem headQ_lex {n g : Nat} {Lq : Act → Prop} (hsel : Region.noSelect ops = true) (hs : Region.sinkB md ops n = true) (hc : Region.chainB md ops n = true) (hn : n < ops.size) :
    ∀ (l : List Oper) (k : Nat) (d : Array Bool) (a : Act), (∀ j, j < l.length → l[j]? = ops[k + j]?) → k + l.length = n → HeadInv md ops n d →
    Region.lexHead md ops g l.length k d = true → wpQuiet P ops C Lq l a → headQ P md ops C n (fun d' a' => Region.seqB md ops g n d' = true ∧ Lq a') l.length d a := by
  intro l
  induction l with
  | nil =>
    intro k d a _ hk _ hB h
    obtain rfl : k = n := by simpa using hk
    exact ⟨by simpa [Region.lexHead] using hB, h⟩
  | cons o l ih =>
    intro k d a hl hk inv hB h
    have h0 : ops[k]? = some o := by simpa using (hl 0 (by simp)).symm
    simp only [List.length_cons, Region.lexHead, Bool.and_eq_true] at hB
    have hkn : k < n := by simp only [List.length_cons] at hk; omega
    have hr : k ∈ Region.ready md ops d := by simpa using hB.1.1
    have hq : qOp P ops C k (wpQuiet P ops C Lq l) a := by unfold qOp; simp only [h0]; exact h
    obtain ⟨v, hy, hK⟩ := yieldsIn_of_qOp h0 hq
    exact headQ_first h0 (Region.noSelect_spec hsel) hs hc hn hkn (fun d' a' hL => seqB_ready hL.1) l.length d a inv (Region.free_spec h0 hB.1.2) hr hy
      (ih (k + 1) _ _ (fun j hj => by have := hl (j + 1) (by simp; omega); simpa [Nat.add_assoc, Nat.add_comm 1 j] using this) (by simp only [List.length_cons] at hk; omega) (inv.set hr hkn) hB.2 hK)
end
/-- the head in its textual order, in every world that has only grown; then the tail -/
theorem wp_region_quiet_tail {P : Program} {id : Nat} {Q : Exit → Act → World → Prop} {a : Act} {w : World} {l : List Oper} (n : Nat) (hm : P.follows .mixedOrders = true) (hB : Region.lexTailB .any l.toArray n = true)
    (h : wpQuiet P l.toArray (fun w' => ∃ p : Regrown, w' = grow (redrawn w p.d) p.os) (fun a' => ∀ w', (∃ p : Regrown, w' = grow (redrawn w p.d) p.os) → wpList P l.toArray Q (l.drop n) a' w') (l.take n) a) : (Code.region id l.toArray true).wp P Q a w := by
  simp only [Region.lexTailB, Bool.and_eq_true, decide_eq_true_eq] at hB
  obtain ⟨⟨⟨⟨hsel, hn⟩, hs⟩, hc⟩, hlex⟩ := hB
  have hn' : n < l.length := by simpa using hn
  have htl : (l.take n).length = n := by simp; omega
  have hdl : (l.drop n).length = l.toArray.size - n := by simp
  have inv0 : HeadInv .any l.toArray n (Array.replicate l.toArray.size false) :=
    ⟨by simp, fun j oj _ hl => (by rw [getD_replicate_false] at hl; cases hl), fun t _ ht => getD_in (by simpa using ht) (getD_replicate_false _ _)⟩
  have H := headQ_lex (md := .any) (C := fun w' => ∃ p : Regrown, w' = grow (redrawn w p.d) p.os) (g := l.toArray.size - n) hsel hs hc hn (l.take n) 0 _ a (fun j hj => by
    have hj' : j < n := by rw [htl] at hj; exact hj
    simp [hj']) (by simpa using htl) inv0 (by rw [htl]; exact hlex) h
  refine wp_region_any hm ?_
  have := any_of_headQ (Q' := Q) (g := l.toArray.size - n) (fun d a' w' hw' hL => by
    have := wpAny_of_seq (md := .any) (Q' := Q) (l.drop n) n d a' w' (fun j => by simp [List.getElem?_drop]) (by rw [hdl]; exact hL.1) (hL.2 w' hw')
    rwa [hdl] at this) _ _ _ { w with drawn := w.drawn + 1 } ⟨⟨w.drawn + 1, #[]⟩, by rw [grow_empty]; rfl⟩ H
  rw [htl, show n + (l.toArray.size - n) = l.toArray.size by omega] at this
  exact this
end Go.Proofs.Ytedkhpnlhkjjgaa
