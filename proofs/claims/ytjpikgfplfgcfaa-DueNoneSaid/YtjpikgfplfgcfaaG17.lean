/- due.Add on a live store, where nothing is due at the block. -/
import Derived.Test.YtjpikgfplfgcfaaG14
import Derived.Test.YtjpikgfplfgcfaaG16
import Derived.Test.YtjpikgfplfgcfaaProg
import Derived.Test.YtjpikgfplfgcfaaG00
import Derived.Laws.Externs
import Derived.Lib.Hide
namespace Go.Proofs.Ytjpikgfplfgcfaa
open Go.RowKit Go.Maps Go.Sort
attribute [local go_sem] Oper.semAt_some
attribute [local go_sem] run_store_fn

set_option maxRecDepth 100000 in
set_option maxHeartbeats 400000 in
theorem dueadd_live {w W : World} {b : Nat} {F : List Nat} {L : SL} {q : Nat} {qs : List Value} (h : SNew w W b F L q qs) (blk : Int) (K0 K1 T : ByteArray) (hb0 : 0 ≤ blk) (hb1 : blk ≤ 1099511627776) (hK0 : keyStr 26 (fun _ => blk) 1 = K0) (hK1 : keyStr 26 (two2 blk 0) 2 = K1) (hT : keyStr 27 (fun _ => 0) 0 = T)
    (hu : under L K0 = []) (A : Option Addr) (n c : Nat) (f : Nat → Int) (hl : Il W A n f) (hn0 : 1 ≤ n) (hn : n ≤ 100) (hf : ∀ i, i < n → 0 ≤ f i) (m : Nat) (hm : intAt (setL L K1 (rowV f n)) T m) (hm2 : m + 1 < 2 ^ 63)
    (hk1 : K1.size ≤ maxLen) (hk10 : K1 ≠ ⟨#[]⟩) (hkt : T.size ≤ maxLen) (hkt0 : T ≠ ⟨#[]⟩) (hks : ∀ p ∈ L, p.1.size ≤ maxLen) (hN : L.length < 128) (hN1 : (setL L K1 (rowV f n)).length < 128) (hq : q + 2 < 1000000) :
    Calls Try.prog 64 #[.pointer (some ⟨b, 0, none⟩), .int .i64 blk, .slice A n c] W fun e W' => e = .returned (.int .i64 0) ∧ LiveTo w W W' b F (setL (setL L K1 (rowV f n)) T (numStr ((m : Int) + 1))) (q + 2) := by
  refine (callsIn_wide (n := 3)).1 ?_
  have h1 : 1 ≤ 3 := by omega
  have hwW := h.l.size
  have hFl : ∀ k ∈ F, k < W.heap.size := fun k hk => h.s.lt k hk
  have HM := Lib.hid (fun (W1 : World) (hb : Below W.heap.size W W1) => made_live b F L q qs W1 (h.below hb).s)
  have HG := Lib.hid (fun (W1 : World) (hb : Below W.heap.size W W1) => fgood_walk A n c f W1 (hl.below hb) hn0 hn hf)
  have HA := Lib.hid (fun w => rows_walk (some ⟨b, 0, none⟩) K0 w)
  have HK0 := Lib.hid (fun W1 => key_is 26 (some ⟨W1.heap.size, 0, none⟩) 1 1 (fun _ => blk) K0 hK0 _ (il1 blk W1 3 (by omega)) (by omega))
  have HK1 := Lib.hid (fun W1 => key_is 26 (some ⟨W1.heap.size, 0, none⟩) 2 2 (two2 blk 0) K1 hK1 _ (il2 blk 0 W1 3 (by omega) (by omega)) (by omega))
  have HT := Lib.hid (fun w => tbl_is 27 T hT w)
  have HU := Lib.hid (fun (W1 : World) (hb : Below W.heap.size W W1) => (under_live b F L q qs W1 (h.below hb).s K0 hks hN).mono (R' := fun e w' => (∃ A c, e = .returned (.slice A 0 c)) ∧ Below W1.heap.size W1 w') fun e w' hh => by
    obtain ⟨⟨v, he, hv⟩, hb⟩ := hh
    rw [hu] at hv
    refine ⟨?_, hb⟩
    rcases hv.2 with ⟨rfl, _⟩ | ⟨g, cap, cur, rfl, _⟩
    · exact ⟨none, 0, he⟩
    · exact ⟨_, cap, he⟩)
  have HS := Lib.hid (fun (W1 : World) (hb : Below W.heap.size W W1) => (csetRow_set (h.below hb) K1 A n c f (hl.below hb) hn0 hn hf hk1 hk10 hN (by omega)).mono (R' := fun e W' => e = .returned (.tuple #[]) ∧ LiveTo w W1 W' b F (setL L K1 (rowV f n)) (q + 1)) fun e w' hh => ⟨hh.1, hh.2⟩)
  have HX := Lib.hid (fun (W1 W2 : World) (hl2 : LiveTo w W1 W2 b F (setL L K1 (rowV f n)) (q + 1)) => hl2.seq 1 (fun F1 qa qsa hs hqa => cnext_walk hs T m hkt hkt0 hm hm2 hN1 (by omega)))
  have x0 := (Below.refl W.heap.size W).alloc (Nat.le_refl _) (.cells #[.int .i64 0] 45)
  have x2 := (x0.alloc (by simp only [World.size_alloc]; omega) (.cells #[.int .i64 0] 3)).alloc (by simp only [World.size_alloc]; omega) (.cells #[.func (.func 112) #[] #[]] 182)
  have x3 := x2.alloc (by simp only [World.size_alloc]; omega) (.cells #[.int .i64 blk] 3)
  have r0 := (heap_alloc_old ((W.alloc (.cells #[.int .i64 0] 45)).alloc (.cells #[.int .i64 0] 3)) (.cells #[.func (.func 112) #[] #[]] 182) (r := W.heap.size) (by simp only [World.size_alloc]; omega)).trans ((heap_alloc_old (W.alloc (.cells #[.int .i64 0] 45)) (.cells #[.int .i64 0] 3) (by simp only [World.size_alloc]; omega)).trans (heap_alloc_new W (.cells #[.int .i64 0] 45)))
  have r1 : (((W.alloc (.cells #[.int .i64 0] 45)).alloc (.cells #[.int .i64 0] 3)).alloc (.cells #[.func (.func 112) #[] #[]] 182)).heap[W.heap.size + 1]? = some (.cells #[.int .i64 0] 3 (0, 0)) := by
    have h := heap_alloc_new (W.alloc (.cells #[.int .i64 0] 45)) (.cells #[.int .i64 0] 3)
    rw [World.size_alloc] at h
    exact (heap_alloc_old _ _ (by simp only [World.size_alloc]; omega)).trans h
  have R0 := Lib.hid (And.intro x0 (And.intro x3 (And.intro ((heap_alloc_old _ (.cells #[.int .i64 blk] 3) (hp_lt r0)).trans r0) ((heap_alloc_old _ (.cells #[.int .i64 blk] 3) (hp_lt r1)).trans r1))))
  have hk0 := HK0.out (((W.alloc (.cells #[.int .i64 0] 45)).alloc (.cells #[.int .i64 0] 3)).alloc (.cells #[.func (.func 112) #[] #[]] 182))
  simp only [World.size_alloc] at hk0
  have HK0x := Lib.hid hk0
  clear hk0
  have HwF := Lib.hid (And.intro hwW hFl)
  have p1 : ¬ blk < 0 := by omega
  have p2 : ¬ 1099511627776 < blk := by omega
  obtain ⟨l1, el1⟩ : ∃ z, z = setL L K1 (rowV f n) := ⟨_, rfl⟩
  rw [← el1] at HS HX ⊢
  obtain ⟨l2, el2⟩ : ∃ z, z = setL l1 T (numStr ((m : Int) + 1)) := ⟨_, rfl⟩
  rw [← el2]
  have HE2 := Lib.hid el2
  clear h hb0 hb1 hK0 hK1 hT hu hl hn0 hn hf hm hm2 hk1 hk10 hkt hkt0 hks hN hN1 hq hwW hFl x0 x2 x3 r0 r1 el1 el2
  refine callsIn_of_wp_marks Try.func64 rfl trivial ?_ rfl
  simp only [Try.ntmps64, List.size_toArray, List.length_cons, List.length_nil, Nat.reduceAdd, Nat.reduceSub, Array.replicate_succ, Array.replicate_zero, List.push_toArray, List.append_toArray, List.nil_append, List.cons_append]
  gi_wp2_with (refine ⟨trivial, ?_⟩; first
    | (gi_at_call 113; with_reducible refine (callsIn_wide.2 (HA.out _)).mono ?_; rintro e w2 ⟨rfl, hb, hc1, hc2, hz⟩)
    | (gi_at_call 90; with_reducible refine (callsIn_wide.2 HK0x.out).mono ?_; rintro e w1 ⟨rfl, hb1⟩)
    | (gi_at_call 110; with_reducible refine (callsIn_wide.2 (HG.out _ R0.out.1)).mono ?_; rintro e w0 ⟨rfl, rfl⟩)
    | (gi_at_call 24; with_reducible refine (callsIn_wide.2 (HM.out _ R0.out.1)).mono ?_; rintro e w0 ⟨rfl, rfl⟩))
  obtain ⟨_, x3, r0, r1⟩ := R0.out
  have hb2 := (x3.trans (hb1.mono (by omega))).trans (hb.mono (by have := hb1.size; simp only [World.size_alloc] at this; omega))
  have hs1 := hb1.size
  simp only [World.size_alloc] at hs1
  have q0 := (hb.block _ (by omega)).trans ((hb1.block _ (by omega)).trans r0)
  have q1 := (hb.block _ (by omega)).trans ((hb1.block _ (by omega)).trans r1)
  have HS2 := Lib.hid (And.intro hb2 (And.intro q0 q1))
  refine wpIn_rangeFunc_dead h1 rfl (enters_of Try.func144 (by kernel_rfl) rfl) (fun l W' hW => duer_none (some ⟨b, 0, none⟩) K0 l _ _ W' ((hW.cell (by rw [hz]; show _ < _; simp only []; omega)).trans hc1) ((hW.cell (by rw [hz]; show _ < _; simp only []; omega)).trans hc2) (HU.out W' (HS2.out.1.trans (hW.mono HS2.out.1.size)))) ?_
  clear hb hc1 hc2 hz hb2 q0 q1 hb1 x3 r0 r1 hs1 HK0x HK0
  rintro D W3 hD hW hK
  have q0 := (hW.block _ (hp_lt HS2.out.2.1)).trans HS2.out.2.1
  have q1 := (hW.block _ (hp_lt HS2.out.2.2)).trans HS2.out.2.2
  have hb3 := HS2.out.1.trans (hW.mono HS2.out.1.size)
  have hD' := Nat.le_trans HS2.out.1.size hD
  have HQ := Lib.hid (And.intro q0 (And.intro hD' (And.intro hb3 hK)))
  have HD := Lib.hid (show D < W3.heap.size from hp_lt hK)
  have HnD := Lib.hid (show W.heap.size < D from Nat.lt_of_lt_of_le (hp_lt HS2.out.2.1) hD)
  have c1 := (hp_cell (i := 0) q1).trans rfl
  have HZ := Lib.hid (fun (w5 w8 : World) (hb5 : Below W3.heap.size W3 w5) (h8 : LiveTo w w5 w8 b F (setL l1 T (numStr ((m : Int) + 1))) (q + 1 + 1)) => show w8.heap[W.heap.size]? = some (.cells #[.int .i64 0] 45 (0, 0)) ∧ w8.heap[D]? = some (.deferred (some [])) from by
    obtain ⟨_, _, _, _, _, ht, _⟩ := h8
    have hn := HnD.out
    exact ⟨(ht.block W.heap.size (Nat.lt_of_lt_of_le (hp_lt q0) hb5.size) (fun hm => Nat.lt_irrefl _ (HwF.out.2 _ hm))).trans ((hb5.block _ (hp_lt q0)).trans q0), (ht.block D (Nat.lt_of_lt_of_le HD.out hb5.size) (fun hm => by have := HwF.out.2 _ hm; omega)).trans ((hb5.block _ HD.out).trans hK)⟩)
  clear q0 q1 hD hD' hW hK hb3
  gi_wp2_with (refine ⟨trivial, ?_⟩; first
    | (gi_at_call 103; with_reducible refine (callsIn_wide.2 (HX.out _ _ H7.out)).mono ?_; rintro e w8 ⟨rfl, h8⟩; have HR := Lib.hid (HZ.out w5 w8 B5.out h8); have H8 := Lib.hid h8; have e0 := (hp_cell (i := 0) HR.out.1).trans rfl; have g0 := hp_free (i := 0) HR.out.1; clear h8)
    | (gi_at_call 114; with_reducible refine (callsIn_wide.2 (HT.out _)).mono ?_; rintro e w7 ⟨rfl, hb7⟩; have H7 := Lib.hid (H6.out.post hb7); clear hb7)
    | (gi_at_call 40; with_reducible refine (callsIn_wide.2 (HS.out _ H5.out)).mono ?_; rintro e w6 ⟨rfl, h6⟩; have H6 := Lib.hid h6; clear h6)
    | (gi_at_call 90; with_reducible refine (callsIn_wide.2 (HK1.out _)).mono ?_; rintro e w5 ⟨rfl, hb5⟩; have hbx := (Below.refl W3.heap.size W3).alloc (Nat.le_refl _) (.cells #[.int .i64 blk, .int .i64 0] 3); have B5 := Lib.hid (hbx.trans (hb5.mono hbx.size)); have H5 := Lib.hid (HQ.out.2.2.1.trans (B5.out.mono HQ.out.2.2.1.size)); clear hb5 hbx))
  have h8 := H8.out
  obtain ⟨r8, k8⟩ := HR.out
  have nD : W.heap.size ≠ D := by have := HnD.out; omega
  obtain ⟨W9, hW9⟩ : ∃ W9, W9 = w8.setCell ⟨W.heap.size, 0, none⟩ (.int .i64 0) := ⟨_, rfl⟩
  have k9 : W9.heap[D]? = some (.deferred (some [])) := by rw [hW9, Below.heap_setCell _ _ _ _ (Ne.symm nD)]; exact k8
  have r9 : W9.heap[W.heap.size]? = some (.cells #[.int .i64 0] 45 (0, 0)) := by rw [hW9]; exact heap_setCell_row r8 (.int .i64 0)
  have t9 : Touch [W.heap.size, D] w8 W9 := by rw [hW9]; exact Touch.setCell _ _ _ (by simp)
  rw [← hW9]
  refine ⟨by simp, .inl ⟨_, _, rfl, run_takeDeferred k9, ?_⟩⟩
  have g9 := ((grownBy_putObj' W9 D (.deferred none)).block _ (hp_lt r9) (fun e => nD (by cases e; rfl))).trans r9
  have e9 := (hp_cell (i := 0) g9).trans rfl
  have tA : Touch [W.heap.size, D] w8 (W9.putObj D (.deferred none)) := t9.trans (fun _ hk => .inl hk) (Touch.grown (grownBy_putObj' W9 D (.deferred none)) (fun k e => by cases e; simp))
  refine ⟨.int .i64 0, by simp [results, Try.results64, go_sem, e9], rfl, ?_⟩
  rw [HE2.out]
  exact h8.own HwF.out.1 HwF.out.2 H5.out [W.heap.size, D] (fun g hg => by
    have h5 := B5.out.size
    have hz := HD.out
    have hn := HnD.out
    rcases List.mem_cons.1 hg with rfl | hg
    · exact ⟨Nat.le_refl _, by omega⟩
    · obtain rfl : g = D := by simpa using hg
      exact ⟨by omega, by omega⟩) tA
end Go.Proofs.Ytjpikgfplfgcfaa

namespace Go.Proofs.Ytjpikgfplfgcfaa
open Go.RowKit

def r64 (x y c : Nat) : Nat := (x + 18446744073709551616 - y - c) % 18446744073709551616
def b64 (x y c : Nat) : Nat := if x < y + c then 1 else 0
theorem run_sub64n (x y b : Nat) (hb : b ≤ 1) (w : World) :
    (callFunc 149 #[.int .u64 (x : Nat), .int .u64 (y : Nat), .int .u64 (b : Nat)]).run Try.prog w =
      .ok (.value (.tuple #[.int .u64 (r64 x y b : Nat), .int .u64 (b64 x y b : Nat)])) w := by
  rw [run_callFunc_extern (fn := Try.f149) (by kernel_rfl) (by kernel_rfl) (by kernel_rfl) (by kernel_rfl) (e := fun args => do
    let (x, y, b) ← Extern.MathBitsCarry.three "Sub64" args
    pure (Extern.MathBitsCarry.pair ((x + Extern.MathBitsCarry.m64 - y - b) % Extern.MathBitsCarry.m64) (if x < y + b then 1 else 0))) (by kernel_rfl)]
  have : b = 0 ∨ b = 1 := by omega
  rcases this with rfl | rfl <;> rfl
theorem r64_lt (x y c : Nat) : r64 x y c < 2 ^ 64 := by unfold r64; omega
theorem b64_le (x y c : Nat) : b64 x y c ≤ 1 := by unfold b64; split <;> omega
theorem rb64 (x y c : Nat) (hx : x < 2 ^ 64) (hy : y < 2 ^ 64) (hc : c ≤ 1) : r64 x y c + y + c = x + b64 x y c * 2 ^ 64 := by unfold r64 b64; split <;> omega

/-- what Sub comes to -/
def SubPost (a b : Nat) (w : World) (e : Ending) (w' : World) : Prop :=
  e = .returned (.tuple #[U (if b ≤ a then a - b else 0), .bool (decide (b ≤ a))]) ∧ Below w.heap.size w w'
theorem subPost_yes {a b : Nat} {w w' : World} {e : Ending} (h : b ≤ a) (he : e = .returned (.tuple #[U (a - b), .bool true])) (hw : Below w.heap.size w w') : SubPost a b w e w' := by
  unfold SubPost; rw [if_pos h, decide_eq_true h]; exact ⟨he, hw⟩
theorem subPost_no {a b : Nat} {w w' : World} {e : Ending} (h : ¬ b ≤ a) (he : e = .returned (.tuple #[U 0, .bool false])) (hw : Below w.heap.size w w') : SubPost a b w e w' := by
  unfold SubPost; rw [if_neg h, decide_eq_false h]; exact ⟨he, hw⟩
/-- the state at the head of Sub's loop -/
def SubRel (a b : Nat) (w : World) (c i : Value) (wr : World) : Prop :=
  ∃ (k d : Nat) (f : Nat → Nat), k ≤ 4 ∧ i = .int .i64 (k : Nat) ∧ c = .int .u64 (d : Nat) ∧ d ≤ 1 ∧ (∀ j, f j < 2 ^ 64) ∧
    val f k + val (limb b) k = val (limb a) k + d * 2 ^ (64 * k) ∧
    Arr .u64 wr w.heap.size 4 (limb a) ∧ Arr .u64 wr (w.heap.size + 1) 4 (limb b) ∧ Arr .u64 wr (w.heap.size + 1 + 1) 4 (fun _ => 0) ∧ Arr .u64 wr (w.heap.size + 1 + 1 + 1) 4 f ∧
    Below w.heap.size w wr ∧ w.heap.size + 1 + 1 + 1 < wr.heap.size

set_option maxRecDepth 100000 in
set_option maxHeartbeats 1000000 in
theorem sub_walk (a b : Nat) (w : World) (hal : a < 2 ^ 256) (hbl : b < 2 ^ 256) :
    Calls Try.prog 133 #[U a, U b] w (SubPost a b w) := by
  have hsub := run_sub64n
  unfold U
  go_enter Try.func133, Try.ntmps133
  go_wp2
  go_loopw [7, 9] (SubRel a b w) (fun _ i _ => 4 - (intOf i).toNat)
  case atStart =>
    refine ⟨0, 0, fun _ => 0, by omega, rfl, rfl, by omega, by simp, by simp [val], ?_, ?_, ?_, ?_, ?_, ?_⟩
    · exact (((Arr.new4 (f := limb a) rfl).alloc _).alloc _).alloc _
    · exact ((Arr.new4 (f := limb b) (by simp)).alloc _).alloc _
    · exact (Arr.new4 (f := fun _ => 0) (by simp)).alloc _
    · exact Arr.new4 (f := fun _ => 0) (by simp)
    · exact ((((Below.refl _ _).alloc (Nat.le_refl _) _).alloc (by simp only [World.size_alloc]; omega) _).alloc (by simp only [World.size_alloc]; omega) _).alloc (by simp only [World.size_alloc]; omega) _
    · simp
  case round =>
    obtain ⟨k, d, f, hk, rfl, rfl, hd, hf, hv, ha, hb, hz, hs, hbel, hsz⟩ := hrel
    by_cases hlt : k < 4
    · have a1 := ha.cell k hlt
      have b1 := hb.cell k hlt
      have f1 := hs.free k hlt
      have f2 := hs.cell k hlt
      go_wp2
      go_region_with (fail)
      all_goals
        go_wp2
        go_roundw
        case rel =>
          refine ⟨k + 1, b64 (limb a k) (limb b k) d, upd f k (r64 (limb a k) (limb b k) d), by omega, by go_num, rfl, b64_le _ _ _, upd_lt hf (r64_lt _ _ _), ?_, ?_, ?_, ?_, ?_, ?_, ?_⟩
          · rw [val_upd_succ, pow_succ64]
            have h1 := congrArg (· * 2 ^ (64 * k)) (rb64 (limb a k) (limb b k) d (limb_lt a k) (limb_lt b k) hd)
            simp only [val]
            simp only [Nat.add_mul, Nat.mul_assoc] at h1
            omega
          · exact ha.drew.set_far (by omega)
          · exact hb.drew.set_far (by omega)
          · exact hz.drew.set_far (by omega)
          · exact hs.drew.set hlt
          · exact (below_drewN hbel 1).setCell (by simp; omega) _
          · simp; omega
        case measure => simp [intOf]; omega
    · obtain rfl : k = 4 := by omega
      have f0 := hs.cell 0 (by omega)
      have f1 := hs.cell 1 (by omega)
      have f2 := hs.cell 2 (by omega)
      have f3 := hs.cell 3 (by omega)
      have z0 := hz.cell 0 (by omega)
      have z1 := hz.cell 1 (by omega)
      have z2 := hz.cell 2 (by omega)
      have z3 := hz.cell 3 (by omega)
      have y0 := hz.free 0 (by omega)
      have y1 := hz.free 1 (by omega)
      have y2 := hz.free 2 (by omega)
      have y3 := hz.free 3 (by omega)
      have hv4 : val f 4 + b = a + d * 2 ^ 256 := by rw [val4_limb hal, val4_limb hbl] at hv; exact hv
      have hfl := val_lt 4 (fun i _ => hf i)
      have Hv := Lib.hid hv4
      have Hfl := Lib.hid hfl
      clear hv hv4 hfl
      go_wp2
      · have hd' : (d : Int) ≠ 0 := by simpa using ‹((d : Int) != 0) = true›
        have hge : ¬ b ≤ a := by have := Hv.out; have := Hfl.out; have := Nat.mul_le_mul_right (2 ^ 256) (show 1 ≤ d by omega); omega
        refine bodyPost_ret (v := .tuple #[.agg #[.int .u64 0, .int .u64 0, .int .u64 0, .int .u64 0], .bool false]) (by simp [results, Try.results133, go_sem, z0, z1, z2, z3]) rfl (subPost_no hge (by rw [U_zero]) (below_set4 hbel (by omega)))
      · have hd' : (d : Int) = 0 := by simpa using ‹((d : Int) != 0) = false›
        have hd0 : d = 0 := by omega
        have hlt : b ≤ a := by have := Hv.out; have := Hfl.out; subst hd0; omega
        have hab : a - b = val f 4 := by have := Hv.out; subst hd0; omega
        refine bodyPost_ret (v := .tuple #[.agg #[.int .u64 (f 0 : Nat), .int .u64 (f 1 : Nat), .int .u64 (f 2 : Nat), .int .u64 (f 3 : Nat)], .bool true]) (by simp [results, Try.results133, go_sem, z0, z1, z2, z3]) rfl (subPost_yes hlt (by rw [hab, U_of hf]) (below_set4 hbel (by omega)))
end Go.Proofs.Ytjpikgfplfgcfaa

namespace Go.Proofs.Ytjpikgfplfgcfaa
open Go.RowKit

theorem eqU (a0 a1 a2 a3 b0 b1 b2 b3 : Int) (w : World) : (Op.equalIn 10000 62 (.agg #[.int .u64 a0, .int .u64 a1, .int .u64 a2, .int .u64 a3]) (.agg #[.int .u64 b0, .int .u64 b1, .int .u64 b2, .int .u64 b3])).run Try.prog w =
   .ok (a0 == b0 && a1 == b1 && a2 == b2 && a3 == b3) w := by
  have u3 := Try.underlying60
  have aa := Try.isAgg60
  have z3 := Try.sizeOf60
  rw [show (10000 : Nat) = 9999 + 1 from rfl, Op.equalIn]
  simp only [Sem.run_bind, run_underlying Try.underlying62, Result.andThen_ok]
  simp only [Std.Legacy.Range.forIn_eq_forIn_range', Std.Legacy.Range.size, Nat.sub_zero, Nat.add_sub_cancel, Nat.div_one, List.range'_succ, List.range'_zero, List.forIn_cons, List.forIn_nil]
  go_simp
  by_cases h1 : a0 = b0 <;> by_cases h2 : a1 = b1 <;> by_cases h3 : a2 = b2 <;> by_cases h4 : a3 = b3 <;> simp [h1, h2, h3, h4]
theorem limbs_eq {a b : Nat} (ha : a < 2 ^ 256) (hb : b < 2 ^ 256) : ((limb a 0 : Int) == (limb b 0 : Int) && (limb a 1 : Int) == (limb b 1 : Int) && (limb a 2 : Int) == (limb b 2 : Int) && (limb a 3 : Int) == (limb b 3 : Int)) = decide (a = b) := by
  by_cases h : a = b
  · subst h; simp
  · rw [decide_eq_false h]
    rw [Bool.eq_false_iff]
    intro hh
    simp only [Bool.and_eq_true, beq_iff_eq, Int.ofNat_inj] at hh
    refine h ?_
    rw [← val4_limb ha, ← val4_limb hb]
    refine val_congr 4 fun i hi => ?_
    rcases (by omega : i = 0 ∨ i = 1 ∨ i = 2 ∨ i = 3) with rfl | rfl | rfl | rfl
    · exact hh.1.1.1
    · exact hh.1.1.2
    · exact hh.1.2
    · exact hh.2
/-- the walk's own form of '==' on two numbers -/
theorem eq_run {a b : Nat} (ha : a < 2 ^ 256) (hb : b < 2 ^ 256) (w : World) :
    (Op.equalIn 10000 62 (.agg #[.int .u64 (limb a 0 : Nat), .int .u64 (limb a 1 : Nat), .int .u64 (limb a 2 : Nat), .int .u64 (limb a 3 : Nat)]) (.agg #[.int .u64 (limb b 0 : Nat), .int .u64 (limb b 1 : Nat), .int .u64 (limb b 2 : Nat), .int .u64 (limb b 3 : Nat)])).run Try.prog w = .ok (decide (a = b)) w := by
  rw [eqU, limbs_eq ha hb]
theorem eq0_run {a : Nat} (ha : a < 2 ^ 256) (w : World) :
    (Op.equalIn 10000 62 (.agg #[.int .u64 (limb a 0 : Nat), .int .u64 (limb a 1 : Nat), .int .u64 (limb a 2 : Nat), .int .u64 (limb a 3 : Nat)]) (.agg #[.int .u64 0, .int .u64 0, .int .u64 0, .int .u64 0])).run Try.prog w = .ok (decide (a = 0)) w := by
  have h := eq_run ha (show 0 < 2 ^ 256 by decide) w
  rw [← h]
  congr

def cmpU (a b : Nat) : Int := if a = b then 0 else if b ≤ a then 1 else -1
def CmpPost (a b : Nat) (w : World) (e : Ending) (w' : World) : Prop := e = .returned (.int .i64 (cmpU a b)) ∧ Below w.heap.size w w'

theorem cmpPost_mk {a b : Nat} {w w' : World} {r : Int} (h : cmpU a b = r) (hb : Below w.heap.size w w') : CmpPost a b w (.returned (.int .i64 r)) w' := ⟨by rw [h], hb⟩

set_option maxRecDepth 100000 in
set_option maxHeartbeats 1000000 in
theorem cmp_walk (a b : Nat) (w : World) (hal : a < 2 ^ 256) (hbl : b < 2 ^ 256) :
    Calls Try.prog 153 #[U a, U b] w (CmpPost a b w) := by
  have heq := fun w => eq_run hal hbl w
  unfold U
  by_cases hab : a = b
  · have hd : decide (a = b) = true := decide_eq_true hab
    have hc : cmpU a b = 0 := if_pos hab
    have Hc := Lib.hid hc
    have Hab := Lib.hid hab
    clear hab hc
    go_enter Try.func153, Try.ntmps153
    go_wp2_with fail
    go_ret
    exact cmpPost_mk Hc.out (((Below.refl _ _).alloc (Nat.le_refl _) _).alloc (by simp only [World.size_alloc]; omega) _)
  · have hd : decide (a = b) = false := decide_eq_false hab
    have Hab := Lib.hid hab
    clear hab
    go_enter Try.func153, Try.ntmps153
    by_cases hle : b ≤ a
    · have hc : cmpU a b = 1 := by unfold cmpU; rw [if_neg Hab.out, if_pos hle]
      have Hc := Lib.hid hc
      have Hle := Lib.hid hle
      clear hc hle
      go_wp2_with (go_at_call 133; refine (sub_walk a b _ hal hbl).mono ?_; rintro e w1 ⟨rfl, hb1⟩; rw [if_pos Hle.out, decide_eq_true Hle.out]; unfold U)
      go_ret
      exact cmpPost_mk Hc.out (((((Below.refl _ _).alloc (Nat.le_refl _) _).alloc (by simp only [World.size_alloc]; omega) _).trans (hb1.mono (by simp only [World.size_alloc]; omega))).alloc (by have := hb1.size; simp only [World.size_alloc] at this; omega) _)
    · have hc : cmpU a b = -1 := by unfold cmpU; rw [if_neg Hab.out, if_neg hle]
      have Hc := Lib.hid hc
      have Hle := Lib.hid hle
      clear hc hle
      go_wp2_with (go_at_call 133; refine (sub_walk a b _ hal hbl).mono ?_; rintro e w1 ⟨rfl, hb1⟩; rw [if_neg Hle.out, decide_eq_false Hle.out]; unfold U)
      go_ret
      exact cmpPost_mk Hc.out (((((Below.refl _ _).alloc (Nat.le_refl _) _).alloc (by simp only [World.size_alloc]; omega) _).trans (hb1.mono (by simp only [World.size_alloc]; omega))).alloc (by have := hb1.size; simp only [World.size_alloc] at this; omega) _)

/-- what Min comes to -/
def MinPost (a b : Nat) (w : World) (e : Ending) (w' : World) : Prop := e = .returned (U (min a b)) ∧ Below w.heap.size w w'
theorem minPost_mk {a b m : Nat} {w w' : World} (h : min a b = m) (hb : Below w.heap.size w w') : MinPost a b w (.returned (U m)) w' := ⟨by rw [h], hb⟩

/-- eight words -/
def U8 (n : Nat) : Value := .agg #[.int .u64 (limb n 0 : Nat), .int .u64 (limb n 1 : Nat), .int .u64 (limb n 2 : Nat), .int .u64 (limb n 3 : Nat), .int .u64 (limb n 4 : Nat), .int .u64 (limb n 5 : Nat), .int .u64 (limb n 6 : Nat), .int .u64 (limb n 7 : Nat)]
theorem U8_of {f : Nat → Nat} (h : ∀ i, f i < 2 ^ 64) : (.agg #[.int .u64 (f 0 : Nat), .int .u64 (f 1 : Nat), .int .u64 (f 2 : Nat), .int .u64 (f 3 : Nat), .int .u64 (f 4 : Nat), .int .u64 (f 5 : Nat), .int .u64 (f 6 : Nat), .int .u64 (f 7 : Nat)] : Value) = U8 (val f 8) := by
  unfold U8
  rw [limb_val 8 (fun i _ => h i) 0 (by omega), limb_val 8 (fun i _ => h i) 1 (by omega), limb_val 8 (fun i _ => h i) 2 (by omega), limb_val 8 (fun i _ => h i) 3 (by omega),
    limb_val 8 (fun i _ => h i) 4 (by omega), limb_val 8 (fun i _ => h i) 5 (by omega), limb_val 8 (fun i _ => h i) 6 (by omega), limb_val 8 (fun i _ => h i) 7 (by omega)]
theorem limb_mod {n i k : Nat} (h : i < k) : limb (n % 2 ^ (64 * k)) i = limb n i := by
  unfold limb
  have e : 2 ^ (64 * k) = 2 ^ (64 * i) * (2 ^ 64 * 2 ^ (64 * (k - 1 - i))) := by rw [← Nat.pow_add, ← Nat.pow_add]; congr 1; omega
  rw [e, Nat.mod_mul_right_div_self, Nat.mod_mul_right_mod]
theorem limb_div (n i k : Nat) : limb (n / 2 ^ (64 * k)) i = limb n (k + i) := by
  unfold limb; rw [Nat.div_div_eq_div_mul, ← Nat.pow_add]; congr 3; omega
theorem U_low (n : Nat) : U (n % 2 ^ 256) = .agg #[.int .u64 (limb n 0 : Nat), .int .u64 (limb n 1 : Nat), .int .u64 (limb n 2 : Nat), .int .u64 (limb n 3 : Nat)] := by
  unfold U
  rw [limb_mod (k := 4) (by omega), limb_mod (k := 4) (by omega), limb_mod (k := 4) (by omega), limb_mod (k := 4) (by omega)]
theorem U_high (n : Nat) : U (n / 2 ^ 256) = .agg #[.int .u64 (limb n 4 : Nat), .int .u64 (limb n 5 : Nat), .int .u64 (limb n 6 : Nat), .int .u64 (limb n 7 : Nat)] := by
  unfold U
  rw [limb_div n 0 4, limb_div n 1 4, limb_div n 2 4, limb_div n 3 4]

def LowPost (n : Nat) (w : World) (e : Ending) (w' : World) : Prop := e = .returned (U (n % 2 ^ 256)) ∧ Below w.heap.size w w'
def HighPost (n : Nat) (w : World) (e : Ending) (w' : World) : Prop := e = .returned (U (n / 2 ^ 256)) ∧ Below w.heap.size w w'
end Go.Proofs.Ytjpikgfplfgcfaa
