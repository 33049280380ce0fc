/- fifo.Push on a full queue. -/
import Derived.Test.YtedkhpnlhkjjgaaG31
namespace Go.Proofs.Ytedkhpnlhkjjgaa
open Go.RowKit Go.Maps Go.Sort

set_option maxRecDepth 100000 in
set_option maxHeartbeats 4000000 in
theorem push_fullA {w W : World} {b : Nat} {F : List Nat} {L : SL} {q : Nat} {qs : List Value} (h : SNew w W b F L q qs) (t : Int) (A : Option Addr) (n c : Nat) (f : Nat → Int) (hI : ∀ W', Touch F W W' → Il W' A n f) (hz : A = none → n = 0 ∧ c = 0) (hn : n ≤ 20) (K0 : ByteArray) (x y : Int) (hK : keyStr t f n = K0) (hk : K0.size ≤ maxLen) (hk0 : K0 ≠ ⟨#[]⟩)
    (hE : endsAt L K0 x y) (most : Int) (hmo : most ≤ y - x) (hmo1 : 1 ≤ most) (A2 : Option Addr) (m c2 : Nat) (g : Nat → Int) (hl : Il W A2 m g) (hm1 : 1 ≤ m) (hm : m ≤ 100) (hg : ∀ i, i < m → 0 ≤ g i) :
    Calls Try.prog 20 #[.pointer (some ⟨b, 0, none⟩), .int .i64 t, .slice A n c, .int .i64 most, .slice A2 m c2] W fun e W' => e = .returned (.int .i64 7) ∧ Below W.heap.size W W' := by
  have hxy := hE.bounds
  have HM := Lib.hid (made_live b F L q qs W h.s)
  obtain ⟨W0, hW0⟩ : ∃ W0, W0 = W.alloc (.cells #[.pointer (some ⟨b, 0, none⟩), .int .i64 t, .slice A n c] 117) := ⟨_, rfl⟩
  have hb0 : Below W.heap.size W W0 := by rw [hW0]; exact (Below.refl _ _).alloc (Nat.le_refl _) _
  have r0 : W0.heap[W.heap.size]? = some (.cells #[.pointer (some ⟨b, 0, none⟩), .int .i64 t, .slice A n c] 117 (0, 0)) := by rw [hW0]; exact heap_alloc_new _ _
  have hFl : ∀ k, W.heap.size ≤ k → k ∉ F := fun k hk hm => by have := h.s.lt _ hm; omega
  have HHd := Lib.hid (fun (W1 : World) (hb : Below W.heap.size W W1) => qhead_is (some ⟨b, 0, none⟩) t A n c f K0 hK W1 ((hI W (Touch.refl _ _)).below hb) hn)
  have HGo := Lib.hid (fun (W1 : World) (hb : Below W.heap.size W W1) => fgood_walk A2 m c2 g W1 (hl.below hb) hm1 hm hg)
  have HEn := Lib.hid (fun (W1 : World) (hb : Below W.heap.size W W1) => ends_liveA (h.below hb) t A n c f ((hI W (Touch.refl _ _)).below hb) hn K0 hK hk x y hE)
  have H0 := Lib.hid (And.intro hb0 r0)
  have HF := Lib.hid hFl
  have HW := Lib.hid hW0
  have hkne := ba_nil hk0
  have i1 : 0 ≤ x := hxy.1
  have i2 : x ≤ y := hxy.2.1
  have i3 : y ≤ 1000000 := hxy.2.2
  have n1 : most ≤ y - x := hmo
  have n2 : ¬ most < 1 := by omega
  clear hI hz hn h hxy hK hk hk0 hE hmo hmo1 hl hm1 hm hg hFl hW0 hb0 r0
  go_enter Try.func20, Try.ntmps20
  go_upto_region 4 with (go_at_call 27; refine HM.out.mono ?_; rintro e w1 ⟨rfl, rfl⟩)
  rw [← HW.out]
  have c0 := (hp_cell (i := 0) H0.out.2).trans rfl
  have c1 := (hp_cell (i := 1) H0.out.2).trans rfl
  have c2' := (hp_cell (i := 2) H0.out.2).trans rfl
  have l0 := hp_lt H0.out.2
  go_upto_region 7 with (first
    | (go_at_call 70; refine (HEn.out _ H3.out.1).mono ?_; rintro e w4 ⟨rfl, hb4⟩; have r4 := (hb4.block _ (hp_lt H3.out.2)).trans H3.out.2; have H4 := Lib.hid (And.intro (H3.out.1.trans (hb4.mono H3.out.1.size)) r4); clear r4 hb4)
    | (go_at_call 21; refine (HGo.out _ H2.out.1).mono ?_; rintro e w3 ⟨rfl, rfl⟩; have H3 := Lib.hid H2.out; have d0 := (hp_cell (i := 0) H3.out.2).trans rfl; have d1 := (hp_cell (i := 1) H3.out.2).trans rfl; have d2 := (hp_cell (i := 2) H3.out.2).trans rfl; have l3 := hp_lt H3.out.2)
    | (go_at_call 69; refine (HHd.out _ H0.out.1).mono ?_; rintro e w2 ⟨rfl, hb2⟩; have r2 := (hb2.block _ (hp_lt H0.out.2)).trans H0.out.2; have H2 := Lib.hid (And.intro (H0.out.1.trans (hb2.mono H0.out.1.size)) r2); clear r2 hb2))
  obtain ⟨W5, hW5⟩ : ∃ W5, W5 = w4.alloc (.cells #[.int .i64 x, .int .i64 y] 119) := ⟨_, rfl⟩
  have hb5 : Below w4.heap.size w4 W5 := by rw [hW5]; exact (Below.refl _ _).alloc (Nat.le_refl _) _
  have r5 : W5.heap[w4.heap.size]? = some (.cells #[.int .i64 x, .int .i64 y] 119 (0, 0)) := by rw [hW5]; exact heap_alloc_new _ _
  have rq := (hb5.block _ (hp_lt H4.out.2)).trans H4.out.2
  rw [← hW5]
  clear c0 c1 c2' l0 d0 d1 d2 l3 hW5
  have H5 := Lib.hid (And.intro (H4.out.1.trans (hb5.mono H4.out.1.size)) rq)
  have c0 := (hp_cell (i := 0) rq).trans rfl
  have c1 := (hp_cell (i := 1) rq).trans rfl
  have c2' := (hp_cell (i := 2) rq).trans rfl
  have l0 := hp_lt rq
  have d0 := (hp_cell (i := 0) r5).trans rfl
  have d1 := (hp_cell (i := 1) r5).trans rfl
  have l5 := hp_lt r5
  clear rq r5 hb5
  go_wp2
  go_ret
  exact ⟨rfl, H5.out.1⟩
end Go.Proofs.Ytedkhpnlhkjjgaa

namespace Go.Proofs.Ytedkhpnlhkjjgaa
open Go.RowKit Go.Maps Go.Sort

/-- may a row stand in a queue? -/
def gd (f : Nat → Int) (m : Nat) : Prop := 1 ≤ m ∧ ∀ i, i < m → 0 ≤ f i
instance (f : Nat → Int) (m : Nat) : Decidable (gd f m) := inferInstanceAs (Decidable (_ ∧ _))
theorem min_step {f : Nat → Int} {j : Nat} {x y z : Int} (hx : 0 ≤ x ↔ ∀ i, i < j → 0 ≤ f i) (hy : y = f j) (hz : 0 ≤ z ↔ 0 ≤ x ∧ 0 ≤ y) : 0 ≤ z ↔ ∀ i, i < j + 1 → 0 ≤ f i := by
  rw [hz, hx, hy]
  constructor
  · rintro ⟨h1, h2⟩ i hi
    by_cases e : i = j
    · rw [e]; exact h2
    · exact h1 i (by omega)
  · intro h
    exact ⟨fun i hi => h i (by omega), h j (by omega)⟩
set_option maxRecDepth 100000 in
set_option maxHeartbeats 1000000 in
theorem min_any (A : Option Addr) (m c : Nat) (f : Nat → Int) (w : World) (hl : Il w A m f) (h1 : 1 ≤ m) (hm : m ≤ 100) :
    Calls Try.prog 74 #[.slice A m c] w fun e w' => (∃ x, e = .returned (.int .i64 x) ∧ (0 ≤ x ↔ ∀ i, i < m → 0 ≤ f i)) ∧ w = w' := by
  obtain ⟨g, o, rfl, hg, hc⟩ := hl.at_ (by omega)
  have mI : (m : Int) ≤ 100 := by omega
  have mJ : 1 ≤ (m : Int) := by omega
  have hc0 := hc 0 (by omega)
  rw [Nat.add_zero] at hc0
  have HC := Lib.hid (And.intro hc h1)
  clear hl hc h1
  go_enter Try.func74, Try.ntmps74
  go_wp2
  go_loopw [3, 4] (fun v i wr => ∃ (x : Int) (j : Nat), v = .int .i64 x ∧ i = .int .i64 (j : Nat) ∧ (0 ≤ x ↔ ∀ i, i < j → 0 ≤ f i) ∧ j ≤ m ∧ w = wr) (fun _ i _ => m - (intOf i).toNat)
  case atStart => exact ⟨f 0, 1, rfl, rfl, ⟨fun h i hi => by obtain rfl : i = 0 := (by omega); exact h, fun h => h 0 (by omega)⟩, HC.out.2, rfl⟩
  case round =>
    obtain ⟨x, j, rfl, rfl, hx, hj, rfl⟩ := hrel
    have kI : (j : Int) ≤ m := by omega
    by_cases hlt : j < m
    · have p1 : (j : Int) < (m : Int) := by omega
      have hcj := HC.out.1 j hlt
      obtain ⟨y, hy⟩ : ∃ y, y = f j := ⟨_, rfl⟩
      rw [← hy] at hcj
      have HX := Lib.hid (And.intro hx hy)
      clear hy hx
      go_wp2
      all_goals
        refine ⟨⟨_, j + 1, rfl, by simp, min_step HX.out.1 HX.out.2 ?_, by omega, trivial⟩, by simp [intOf]; omega⟩
        first | omega | (split <;> omega)
    · obtain rfl : j = m := by omega
      have p1 : ¬ (j : Int) < (j : Int) := by omega
      have HX := Lib.hid hx
      clear hx
      go_wp2
      go_ret
      exact ⟨⟨x, rfl, HX.out⟩, rfl⟩
set_option maxRecDepth 100000 in
set_option maxHeartbeats 1000000 in
theorem fgood_any (A : Option Addr) (m c : Nat) (f : Nat → Int) (w : World) (hl : Il w A m f) (hm : m ≤ 100) :
    Calls Try.prog 21 #[.slice A m c] w fun e w' => e = .returned (.bool (decide (gd f m))) ∧ w = w' := by
  by_cases h1 : 1 ≤ m
  · have HM := Lib.hid (min_any A m c f w hl h1 hm)
    have p1 : 0 < (m : Int) := by omega
    by_cases hf : ∀ i, i < m → 0 ≤ f i
    · have e : decide (gd f m) = true := decide_eq_true ⟨h1, hf⟩
      rw [e]
      have HF := Lib.hid hf
      clear hl hm hf e
      go_enter Try.func21, Try.ntmps21
      go_wp2_with (go_at_call 74; refine HM.out.mono ?_; rintro e w1 ⟨⟨x, rfl, hx⟩, rfl⟩; have hx0 := hx.2 HF.out; clear hx)
      go_ret
      exact ⟨rfl, rfl⟩
    · have e : decide (gd f m) = false := decide_eq_false fun h => hf h.2
      rw [e]
      have HF := Lib.hid hf
      clear hl hm hf e
      go_enter Try.func21, Try.ntmps21
      go_wp2_with (go_at_call 74; refine HM.out.mono ?_; rintro e w1 ⟨⟨x, rfl, hx⟩, rfl⟩; have hx0 : x < 0 := Int.not_le.1 (fun h => HF.out (hx.1 h)); have hx1 : ¬ 0 ≤ x := (by omega); clear hx)
      go_ret
      refine ⟨?_, rfl⟩
      show Ending.returned (Value.bool (decide (0 ≤ x))) = _
      rw [decide_eq_false (show ¬ 0 ≤ x by omega)]
  · have e : decide (gd f m) = false := decide_eq_false fun h => h1 h.1
    rw [e]
    obtain rfl : m = 0 := by omega
    clear hl hm h1 e
    go_enter Try.func21, Try.ntmps21
    go_wp2
    go_ret
    exact ⟨rfl, rfl⟩
end Go.Proofs.Ytedkhpnlhkjjgaa

namespace Go.Proofs.Ytedkhpnlhkjjgaa
open Go.RowKit Go.Maps Go.Sort

set_option maxRecDepth 100000 in
set_option maxHeartbeats 4000000 in
theorem push_badA {w W : World} {b : Nat} {F : List Nat} {L : SL} {q : Nat} {qs : List Value} (h : SNew w W b F L q qs) (t : Int) (A : Option Addr) (n c : Nat) (f : Nat → Int) (hI : ∀ W', Touch F W W' → Il W' A n f) (hz : A = none → n = 0 ∧ c = 0) (hn : n ≤ 20) (K0 : ByteArray) (hK : keyStr t f n = K0) (hk : K0.size ≤ maxLen) (hk0 : K0 ≠ ⟨#[]⟩)
    (most : Int) (hmo1 : 1 ≤ most) (A2 : Option Addr) (m c2 : Nat) (g : Nat → Int) (hl : Il W A2 m g) (hm : m ≤ 100) (hg : ¬ gd g m) :
    Calls Try.prog 20 #[.pointer (some ⟨b, 0, none⟩), .int .i64 t, .slice A n c, .int .i64 most, .slice A2 m c2] W fun e W' => e = .returned (.int .i64 2) ∧ Below W.heap.size W W' := by
  have HM := Lib.hid (made_live b F L q qs W h.s)
  obtain ⟨W0, hW0⟩ : ∃ W0, W0 = W.alloc (.cells #[.pointer (some ⟨b, 0, none⟩), .int .i64 t, .slice A n c] 117) := ⟨_, rfl⟩
  have hb0 : Below W.heap.size W W0 := by rw [hW0]; exact (Below.refl _ _).alloc (Nat.le_refl _) _
  have r0 : W0.heap[W.heap.size]? = some (.cells #[.pointer (some ⟨b, 0, none⟩), .int .i64 t, .slice A n c] 117 (0, 0)) := by rw [hW0]; exact heap_alloc_new _ _
  have hFl : ∀ k, W.heap.size ≤ k → k ∉ F := fun k hk hm => by have := h.s.lt _ hm; omega
  have HHd := Lib.hid (fun (W1 : World) (hb : Below W.heap.size W W1) => qhead_is (some ⟨b, 0, none⟩) t A n c f K0 hK W1 ((hI W (Touch.refl _ _)).below hb) hn)
  have HGo := Lib.hid (fun (W1 : World) (hb : Below W.heap.size W W1) => (show Calls Try.prog 21 #[.slice A2 m c2] W1 fun e w' => e = .returned (.bool false) ∧ W1 = w' from by have := fgood_any A2 m c2 g W1 (hl.below hb) hm; rw [decide_eq_false hg] at this; exact this))
  have H0 := Lib.hid (And.intro hb0 r0)
  have HF := Lib.hid hFl
  have HW := Lib.hid hW0
  have hkne := ba_nil hk0
  have n2 : ¬ most < 1 := by omega
  clear hI hz hn h hK hk hk0 hmo1 hl hm hg hFl hW0 hb0 r0
  go_enter Try.func20, Try.ntmps20
  go_upto_region 4 with (go_at_call 27; refine HM.out.mono ?_; rintro e w1 ⟨rfl, rfl⟩)
  rw [← HW.out]
  have c0 := (hp_cell (i := 0) H0.out.2).trans rfl
  have c1 := (hp_cell (i := 1) H0.out.2).trans rfl
  have c2' := (hp_cell (i := 2) H0.out.2).trans rfl
  have l0 := hp_lt H0.out.2
  go_wp2_with (first
    | (go_at_call 21; refine (HGo.out _ H2.out.1).mono ?_; rintro e w3 ⟨rfl, rfl⟩; have H3 := Lib.hid H2.out; have d0 := (hp_cell (i := 0) H3.out.2).trans rfl; have d1 := (hp_cell (i := 1) H3.out.2).trans rfl; have d2 := (hp_cell (i := 2) H3.out.2).trans rfl; have l3 := hp_lt H3.out.2)
    | (go_at_call 69; refine (HHd.out _ H0.out.1).mono ?_; rintro e w2 ⟨rfl, hb2⟩; have r2 := (hb2.block _ (hp_lt H0.out.2)).trans H0.out.2; have H2 := Lib.hid (And.intro (H0.out.1.trans (hb2.mono H0.out.1.size)) r2); clear r2 hb2))
  go_ret
  exact ⟨rfl, H2.out.1⟩
end Go.Proofs.Ytedkhpnlhkjjgaa
