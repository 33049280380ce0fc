/- fifo on a live store: Good, turn, Push, Pop; lives of layer 12. -/
import Derived.Test.YtedkhpnlhkjjgaaG15
import Derived.Test.YtedkhpnlhkjjgaaG14
import Derived.Test.YtedkhpnlhkjjgaaProg
import Derived.Test.YtedkhpnlhkjjgaaG00
import Derived.Laws.Externs
import Derived.Lib.Hide
namespace Go.Proofs.Ytedkhpnlhkjjgaa
open Go.RowKit Go.Maps Go.Sort

theorem arr2_all (p : Nat) (w : World) : (Instr.sliceAt 119 (.pointer (some ⟨p, 0, none⟩)) none none none).run Try.prog w = .ok (.slice (some ⟨p, 0, none⟩) 2 2) w := by
  have hu : Try.prog.underlying 119 = some (.array (Try.prog.arrayLen 119) (Try.prog.elem 119)) := by kernel_rfl
  have hl : Try.prog.arrayLen 119 = 2 := by kernel_rfl
  have he : Try.prog.elem 119 = 3 := by kernel_rfl
  rw [run_sliceAt_array_all w _ _ hu, he, hl, Try.sizeOf3]
  simp only [Result.andThen_ok, slicedAt]
  rfl
set_option maxRecDepth 100000 in
set_option maxHeartbeats 1000000 in
theorem min_walk (A : Option Addr) (m c : Nat) (f : Nat → Int) (w : World) (hl : Il w A m f) (h1 : 1 ≤ m) (hm : m ≤ 100) (hf : ∀ i, i < m → 0 ≤ f i) :
    Calls Try.prog 74 #[.slice A m c] w fun e w' => (∃ x, e = .returned (.int .i64 x) ∧ 0 ≤ x) ∧ w = w' := by
  obtain ⟨g, o, rfl, hg, hc⟩ := hl.at_ (by omega)
  have mI : (m : Int) ≤ 100 := by omega
  have mJ : 1 ≤ (m : Int) := by omega
  have hc0 := hc 0 (by omega)
  rw [Nat.add_zero] at hc0
  have HC := Lib.hid (And.intro hc (And.intro hf h1))
  clear hl hc hf h1
  go_enter Try.func74, Try.ntmps74
  go_wp2
  go_loopw [3, 4] (fun v i wr => ∃ (x : Int) (j : Nat), v = .int .i64 x ∧ i = .int .i64 (j : Nat) ∧ 0 ≤ x ∧ j ≤ m ∧ w = wr) (fun _ i _ => m - (intOf i).toNat)
  case atStart => exact ⟨f 0, 1, rfl, rfl, HC.out.2.1 0 (by have := HC.out.2.2; omega), HC.out.2.2, rfl⟩
  case round =>
    obtain ⟨x, j, rfl, rfl, hx, hj, rfl⟩ := hrel
    have kI : (j : Int) ≤ m := by omega
    by_cases hlt : j < m
    · have p1 : (j : Int) < (m : Int) := by omega
      have hcj := HC.out.1 j hlt
      have h0 := HC.out.2.1 j hlt
      obtain ⟨y, hy⟩ : ∃ y, y = f j := ⟨_, rfl⟩
      rw [← hy] at hcj h0
      clear hy
      go_wp2
      all_goals
        refine ⟨⟨_, j + 1, rfl, by simp, ?_, by omega, trivial⟩, by simp [intOf]; omega⟩
        first | omega | (split <;> omega)
    · obtain rfl : j = m := by omega
      have p1 : ¬ (j : Int) < (j : Int) := by omega
      go_wp2
      go_ret
      exact ⟨⟨x, rfl, hx⟩, rfl⟩
set_option maxRecDepth 100000 in
set_option maxHeartbeats 1000000 in
theorem fgood_walk (A : Option Addr) (m c : Nat) (f : Nat → Int) (w : World) (hl : Il w A m f) (h1 : 1 ≤ m) (hm : m ≤ 100) (hf : ∀ i, i < m → 0 ≤ f i) :
    Calls Try.prog 21 #[.slice A m c] w fun e w' => e = .returned (.bool true) ∧ w = w' := by
  have HM := Lib.hid (min_walk A m c f w hl h1 hm hf)
  have p1 : 0 < (m : Int) := by omega
  clear hl h1 hm hf
  go_enter Try.func21, Try.ntmps21
  go_wp2_with (go_at_call 74; refine HM.out.mono ?_; rintro e w1 ⟨⟨x, rfl, hx⟩, rfl⟩)
  go_ret
  exact ⟨rfl, rfl⟩
set_option maxRecDepth 100000 in
set_option maxHeartbeats 2000000 in
theorem turn_live {w W : World} {b : Nat} {F : List Nat} {L : SL} {q : Nat} {qs : List Value} (h : SNew w W b F L q qs) (t : Int) (A : Option Addr) (n c : Nat) (f : Nat → Int) (hl : Il W A n f) (hn : n ≤ 20) (K0 : ByteArray) (hK : keyStr t f n = K0) (hk : K0.size ≤ maxLen) (hk0 : K0 ≠ ⟨#[]⟩)
    (x y dx dy : Int) (hx : 0 ≤ x ∧ x ≤ 1000000) (hy : 0 ≤ y ∧ y ≤ 1000000) (hdx : 0 ≤ dx ∧ dx ≤ 1) (hdy : 0 ≤ dy ∧ dy ≤ 1) (hne : x + dx ≠ y + dy) (hN : L.length < 128) (hq : q < 1000000)
    (HE : ∀ W', Below W.heap.size W W' → Calls Try.prog 70 #[.agg #[.pointer (some ⟨b, 0, none⟩), .int .i64 t, .slice A n c]] W' fun e w' => e = .returned (.agg #[.int .i64 x, .int .i64 y]) ∧ Below W'.heap.size W' w') :
    Calls Try.prog 73 #[.agg #[.pointer (some ⟨b, 0, none⟩), .int .i64 t, .slice A n c], .int .i64 dx, .int .i64 dy] W fun e W' => e = .returned (.tuple #[]) ∧ LiveTo w W W' b F (setL L K0 (rowV (two2 (x + dx) (y + dy)) 2)) (q + 1) := by
  have hb0 := (Below.refl W.heap.size W).alloc (Nat.le_refl _) (.cells #[.pointer (some ⟨b, 0, none⟩), .int .i64 t, .slice A n c] 117)
  have r0 := heap_alloc_new W (.cells #[.pointer (some ⟨b, 0, none⟩), .int .i64 t, .slice A n c] 117)
  have HEs := Lib.hid (HE _ hb0)
  have H0 := Lib.hid (And.intro hb0 r0)
  have HHd := Lib.hid (fun (W1 : World) (hb : Below W.heap.size W W1) => qhead_is (some ⟨b, 0, none⟩) t A n c f K0 hK W1 (hl.below hb) hn)
  have hxd := hx
  have HSR := Lib.hid (fun (W1 : World) (g : Nat) (hb : Below W.heap.size W W1) (hil : Il W1 (some ⟨g, 0, none⟩) 2 (two2 (x + dx) (y + dy))) => (csetRow_set (h.below hb) K0 (some ⟨g, 0, none⟩) 2 2 (two2 (x + dx) (y + dy)) hil (by omega) (by omega) (fun i _ => by unfold two2; split <;> omega) hk hk0 hN hq).mono fun e W' hp => (⟨hp.1, hp.2.pre hb⟩ : e = .returned (.tuple #[]) ∧ LiveTo w W W' b F (setL L K0 (rowV (two2 (x + dx) (y + dy)) 2)) (q + 1)))
  have HIl := Lib.hid (fun (W1 : World) (g : Nat) (hg : g < W1.heap.size) (h0 : W1.cell? ⟨g, 0, none⟩ = some (.int .i64 (x + dx))) (h1 : W1.cell? ⟨g, 1, none⟩ = some (.int .i64 (y + dy))) => show Il W1 (some ⟨g, 0, none⟩) 2 (two2 (x + dx) (y + dy)) from ⟨fun i => by unfold two2; split <;> omega, fun _ => ⟨g, 0, rfl, hg, fun i hi => by rcases (by omega : i = 0 ∨ i = 1) with rfl | rfl; exact h0; exact h1⟩⟩)
  obtain ⟨lm, elm⟩ : ∃ z, z = setL L K0 (rowV (two2 (x + dx) (y + dy)) 2) := ⟨_, rfl⟩
  rw [← elm] at HSR ⊢
  have n1 : ((x + dx) == (y + dy)) = false := by rw [beq_eq_false_iff_ne]; exact hne
  clear HE hb0 r0 h hl hn hK hk hk0 hne hN hq elm
  go_enter Try.func73, Try.ntmps73
  go_upto_region 6 with (go_at_call 70; refine HEs.out.mono ?_; rintro e w1 ⟨rfl, hb1⟩; have H1 := Lib.hid (And.intro (H0.out.1.trans (hb1.mono H0.out.1.size)) ((hb1.block _ (hp_lt H0.out.2)).trans H0.out.2)); clear hb1)
  obtain ⟨W6, hW6⟩ : ∃ W6, W6 = w1.alloc (.cells #[.int .i64 (x + dx), .int .i64 (y + dy)] 119) := ⟨_, rfl⟩
  have hb6 : Below w1.heap.size w1 W6 := by rw [hW6]; exact (Below.refl _ _).alloc (Nat.le_refl _) _
  have r6 : W6.heap[w1.heap.size]? = some (.cells #[.int .i64 (x + dx), .int .i64 (y + dy)] 119 (0, 0)) := by rw [hW6]; exact heap_alloc_new _ _
  have rq := (hb6.block _ (hp_lt H1.out.2)).trans H1.out.2
  rw [← hW6]
  have H6 := Lib.hid (And.intro (H1.out.1.trans (hb6.mono H1.out.1.size)) r6)
  have f0 := fun (dq : Nat) (osq : Array Obj) => cell_regrown (w := W6) (a := ⟨W.heap.size, 0, none⟩) ((hp_cell (i := 0) rq).trans rfl) dq osq
  have f1 := fun (dq : Nat) (osq : Array Obj) => cell_regrown (w := W6) (a := ⟨W.heap.size, 1, none⟩) ((hp_cell (i := 1) rq).trans rfl) dq osq
  have f2 := fun (dq : Nat) (osq : Array Obj) => cell_regrown (w := W6) (a := ⟨W.heap.size, 2, none⟩) ((hp_cell (i := 2) rq).trans rfl) dq osq
  have hsl := arr2_all
  clear hW6 hb6 r6 rq
  have HH6 := Lib.hid (fun (dq : Nat) (osq : Array Obj) => HHd.out (grow (redrawn W6 dq) osq) (H6.out.1.trans ((below_regrown W6 dq osq).mono H6.out.1.size)))
  refine wp_region_quiet_tail 5 (by kernel_rfl) (by kernel_rfl) ?_
  simp only [List.take_succ_cons, List.take_zero]
  repeat (quiet_step (first | (go_at_call 69; with_reducible exact Calls.regrown_of (HH6.out _ _))))
  refine wpQuiet_nil ?_
  intro _ hw'
  obtain ⟨⟨dq, osq⟩, hw''⟩ := hw'
  subst hw''
  have r7 := ((below_regrown W6 dq osq).block _ (hp_lt H6.out.2)).trans H6.out.2
  have H7 := Lib.hid (HSR.out _ w1.heap.size (H6.out.1.trans ((below_regrown W6 dq osq).mono H6.out.1.size)) (HIl.out _ _ (hp_lt r7) ((hp_cell (i := 0) r7).trans rfl) ((hp_cell (i := 1) r7).trans rfl)))
  clear f0 f1 f2 HH6 r7 hsl
  simp only [List.drop_succ_cons, List.drop_zero]
  go_wp2_with (go_at_call 71; refine H7.out.mono ?_; rintro e w9 ⟨rfl, h9⟩; have H9 := Lib.hid h9; clear h9)
  go_end0
  exact ⟨rfl, H9.out⟩
end Go.Proofs.Ytedkhpnlhkjjgaa

namespace Go.Proofs.Ytedkhpnlhkjjgaa
open Go.RowKit Go.Maps Go.Sort
attribute [local go_sem] Oper.semAt_some
attribute [local go_sem] run_store_fn

set_option maxRecDepth 100000 in
set_option maxHeartbeats 400000 in
theorem dueadd_live {w W : World} {b : Nat} {F : List Nat} {L : SL} {q : Nat} {qs : List Value} (h : SNew w W b F L q qs) (blk : Int) (K0 K1 T : ByteArray) (hb0 : 0 ≤ blk) (hb1 : blk ≤ 1099511627776) (hK0 : keyStr 26 (fun _ => blk) 1 = K0) (hK1 : keyStr 26 (two2 blk 0) 2 = K1) (hT : keyStr 27 (fun _ => 0) 0 = T)
    (hu : under L K0 = []) (A : Option Addr) (n c : Nat) (f : Nat → Int) (hl : Il W A n f) (hn0 : 1 ≤ n) (hn : n ≤ 100) (hf : ∀ i, i < n → 0 ≤ f i) (m : Nat) (hm : intAt (setL L K1 (rowV f n)) T m) (hm2 : m + 1 < 2 ^ 63)
    (hk1 : K1.size ≤ maxLen) (hk10 : K1 ≠ ⟨#[]⟩) (hkt : T.size ≤ maxLen) (hkt0 : T ≠ ⟨#[]⟩) (hks : ∀ p ∈ L, p.1.size ≤ maxLen) (hN : L.length < 128) (hN1 : (setL L K1 (rowV f n)).length < 128) (hq : q + 2 < 1000000) :
    Calls Try.prog 29 #[.pointer (some ⟨b, 0, none⟩), .int .i64 blk, .slice A n c] W fun e W' => e = .returned (.int .i64 0) ∧ LiveTo w W W' b F (setL (setL L K1 (rowV f n)) T (numStr ((m : Int) + 1))) (q + 2) := by
  refine (callsIn_wide (n := 3)).1 ?_
  have h1 : 1 ≤ 3 := by omega
  have hwW := h.l.size
  have hFl : ∀ k ∈ F, k < W.heap.size := fun k hk => h.s.lt k hk
  have HM := Lib.hid (fun (W1 : World) (hb : Below W.heap.size W W1) => made_live b F L q qs W1 (h.below hb).s)
  have HG := Lib.hid (fun (W1 : World) (hb : Below W.heap.size W W1) => fgood_walk A n c f W1 (hl.below hb) hn0 hn hf)
  have HA := Lib.hid (fun w => rows_walk (some ⟨b, 0, none⟩) K0 w)
  have HK0 := Lib.hid (fun W1 => key_is 26 (some ⟨W1.heap.size, 0, none⟩) 1 1 (fun _ => blk) K0 hK0 _ (il1 blk W1 3 (by omega)) (by omega))
  have HK1 := Lib.hid (fun W1 => key_is 26 (some ⟨W1.heap.size, 0, none⟩) 2 2 (two2 blk 0) K1 hK1 _ (il2 blk 0 W1 3 (by omega) (by omega)) (by omega))
  have HT := Lib.hid (fun w => tbl_is 27 T hT w)
  have HU := Lib.hid (fun (W1 : World) (hb : Below W.heap.size W W1) => (under_live b F L q qs W1 (h.below hb).s K0 hks hN).mono (R' := fun e w' => (∃ A c, e = .returned (.slice A 0 c)) ∧ Below W1.heap.size W1 w') fun e w' hh => by
    obtain ⟨⟨v, he, hv⟩, hb⟩ := hh
    rw [hu] at hv
    refine ⟨?_, hb⟩
    rcases hv.2 with ⟨rfl, _⟩ | ⟨g, cap, cur, rfl, _⟩
    · exact ⟨none, 0, he⟩
    · exact ⟨_, cap, he⟩)
  have HS := Lib.hid (fun (W1 : World) (hb : Below W.heap.size W W1) => (csetRow_set (h.below hb) K1 A n c f (hl.below hb) hn0 hn hf hk1 hk10 hN (by omega)).mono (R' := fun e W' => e = .returned (.tuple #[]) ∧ LiveTo w W1 W' b F (setL L K1 (rowV f n)) (q + 1)) fun e w' hh => ⟨hh.1, hh.2⟩)
  have HX := Lib.hid (fun (W1 W2 : World) (hl2 : LiveTo w W1 W2 b F (setL L K1 (rowV f n)) (q + 1)) => hl2.seq 1 (fun F1 qa qsa hs hqa => cnext_walk hs T m hkt hkt0 hm hm2 hN1 (by omega)))
  have x0 := (Below.refl W.heap.size W).alloc (Nat.le_refl _) (.cells #[.int .i64 0] 33)
  have x2 := (x0.alloc (by simp only [World.size_alloc]; omega) (.cells #[.int .i64 0] 3)).alloc (by simp only [World.size_alloc]; omega) (.cells #[.func (.func 79) #[] #[]] 127)
  have x3 := x2.alloc (by simp only [World.size_alloc]; omega) (.cells #[.int .i64 blk] 3)
  have r0 := (heap_alloc_old ((W.alloc (.cells #[.int .i64 0] 33)).alloc (.cells #[.int .i64 0] 3)) (.cells #[.func (.func 79) #[] #[]] 127) (r := W.heap.size) (by simp only [World.size_alloc]; omega)).trans ((heap_alloc_old (W.alloc (.cells #[.int .i64 0] 33)) (.cells #[.int .i64 0] 3) (by simp only [World.size_alloc]; omega)).trans (heap_alloc_new W (.cells #[.int .i64 0] 33)))
  have r1 : (((W.alloc (.cells #[.int .i64 0] 33)).alloc (.cells #[.int .i64 0] 3)).alloc (.cells #[.func (.func 79) #[] #[]] 127)).heap[W.heap.size + 1]? = some (.cells #[.int .i64 0] 3 (0, 0)) := by
    have h := heap_alloc_new (W.alloc (.cells #[.int .i64 0] 33)) (.cells #[.int .i64 0] 3)
    rw [World.size_alloc] at h
    exact (heap_alloc_old _ _ (by simp only [World.size_alloc]; omega)).trans h
  have R0 := Lib.hid (And.intro x0 (And.intro x3 (And.intro ((heap_alloc_old _ (.cells #[.int .i64 blk] 3) (hp_lt r0)).trans r0) ((heap_alloc_old _ (.cells #[.int .i64 blk] 3) (hp_lt r1)).trans r1))))
  have hk0 := HK0.out (((W.alloc (.cells #[.int .i64 0] 33)).alloc (.cells #[.int .i64 0] 3)).alloc (.cells #[.func (.func 79) #[] #[]] 127))
  simp only [World.size_alloc] at hk0
  have HK0x := Lib.hid hk0
  clear hk0
  have HwF := Lib.hid (And.intro hwW hFl)
  have p1 : ¬ blk < 0 := by omega
  have p2 : ¬ 1099511627776 < blk := by omega
  obtain ⟨l1, el1⟩ : ∃ z, z = setL L K1 (rowV f n) := ⟨_, rfl⟩
  rw [← el1] at HS HX ⊢
  obtain ⟨l2, el2⟩ : ∃ z, z = setL l1 T (numStr ((m : Int) + 1)) := ⟨_, rfl⟩
  rw [← el2]
  have HE2 := Lib.hid el2
  clear h hb0 hb1 hK0 hK1 hT hu hl hn0 hn hf hm hm2 hk1 hk10 hkt hkt0 hks hN hN1 hq hwW hFl x0 x2 x3 r0 r1 el1 el2
  refine callsIn_of_wp_marks Try.func29 rfl trivial ?_ rfl
  simp only [Try.ntmps29, List.size_toArray, List.length_cons, List.length_nil, Nat.reduceAdd, Nat.reduceSub, Array.replicate_succ, Array.replicate_zero, List.push_toArray, List.append_toArray, List.nil_append, List.cons_append]
  gi_wp2_with (refine ⟨trivial, ?_⟩; first
    | (gi_at_call 80; with_reducible refine (callsIn_wide.2 (HA.out _)).mono ?_; rintro e w2 ⟨rfl, hb, hc1, hc2, hz⟩)
    | (gi_at_call 60; with_reducible refine (callsIn_wide.2 HK0x.out).mono ?_; rintro e w1 ⟨rfl, hb1⟩)
    | (gi_at_call 21; with_reducible refine (callsIn_wide.2 (HG.out _ R0.out.1)).mono ?_; rintro e w0 ⟨rfl, rfl⟩)
    | (gi_at_call 27; with_reducible refine (callsIn_wide.2 (HM.out _ R0.out.1)).mono ?_; rintro e w0 ⟨rfl, rfl⟩))
  obtain ⟨_, x3, r0, r1⟩ := R0.out
  have hb2 := (x3.trans (hb1.mono (by omega))).trans (hb.mono (by have := hb1.size; simp only [World.size_alloc] at this; omega))
  have hs1 := hb1.size
  simp only [World.size_alloc] at hs1
  have q0 := (hb.block _ (by omega)).trans ((hb1.block _ (by omega)).trans r0)
  have q1 := (hb.block _ (by omega)).trans ((hb1.block _ (by omega)).trans r1)
  have HS2 := Lib.hid (And.intro hb2 (And.intro q0 q1))
  refine wpIn_rangeFunc_dead h1 rfl (enters_of Try.func123 (by kernel_rfl) rfl) (fun l W' hW => duer_none (some ⟨b, 0, none⟩) K0 l _ _ W' ((hW.cell (by rw [hz]; show _ < _; simp only []; omega)).trans hc1) ((hW.cell (by rw [hz]; show _ < _; simp only []; omega)).trans hc2) (HU.out W' (HS2.out.1.trans (hW.mono HS2.out.1.size)))) ?_
  clear hb hc1 hc2 hz hb2 q0 q1 hb1 x3 r0 r1 hs1 HK0x HK0
  rintro D W3 hD hW hK
  have q0 := (hW.block _ (hp_lt HS2.out.2.1)).trans HS2.out.2.1
  have q1 := (hW.block _ (hp_lt HS2.out.2.2)).trans HS2.out.2.2
  have hb3 := HS2.out.1.trans (hW.mono HS2.out.1.size)
  have hD' := Nat.le_trans HS2.out.1.size hD
  have HQ := Lib.hid (And.intro q0 (And.intro hD' (And.intro hb3 hK)))
  have HD := Lib.hid (show D < W3.heap.size from hp_lt hK)
  have HnD := Lib.hid (show W.heap.size < D from Nat.lt_of_lt_of_le (hp_lt HS2.out.2.1) hD)
  have c1 := (hp_cell (i := 0) q1).trans rfl
  have HZ := Lib.hid (fun (w5 w8 : World) (hb5 : Below W3.heap.size W3 w5) (h8 : LiveTo w w5 w8 b F (setL l1 T (numStr ((m : Int) + 1))) (q + 1 + 1)) => show w8.heap[W.heap.size]? = some (.cells #[.int .i64 0] 33 (0, 0)) ∧ w8.heap[D]? = some (.deferred (some [])) from by
    obtain ⟨_, _, _, _, _, ht, _⟩ := h8
    have hn := HnD.out
    exact ⟨(ht.block W.heap.size (Nat.lt_of_lt_of_le (hp_lt q0) hb5.size) (fun hm => Nat.lt_irrefl _ (HwF.out.2 _ hm))).trans ((hb5.block _ (hp_lt q0)).trans q0), (ht.block D (Nat.lt_of_lt_of_le HD.out hb5.size) (fun hm => by have := HwF.out.2 _ hm; omega)).trans ((hb5.block _ HD.out).trans hK)⟩)
  clear q0 q1 hD hD' hW hK hb3
  gi_wp2_with (refine ⟨trivial, ?_⟩; first
    | (gi_at_call 63; with_reducible refine (callsIn_wide.2 (HX.out _ _ H7.out)).mono ?_; rintro e w8 ⟨rfl, h8⟩; have HR := Lib.hid (HZ.out w5 w8 B5.out h8); have H8 := Lib.hid h8; have e0 := (hp_cell (i := 0) HR.out.1).trans rfl; have g0 := hp_free (i := 0) HR.out.1; clear h8)
    | (gi_at_call 81; with_reducible refine (callsIn_wide.2 (HT.out _)).mono ?_; rintro e w7 ⟨rfl, hb7⟩; have H7 := Lib.hid (H6.out.post hb7); clear hb7)
    | (gi_at_call 71; with_reducible refine (callsIn_wide.2 (HS.out _ H5.out)).mono ?_; rintro e w6 ⟨rfl, h6⟩; have H6 := Lib.hid h6; clear h6)
    | (gi_at_call 60; with_reducible refine (callsIn_wide.2 (HK1.out _)).mono ?_; rintro e w5 ⟨rfl, hb5⟩; have hbx := (Below.refl W3.heap.size W3).alloc (Nat.le_refl _) (.cells #[.int .i64 blk, .int .i64 0] 3); have B5 := Lib.hid (hbx.trans (hb5.mono hbx.size)); have H5 := Lib.hid (HQ.out.2.2.1.trans (B5.out.mono HQ.out.2.2.1.size)); clear hb5 hbx))
  have h8 := H8.out
  obtain ⟨r8, k8⟩ := HR.out
  have nD : W.heap.size ≠ D := by have := HnD.out; omega
  obtain ⟨W9, hW9⟩ : ∃ W9, W9 = w8.setCell ⟨W.heap.size, 0, none⟩ (.int .i64 0) := ⟨_, rfl⟩
  have k9 : W9.heap[D]? = some (.deferred (some [])) := by rw [hW9, Below.heap_setCell _ _ _ _ (Ne.symm nD)]; exact k8
  have r9 : W9.heap[W.heap.size]? = some (.cells #[.int .i64 0] 33 (0, 0)) := by rw [hW9]; exact heap_setCell_row r8 (.int .i64 0)
  have t9 : Touch [W.heap.size, D] w8 W9 := by rw [hW9]; exact Touch.setCell _ _ _ (by simp)
  rw [← hW9]
  refine ⟨by simp, .inl ⟨_, _, rfl, run_takeDeferred k9, ?_⟩⟩
  have g9 := ((grownBy_putObj' W9 D (.deferred none)).block _ (hp_lt r9) (fun e => nD (by cases e; rfl))).trans r9
  have e9 := (hp_cell (i := 0) g9).trans rfl
  have tA : Touch [W.heap.size, D] w8 (W9.putObj D (.deferred none)) := t9.trans (fun _ hk => .inl hk) (Touch.grown (grownBy_putObj' W9 D (.deferred none)) (fun k e => by cases e; simp))
  refine ⟨.int .i64 0, by simp [results, Try.results29, go_sem, e9], rfl, ?_⟩
  rw [HE2.out]
  exact h8.own HwF.out.1 HwF.out.2 H5.out [W.heap.size, D] (fun g hg => by
    have h5 := B5.out.size
    have hz := HD.out
    have hn := HnD.out
    rcases List.mem_cons.1 hg with rfl | hg
    · exact ⟨Nat.le_refl _, by omega⟩
    · obtain rfl : g = D := by simpa using hg
      exact ⟨by omega, by omega⟩) tA
end Go.Proofs.Ytedkhpnlhkjjgaa

namespace Go.Proofs.Ytedkhpnlhkjjgaa
open Go.RowKit

def r64 (x y c : Nat) : Nat := (x + 18446744073709551616 - y - c) % 18446744073709551616
def b64 (x y c : Nat) : Nat := if x < y + c then 1 else 0
theorem run_sub64n (x y b : Nat) (hb : b ≤ 1) (w : World) :
    (callFunc 138 #[.int .u64 (x : Nat), .int .u64 (y : Nat), .int .u64 (b : Nat)]).run Try.prog w =
      .ok (.value (.tuple #[.int .u64 (r64 x y b : Nat), .int .u64 (b64 x y b : Nat)])) w := by
  rw [run_callFunc_extern (fn := Try.f138) (by kernel_rfl) (by kernel_rfl) (by kernel_rfl) (by kernel_rfl) (e := fun args => do
    let (x, y, b) ← Extern.MathBitsCarry.three "Sub64" args
    pure (Extern.MathBitsCarry.pair ((x + Extern.MathBitsCarry.m64 - y - b) % Extern.MathBitsCarry.m64) (if x < y + b then 1 else 0))) (by kernel_rfl)]
  have : b = 0 ∨ b = 1 := by omega
  rcases this with rfl | rfl <;> rfl
theorem r64_lt (x y c : Nat) : r64 x y c < 2 ^ 64 := by unfold r64; omega
theorem b64_le (x y c : Nat) : b64 x y c ≤ 1 := by unfold b64; split <;> omega
theorem rb64 (x y c : Nat) (hx : x < 2 ^ 64) (hy : y < 2 ^ 64) (hc : c ≤ 1) : r64 x y c + y + c = x + b64 x y c * 2 ^ 64 := by unfold r64 b64; split <;> omega

/-- what Sub comes to -/
def SubPost (a b : Nat) (w : World) (e : Ending) (w' : World) : Prop :=
  e = .returned (.tuple #[U (if b ≤ a then a - b else 0), .bool (decide (b ≤ a))]) ∧ Below w.heap.size w w'
theorem subPost_yes {a b : Nat} {w w' : World} {e : Ending} (h : b ≤ a) (he : e = .returned (.tuple #[U (a - b), .bool true])) (hw : Below w.heap.size w w') : SubPost a b w e w' := by
  unfold SubPost; rw [if_pos h, decide_eq_true h]; exact ⟨he, hw⟩
theorem subPost_no {a b : Nat} {w w' : World} {e : Ending} (h : ¬ b ≤ a) (he : e = .returned (.tuple #[U 0, .bool false])) (hw : Below w.heap.size w w') : SubPost a b w e w' := by
  unfold SubPost; rw [if_neg h, decide_eq_false h]; exact ⟨he, hw⟩
/-- the state at the head of Sub's loop -/
def SubRel (a b : Nat) (w : World) (c i : Value) (wr : World) : Prop :=
  ∃ (k d : Nat) (f : Nat → Nat), k ≤ 4 ∧ i = .int .i64 (k : Nat) ∧ c = .int .u64 (d : Nat) ∧ d ≤ 1 ∧ (∀ j, f j < 2 ^ 64) ∧
    val f k + val (limb b) k = val (limb a) k + d * 2 ^ (64 * k) ∧
    Arr .u64 wr w.heap.size 4 (limb a) ∧ Arr .u64 wr (w.heap.size + 1) 4 (limb b) ∧ Arr .u64 wr (w.heap.size + 1 + 1) 4 (fun _ => 0) ∧ Arr .u64 wr (w.heap.size + 1 + 1 + 1) 4 f ∧
    Below w.heap.size w wr ∧ w.heap.size + 1 + 1 + 1 < wr.heap.size

set_option maxRecDepth 100000 in
set_option maxHeartbeats 1000000 in
theorem sub_walk (a b : Nat) (w : World) (hal : a < 2 ^ 256) (hbl : b < 2 ^ 256) :
    Calls Try.prog 103 #[U a, U b] w (SubPost a b w) := by
  have hsub := run_sub64n
  unfold U
  go_enter Try.func103, Try.ntmps103
  go_wp2
  go_loopw [7, 9] (SubRel a b w) (fun _ i _ => 4 - (intOf i).toNat)
  case atStart =>
    refine ⟨0, 0, fun _ => 0, by omega, rfl, rfl, by omega, by simp, by simp [val], ?_, ?_, ?_, ?_, ?_, ?_⟩
    · exact (((Arr.new4 (f := limb a) rfl).alloc _).alloc _).alloc _
    · exact ((Arr.new4 (f := limb b) (by simp)).alloc _).alloc _
    · exact (Arr.new4 (f := fun _ => 0) (by simp)).alloc _
    · exact Arr.new4 (f := fun _ => 0) (by simp)
    · exact ((((Below.refl _ _).alloc (Nat.le_refl _) _).alloc (by simp only [World.size_alloc]; omega) _).alloc (by simp only [World.size_alloc]; omega) _).alloc (by simp only [World.size_alloc]; omega) _
    · simp
  case round =>
    obtain ⟨k, d, f, hk, rfl, rfl, hd, hf, hv, ha, hb, hz, hs, hbel, hsz⟩ := hrel
    by_cases hlt : k < 4
    · have a1 := ha.cell k hlt
      have b1 := hb.cell k hlt
      have f1 := hs.free k hlt
      have f2 := hs.cell k hlt
      go_wp2
      go_region_with (fail)
      all_goals
        go_wp2
        go_roundw
        case rel =>
          refine ⟨k + 1, b64 (limb a k) (limb b k) d, upd f k (r64 (limb a k) (limb b k) d), by omega, by go_num, rfl, b64_le _ _ _, upd_lt hf (r64_lt _ _ _), ?_, ?_, ?_, ?_, ?_, ?_, ?_⟩
          · rw [val_upd_succ, pow_succ64]
            have h1 := congrArg (· * 2 ^ (64 * k)) (rb64 (limb a k) (limb b k) d (limb_lt a k) (limb_lt b k) hd)
            simp only [val]
            simp only [Nat.add_mul, Nat.mul_assoc] at h1
            omega
          · exact ha.drew.set_far (by omega)
          · exact hb.drew.set_far (by omega)
          · exact hz.drew.set_far (by omega)
          · exact hs.drew.set hlt
          · exact (below_drewN hbel 1).setCell (by simp; omega) _
          · simp; omega
        case measure => simp [intOf]; omega
    · obtain rfl : k = 4 := by omega
      have f0 := hs.cell 0 (by omega)
      have f1 := hs.cell 1 (by omega)
      have f2 := hs.cell 2 (by omega)
      have f3 := hs.cell 3 (by omega)
      have z0 := hz.cell 0 (by omega)
      have z1 := hz.cell 1 (by omega)
      have z2 := hz.cell 2 (by omega)
      have z3 := hz.cell 3 (by omega)
      have y0 := hz.free 0 (by omega)
      have y1 := hz.free 1 (by omega)
      have y2 := hz.free 2 (by omega)
      have y3 := hz.free 3 (by omega)
      have hv4 : val f 4 + b = a + d * 2 ^ 256 := by rw [val4_limb hal, val4_limb hbl] at hv; exact hv
      have hfl := val_lt 4 (fun i _ => hf i)
      have Hv := Lib.hid hv4
      have Hfl := Lib.hid hfl
      clear hv hv4 hfl
      go_wp2
      · have hd' : (d : Int) ≠ 0 := by simpa using ‹((d : Int) != 0) = true›
        have hge : ¬ b ≤ a := by have := Hv.out; have := Hfl.out; have := Nat.mul_le_mul_right (2 ^ 256) (show 1 ≤ d by omega); omega
        refine bodyPost_ret (v := .tuple #[.agg #[.int .u64 0, .int .u64 0, .int .u64 0, .int .u64 0], .bool false]) (by simp [results, Try.results103, go_sem, z0, z1, z2, z3]) rfl (subPost_no hge (by rw [U_zero]) (below_set4 hbel (by omega)))
      · have hd' : (d : Int) = 0 := by simpa using ‹((d : Int) != 0) = false›
        have hd0 : d = 0 := by omega
        have hlt : b ≤ a := by have := Hv.out; have := Hfl.out; subst hd0; omega
        have hab : a - b = val f 4 := by have := Hv.out; subst hd0; omega
        refine bodyPost_ret (v := .tuple #[.agg #[.int .u64 (f 0 : Nat), .int .u64 (f 1 : Nat), .int .u64 (f 2 : Nat), .int .u64 (f 3 : Nat)], .bool true]) (by simp [results, Try.results103, go_sem, z0, z1, z2, z3]) rfl (subPost_yes hlt (by rw [hab, U_of hf]) (below_set4 hbel (by omega)))
end Go.Proofs.Ytedkhpnlhkjjgaa
