/- due: rows that are none; First, Len, Add on a dead store. -/
import Derived.Test.YtjpikgfplfgcfaaG13
import Derived.Lib.QuietBelow
import Derived.Lib.QuietBelowIn
namespace Go.Proofs.Ytjpikgfplfgcfaa
open Go.RowKit Go.Maps Go.Sort
attribute [local go_sem] Oper.semAt_some

set_option maxRecDepth 100000 in
set_option maxHeartbeats 1000000 in
/-- nothing stands under the key: the body is never called -/
theorem duer_none (P : Option Addr) (K : ByteArray) (l b1 b2 : Nat) (w : World) (h1 : w.cell? ⟨b1, 0, none⟩ = some (.pointer P)) (h2 : w.cell? ⟨b2, 0, none⟩ = some (.string K))
    (HU : Calls Try.prog 30 #[.pointer P, .string K] w fun e w' => (∃ A c, e = .returned (.slice A 0 c)) ∧ Below w.heap.size w w') :
    Calls Try.prog 144 #[.func (.yield l) #[] #[], .pointer (some ⟨b1, 0, none⟩), .pointer (some ⟨b2, 0, none⟩)] w fun e w' => (∃ v, e = .returned v) ∧ Below w.heap.size w w' := by
  have HUs := Lib.hid HU
  clear HU
  go_enter Try.func144, Try.ntmps144
  go_wp2_with (go_at_call 30; refine HUs.out.mono ?_; rintro e w1 ⟨⟨A, c, rfl⟩, hb1⟩; have HF := Lib.hid hb1; clear hb1)
  go_loopw [15] (fun i wr => i = .int .i64 0 ∧ w1 = wr) (fun _ _ => 0)
  case atStart => exact ⟨rfl, rfl⟩
  case round =>
    obtain ⟨rfl, rfl⟩ := hrel
    go_wp2
    go_end0
    exact ⟨⟨_, rfl⟩, HF.out⟩
set_option maxRecDepth 100000 in
set_option maxHeartbeats 1000000 in
theorem rows_walk (P : Option Addr) (K : ByteArray) (w : World) : Calls Try.prog 113 #[.pointer P, .string K] w fun e w' => e = .returned (.func (.func 144) #[] #[.pointer (some ⟨w.heap.size, 0, none⟩), .pointer (some ⟨w.heap.size + 1, 0, none⟩)]) ∧ Below w.heap.size w w' ∧ w'.cell? ⟨w.heap.size, 0, none⟩ = some (.pointer P) ∧ w'.cell? ⟨w.heap.size + 1, 0, none⟩ = some (.string K) ∧ w'.heap.size = w.heap.size + 2 := by
  go_enter Try.func113, Try.ntmps113
  go_wp2
  go_ret
  refine ⟨rfl, ((Below.refl _ _).alloc (Nat.le_refl _) _).alloc (by simp) _, ?_, ?_, by simp⟩
  · rw [World.cell?_alloc_old _ _ _ (by simp)]
    exact (World.cell?_alloc_at _ _ _ _ rfl).trans rfl
  · exact (World.cell?_alloc_at _ _ _ _ (by simp)).trans rfl
theorem key26 : ∃ K, keyStr 26 (fun _ => 0) 0 = K := ⟨_, rfl⟩
set_option maxRecDepth 100000 in
set_option maxHeartbeats 400000 in
theorem duelen_dead (P : Option Addr) (w : World) (h : SDead w (.pointer P)) : Calls Try.prog 66 #[.pointer P] w fun e w' => e = .returned (.int .i64 0) ∧ Below w.heap.size w w' := by
  have HK := Lib.hid (tbl_some 27 w)
  have HD := Lib.hid h
  clear h
  go_enter Try.func66, Try.ntmps66
  go_wp2_with (first
    | (go_at_call 42; refine (cint_dead (.pointer P) K w1 (HD.out.below HB1.out)).mono ?_; rintro e w2 ⟨rfl, hb2⟩; have HB2 := Lib.hid (HB1.out.trans (hb2.mono HB1.out.size)); clear hb2)
    | (go_at_call 114; refine HK.out.mono ?_; rintro e w1 ⟨⟨K, rfl, _⟩, hb1⟩; have HB1 := Lib.hid hb1; clear hb1))
  go_ret
  exact ⟨rfl, HB2.out⟩
theorem run_store_fn {P : Program} {w : World} (a : Addr) (m : Mode) (f : Fn) (x y : Array Value) : (store a (.func f x y) m).run P w = stored P w a (.func f x y) m := run_store P w a _ m rfl
attribute [local go_sem] run_store_fn
set_option maxRecDepth 100000 in
set_option maxHeartbeats 2000000 in
theorem dueadd_dead (P : Option Addr) (blk : Int) (A : Option Addr) (n c : Nat) (w : World) (h : SDead w (.pointer P)) : Calls Try.prog 64 #[.pointer P, .int .i64 blk, .slice A n c] w fun e w' => e = .returned (.int .i64 1) ∧ Below w.heap.size w w' := by
  refine (callsIn_wide (n := 3)).1 ?_
  have h1 : 1 ≤ 3 := by omega
  have hb0 := (Below.refl w.heap.size w).alloc (Nat.le_refl _) (.cells #[.int .i64 0] 45)
  have r0 := heap_alloc_new w (.cells #[.int .i64 0] 45)
  have HM := Lib.hid (made_dead (.pointer P) _ (h.below hb0))
  have HB0 := Lib.hid (And.intro hb0 r0)
  clear h hb0 r0
  refine callsIn_of_wp_marks Try.func64 rfl trivial ?_ rfl
  simp only [Try.ntmps64, List.size_toArray, List.length_cons, List.length_nil, Nat.reduceAdd, Nat.reduceSub, Array.replicate_succ, Array.replicate_zero, List.push_toArray, List.append_toArray, List.nil_append, List.cons_append]
  gi_wp2_with (refine ⟨trivial, ?_⟩; gi_at_call 24; refine (callsIn_wide.2 HM.out).mono ?_; rintro e w2 ⟨rfl, rfl⟩)
  have e0 : (w.alloc (.cells #[.int .i64 1] 45)).cell? ⟨w.heap.size, 0, none⟩ = some (.int .i64 1) := (World.cell?_alloc_at _ _ _ _ rfl).trans rfl
  refine ⟨.int .i64 1, by simp [results, Try.results64, go_sem, e0], rfl, (Below.refl _ _).alloc (Nat.le_refl _) _⟩
set_option maxRecDepth 100000 in
set_option maxHeartbeats 2000000 in
theorem duefirst_none (P : Option Addr) (K : ByteArray) (hK : keyStr 26 (fun _ => 0) 0 = K) (w : World) (HU : ∀ W, Below w.heap.size w W → Calls Try.prog 30 #[.pointer P, .string K] W fun e w' => (∃ A c, e = .returned (.slice A 0 c)) ∧ Below W.heap.size W w') :
    Calls Try.prog 63 #[.pointer P] w fun e w' => e = .returned (.tuple #[.int .i64 0, .bool false]) ∧ Below w.heap.size w w' := by
  refine (callsIn_wide (n := 3)).1 ?_
  have h1 : 1 ≤ 3 := by omega
  have HA := Lib.hid (fun w => rows_walk P K w)
  have HT := Lib.hid (fun w => tbl_is 26 K hK w)
  have HUs := Lib.hid HU
  have hb0 := (((Below.refl w.heap.size w).alloc (Nat.le_refl _) (.cells #[.int .i64 0] 3)).alloc (by simp) (.cells #[.bool false] 4)).alloc (by simp only [World.size_alloc]; omega) (.cells #[.func (.func 112) #[] #[]] 182)
  have r0 : (((w.alloc (.cells #[.int .i64 0] 3)).alloc (.cells #[.bool false] 4)).alloc (.cells #[.func (.func 112) #[] #[]] 182)).heap[w.heap.size]? = some (.cells #[.int .i64 0] 3 (0, 0)) := (heap_alloc_old _ _ (by simp only [World.size_alloc]; omega)).trans ((heap_alloc_old _ _ (by simp only [World.size_alloc]; omega)).trans (heap_alloc_new _ _))
  have r1 : (((w.alloc (.cells #[.int .i64 0] 3)).alloc (.cells #[.bool false] 4)).alloc (.cells #[.func (.func 112) #[] #[]] 182)).heap[w.heap.size + 1]? = some (.cells #[.bool false] 4 (0, 0)) := by
    have h := heap_alloc_new (w.alloc (.cells #[.int .i64 0] 3)) (.cells #[.bool false] 4)
    rw [World.size_alloc] at h
    exact (heap_alloc_old _ _ (by simp only [World.size_alloc]; omega)).trans h
  have HB0 := Lib.hid (And.intro hb0 (And.intro r0 r1))
  clear HU hK hb0 r0 r1
  refine callsIn_of_wp_marks Try.func63 rfl trivial ?_ rfl
  simp only [Try.ntmps63, List.size_toArray, List.length_cons, List.length_nil, Nat.reduceAdd, Nat.reduceSub, Array.replicate_succ, Array.replicate_zero, List.push_toArray, List.append_toArray, List.nil_append, List.cons_append]
  gi_wp2_with (refine ⟨trivial, ?_⟩; first | (gi_at_call 113; refine (callsIn_wide.2 (HA.out _)).mono ?_; rintro e w2 ⟨rfl, hb, hc1, hc2, hz⟩) | (gi_at_call 114; refine (callsIn_wide.2 (HT.out _)).mono ?_; rintro e w1 ⟨rfl, hb1⟩))
  obtain ⟨hb0, r0, r1⟩ := HB0.out
  have hb2 := (hb0.trans (hb1.mono hb0.size)).trans (hb.mono (Nat.le_trans hb0.size hb1.size))
  have q0 := (hb.block _ (Nat.lt_of_lt_of_le (hp_lt r0) hb1.size)).trans ((hb1.block _ (hp_lt r0)).trans r0)
  have q1 := (hb.block _ (Nat.lt_of_lt_of_le (hp_lt r1) hb1.size)).trans ((hb1.block _ (hp_lt r1)).trans r1)
  have HS := Lib.hid (And.intro hb2 (And.intro q0 q1))
  refine wpIn_rangeFunc_dead h1 rfl (enters_of Try.func144 (by kernel_rfl) rfl) (fun l W hW => duer_none P K l _ _ W ((hW.cell (by rw [hz]; show _ < _; simp only []; omega)).trans hc1) ((hW.cell (by rw [hz]; show _ < _; simp only []; omega)).trans hc2) (HUs.out W (HS.out.1.trans (hW.mono HS.out.1.size)))) ?_
  clear hb hc1 hc2 hz hb2 q0 q1 hb0 r0 r1 hb1
  rintro D W hD hW hK
  have q0 := (hW.block _ (hp_lt HS.out.2.1)).trans HS.out.2.1
  have q1 := (hW.block _ (hp_lt HS.out.2.2)).trans HS.out.2.2
  have HQ := Lib.hid (And.intro q0 (And.intro q1 (And.intro hD (And.intro hW hK))))
  have c0 := (hp_cell (i := 0) q0).trans rfl
  have c1 := (hp_cell (i := 0) q1).trans rfl
  have f0 := hp_free (i := 0) q0
  have f1 := hp_free (i := 0) q1
  clear q0 q1 hD hW hK
  gi_wp2
  obtain ⟨q0, q1, hD, hW, hK⟩ := HQ.out
  have n0 : w.heap.size ≠ D := fun e => by have := hp_lt HS.out.2.1; omega
  have n1 : w.heap.size + 1 ≠ D := fun e => by have := hp_lt HS.out.2.2; omega
  obtain ⟨W5, hW5⟩ : ∃ W5, W5 = (W.setCell ⟨w.heap.size, 0, none⟩ (.int .i64 0)).setCell ⟨w.heap.size + 1, 0, none⟩ (.bool false) := ⟨_, rfl⟩
  have k5 : W5.heap[D]? = some (.deferred (some [])) := by rw [hW5, Below.heap_setCell _ _ _ _ (Ne.symm n1), Below.heap_setCell _ _ _ _ (Ne.symm n0)]; exact hK
  have b5 : Below w.heap.size w W5 := by rw [hW5]; exact ((HS.out.1.trans (hW.mono HS.out.1.size)).setCell (Nat.le_refl _) _).setCell (Nat.le_succ _) _
  have p0 : W5.heap[w.heap.size]? = some (.cells #[.int .i64 0] 3 (0, 0)) := by rw [hW5, Below.heap_setCell _ _ _ _ (by simp)]; exact heap_setCell_row q0 (.int .i64 0)
  have p1 : W5.heap[w.heap.size + 1]? = some (.cells #[.bool false] 4 (0, 0)) := by
    rw [hW5]
    refine heap_setCell_row ?_ (.bool false) (cur := #[.bool false])
    rw [Below.heap_setCell _ _ _ _ (by simp)]
    exact q1
  rw [← hW5]
  clear hW5 hW hK q0 q1
  refine ⟨by simp, .inl ⟨_, _, rfl, run_takeDeferred k5, ?_⟩⟩
  have g0 := ((grownBy_putObj' W5 D (.deferred none)).block _ (hp_lt p0) (fun e => n0 (by cases e; rfl))).trans p0
  have g1 := ((grownBy_putObj' W5 D (.deferred none)).block _ (hp_lt p1) (fun e => n1 (by cases e; rfl))).trans p1
  have e0 := (hp_cell (i := 0) g0).trans rfl
  have e1 := (hp_cell (i := 0) g1).trans rfl
  exact ⟨.tuple #[.int .i64 0, .bool false], by simp [results, Try.results63, go_sem, e0, e1], rfl, b5.trans (belowK_b (w := w) (Nat.le_refl _) W5 D _ _ (Nat.le_trans HS.out.1.size hD) k5 rfl rfl)⟩
/-- on a dead store -/
theorem duefirst_dead (P : Option Addr) (w : World) (h : SDead w (.pointer P)) : Calls Try.prog 63 #[.pointer P] w fun e w' => e = .returned (.tuple #[.int .i64 0, .bool false]) ∧ Below w.heap.size w w' :=
  duefirst_none P _ rfl w fun W hb => (under_dead (.pointer P) _ W (h.below hb)).mono fun e w' hh => ⟨⟨none, 0, hh.1⟩, by rw [← hh.2]; exact Below.refl _ _⟩
end Go.Proofs.Ytjpikgfplfgcfaa

namespace Go.Proofs.Ytjpikgfplfgcfaa
open Go.RowKit Go.Maps Go.Sort
attribute [local go_sem] Oper.semAt_some
attribute [local go_sem] run_store_fn

set_option maxRecDepth 100000 in
set_option maxHeartbeats 2000000 in
theorem duetake_none (P : Option Addr) (blk : Int) (K : ByteArray) (hK : keyStr 26 (fun _ => 0) 0 = K) (w : World) (HU : ∀ W, Below w.heap.size w W → Calls Try.prog 30 #[.pointer P, .string K] W fun e w' => (∃ A c, e = .returned (.slice A 0 c)) ∧ Below W.heap.size W w') :
    Calls Try.prog 65 #[.pointer P, .int .i64 blk] w fun e w' => e = .returned (.slice none 0 0) ∧ Below w.heap.size w w' := by
  refine (callsIn_wide (n := 3)).1 ?_
  have h1 : 1 ≤ 3 := by omega
  have HA := Lib.hid (fun w => rows_walk P K w)
  have HT := Lib.hid (fun w => tbl_is 26 K hK w)
  have HUs := Lib.hid HU
  obtain ⟨W0, hW0⟩ : ∃ W0, W0 = (((w.alloc (.cells #[.pointer P] 25)).alloc (.cells #[.int .i64 blk] 3)).alloc (.cells #[.slice none 0 0] 99)).alloc (.cells #[.func (.func 112) #[] #[]] 182) := ⟨_, rfl⟩
  have hb0 : Below w.heap.size w W0 := by rw [hW0]; exact ((((Below.refl _ _).alloc (Nat.le_refl _) _).alloc (by simp only [World.size_alloc]; omega) _).alloc (by simp only [World.size_alloc]; omega) _).alloc (by simp only [World.size_alloc]; omega) _
  have r0 : W0.heap[w.heap.size]? = some (.cells #[.pointer P] 25 (0, 0)) := by
    rw [hW0]; exact (heap_alloc_old _ _ (by simp only [World.size_alloc]; omega)).trans ((heap_alloc_old _ _ (by simp only [World.size_alloc]; omega)).trans ((heap_alloc_old _ _ (by simp only [World.size_alloc]; omega)).trans (heap_alloc_new _ _)))
  have r2 : W0.heap[w.heap.size + 1 + 1]? = some (.cells #[.slice none 0 0] 99 (0, 0)) := by
    have h := heap_alloc_new ((w.alloc (.cells #[.pointer P] 25)).alloc (.cells #[.int .i64 blk] 3)) (.cells #[.slice none 0 0] 99)
    rw [World.size_alloc, World.size_alloc] at h
    rw [hW0]; exact (heap_alloc_old _ _ (by simp only [World.size_alloc]; omega)).trans h
  have HB0 := Lib.hid (And.intro hb0 (And.intro r0 r2))
  have HC := Lib.hid (fun (W1 : World) (hb : Below W0.drew.heap.size W0.drew W1) => (hp_cell (i := 0) ((hb.block w.heap.size (hp_lt r0)).trans r0)).trans rfl)
  have c0 := (hp_cell (i := 0) r0).trans rfl
  have HW := Lib.hid hW0
  clear HU hK hb0 r0 r2 hW0
  refine callsIn_of_wp_marks Try.func65 rfl trivial ?_ rfl
  simp only [Try.ntmps65, List.size_toArray, List.length_cons, List.length_nil, Nat.reduceAdd, Nat.reduceSub, Array.replicate_succ, Array.replicate_zero, List.push_toArray, List.append_toArray, List.nil_append, List.cons_append]
  have hmix : Try.prog.follows .mixedOrders = true := by kernel_rfl
  gi_wp2
  rw [← HW.out]
  clear HW
  gi_region_with_o (refine ⟨trivial, ?_⟩; first | (gi_at_call 113; refine (callsIn_wide.2 (HA.out _)).mono ?_; rintro e w2 ⟨rfl, hb, hc1, hc2, hz⟩) | (gi_at_call 114; refine (callsIn_wide.2 (HT.out _)).mono ?_; rintro e w1 ⟨rfl, hb1⟩; have cc := HC.out _ hb1))
  all_goals
    gi_wp2
    obtain ⟨hb0, r0, r2⟩ := HB0.out
    have hbd : Below W0.heap.size W0 W0.drew := (Below.refl _ _).drew
    have hb2 := ((hb0.trans (hbd.mono hb0.size)).trans (hb1.mono hb0.size)).trans (hb.mono (Nat.le_trans hb0.size hb1.size))
    have q2 := (hb.block _ (Nat.lt_of_lt_of_le (hp_lt r2) hb1.size)).trans ((hb1.block _ (hp_lt r2)).trans r2)
    have HS := Lib.hid (And.intro hb2 q2)
    refine wpIn_rangeFunc_dead h1 rfl (enters_of Try.func144 (by kernel_rfl) rfl) (fun l W hW => duer_none P K l _ _ W ((hW.cell (by rw [hz]; show _ < _; simp only []; omega)).trans hc1) ((hW.cell (by rw [hz]; show _ < _; simp only []; omega)).trans hc2) (HUs.out W (HS.out.1.trans (hW.mono HS.out.1.size)))) ?_
    clear hb hc1 hc2 hz hb2 q2 hb0 r0 r2 hb1 hbd
    rintro D W hD hW hK
    have q2 := (hW.block _ (hp_lt HS.out.2)).trans HS.out.2
    have HQ := Lib.hid (And.intro hD (And.intro hW hK))
    have c2 := (hp_cell (i := 0) q2).trans rfl
    clear q2 hD hW hK
    gi_wp2
    obtain ⟨hD, hW, hK⟩ := HQ.out
    refine ⟨by simp, .inl ⟨_, _, rfl, run_takeDeferred hK, ?_⟩⟩
    exact ⟨_, results_tmp rfl _ _ _, rfl, (HS.out.1.trans (hW.mono HS.out.1.size)).trans (belowK_b (w := w) (Nat.le_refl _) W D _ _ (Nat.le_trans HS.out.1.size hD) hK rfl rfl)⟩
/-- on a dead store -/
theorem duetake_dead (P : Option Addr) (blk : Int) (w : World) (h : SDead w (.pointer P)) : Calls Try.prog 65 #[.pointer P, .int .i64 blk] w fun e w' => e = .returned (.slice none 0 0) ∧ Below w.heap.size w w' :=
  duetake_none P blk _ rfl w fun W hb => (under_dead (.pointer P) _ W (h.below hb)).mono fun e w' hh => ⟨⟨none, 0, hh.1⟩, by rw [← hh.2]; exact Below.refl _ _⟩
end Go.Proofs.Ytjpikgfplfgcfaa

namespace Go.Proofs.Ytjpikgfplfgcfaa
open Go.RowKit Go.Maps Go.Sort

theorem dsidx0 (a b : Value) (w : World) : (Instr.index 55 (.agg #[a, b]) (.int .i64 0)).run Try.prog w = .ok a w := by kernel_rfl
theorem dsidx1 (a b : Value) (w : World) : (Instr.index 55 (.agg #[a, b]) (.int .i64 1)).run Try.prog w = .ok b w := by kernel_rfl
set_option maxRecDepth 100000 in
set_option maxHeartbeats 1000000 in
theorem light13_walk (g : Nat) (p : Bool) (bk : Int) (A : Option Addr) (n c : Nat) (w : World) (hr : w.heap[g]? = some (.cells #[.bool p, .int .i64 bk, .slice A n c] 103 (0, 0))) (hn : (n : Int) ≤ 9223372036854775807) :
    Calls Try.prog 61 #[.slice (some ⟨g, 0, none⟩) 1 1] w fun e w' => e = .returned (.bool (decide (n ≤ 10))) ∧ Below w.heap.size w w' := by
  obtain ⟨B, hB⟩ : ∃ B, B = decide (n ≤ 10) := ⟨_, rfl⟩
  rw [← hB]
  have HBe := Lib.hid hB
  have HR := Lib.hid hr
  clear hB hr
  go_enter Try.func61, Try.ntmps61
  go_wp2
  go_loopw [10] (fun i wr => ∃ j : Nat, j ≤ 1 ∧ i = .int .i64 (j : Nat) ∧ Below w.heap.size w wr ∧ (j = 1 → n ≤ 10)) (fun i _ => 1 - (intOf i).toNat)
  case atStart => exact ⟨0, by omega, rfl, Below.refl _ _, fun h => by omega⟩
  case round =>
    obtain ⟨j, hj, rfl, hb, h5⟩ := hrel
    have HB := Lib.hid hb
    have H5 := Lib.hid h5
    have rr := (hb.block g (hp_lt HR.out)).trans HR.out
    have c0 := (hp_cell (i := 0) rr).trans rfl
    have c1 := (hp_cell (i := 1) rr).trans rfl
    have c2 := (hp_cell (i := 2) rr).trans rfl
    clear hb h5 rr
    rcases (by omega : j = 0 ∨ j = 1) with rfl | rfl
    · by_cases hn5 : n ≤ 10
      · have p1 : ¬ (10 : Int) < (n : Int) := by omega
        go_wp2
        exact ⟨⟨1, by omega, rfl, HB.out.alloc HB.out.size _, fun _ => hn5⟩, by simp [intOf]⟩
      · have p1 : (10 : Int) < (n : Int) := by omega
        have e0 : B = false := by rw [HBe.out]; exact decide_eq_false hn5
        subst e0
        go_wp2
        go_ret
        exact ⟨rfl, HB.out.alloc HB.out.size _⟩
    · have e0 : B = true := by rw [HBe.out]; exact decide_eq_true (H5.out rfl)
      subst e0
      go_wp2
      go_ret
      exact ⟨rfl, HB.out⟩
/-- the law's world: its box -/
structure DUAt (W w : World) (p : Bool) (bk : Int) (A : Option Addr) (n c : Nat) : Prop where
  bl : Below W.heap.size W w
  r : w.heap[W.heap.size]? = some (.cells #[.bool p, .int .i64 bk, .slice A n c] 103 (0, 0))
theorem DUAt.step {W w w' : World} {p : Bool} {bk : Int} {A : Option Addr} {n c : Nat} (h : DUAt W w p bk A n c) (hb : Below w.heap.size w w') : DUAt W w' p bk A n c :=
  ⟨h.bl.trans (hb.mono h.bl.size), (hb.block _ (hp_lt h.r)).trans h.r⟩
set_option maxRecDepth 100000 in
set_option maxHeartbeats 4000000 in
theorem dueNone_walk (HL : ∀ w, Calls Try.prog 62 #[] w fun e w' => e = .returned (.bool true) ∧ Below w.heap.size w w') (p : Bool) (bk : Int) (A : Option Addr) (n c : Nat) (w : World) (hn : (n : Int) ≤ 9223372036854775807) : Calls Try.prog 11 #[.agg #[.bool p, .int .i64 bk, .slice A n c]] w fun e w' => e = .returned (.bool true) ∧ Below w.heap.size w w' := by
  have hx0 := dsidx0
  have hx1 := dsidx1
  have HLs := Lib.hid HL
  have h0 : DUAt w ((w.alloc (.cells #[.bool p, .int .i64 bk, .slice A n c] 103)).alloc (.cells #[.bool p, .int .i64 bk, .slice A n c] 103)) p bk A n c :=
    ⟨((Below.refl w.heap.size w).alloc (Nat.le_refl _) _).alloc (by simp) _, (heap_alloc_old _ _ (by simp)).trans (heap_alloc_new _ _)⟩
  have HLt := Lib.hid (light13_walk (w.heap.size + 1) p bk A n c ((w.alloc (.cells #[.bool p, .int .i64 bk, .slice A n c] 103)).alloc (.cells #[.bool p, .int .i64 bk, .slice A n c] 103)) (by have := heap_alloc_new (w.alloc (.cells #[.bool p, .int .i64 bk, .slice A n c] 103)) (.cells #[.bool p, .int .i64 bk, .slice A n c] 103); simpa using this) hn)
  have H0 := Lib.hid h0
  clear h0 hn HL
  by_cases hn5 : n ≤ 10
  · rw [decide_eq_true hn5] at HLt
    clear hn5
    go_enter Try.func11, Try.ntmps11
    go_wp2_with (go_at_call 61; refine HLt.out.mono ?_; rintro e w2 ⟨rfl, hb2⟩; have H2 := Lib.hid (H0.out.step hb2); clear hb2)
    have H3 := Lib.hid (H2.out.step ((Below.refl w2.heap.size w2).alloc (Nat.le_refl _) (.cells #[.map none, .slice none 0 0, .slice none 0 0] 54)))
    have hz : SDead (w2.alloc (.cells #[.map none, .slice none 0 0, .slice none 0 0] 54)) (.pointer (some ⟨w2.heap.size, 0, none⟩)) := .inr ⟨_, rfl, by simp, by simp⟩
    have HZ := Lib.hid hz
    clear hz
    go_loopw [14] (fun i wr => ∃ j : Nat, j ≤ 2 ∧ i = .int .i64 (j : Nat) ∧ DUAt w wr p bk A n c ∧ SDead wr (.pointer (some ⟨w2.heap.size, 0, none⟩))) (fun i _ => 2 - (intOf i).toNat)
    case atStart => exact ⟨0, by omega, rfl, H3.out, HZ.out⟩
    case round =>
      obtain ⟨j, hj, rfl, hd, hz⟩ := hrel
      have HN := Lib.hid hd
      have HZ2 := Lib.hid hz
      clear hd hz
      by_cases h2 : j < 2
      · have p1 : (j : Int) < 2 := by omega
        rcases (by omega : j = 0 ∨ j = 1) with rfl | rfl
        · have N0 := Lib.hid (And.intro HN.out (And.intro (show SDead wr (.pointer none) from .inl rfl) HZ2.out))
          go_wp2_with (first
            | (go_at_call 66; have g5 := N3; clear g5; with_reducible refine (duelen_dead (none : Option Addr) _ N3.out.2.1).mono ?_; rintro e w8 ⟨rfl, hb8⟩; have N4 := Lib.hid (And.intro (N3.out.1.step hb8) (And.intro (N3.out.2.1.below hb8) (N3.out.2.2.below hb8))); clear hb8)
            | (go_at_call 65; have g5 := N2; clear g5; with_reducible refine (duetake_dead (none : Option Addr) bk _ N2.out.2.1).mono ?_; rintro e w7 ⟨rfl, hb7⟩; have N3 := Lib.hid (And.intro (N2.out.1.step hb7) (And.intro (N2.out.2.1.below hb7) (N2.out.2.2.below hb7))); clear hb7)
            | (go_at_call 64; have g5 := N1; clear g5; with_reducible refine (dueadd_dead (none : Option Addr) bk A n c _ N1.out.2.1).mono ?_; rintro e w6 ⟨rfl, hb6⟩; have N2 := Lib.hid (And.intro (N1.out.1.step hb6) (And.intro (N1.out.2.1.below hb6) (N1.out.2.2.below hb6))); have c0 := (hp_cell (i := 0) N2.out.1.r).trans rfl; have c1 := (hp_cell (i := 1) N2.out.1.r).trans rfl; have c2 := (hp_cell (i := 2) N2.out.1.r).trans rfl; clear hb6)
            | (go_at_call 63; with_reducible refine (duefirst_dead (none : Option Addr) _ N0.out.2.1).mono ?_; rintro e w5 ⟨rfl, hb5⟩; have N1 := Lib.hid (And.intro (N0.out.1.step hb5) (And.intro (N0.out.2.1.below hb5) (N0.out.2.2.below hb5))); have c0 := (hp_cell (i := 0) N1.out.1.r).trans rfl; have c1 := (hp_cell (i := 1) N1.out.1.r).trans rfl; have c2 := (hp_cell (i := 2) N1.out.1.r).trans rfl; clear hb5))
          exact ⟨⟨1, by omega, rfl, N4.out.1, N4.out.2.2⟩, by simp [intOf]⟩
        · have N0 := Lib.hid (And.intro HN.out (And.intro HZ2.out HZ2.out))
          go_wp2_with (first
            | (go_at_call 66; have g5 := N3; clear g5; with_reducible refine (duelen_dead (some ⟨w2.heap.size, 0, none⟩ : Option Addr) _ N3.out.2.1).mono ?_; rintro e w8 ⟨rfl, hb8⟩; have N4 := Lib.hid (And.intro (N3.out.1.step hb8) (And.intro (N3.out.2.1.below hb8) (N3.out.2.2.below hb8))); clear hb8)
            | (go_at_call 65; have g5 := N2; clear g5; with_reducible refine (duetake_dead (some ⟨w2.heap.size, 0, none⟩ : Option Addr) bk _ N2.out.2.1).mono ?_; rintro e w7 ⟨rfl, hb7⟩; have N3 := Lib.hid (And.intro (N2.out.1.step hb7) (And.intro (N2.out.2.1.below hb7) (N2.out.2.2.below hb7))); clear hb7)
            | (go_at_call 64; have g5 := N1; clear g5; with_reducible refine (dueadd_dead (some ⟨w2.heap.size, 0, none⟩ : Option Addr) bk A n c _ N1.out.2.1).mono ?_; rintro e w6 ⟨rfl, hb6⟩; have N2 := Lib.hid (And.intro (N1.out.1.step hb6) (And.intro (N1.out.2.1.below hb6) (N1.out.2.2.below hb6))); have c0 := (hp_cell (i := 0) N2.out.1.r).trans rfl; have c1 := (hp_cell (i := 1) N2.out.1.r).trans rfl; have c2 := (hp_cell (i := 2) N2.out.1.r).trans rfl; clear hb6)
            | (go_at_call 63; with_reducible refine (duefirst_dead (some ⟨w2.heap.size, 0, none⟩ : Option Addr) _ N0.out.2.1).mono ?_; rintro e w5 ⟨rfl, hb5⟩; have N1 := Lib.hid (And.intro (N0.out.1.step hb5) (And.intro (N0.out.2.1.below hb5) (N0.out.2.2.below hb5))); have c0 := (hp_cell (i := 0) N1.out.1.r).trans rfl; have c1 := (hp_cell (i := 1) N1.out.1.r).trans rfl; have c2 := (hp_cell (i := 2) N1.out.1.r).trans rfl; clear hb5))
          exact ⟨⟨2, by omega, rfl, N4.out.1, N4.out.2.2⟩, by simp [intOf]⟩
      · have p1 : ¬ (j : Int) < 2 := by omega
        go_wp2_with (go_at_call 62; refine (HLs.out _).mono ?_; rintro e w9 ⟨rfl, hb9⟩; have HB9 := Lib.hid hb9; clear hb9)
        go_ret
        exact ⟨rfl, HN.out.bl.trans (HB9.out.mono HN.out.bl.size)⟩
  · rw [decide_eq_false hn5] at HLt
    go_enter Try.func11, Try.ntmps11
    go_wp2_with (first
      | (go_at_call 62; refine (HLs.out _).mono ?_; rintro e w9 ⟨rfl, hb9⟩; have HB9 := Lib.hid hb9; clear hb9)
      | (go_at_call 61; refine HLt.out.mono ?_; rintro e w2 ⟨rfl, hb2⟩; have H2 := Lib.hid (H0.out.step hb2); clear hb2))
    go_ret
    exact ⟨rfl, H2.out.bl.trans (HB9.out.mono H2.out.bl.size)⟩
end Go.Proofs.Ytjpikgfplfgcfaa
