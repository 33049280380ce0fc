/- A range over a function that calls its body never: the law. No program's functions. -/
import Derived.Test.YtedkhpnlhkjjgaaG13
import Derived.Test.YtedkhpnlhkjjgaaG19
import Derived.RangeFuncNested
import Derived.RangeFuncBound
import Derived.RangeFuncCalls
import Derived.RangeFuncLeaves
import Derived.RangeFuncFrom
import Derived.Shelf.Abstract
import Derived.Shelf.RegionOpen
import Derived.WalkKit
import Derived.OwnWalkIn
import Derived.TacticsInMore
import Derived.LoopNIn
import Derived.LoopIn
import Derived.Lib.QuietBelow
import Derived.Lib.QuietBelowIn
namespace Go.Proofs.Ytedkhpnlhkjjgaa
open Go.RowKit

theorem grown_of_below {w w' : World} (h : Below w.heap.size w w') : w.grownBy w' none := ⟨h.os, h.tape, h.output, h.size, fun k hk _ => h.block k hk⟩
theorem wpIn_rangeFunc_dead {P : Program} {n : Nat} {g : Operand} {ps : Array Tmp} {assign body : Code} {Q : Exit → Act → World → Prop} {a : Act} {w : World} (h1 : 1 ≤ n) {gf : Nat} {lb : Array Value}
    (hg : a.eval g = .func (.func gf) #[] lb) (eg : ∀ args w, (callFunc gf args).run P w = .ok (.enter gf args) w)
    (hc : ∀ (l : Nat) (W : World), Below w.heap.size w W → Calls P gf (#[.func (.yield l) #[] #[]] ++ lb) W fun e W' => (∃ v, e = .returned v) ∧ Below W.heap.size W W')
    (hdone : ∀ (D : Nat) (W : World), w.heap.size ≤ D → Below w.heap.size w W → W.heap[D]? = some (.deferred (some [])) → Q .normal { a with defers := { target := .collected D, args := #[] } :: a.defers } W) :
    (Code.rangeFunc g ps assign body).wpIn Fence.wide n P Q a w := by
  refine wpIn_rangeFunc_ownF (α := Empty) (F := Fence.wide) rfl h1 hg trivial eg (encs := fun x => x.elim) (Kp := Below w.heap.size) (S := fun _ => True) (Sp := fun _ => False) (N := 0) (w0 := w) ?seq belowK_t (belowK_b (Nat.le_refl _)) (Below.refl _ _) (fun x => x.elim)
    (fun _ W => Below w.heap.size w W) (fun _ _ _ => False) (ownFrom_below (Nat.le_refl _) (Nat.le_refl _)) (fun _ _ _ _ _ h _ _ => h) (Below.refl _ _) (fun x => x.elim) (fun l x => x.elim) (fun l pre x => x.elim) (fun D xs W hD _ hI hK => hdone D W hD hI hK) (fun _ _ _ _ _ h => h.elim)
  case seq =>
    intro l J Jx W hW hJ hJx hY h0
    refine callsIn_wide.2 ((hc l W hW).mono ?_)
    rintro e W' ⟨hv, hb⟩
    exact ⟨hv, .inl ⟨[], trivial, hJ [] W W' none h0 (grown_of_below hb) (fun r e => by cases e)⟩⟩
end Go.Proofs.Ytedkhpnlhkjjgaa

namespace Go.Proofs.Ytedkhpnlhkjjgaa
open Go.RowKit Go.Maps Go.Sort
attribute [local go_sem] Oper.semAt_some

set_option maxRecDepth 100000 in
set_option maxHeartbeats 1000000 in
/-- nothing stands under the key: the body is never called -/
theorem duer_none (P : Option Addr) (K : ByteArray) (l b1 b2 : Nat) (w : World) (h1 : w.cell? ⟨b1, 0, none⟩ = some (.pointer P)) (h2 : w.cell? ⟨b2, 0, none⟩ = some (.string K))
    (HU : Calls Try.prog 124 #[.pointer P, .string K] w fun e w' => (∃ A c, e = .returned (.slice A 0 c)) ∧ Below w.heap.size w w') :
    Calls Try.prog 123 #[.func (.yield l) #[] #[], .pointer (some ⟨b1, 0, none⟩), .pointer (some ⟨b2, 0, none⟩)] w fun e w' => (∃ v, e = .returned v) ∧ Below w.heap.size w w' := by
  have HUs := Lib.hid HU
  clear HU
  go_enter Try.func123, Try.ntmps123
  go_wp2_with (go_at_call 124; refine HUs.out.mono ?_; rintro e w1 ⟨⟨A, c, rfl⟩, hb1⟩; have HF := Lib.hid hb1; clear hb1)
  go_loopw [15] (fun i wr => i = .int .i64 0 ∧ w1 = wr) (fun _ _ => 0)
  case atStart => exact ⟨rfl, rfl⟩
  case round =>
    obtain ⟨rfl, rfl⟩ := hrel
    go_wp2
    go_end0
    exact ⟨⟨_, rfl⟩, HF.out⟩
set_option maxRecDepth 100000 in
set_option maxHeartbeats 1000000 in
theorem rows_walk (P : Option Addr) (K : ByteArray) (w : World) : Calls Try.prog 80 #[.pointer P, .string K] w fun e w' => e = .returned (.func (.func 123) #[] #[.pointer (some ⟨w.heap.size, 0, none⟩), .pointer (some ⟨w.heap.size + 1, 0, none⟩)]) ∧ Below w.heap.size w w' ∧ w'.cell? ⟨w.heap.size, 0, none⟩ = some (.pointer P) ∧ w'.cell? ⟨w.heap.size + 1, 0, none⟩ = some (.string K) ∧ w'.heap.size = w.heap.size + 2 := by
  go_enter Try.func80, Try.ntmps80
  go_wp2
  go_ret
  refine ⟨rfl, ((Below.refl _ _).alloc (Nat.le_refl _) _).alloc (by simp) _, ?_, ?_, by simp⟩
  · rw [World.cell?_alloc_old _ _ _ (by simp)]
    exact (World.cell?_alloc_at _ _ _ _ rfl).trans rfl
  · exact (World.cell?_alloc_at _ _ _ _ (by simp)).trans rfl
theorem key26 : ∃ K, keyStr 26 (fun _ => 0) 0 = K := ⟨_, rfl⟩
set_option maxRecDepth 100000 in
set_option maxHeartbeats 400000 in
theorem duelen_dead (P : Option Addr) (w : World) (h : SDead w (.pointer P)) : Calls Try.prog 31 #[.pointer P] w fun e w' => e = .returned (.int .i64 0) ∧ Below w.heap.size w w' := by
  have HK := Lib.hid (tbl_some 27 w)
  have HD := Lib.hid h
  clear h
  go_enter Try.func31, Try.ntmps31
  go_wp2_with (first
    | (go_at_call 61; refine (cint_dead (.pointer P) K w1 (HD.out.below HB1.out)).mono ?_; rintro e w2 ⟨rfl, hb2⟩; have HB2 := Lib.hid (HB1.out.trans (hb2.mono HB1.out.size)); clear hb2)
    | (go_at_call 81; refine HK.out.mono ?_; rintro e w1 ⟨⟨K, rfl, _⟩, hb1⟩; have HB1 := Lib.hid hb1; clear hb1))
  go_ret
  exact ⟨rfl, HB2.out⟩
theorem run_store_fn {P : Program} {w : World} (a : Addr) (m : Mode) (f : Fn) (x y : Array Value) : (store a (.func f x y) m).run P w = stored P w a (.func f x y) m := run_store P w a _ m rfl
attribute [local go_sem] run_store_fn
set_option maxRecDepth 100000 in
set_option maxHeartbeats 2000000 in
theorem dueadd_dead (P : Option Addr) (blk : Int) (A : Option Addr) (n c : Nat) (w : World) (h : SDead w (.pointer P)) : Calls Try.prog 29 #[.pointer P, .int .i64 blk, .slice A n c] w fun e w' => e = .returned (.int .i64 1) ∧ Below w.heap.size w w' := by
  refine (callsIn_wide (n := 3)).1 ?_
  have h1 : 1 ≤ 3 := by omega
  have hb0 := (Below.refl w.heap.size w).alloc (Nat.le_refl _) (.cells #[.int .i64 0] 33)
  have r0 := heap_alloc_new w (.cells #[.int .i64 0] 33)
  have HM := Lib.hid (made_dead (.pointer P) _ (h.below hb0))
  have HB0 := Lib.hid (And.intro hb0 r0)
  clear h hb0 r0
  refine callsIn_of_wp_marks Try.func29 rfl trivial ?_ rfl
  simp only [Try.ntmps29, List.size_toArray, List.length_cons, List.length_nil, Nat.reduceAdd, Nat.reduceSub, Array.replicate_succ, Array.replicate_zero, List.push_toArray, List.append_toArray, List.nil_append, List.cons_append]
  gi_wp2_with (refine ⟨trivial, ?_⟩; gi_at_call 27; refine (callsIn_wide.2 HM.out).mono ?_; rintro e w2 ⟨rfl, rfl⟩)
  have e0 : (w.alloc (.cells #[.int .i64 1] 33)).cell? ⟨w.heap.size, 0, none⟩ = some (.int .i64 1) := (World.cell?_alloc_at _ _ _ _ rfl).trans rfl
  refine ⟨.int .i64 1, by simp [results, Try.results29, go_sem, e0], rfl, (Below.refl _ _).alloc (Nat.le_refl _) _⟩
set_option maxRecDepth 100000 in
set_option maxHeartbeats 2000000 in
theorem duefirst_none (P : Option Addr) (K : ByteArray) (hK : keyStr 26 (fun _ => 0) 0 = K) (w : World) (HU : ∀ W, Below w.heap.size w W → Calls Try.prog 124 #[.pointer P, .string K] W fun e w' => (∃ A c, e = .returned (.slice A 0 c)) ∧ Below W.heap.size W w') :
    Calls Try.prog 78 #[.pointer P] w fun e w' => e = .returned (.tuple #[.int .i64 0, .bool false]) ∧ Below w.heap.size w w' := by
  refine (callsIn_wide (n := 3)).1 ?_
  have h1 : 1 ≤ 3 := by omega
  have HA := Lib.hid (fun w => rows_walk P K w)
  have HT := Lib.hid (fun w => tbl_is 26 K hK w)
  have HUs := Lib.hid HU
  have hb0 := (((Below.refl w.heap.size w).alloc (Nat.le_refl _) (.cells #[.int .i64 0] 3)).alloc (by simp) (.cells #[.bool false] 4)).alloc (by simp only [World.size_alloc]; omega) (.cells #[.func (.func 79) #[] #[]] 127)
  have r0 : (((w.alloc (.cells #[.int .i64 0] 3)).alloc (.cells #[.bool false] 4)).alloc (.cells #[.func (.func 79) #[] #[]] 127)).heap[w.heap.size]? = some (.cells #[.int .i64 0] 3 (0, 0)) := (heap_alloc_old _ _ (by simp only [World.size_alloc]; omega)).trans ((heap_alloc_old _ _ (by simp only [World.size_alloc]; omega)).trans (heap_alloc_new _ _))
  have r1 : (((w.alloc (.cells #[.int .i64 0] 3)).alloc (.cells #[.bool false] 4)).alloc (.cells #[.func (.func 79) #[] #[]] 127)).heap[w.heap.size + 1]? = some (.cells #[.bool false] 4 (0, 0)) := by
    have h := heap_alloc_new (w.alloc (.cells #[.int .i64 0] 3)) (.cells #[.bool false] 4)
    rw [World.size_alloc] at h
    exact (heap_alloc_old _ _ (by simp only [World.size_alloc]; omega)).trans h
  have HB0 := Lib.hid (And.intro hb0 (And.intro r0 r1))
  clear HU hK hb0 r0 r1
  refine callsIn_of_wp_marks Try.func78 rfl trivial ?_ rfl
  simp only [Try.ntmps78, List.size_toArray, List.length_cons, List.length_nil, Nat.reduceAdd, Nat.reduceSub, Array.replicate_succ, Array.replicate_zero, List.push_toArray, List.append_toArray, List.nil_append, List.cons_append]
  gi_wp2_with (refine ⟨trivial, ?_⟩; first | (gi_at_call 80; refine (callsIn_wide.2 (HA.out _)).mono ?_; rintro e w2 ⟨rfl, hb, hc1, hc2, hz⟩) | (gi_at_call 81; refine (callsIn_wide.2 (HT.out _)).mono ?_; rintro e w1 ⟨rfl, hb1⟩))
  obtain ⟨hb0, r0, r1⟩ := HB0.out
  have hb2 := (hb0.trans (hb1.mono hb0.size)).trans (hb.mono (Nat.le_trans hb0.size hb1.size))
  have q0 := (hb.block _ (Nat.lt_of_lt_of_le (hp_lt r0) hb1.size)).trans ((hb1.block _ (hp_lt r0)).trans r0)
  have q1 := (hb.block _ (Nat.lt_of_lt_of_le (hp_lt r1) hb1.size)).trans ((hb1.block _ (hp_lt r1)).trans r1)
  have HS := Lib.hid (And.intro hb2 (And.intro q0 q1))
  refine wpIn_rangeFunc_dead h1 rfl (enters_of Try.func123 (by kernel_rfl) rfl) (fun l W hW => duer_none P K l _ _ W ((hW.cell (by rw [hz]; show _ < _; simp only []; omega)).trans hc1) ((hW.cell (by rw [hz]; show _ < _; simp only []; omega)).trans hc2) (HUs.out W (HS.out.1.trans (hW.mono HS.out.1.size)))) ?_
  clear hb hc1 hc2 hz hb2 q0 q1 hb0 r0 r1 hb1
  rintro D W hD hW hK
  have q0 := (hW.block _ (hp_lt HS.out.2.1)).trans HS.out.2.1
  have q1 := (hW.block _ (hp_lt HS.out.2.2)).trans HS.out.2.2
  have HQ := Lib.hid (And.intro q0 (And.intro q1 (And.intro hD (And.intro hW hK))))
  have c0 := (hp_cell (i := 0) q0).trans rfl
  have c1 := (hp_cell (i := 0) q1).trans rfl
  have f0 := hp_free (i := 0) q0
  have f1 := hp_free (i := 0) q1
  clear q0 q1 hD hW hK
  gi_wp2
  obtain ⟨q0, q1, hD, hW, hK⟩ := HQ.out
  have n0 : w.heap.size ≠ D := fun e => by have := hp_lt HS.out.2.1; omega
  have n1 : w.heap.size + 1 ≠ D := fun e => by have := hp_lt HS.out.2.2; omega
  obtain ⟨W5, hW5⟩ : ∃ W5, W5 = (W.setCell ⟨w.heap.size, 0, none⟩ (.int .i64 0)).setCell ⟨w.heap.size + 1, 0, none⟩ (.bool false) := ⟨_, rfl⟩
  have k5 : W5.heap[D]? = some (.deferred (some [])) := by rw [hW5, Below.heap_setCell _ _ _ _ (Ne.symm n1), Below.heap_setCell _ _ _ _ (Ne.symm n0)]; exact hK
  have b5 : Below w.heap.size w W5 := by rw [hW5]; exact ((HS.out.1.trans (hW.mono HS.out.1.size)).setCell (Nat.le_refl _) _).setCell (Nat.le_succ _) _
  have p0 : W5.heap[w.heap.size]? = some (.cells #[.int .i64 0] 3 (0, 0)) := by rw [hW5, Below.heap_setCell _ _ _ _ (by simp)]; exact heap_setCell_row q0 (.int .i64 0)
  have p1 : W5.heap[w.heap.size + 1]? = some (.cells #[.bool false] 4 (0, 0)) := by
    rw [hW5]
    refine heap_setCell_row ?_ (.bool false) (cur := #[.bool false])
    rw [Below.heap_setCell _ _ _ _ (by simp)]
    exact q1
  rw [← hW5]
  clear hW5 hW hK q0 q1
  refine ⟨by simp, .inl ⟨_, _, rfl, run_takeDeferred k5, ?_⟩⟩
  have g0 := ((grownBy_putObj' W5 D (.deferred none)).block _ (hp_lt p0) (fun e => n0 (by cases e; rfl))).trans p0
  have g1 := ((grownBy_putObj' W5 D (.deferred none)).block _ (hp_lt p1) (fun e => n1 (by cases e; rfl))).trans p1
  have e0 := (hp_cell (i := 0) g0).trans rfl
  have e1 := (hp_cell (i := 0) g1).trans rfl
  exact ⟨.tuple #[.int .i64 0, .bool false], by simp [results, Try.results78, go_sem, e0, e1], rfl, b5.trans (belowK_b (w := w) (Nat.le_refl _) W5 D _ _ (Nat.le_trans HS.out.1.size hD) k5 rfl rfl)⟩
/-- on a dead store -/
theorem duefirst_dead (P : Option Addr) (w : World) (h : SDead w (.pointer P)) : Calls Try.prog 78 #[.pointer P] w fun e w' => e = .returned (.tuple #[.int .i64 0, .bool false]) ∧ Below w.heap.size w w' :=
  duefirst_none P _ rfl w fun W hb => (under_dead (.pointer P) _ W (h.below hb)).mono fun e w' hh => ⟨⟨none, 0, hh.1⟩, by rw [← hh.2]; exact Below.refl _ _⟩
end Go.Proofs.Ytedkhpnlhkjjgaa

namespace Go.Proofs.Ytedkhpnlhkjjgaa
open Go.RowKit Go.Maps Go.Sort
attribute [local go_sem] Oper.semAt_some
attribute [local go_sem] run_store_fn

set_option maxRecDepth 100000 in
set_option maxHeartbeats 2000000 in
theorem duetake_none (P : Option Addr) (blk : Int) (K : ByteArray) (hK : keyStr 26 (fun _ => 0) 0 = K) (w : World) (HU : ∀ W, Below w.heap.size w W → Calls Try.prog 124 #[.pointer P, .string K] W fun e w' => (∃ A c, e = .returned (.slice A 0 c)) ∧ Below W.heap.size W w') :
    Calls Try.prog 30 #[.pointer P, .int .i64 blk] w fun e w' => e = .returned (.slice none 0 0) ∧ Below w.heap.size w w' := by
  refine (callsIn_wide (n := 3)).1 ?_
  have h1 : 1 ≤ 3 := by omega
  have HA := Lib.hid (fun w => rows_walk P K w)
  have HT := Lib.hid (fun w => tbl_is 26 K hK w)
  have HUs := Lib.hid HU
  obtain ⟨W0, hW0⟩ : ∃ W0, W0 = (((w.alloc (.cells #[.pointer P] 25)).alloc (.cells #[.int .i64 blk] 3)).alloc (.cells #[.slice none 0 0] 44)).alloc (.cells #[.func (.func 79) #[] #[]] 127) := ⟨_, rfl⟩
  have hb0 : Below w.heap.size w W0 := by rw [hW0]; exact ((((Below.refl _ _).alloc (Nat.le_refl _) _).alloc (by simp only [World.size_alloc]; omega) _).alloc (by simp only [World.size_alloc]; omega) _).alloc (by simp only [World.size_alloc]; omega) _
  have r0 : W0.heap[w.heap.size]? = some (.cells #[.pointer P] 25 (0, 0)) := by
    rw [hW0]; exact (heap_alloc_old _ _ (by simp only [World.size_alloc]; omega)).trans ((heap_alloc_old _ _ (by simp only [World.size_alloc]; omega)).trans ((heap_alloc_old _ _ (by simp only [World.size_alloc]; omega)).trans (heap_alloc_new _ _)))
  have r2 : W0.heap[w.heap.size + 1 + 1]? = some (.cells #[.slice none 0 0] 44 (0, 0)) := by
    have h := heap_alloc_new ((w.alloc (.cells #[.pointer P] 25)).alloc (.cells #[.int .i64 blk] 3)) (.cells #[.slice none 0 0] 44)
    rw [World.size_alloc, World.size_alloc] at h
    rw [hW0]; exact (heap_alloc_old _ _ (by simp only [World.size_alloc]; omega)).trans h
  have HB0 := Lib.hid (And.intro hb0 (And.intro r0 r2))
  have HC := Lib.hid (fun (W1 : World) (hb : Below W0.drew.heap.size W0.drew W1) => (hp_cell (i := 0) ((hb.block w.heap.size (hp_lt r0)).trans r0)).trans rfl)
  have c0 := (hp_cell (i := 0) r0).trans rfl
  have HW := Lib.hid hW0
  clear HU hK hb0 r0 r2 hW0
  refine callsIn_of_wp_marks Try.func30 rfl trivial ?_ rfl
  simp only [Try.ntmps30, List.size_toArray, List.length_cons, List.length_nil, Nat.reduceAdd, Nat.reduceSub, Array.replicate_succ, Array.replicate_zero, List.push_toArray, List.append_toArray, List.nil_append, List.cons_append]
  have hmix : Try.prog.follows .mixedOrders = true := by kernel_rfl
  gi_wp2
  rw [← HW.out]
  clear HW
  gi_region_with_o (refine ⟨trivial, ?_⟩; first | (gi_at_call 80; refine (callsIn_wide.2 (HA.out _)).mono ?_; rintro e w2 ⟨rfl, hb, hc1, hc2, hz⟩) | (gi_at_call 81; refine (callsIn_wide.2 (HT.out _)).mono ?_; rintro e w1 ⟨rfl, hb1⟩; have cc := HC.out _ hb1))
  all_goals
    gi_wp2
    obtain ⟨hb0, r0, r2⟩ := HB0.out
    have hbd : Below W0.heap.size W0 W0.drew := (Below.refl _ _).drew
    have hb2 := ((hb0.trans (hbd.mono hb0.size)).trans (hb1.mono hb0.size)).trans (hb.mono (Nat.le_trans hb0.size hb1.size))
    have q2 := (hb.block _ (Nat.lt_of_lt_of_le (hp_lt r2) hb1.size)).trans ((hb1.block _ (hp_lt r2)).trans r2)
    have HS := Lib.hid (And.intro hb2 q2)
    refine wpIn_rangeFunc_dead h1 rfl (enters_of Try.func123 (by kernel_rfl) rfl) (fun l W hW => duer_none P K l _ _ W ((hW.cell (by rw [hz]; show _ < _; simp only []; omega)).trans hc1) ((hW.cell (by rw [hz]; show _ < _; simp only []; omega)).trans hc2) (HUs.out W (HS.out.1.trans (hW.mono HS.out.1.size)))) ?_
    clear hb hc1 hc2 hz hb2 q2 hb0 r0 r2 hb1 hbd
    rintro D W hD hW hK
    have q2 := (hW.block _ (hp_lt HS.out.2)).trans HS.out.2
    have HQ := Lib.hid (And.intro hD (And.intro hW hK))
    have c2 := (hp_cell (i := 0) q2).trans rfl
    clear q2 hD hW hK
    gi_wp2
    obtain ⟨hD, hW, hK⟩ := HQ.out
    refine ⟨by simp, .inl ⟨_, _, rfl, run_takeDeferred hK, ?_⟩⟩
    exact ⟨_, results_tmp rfl _ _ _, rfl, (HS.out.1.trans (hW.mono HS.out.1.size)).trans (belowK_b (w := w) (Nat.le_refl _) W D _ _ (Nat.le_trans HS.out.1.size hD) hK rfl rfl)⟩
/-- on a dead store -/
theorem duetake_dead (P : Option Addr) (blk : Int) (w : World) (h : SDead w (.pointer P)) : Calls Try.prog 30 #[.pointer P, .int .i64 blk] w fun e w' => e = .returned (.slice none 0 0) ∧ Below w.heap.size w w' :=
  duetake_none P blk _ rfl w fun W hb => (under_dead (.pointer P) _ W (h.below hb)).mono fun e w' hh => ⟨⟨none, 0, hh.1⟩, by rw [← hh.2]; exact Below.refl _ _⟩
end Go.Proofs.Ytedkhpnlhkjjgaa
