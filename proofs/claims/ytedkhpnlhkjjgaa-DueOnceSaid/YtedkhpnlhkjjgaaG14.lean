/- due: rows that are none; First, Len, Add on a dead store. -/
import Derived.Test.YtedkhpnlhkjjgaaG13
import Derived.Lib.QuietBelow
import Derived.Lib.QuietBelowIn
import Derived.Test.YtedkhpnlhkjjgaaProg
import Derived.Test.YtedkhpnlhkjjgaaG00
import Derived.Test.YtedkhpnlhkjjgaaG02
import Derived.Lib.Hide
import Derived.OneCell
import Derived.OwnWalk
import Derived.Lib.AppendZeros
import Derived.Laws.AppendOwnNone
namespace Go.Proofs.Ytedkhpnlhkjjgaa
open Go.RowKit Go.Maps Go.Sort
attribute [local go_sem] Oper.semAt_some

set_option maxRecDepth 100000 in
set_option maxHeartbeats 1000000 in
/-- nothing stands under the key: the body is never called -/
theorem duer_none (P : Option Addr) (K : ByteArray) (l b1 b2 : Nat) (w : World) (h1 : w.cell? ⟨b1, 0, none⟩ = some (.pointer P)) (h2 : w.cell? ⟨b2, 0, none⟩ = some (.string K))
    (HU : Calls Try.prog 124 #[.pointer P, .string K] w fun e w' => (∃ A c, e = .returned (.slice A 0 c)) ∧ Below w.heap.size w w') :
    Calls Try.prog 123 #[.func (.yield l) #[] #[], .pointer (some ⟨b1, 0, none⟩), .pointer (some ⟨b2, 0, none⟩)] w fun e w' => (∃ v, e = .returned v) ∧ Below w.heap.size w w' := by
  have HUs := Lib.hid HU
  clear HU
  go_enter Try.func123, Try.ntmps123
  go_wp2_with (go_at_call 124; refine HUs.out.mono ?_; rintro e w1 ⟨⟨A, c, rfl⟩, hb1⟩; have HF := Lib.hid hb1; clear hb1)
  go_loopw [15] (fun i wr => i = .int .i64 0 ∧ w1 = wr) (fun _ _ => 0)
  case atStart => exact ⟨rfl, rfl⟩
  case round =>
    obtain ⟨rfl, rfl⟩ := hrel
    go_wp2
    go_end0
    exact ⟨⟨_, rfl⟩, HF.out⟩
set_option maxRecDepth 100000 in
set_option maxHeartbeats 1000000 in
theorem rows_walk (P : Option Addr) (K : ByteArray) (w : World) : Calls Try.prog 80 #[.pointer P, .string K] w fun e w' => e = .returned (.func (.func 123) #[] #[.pointer (some ⟨w.heap.size, 0, none⟩), .pointer (some ⟨w.heap.size + 1, 0, none⟩)]) ∧ Below w.heap.size w w' ∧ w'.cell? ⟨w.heap.size, 0, none⟩ = some (.pointer P) ∧ w'.cell? ⟨w.heap.size + 1, 0, none⟩ = some (.string K) ∧ w'.heap.size = w.heap.size + 2 := by
  go_enter Try.func80, Try.ntmps80
  go_wp2
  go_ret
  refine ⟨rfl, ((Below.refl _ _).alloc (Nat.le_refl _) _).alloc (by simp) _, ?_, ?_, by simp⟩
  · rw [World.cell?_alloc_old _ _ _ (by simp)]
    exact (World.cell?_alloc_at _ _ _ _ rfl).trans rfl
  · exact (World.cell?_alloc_at _ _ _ _ (by simp)).trans rfl
theorem key26 : ∃ K, keyStr 26 (fun _ => 0) 0 = K := ⟨_, rfl⟩
set_option maxRecDepth 100000 in
set_option maxHeartbeats 400000 in
theorem duelen_dead (P : Option Addr) (w : World) (h : SDead w (.pointer P)) : Calls Try.prog 31 #[.pointer P] w fun e w' => e = .returned (.int .i64 0) ∧ Below w.heap.size w w' := by
  have HK := Lib.hid (tbl_some 27 w)
  have HD := Lib.hid h
  clear h
  go_enter Try.func31, Try.ntmps31
  go_wp2_with (first
    | (go_at_call 61; refine (cint_dead (.pointer P) K w1 (HD.out.below HB1.out)).mono ?_; rintro e w2 ⟨rfl, hb2⟩; have HB2 := Lib.hid (HB1.out.trans (hb2.mono HB1.out.size)); clear hb2)
    | (go_at_call 81; refine HK.out.mono ?_; rintro e w1 ⟨⟨K, rfl, _⟩, hb1⟩; have HB1 := Lib.hid hb1; clear hb1))
  go_ret
  exact ⟨rfl, HB2.out⟩
theorem run_store_fn {P : Program} {w : World} (a : Addr) (m : Mode) (f : Fn) (x y : Array Value) : (store a (.func f x y) m).run P w = stored P w a (.func f x y) m := run_store P w a _ m rfl
attribute [local go_sem] run_store_fn
set_option maxRecDepth 100000 in
set_option maxHeartbeats 2000000 in
theorem dueadd_dead (P : Option Addr) (blk : Int) (A : Option Addr) (n c : Nat) (w : World) (h : SDead w (.pointer P)) : Calls Try.prog 29 #[.pointer P, .int .i64 blk, .slice A n c] w fun e w' => e = .returned (.int .i64 1) ∧ Below w.heap.size w w' := by
  refine (callsIn_wide (n := 3)).1 ?_
  have h1 : 1 ≤ 3 := by omega
  have hb0 := (Below.refl w.heap.size w).alloc (Nat.le_refl _) (.cells #[.int .i64 0] 33)
  have r0 := heap_alloc_new w (.cells #[.int .i64 0] 33)
  have HM := Lib.hid (made_dead (.pointer P) _ (h.below hb0))
  have HB0 := Lib.hid (And.intro hb0 r0)
  clear h hb0 r0
  refine callsIn_of_wp_marks Try.func29 rfl trivial ?_ rfl
  simp only [Try.ntmps29, List.size_toArray, List.length_cons, List.length_nil, Nat.reduceAdd, Nat.reduceSub, Array.replicate_succ, Array.replicate_zero, List.push_toArray, List.append_toArray, List.nil_append, List.cons_append]
  gi_wp2_with (refine ⟨trivial, ?_⟩; gi_at_call 27; refine (callsIn_wide.2 HM.out).mono ?_; rintro e w2 ⟨rfl, rfl⟩)
  have e0 : (w.alloc (.cells #[.int .i64 1] 33)).cell? ⟨w.heap.size, 0, none⟩ = some (.int .i64 1) := (World.cell?_alloc_at _ _ _ _ rfl).trans rfl
  refine ⟨.int .i64 1, by simp [results, Try.results29, go_sem, e0], rfl, (Below.refl _ _).alloc (Nat.le_refl _) _⟩
set_option maxRecDepth 100000 in
set_option maxHeartbeats 2000000 in
theorem duefirst_none (P : Option Addr) (K : ByteArray) (hK : keyStr 26 (fun _ => 0) 0 = K) (w : World) (HU : ∀ W, Below w.heap.size w W → Calls Try.prog 124 #[.pointer P, .string K] W fun e w' => (∃ A c, e = .returned (.slice A 0 c)) ∧ Below W.heap.size W w') :
    Calls Try.prog 78 #[.pointer P] w fun e w' => e = .returned (.tuple #[.int .i64 0, .bool false]) ∧ Below w.heap.size w w' := by
  refine (callsIn_wide (n := 3)).1 ?_
  have h1 : 1 ≤ 3 := by omega
  have HA := Lib.hid (fun w => rows_walk P K w)
  have HT := Lib.hid (fun w => tbl_is 26 K hK w)
  have HUs := Lib.hid HU
  have hb0 := (((Below.refl w.heap.size w).alloc (Nat.le_refl _) (.cells #[.int .i64 0] 3)).alloc (by simp) (.cells #[.bool false] 4)).alloc (by simp only [World.size_alloc]; omega) (.cells #[.func (.func 79) #[] #[]] 127)
  have r0 : (((w.alloc (.cells #[.int .i64 0] 3)).alloc (.cells #[.bool false] 4)).alloc (.cells #[.func (.func 79) #[] #[]] 127)).heap[w.heap.size]? = some (.cells #[.int .i64 0] 3 (0, 0)) := (heap_alloc_old _ _ (by simp only [World.size_alloc]; omega)).trans ((heap_alloc_old _ _ (by simp only [World.size_alloc]; omega)).trans (heap_alloc_new _ _))
  have r1 : (((w.alloc (.cells #[.int .i64 0] 3)).alloc (.cells #[.bool false] 4)).alloc (.cells #[.func (.func 79) #[] #[]] 127)).heap[w.heap.size + 1]? = some (.cells #[.bool false] 4 (0, 0)) := by
    have h := heap_alloc_new (w.alloc (.cells #[.int .i64 0] 3)) (.cells #[.bool false] 4)
    rw [World.size_alloc] at h
    exact (heap_alloc_old _ _ (by simp only [World.size_alloc]; omega)).trans h
  have HB0 := Lib.hid (And.intro hb0 (And.intro r0 r1))
  clear HU hK hb0 r0 r1
  refine callsIn_of_wp_marks Try.func78 rfl trivial ?_ rfl
  simp only [Try.ntmps78, List.size_toArray, List.length_cons, List.length_nil, Nat.reduceAdd, Nat.reduceSub, Array.replicate_succ, Array.replicate_zero, List.push_toArray, List.append_toArray, List.nil_append, List.cons_append]
  gi_wp2_with (refine ⟨trivial, ?_⟩; first | (gi_at_call 80; refine (callsIn_wide.2 (HA.out _)).mono ?_; rintro e w2 ⟨rfl, hb, hc1, hc2, hz⟩) | (gi_at_call 81; refine (callsIn_wide.2 (HT.out _)).mono ?_; rintro e w1 ⟨rfl, hb1⟩))
  obtain ⟨hb0, r0, r1⟩ := HB0.out
  have hb2 := (hb0.trans (hb1.mono hb0.size)).trans (hb.mono (Nat.le_trans hb0.size hb1.size))
  have q0 := (hb.block _ (Nat.lt_of_lt_of_le (hp_lt r0) hb1.size)).trans ((hb1.block _ (hp_lt r0)).trans r0)
  have q1 := (hb.block _ (Nat.lt_of_lt_of_le (hp_lt r1) hb1.size)).trans ((hb1.block _ (hp_lt r1)).trans r1)
  have HS := Lib.hid (And.intro hb2 (And.intro q0 q1))
  refine wpIn_rangeFunc_dead h1 rfl (enters_of Try.func123 (by kernel_rfl) rfl) (fun l W hW => duer_none P K l _ _ W ((hW.cell (by rw [hz]; show _ < _; simp only []; omega)).trans hc1) ((hW.cell (by rw [hz]; show _ < _; simp only []; omega)).trans hc2) (HUs.out W (HS.out.1.trans (hW.mono HS.out.1.size)))) ?_
  clear hb hc1 hc2 hz hb2 q0 q1 hb0 r0 r1 hb1
  rintro D W hD hW hK
  have q0 := (hW.block _ (hp_lt HS.out.2.1)).trans HS.out.2.1
  have q1 := (hW.block _ (hp_lt HS.out.2.2)).trans HS.out.2.2
  have HQ := Lib.hid (And.intro q0 (And.intro q1 (And.intro hD (And.intro hW hK))))
  have c0 := (hp_cell (i := 0) q0).trans rfl
  have c1 := (hp_cell (i := 0) q1).trans rfl
  have f0 := hp_free (i := 0) q0
  have f1 := hp_free (i := 0) q1
  clear q0 q1 hD hW hK
  gi_wp2
  obtain ⟨q0, q1, hD, hW, hK⟩ := HQ.out
  have n0 : w.heap.size ≠ D := fun e => by have := hp_lt HS.out.2.1; omega
  have n1 : w.heap.size + 1 ≠ D := fun e => by have := hp_lt HS.out.2.2; omega
  obtain ⟨W5, hW5⟩ : ∃ W5, W5 = (W.setCell ⟨w.heap.size, 0, none⟩ (.int .i64 0)).setCell ⟨w.heap.size + 1, 0, none⟩ (.bool false) := ⟨_, rfl⟩
  have k5 : W5.heap[D]? = some (.deferred (some [])) := by rw [hW5, Below.heap_setCell _ _ _ _ (Ne.symm n1), Below.heap_setCell _ _ _ _ (Ne.symm n0)]; exact hK
  have b5 : Below w.heap.size w W5 := by rw [hW5]; exact ((HS.out.1.trans (hW.mono HS.out.1.size)).setCell (Nat.le_refl _) _).setCell (Nat.le_succ _) _
  have p0 : W5.heap[w.heap.size]? = some (.cells #[.int .i64 0] 3 (0, 0)) := by rw [hW5, Below.heap_setCell _ _ _ _ (by simp)]; exact heap_setCell_row q0 (.int .i64 0)
  have p1 : W5.heap[w.heap.size + 1]? = some (.cells #[.bool false] 4 (0, 0)) := by
    rw [hW5]
    refine heap_setCell_row ?_ (.bool false) (cur := #[.bool false])
    rw [Below.heap_setCell _ _ _ _ (by simp)]
    exact q1
  rw [← hW5]
  clear hW5 hW hK q0 q1
  refine ⟨by simp, .inl ⟨_, _, rfl, run_takeDeferred k5, ?_⟩⟩
  have g0 := ((grownBy_putObj' W5 D (.deferred none)).block _ (hp_lt p0) (fun e => n0 (by cases e; rfl))).trans p0
  have g1 := ((grownBy_putObj' W5 D (.deferred none)).block _ (hp_lt p1) (fun e => n1 (by cases e; rfl))).trans p1
  have e0 := (hp_cell (i := 0) g0).trans rfl
  have e1 := (hp_cell (i := 0) g1).trans rfl
  exact ⟨.tuple #[.int .i64 0, .bool false], by simp [results, Try.results78, go_sem, e0, e1], rfl, b5.trans (belowK_b (w := w) (Nat.le_refl _) W5 D _ _ (Nat.le_trans HS.out.1.size hD) k5 rfl rfl)⟩
/-- on a dead store -/
theorem duefirst_dead (P : Option Addr) (w : World) (h : SDead w (.pointer P)) : Calls Try.prog 78 #[.pointer P] w fun e w' => e = .returned (.tuple #[.int .i64 0, .bool false]) ∧ Below w.heap.size w w' :=
  duefirst_none P _ rfl w fun W hb => (under_dead (.pointer P) _ W (h.below hb)).mono fun e w' hh => ⟨⟨none, 0, hh.1⟩, by rw [← hh.2]; exact Below.refl _ _⟩
end Go.Proofs.Ytedkhpnlhkjjgaa

namespace Go.Proofs.Ytedkhpnlhkjjgaa
open Go.RowKit Go.Maps Go.Sort
attribute [local go_sem] Oper.semAt_some
attribute [local go_sem] run_store_fn

set_option maxRecDepth 100000 in
set_option maxHeartbeats 2000000 in
theorem duetake_none (P : Option Addr) (blk : Int) (K : ByteArray) (hK : keyStr 26 (fun _ => 0) 0 = K) (w : World) (HU : ∀ W, Below w.heap.size w W → Calls Try.prog 124 #[.pointer P, .string K] W fun e w' => (∃ A c, e = .returned (.slice A 0 c)) ∧ Below W.heap.size W w') :
    Calls Try.prog 30 #[.pointer P, .int .i64 blk] w fun e w' => e = .returned (.slice none 0 0) ∧ Below w.heap.size w w' := by
  refine (callsIn_wide (n := 3)).1 ?_
  have h1 : 1 ≤ 3 := by omega
  have HA := Lib.hid (fun w => rows_walk P K w)
  have HT := Lib.hid (fun w => tbl_is 26 K hK w)
  have HUs := Lib.hid HU
  obtain ⟨W0, hW0⟩ : ∃ W0, W0 = (((w.alloc (.cells #[.pointer P] 25)).alloc (.cells #[.int .i64 blk] 3)).alloc (.cells #[.slice none 0 0] 44)).alloc (.cells #[.func (.func 79) #[] #[]] 127) := ⟨_, rfl⟩
  have hb0 : Below w.heap.size w W0 := by rw [hW0]; exact ((((Below.refl _ _).alloc (Nat.le_refl _) _).alloc (by simp only [World.size_alloc]; omega) _).alloc (by simp only [World.size_alloc]; omega) _).alloc (by simp only [World.size_alloc]; omega) _
  have r0 : W0.heap[w.heap.size]? = some (.cells #[.pointer P] 25 (0, 0)) := by
    rw [hW0]; exact (heap_alloc_old _ _ (by simp only [World.size_alloc]; omega)).trans ((heap_alloc_old _ _ (by simp only [World.size_alloc]; omega)).trans ((heap_alloc_old _ _ (by simp only [World.size_alloc]; omega)).trans (heap_alloc_new _ _)))
  have r2 : W0.heap[w.heap.size + 1 + 1]? = some (.cells #[.slice none 0 0] 44 (0, 0)) := by
    have h := heap_alloc_new ((w.alloc (.cells #[.pointer P] 25)).alloc (.cells #[.int .i64 blk] 3)) (.cells #[.slice none 0 0] 44)
    rw [World.size_alloc, World.size_alloc] at h
    rw [hW0]; exact (heap_alloc_old _ _ (by simp only [World.size_alloc]; omega)).trans h
  have HB0 := Lib.hid (And.intro hb0 (And.intro r0 r2))
  have HC := Lib.hid (fun (W1 : World) (hb : Below W0.drew.heap.size W0.drew W1) => (hp_cell (i := 0) ((hb.block w.heap.size (hp_lt r0)).trans r0)).trans rfl)
  have c0 := (hp_cell (i := 0) r0).trans rfl
  have HW := Lib.hid hW0
  clear HU hK hb0 r0 r2 hW0
  refine callsIn_of_wp_marks Try.func30 rfl trivial ?_ rfl
  simp only [Try.ntmps30, List.size_toArray, List.length_cons, List.length_nil, Nat.reduceAdd, Nat.reduceSub, Array.replicate_succ, Array.replicate_zero, List.push_toArray, List.append_toArray, List.nil_append, List.cons_append]
  have hmix : Try.prog.follows .mixedOrders = true := by kernel_rfl
  gi_wp2
  rw [← HW.out]
  clear HW
  gi_region_with_o (refine ⟨trivial, ?_⟩; first | (gi_at_call 80; refine (callsIn_wide.2 (HA.out _)).mono ?_; rintro e w2 ⟨rfl, hb, hc1, hc2, hz⟩) | (gi_at_call 81; refine (callsIn_wide.2 (HT.out _)).mono ?_; rintro e w1 ⟨rfl, hb1⟩; have cc := HC.out _ hb1))
  all_goals
    gi_wp2
    obtain ⟨hb0, r0, r2⟩ := HB0.out
    have hbd : Below W0.heap.size W0 W0.drew := (Below.refl _ _).drew
    have hb2 := ((hb0.trans (hbd.mono hb0.size)).trans (hb1.mono hb0.size)).trans (hb.mono (Nat.le_trans hb0.size hb1.size))
    have q2 := (hb.block _ (Nat.lt_of_lt_of_le (hp_lt r2) hb1.size)).trans ((hb1.block _ (hp_lt r2)).trans r2)
    have HS := Lib.hid (And.intro hb2 q2)
    refine wpIn_rangeFunc_dead h1 rfl (enters_of Try.func123 (by kernel_rfl) rfl) (fun l W hW => duer_none P K l _ _ W ((hW.cell (by rw [hz]; show _ < _; simp only []; omega)).trans hc1) ((hW.cell (by rw [hz]; show _ < _; simp only []; omega)).trans hc2) (HUs.out W (HS.out.1.trans (hW.mono HS.out.1.size)))) ?_
    clear hb hc1 hc2 hz hb2 q2 hb0 r0 r2 hb1 hbd
    rintro D W hD hW hK
    have q2 := (hW.block _ (hp_lt HS.out.2)).trans HS.out.2
    have HQ := Lib.hid (And.intro hD (And.intro hW hK))
    have c2 := (hp_cell (i := 0) q2).trans rfl
    clear q2 hD hW hK
    gi_wp2
    obtain ⟨hD, hW, hK⟩ := HQ.out
    refine ⟨by simp, .inl ⟨_, _, rfl, run_takeDeferred hK, ?_⟩⟩
    exact ⟨_, results_tmp rfl _ _ _, rfl, (HS.out.1.trans (hW.mono HS.out.1.size)).trans (belowK_b (w := w) (Nat.le_refl _) W D _ _ (Nat.le_trans HS.out.1.size hD) hK rfl rfl)⟩
/-- on a dead store -/
theorem duetake_dead (P : Option Addr) (blk : Int) (w : World) (h : SDead w (.pointer P)) : Calls Try.prog 30 #[.pointer P, .int .i64 blk] w fun e w' => e = .returned (.slice none 0 0) ∧ Below w.heap.size w w' :=
  duetake_none P blk _ rfl w fun W hb => (under_dead (.pointer P) _ W (h.below hb)).mono fun e w' hh => ⟨⟨none, 0, hh.1⟩, by rw [← hh.2]; exact Below.refl _ _⟩
end Go.Proofs.Ytedkhpnlhkjjgaa

namespace Go.Proofs.Ytedkhpnlhkjjgaa
open Go.RowKit

def iys (f : Nat → Int) (k : Nat) : List Value := (List.range k).map fun i => Value.int .i64 (f i)
theorem iys_succ (f : Nat → Int) (k : Nat) : iys f (k + 1) = iys f k ++ [.int .i64 (f k)] := by simp [iys, List.range_succ]
theorem iys_get (f : Nat → Int) {k i : Nat} (h : i < k) : (iys f k)[i]? = some (.int .i64 (f i)) := by simp [iys, h]
theorem iys_length (f : Nat → Int) (k : Nat) : (iys f k).length = k := by simp [iys]
theorem iys_congr {f g : Nat → Int} {k : Nat} (h : ∀ i, i < k → f i = g i) : iys f k = iys g k := by
  unfold iys
  refine List.map_congr_left fun i hi => ?_
  rw [h i (List.mem_range.1 hi)]
theorem iys_one (g : Nat → Int) (m : Nat) : ∀ u ∈ iys g m, u.oneCell' = true := by
  intro u hu
  obtain ⟨_, _, rfl⟩ := List.mem_map.1 hu
  rfl
/-- f's first n, and behind them g's -/
def icat (f : Nat → Int) (n : Nat) (g : Nat → Int) (i : Nat) : Int := if i < n then f i else g (i - n)
theorem iys_icat (f : Nat → Int) (n : Nat) (g : Nat → Int) : ∀ m, iys f n ++ iys g m = iys (icat f n g) (n + m)
  | 0 => by
    show iys f n ++ [] = _
    rw [List.append_nil]; exact iys_congr fun i hi => (if_pos hi).symm
  | m + 1 => by
    rw [iys_succ, ← List.append_assoc, iys_icat f n g m, ← Nat.add_assoc, iys_succ]
    congr 3
    show _ = (if n + m < n then f (n + m) else g (n + m - n) : Int)
    rw [if_neg (by omega), Nat.add_sub_cancel_left]
def itot (n : Nat → Nat) : Nat → Nat
  | 0 => 0
  | k + 1 => itot n k + n k
def icats (n : Nat → Nat) (f : Nat → Nat → Int) : Nat → Nat → Int
  | 0 => fun _ => 0
  | k + 1 => icat (icats n f k) (itot n k) (f k)
theorem itot_le {n : Nat → Nat} {M m : Nat} (h : ∀ i, i < m → n i ≤ M) : ∀ k, k ≤ m → itot n k ≤ k * M
  | 0, _ => by simp [itot]
  | k + 1, hk => by
    have := itot_le h k (by omega)
    have := h k (by omega)
    simp only [itot, Nat.add_mul]; omega
theorem Il.news {w : World} {ad : Addr} {n : Nat} {f : Nat → Int} (h : Il w (some ad) n f) : ∀ j u, (iys f n)[j]? = some u → w.cell? (ad.add j) = some u := by
  intro j u hu
  have hj : j < n := by have := (List.getElem?_eq_some_iff.1 hu).1; simpa [iys] using this
  rw [iys_get f hj] at hu
  cases hu
  obtain ⟨g, o, e, _, hc⟩ := h.at_ (by omega)
  cases e
  rw [Addr.add_lit]; exact hc j hj
theorem oinfoInt : (Try.prog.info? 3).map (fun i => (i.zero, i.size, i.bytes)) = some (some (.int .i64 0), 1, 8) := by kernel_rfl
theorem iown_zero {w : World} {z : Value} {n cap : Nat} {e : TypeId} (hz : z.cells.size = 1) (hn : n ≤ cap) (hc : cap ≤ maxLen) :
    (w.drew.alloc (.cells (Builtin.zeroCells z.cells n ++ Builtin.zeroCells z.cells (cap - n)) e)).ownsRow w.heap.size e 1 (.slice (some ⟨w.heap.size, 0, none⟩) 0 cap) 0 [] := by
  refine ⟨rfl, .inr ⟨w.heap.size, cap, _, rfl, Nat.le_refl _, heap_alloc_new w.drew _, Nat.zero_le _, hc, ?_, by simp⟩⟩
  simp only [Array.size_append, size_zeroCells, hz]
  omega
set_option maxRecDepth 100000 in
set_option maxHeartbeats 1000000 in
theorem igrow_walk (n : Nat) (w : World) (hn : n ≤ 2 ^ 40) : Calls Try.prog 143 #[.slice none 0 0, .int .i64 (n : Nat)] w fun e w' => (∃ v, e = .returned v ∧ w'.ownsRow w.heap.size 3 1 v 0 []) ∧ Below w.heap.size w w' := by
  obtain ⟨i0, hi, hz0, hz1, hz2⟩ := info_parts oinfoInt
  have p1 : ¬ ((n : Int) < 0) := by omega
  by_cases h0 : n = 0
  · subst h0
    go_enter Try.func143, Try.ntmps143
    go_wp2
    go_ret
    exact ⟨⟨_, rfl, World.ownsRow_nil _ _ _ _⟩, Below.refl _ _⟩
  · have p2 : 0 < (n : Int) := by omega
    have hg := grownCap_ge w n 0 3
    have hm := grownCap_le_maxLen w n 0 3 (by unfold maxLen; omega)
    have hr := Lib.hid (Lib.run_append_nil_zeros (P := Try.prog) w 30 3 30 3 i0 (.int .i64 0) .i64 .i64 Try.underlying30 Try.underlying3 hi hz0 n (by omega) (by omega) (by omega) (by rw [hz2]; omega))
    have hw := Lib.hid (iown_zero (w := w) (z := .int .i64 0) (n := n) (e := 3) rfl hg hm)
    generalize hcp : grownCap w n 0 3 = cp at *
    clear hcp
    go_enter Try.func143, Try.ntmps143
    go_wp2_with (at_builtin; refine Lib.wpList_append_run _ rfl _ _ _ _ rfl _ _ rfl rfl _ _ hr.out ?_)
    go_ret
    exact ⟨⟨_, rfl, hw.out⟩, ((Below.refl _ _).drew).alloc (Nat.le_refl _) _⟩

/-- the bytes so far, the first i slices' -/
def ICatRel (n : Nat → Nat) (f : Nat → Nat → Int) (m : Nat) (w : World) (v i : Value) (wr : World) : Prop :=
  ∃ k : Nat, k ≤ m ∧ i = .int .i64 (k : Nat) ∧ wr.ownsRow w.heap.size 3 1 v (itot n k) (iys (icats n f k) (itot n k)) ∧ Below w.heap.size w wr
/-- the m slices that lie in the block B -/
structure ILot (w : World) (B m : Nat) (A : Nat → Option Addr) (n c : Nat → Nat) (f : Nat → Nat → Int) : Prop where
  lt : B < w.heap.size
  cell : ∀ i, i < m → w.cell? ⟨B, i, none⟩ = some (.slice (A i) (n i) (c i))
  sl : ∀ i, i < m → Il w (A i) (n i) (f i)
  nil : ∀ i, i < m → A i = none → n i = 0 ∧ c i = 0
  le : ∀ i, i < m → n i ≤ 2 ^ 20
theorem ILot.below {w w' : World} {B m : Nat} {A : Nat → Option Addr} {n c : Nat → Nat} {f : Nat → Nat → Int} (h : ILot w B m A n c f) (hb : Below w.heap.size w w') : ILot w' B m A n c f :=
  ⟨Nat.lt_of_lt_of_le h.lt hb.size, fun i hi => by rw [hb.cell (p := ⟨B, i, none⟩) h.lt]; exact h.cell i hi, fun i hi => (h.sl i hi).below hb, h.nil, h.le⟩
set_option maxRecDepth 100000 in
set_option maxHeartbeats 2000000 in
theorem iconcat_walk (B m : Nat) (A : Nat → Option Addr) (n c : Nat → Nat) (f : Nat → Nat → Int) (w : World) (hm : m ≤ 8) (hl : ILot w B m A n c f) :
    Calls Try.prog 116 #[.slice (some ⟨B, 0, none⟩) m m] w fun e w' => (∃ v, e = .returned v ∧ w'.ownsRow w.heap.size 3 1 v (itot n m) (iys (icats n f m) (itot n m))) ∧ Below w.heap.size w w' := by
  obtain ⟨i0, hi, hz0, hz1, hz2⟩ := info_parts oinfoInt
  have HL := Lib.hid hl
  have HT := Lib.hid (itot_le hl.le)
  have hB := hl.lt
  have hM : (m : Int) ≤ 8 := by omega
  clear hl
  go_enter Try.func116, Try.ntmps116
  go_wp2
  go_loopw [3, 11] (fun x i wr => ∃ k : Nat, k ≤ m ∧ i = .int .i64 (k : Nat) ∧ x = .int .i64 (itot n k : Nat) ∧ w = wr) (fun _ i _ => m - (intOf i).toNat)
  case atStart => exact ⟨0, Nat.zero_le _, rfl, rfl, rfl⟩
  case round =>
    obtain ⟨k, hk, rfl, rfl, rfl⟩ := hrel
    have hT := HT.out k hk
    by_cases hlt : k < m
    · have p1 : (k : Int) < (m : Int) := by omega
      have ck := HL.out.cell k hlt
      have hle := HL.out.le k hlt
      have p2 : ¬ ((itot n k : Int) + (n k : Int) < 0) := by omega
      have e1 : (itot n k : Int) + (n k : Int) = ((itot n (k + 1) : Nat) : Int) := by simp [itot]
      have E1 := Lib.hid e1
      clear e1
      go_wp2
      exact ⟨⟨k + 1, by omega, by simp, by rw [E1.out], trivial⟩, by simp [intOf]; omega⟩
    · obtain rfl : k = m := by omega
      have p1 : ¬ (k : Int) < (k : Int) := by omega
      go_wp2_with (go_at_call 143; refine (igrow_walk (itot n k) _ (by omega)).mono ?_; rintro e w1 ⟨⟨v1, rfl, hv1⟩, hb1⟩)
      go_loopw [6, 27] (ICatRel n f k w) (fun _ i _ => k - (intOf i).toNat)
      case atStart => exact ⟨0, Nat.zero_le _, rfl, hv1, hb1⟩
      case round =>
        obtain ⟨j, hj, rfl, hv, hb⟩ := hrel
        have hT2 := HT.out j hj
        by_cases hlt2 : j < k
        · have p3 : (j : Int) < (k : Int) := by omega
          have L2 := HL.out.below hb
          have cj := L2.cell j hlt2
          have sj := L2.sl j hlt2
          have nj := L2.nil j hlt2
          have lj := L2.le j hlt2
          have hbs := hb.size
          clear L2
          generalize hA : A j = Aj at *
          cases Aj with
          | none =>
            obtain ⟨z1, z2⟩ := nj rfl
            rw [z1, z2] at cj
            go_wp2_with (at_builtin; refine wpList_append_own_none rfl _ _ _ rfl _ 3 i0 1 Try.underlying30 hi _ _ _ rfl hv rfl ?_)
            refine ⟨⟨j + 1, by omega, by simp, ?_, hb⟩, by simp [intOf]; omega⟩
            have e3 := iys_icat (icats n f j) (itot n j) (f j) (n j)
            have e4 : iys (f j) (n j) = [] := by rw [z1]; rfl
            rw [e4, List.append_nil] at e3
            have e2 : itot n (j + 1) = itot n j := by simp only [itot, z1]; rfl
            show wr.ownsRow _ _ _ _ _ (iys (icat (icats n f j) (itot n j) (f j)) (itot n j + n j))
            rw [← e3, e2]
            exact hv
          | some ad =>
            go_wp2_with (at_builtin; refine wpList_append_own _ rfl _ _ _ rfl w.heap.size 3 i0 (.int .i64 0) 1 8 Try.underlying30 hi hz0 hz1 hz2 rfl (by omega) _ (itot n j) _ rfl hv ad (n j) (c j) (iys (f j) (n j)) rfl (by rw [iys_length]; omega) sj.news (iys_one _ _) (by unfold maxLen; omega) (by omega) hbs ?_)
            intro v2 w2 hown hgrow _
            rw [iys_icat] at hown
            have Hown := Lib.hid hown
            have Hb := Lib.hid (hb.grown hgrow hbs (fun q hq => (hv.lt q hq).1))
            clear hown hgrow hb hv
            go_wp2
            exact ⟨⟨j + 1, by omega, by simp, Hown.out, Hb.out⟩, by simp [intOf]; omega⟩
        · obtain rfl : j = k := by omega
          have p3 : ¬ (j : Int) < (j : Int) := by omega
          go_wp2
          go_ret
          exact ⟨⟨_, rfl, hv⟩, hb⟩

theorem iown_base {w : World} {B B' n k : Nat} {e : TypeId} {v : Value} {xs : List Value} (h : w.ownsRow B e k v n xs) (hb : B' ≤ B) : w.ownsRow B' e k v n xs :=
  ⟨h.1, h.2.elim .inl fun ⟨g, cap, cur, h1, h2, h3⟩ => .inr ⟨g, cap, cur, h1, Nat.le_trans hb h2, h3⟩⟩
theorem own_il {w : World} {B n : Nat} {e : TypeId} {v : Value} {f : Nat → Int} (h : w.ownsRow B e 1 v n (iys f n)) (hs : ∀ i, f i < 2 ^ 63) : ∃ A c, v = .slice A n c ∧ Il w A n f ∧ (A = none → n = 0 ∧ c = 0) := by
  rcases h.2 with ⟨rfl, rfl⟩ | ⟨g, cap, cur, rfl, hb, hh, r⟩
  · exact ⟨none, 0, rfl, ⟨hs, fun h => absurd h (by omega)⟩, fun _ => ⟨rfl, rfl⟩⟩
  · refine ⟨_, cap, rfl, ⟨hs, fun hn => ⟨g, 0, rfl, (h.lt g rfl).2, fun i hi => ?_⟩⟩, fun h => by cases h⟩
    rw [Nat.zero_add, h.cellAt i (by omega), iys_get f hi]
def itwo {α : Type} (a b : α) : Nat → α
  | 0 => a
  | _ => b
theorem icats2 {n0 n1 : Nat} {f0 f1 : Nat → Int} : iys (icats (itwo n0 n1) (itwo f0 f1) 2) (itot (itwo n0 n1) 2) = iys (icat f0 n0 f1) (n0 + n1) := by
  have e : itot (itwo n0 n1) 2 = n0 + n1 := by simp [itot, itwo]
  rw [e]
  refine iys_congr fun i _ => ?_
  simp [icats, icat, itot, itwo]
theorem iconcat2_c (A0 A1 : Option Addr) (n0 n1 c0 c1 : Nat) (f0 f1 : Nat → Int) (w1 : World) (h0 : Il w1 A0 n0 f0) (h1 : Il w1 A1 n1 f1) (z0 : A0 = none → n0 = 0 ∧ c0 = 0) (z1 : A1 = none → n1 = 0 ∧ c1 = 0) (l0 : n0 ≤ 2 ^ 20) (l1 : n1 ≤ 2 ^ 20) (t : TypeId) :
    Calls Try.prog 116 #[.slice (some ⟨w1.heap.size, 0, none⟩) 2 2] (w1.alloc (.cells #[.slice A0 n0 c0, .slice A1 n1 c1] t)) fun e w' => (∃ v, e = .returned v ∧ w'.ownsRow w1.heap.size 3 1 v (n0 + n1) (iys (icat f0 n0 f1) (n0 + n1))) ∧ Below w1.heap.size w1 w' := by
  have hl : ILot (w1.alloc (.cells #[.slice A0 n0 c0, .slice A1 n1 c1] t)) w1.heap.size 2 (itwo A0 A1) (itwo n0 n1) (itwo c0 c1) (itwo f0 f1) := by
    refine ⟨by simp, fun i hi => ?_, fun i hi => ?_, fun i hi => ?_, fun i hi => ?_⟩ <;> rcases (by omega : i = 0 ∨ i = 1) with rfl | rfl
    · rw [World.cell?_alloc_new]; rfl
    · rw [World.cell?_alloc_new]; rfl
    · exact h0.below ((Below.refl _ _).alloc (Nat.le_refl _) _)
    · exact h1.below ((Below.refl _ _).alloc (Nat.le_refl _) _)
    · exact z0
    · exact z1
    · exact l0
    · exact l1
  refine (iconcat_walk w1.heap.size 2 _ _ _ _ _ (by omega) hl).mono fun e w' ⟨⟨v, he, hv⟩, hw⟩ => ⟨⟨v, he, ?_⟩, ((Below.refl _ _).alloc (Nat.le_refl _) _).trans (hw.mono (by simp))⟩
  have h2 := (iown_base (B' := w1.heap.size) hv (by simp))
  rw [icats2] at h2
  have e : itot (itwo n0 n1) 2 = n0 + n1 := by simp [itot, itwo]
  rw [e] at h2
  exact h2
end Go.Proofs.Ytedkhpnlhkjjgaa
