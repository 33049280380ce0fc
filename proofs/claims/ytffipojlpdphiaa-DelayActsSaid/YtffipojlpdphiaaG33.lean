/- How slices of bytes that come in are opened. -/
import Derived.Test.YtffipojlpdphiaaG00
import Derived.Test.YtffipojlpdphiaaG18
import Derived.Test.YtffipojlpdphiaaG01
import Derived.Test.YtffipojlpdphiaaG13
import Derived.ChangeSlices
import Derived.Carry
import Derived.OpenShut
import Derived.ChangeOld
import Derived.Deep.Slices
import Derived.ChangeSame
import Derived.Laws.IdiomArrays
namespace Go.Proofs.Ytffipojlpdphiaa
open Go.ChangeShapes Go.WideShapes Go.ChangeAt Go.RowKit

theorem cellsU8 : Try.prog.cellsOf 5 = 1 := by kernel_rfl
section
variable {H : Type} {enc : TypeId × Value → H} {W : World} {base : Nat}
set_option maxRecDepth 100000 in
theorem open_bl {v : Value} {d : DataW H} {p : List MemPlace} (hv : Value.okWide Try.prog W .any base 191 v) (h : DataW.Trod enc Try.prog W 0 (fun _ => true) true 191 v d p) :
    ∃ A n c f, v = .slice A n c ∧ Sl W A n f := by
  obtain ⟨a0, n, c, rfl⟩ := okWide_slice Try.underlying191 hv
  obtain ⟨fuel, hf⟩ := h
  rcases open_ints Try.underlying191 Try.underlying5 cellsU8 hf with ⟨hcs, hx⟩ | ⟨a, len', cap', zs, hcs, _, hl, hm, hz, hx, hcell, hwz⟩
  · simp [Value.cells] at hcs
    obtain ⟨rfl, rfl, rfl⟩ := hcs
    exact ⟨none, 0, 0, fun _ => 0, rfl, fun _ => by decide, fun h => absurd h (by omega)⟩
  · simp only [Value.cells, List.cons.injEq, Value.slice.injEq, and_true] at hcs
    obtain ⟨rfl, rfl, rfl⟩ := hcs
    simp only [if_true] at hz
    have hb : ∀ i, 0 ≤ zs.getD i 0 ∧ zs.getD i 0 < 256 := fun i => by
      rcases Nat.lt_or_ge i zs.length with hi | hi
      · have h1 := hwz (zs.getD i 0) (by simp [List.getD, List.getElem?_eq_getElem hi])
        have h2 := bounds_u8 h1
        omega
      · simp only [List.getD, List.getElem?_eq_none hi, Option.getD_none]; decide
    refine ⟨some a, n, c, fun i => (zs.getD i 0).toNat, rfl, fun i => by have := hb i; omega, fun hn => ?_⟩
    have hc0 := hcell 0 (by omega)
    have hlt := World.block_lt_of_cell? W _ hc0
    obtain ⟨g, o, sp⟩ := a
    have hspot : sp = none := by simpa [Addr.add] using World.cell?_spot hc0
    subst hspot
    exact ⟨g, o, rfl, hlt, fun i hi => by
      have h1 := hcell i (by omega)
      have h2 := (hb i).1
      rw [add_plain] at h1
      rw [h1, Int.toNat_of_nonneg h2]⟩
set_option maxRecDepth 100000 in
theorem open_bl2 {v : Value} {d : DataW H} {p : List MemPlace} (hv : Value.okWide Try.prog W .any base 191 v) (h : DataW.Trod enc Try.prog W 0 (fun _ => true) true 191 v d p) :
    ∃ A n c f, v = .slice A n c ∧ Sl W A n f ∧ (A = none → n = 0 ∧ c = 0) := by
  obtain ⟨a0, n, c, rfl⟩ := okWide_slice Try.underlying191 hv
  obtain ⟨fuel, hf⟩ := h
  rcases open_ints Try.underlying191 Try.underlying5 cellsU8 hf with ⟨hcs, hx⟩ | ⟨a, len', cap', zs, hcs, _, hl, hm, hz, hx, hcell, hwz⟩
  · simp [Value.cells] at hcs
    obtain ⟨rfl, rfl, rfl⟩ := hcs
    exact ⟨none, 0, 0, fun _ => 0, rfl, ⟨fun _ => by decide, fun h => absurd h (by omega)⟩, fun _ => ⟨rfl, rfl⟩⟩
  · simp only [Value.cells, List.cons.injEq, Value.slice.injEq, and_true] at hcs
    obtain ⟨rfl, rfl, rfl⟩ := hcs
    simp only [if_true] at hz
    have hb : ∀ i, 0 ≤ zs.getD i 0 ∧ zs.getD i 0 < 256 := fun i => by
      rcases Nat.lt_or_ge i zs.length with hi | hi
      · have h1 := hwz (zs.getD i 0) (by simp [List.getD, List.getElem?_eq_getElem hi])
        have h2 := bounds_u8 h1
        omega
      · simp only [List.getD, List.getElem?_eq_none hi, Option.getD_none]; decide
    refine ⟨some a, n, c, fun i => (zs.getD i 0).toNat, rfl, ⟨fun i => by have := hb i; omega, fun hn => ?_⟩, fun h => by cases h⟩
    have hc0 := hcell 0 (by omega)
    have hlt := World.block_lt_of_cell? W _ hc0
    obtain ⟨g, o, sp⟩ := a
    have hspot : sp = none := by simpa [Addr.add] using World.cell?_spot hc0
    subst hspot
    exact ⟨g, o, rfl, hlt, fun i hi => by
      have h1 := hcell i (by omega)
      have h2 := (hb i).1
      rw [add_plain] at h1
      rw [h1, Int.toNat_of_nonneg h2]⟩
end
end Go.Proofs.Ytffipojlpdphiaa

namespace Go.Proofs.Ytffipojlpdphiaa
open Go.ChangeShapes Go.WideShapes Go.ChangeAt Go.RowKit

theorem cells_act28 : Try.prog.cellsOf 97 = 4 := by kernel_rfl
theorem cells_act28_il : Try.prog.cellsOf 32 = 1 := by kernel_rfl
theorem cells_act28_int : Try.prog.cellsOf 3 = 1 := by kernel_rfl
theorem list_act28 {α : Type} (l : List α) (h : l.length = 4) : ∃ b0 b1 b2 b3, l = [b0, b1, b2, b3] := by
  match l, h with
  | [b0, b1, b2, b3], _ => exact ⟨b0, b1, b2, b3, rfl⟩
/-- N rows at A, their fields -/
structure act28sAt (W : World) (A : Option Addr) (N : Nat) (A0 : Nat → Option Addr) (k0 : Nat → Nat) (c0 : Nat → Nat) (f50 : Nat → Nat → Int) (x1 : Nat → Int) (x2 : Nat → Int) (x3 : Nat → Int) : Prop where
  rows : RowsV W A N 4 (fun i => [.slice (A0 i) (k0 i) (c0 i), .int .i64 (x1 i), .int .i64 (x2 i), .int .i64 (x3 i)])
  f0 : ∀ i, i < N → (((k0 i) : Int) ≤ 9223372036854775807)
  f1 : ∀ i, i < N → (Il W (A0 i) (k0 i) (f50 i))
  f2 : ∀ i, i < N → ((A0 i) = none → (k0 i) = 0 ∧ (c0 i) = 0)
  f3 : ∀ i, i < N → (-9223372036854775808 ≤ (x1 i) ∧ (x1 i) < 2 ^ 63)
  f4 : ∀ i, i < N → (-9223372036854775808 ≤ (x2 i) ∧ (x2 i) < 2 ^ 63)
  f5 : ∀ i, i < N → (-9223372036854775808 ≤ (x3 i) ∧ (x3 i) < 2 ^ 63)
theorem act28sAt.below {W W' : World} {A : Option Addr} {N : Nat} {A0 : Nat → Option Addr} {k0 : Nat → Nat} {c0 : Nat → Nat} {f50 : Nat → Nat → Int} {x1 : Nat → Int} {x2 : Nat → Int} {x3 : Nat → Int} (h : act28sAt W A N A0 k0 c0 f50 x1 x2 x3) (hb : Below W.heap.size W W') : act28sAt W' A N A0 k0 c0 f50 x1 x2 x3 :=
  ⟨h.rows.below hb, fun i hi => (h.f0 i hi), fun i hi => (h.f1 i hi).below hb, fun i hi => (h.f2 i hi), fun i hi => (h.f3 i hi), fun i hi => (h.f4 i hi), fun i hi => (h.f5 i hi)⟩
section
variable {H : Type} {enc : TypeId × Value → H} {W : World} {base : Nat}
set_option maxRecDepth 100000 in
theorem open_il_act28 {b : Value} {m : Nat} {y : DataW H × List MemPlace} (hf : DataW.trod enc Try.prog W 0 (fun _ => true) true m 32 [b] = some y) :
    ∃ A n c f, b = .slice A n c ∧ (n : Int) ≤ 9223372036854775807 ∧ Il W A n f ∧ (A = none → n = 0 ∧ c = 0) := by
  rcases open_ints Try.underlying32 Try.underlying3 (show Try.prog.cellsOf 3 = 1 by kernel_rfl) hf with ⟨hcs, hx⟩ | ⟨a, n, c, zs, hcs, _, hl, hm, hz, hx, hcell, hwz⟩
  · simp only [List.cons.injEq, and_true] at hcs
    subst hcs
    exact ⟨none, 0, 0, fun _ => 0, rfl, by decide, ⟨fun _ => by show (0 : Int) < 2 ^ 63; decide, fun h => absurd h (by omega)⟩, fun _ => ⟨rfl, rfl⟩⟩
  · simp only [List.cons.injEq, and_true] at hcs
    subst hcs
    simp only [if_true] at hz
    refine ⟨some a, n, c, fun i => zs.getD i 0, rfl, ?_, ⟨fun i => ?_, fun hn => ?_⟩, fun h => by cases h⟩
    · have hh := hm
      simp [maxLen] at hh
      omega
    · rcases Nat.lt_or_ge i zs.length with hi | hi
      · have := bounds_i64 (hwz (zs.getD i 0) (by simp [List.getD, List.getElem?_eq_getElem hi]))
        show zs.getD i 0 < 2 ^ 63
        omega
      · simp only [List.getD, List.getElem?_eq_none hi, Option.getD_none]; decide
    · have hc0 := hcell 0 (by omega)
      have hlt := World.block_lt_of_cell? W _ hc0
      obtain ⟨g, o, sp⟩ := a
      have hspot : sp = none := by simpa [Addr.add] using World.cell?_spot hc0
      subst hspot
      exact ⟨g, o, rfl, hlt, fun i hi => by rw [← add_plain]; exact hcell i (by omega)⟩
set_option maxRecDepth 100000 in
theorem open_act28_row {fuel : Nat} {cs : List Value} {x : DataW H × List MemPlace} (hf : DataW.trod enc Try.prog W 0 (fun _ => true) true fuel 97 cs = some x) (hsz : cs.length = 4) :
    ∃ A0 k0 c0 f50 x1 x2 x3, cs = [.slice A0 k0 c0, .int .i64 x1, .int .i64 x2, .int .i64 x3] ∧ ((k0 : Int) ≤ 9223372036854775807) ∧ (Il W A0 k0 f50) ∧ (A0 = none → k0 = 0 ∧ c0 = 0) ∧ (-9223372036854775808 ≤ x1 ∧ x1 < 2 ^ 63) ∧ (-9223372036854775808 ≤ x2 ∧ x2 < 2 ^ 63) ∧ (-9223372036854775808 ≤ x3 ∧ x3 < 2 ^ 63) := by
  obtain ⟨b0, b1, b2, b3, rfl⟩ := list_act28 cs hsz
  obtain ⟨ys, n2, _, _, _, hyl, hf⟩ := DataW.trod_struct Try.underlying97 hf
  obtain ⟨y0, y1, y2, y3, rfl⟩ := list_act28 ys hyl
  have f0 : DataW.trod enc Try.prog W 0 (fun _ => true) true n2 32 (([b0, b1, b2, b3].drop 0).take (Try.prog.cellsOf 32)) = some y0 := hf 0 _ rfl
  rw [cells_act28_il] at f0
  replace f0 : DataW.trod enc Try.prog W 0 (fun _ => true) true n2 32 [b0] = some y0 := f0
  have f1 : DataW.trod enc Try.prog W 0 (fun _ => true) true n2 3 (([b0, b1, b2, b3].drop 1).take (Try.prog.cellsOf 3)) = some y1 := hf 1 _ rfl
  rw [cells_act28_int] at f1
  replace f1 : DataW.trod enc Try.prog W 0 (fun _ => true) true n2 3 [b1] = some y1 := f1
  have f2 : DataW.trod enc Try.prog W 0 (fun _ => true) true n2 3 (([b0, b1, b2, b3].drop 2).take (Try.prog.cellsOf 3)) = some y2 := hf 2 _ rfl
  rw [cells_act28_int] at f2
  replace f2 : DataW.trod enc Try.prog W 0 (fun _ => true) true n2 3 [b2] = some y2 := f2
  have f3 : DataW.trod enc Try.prog W 0 (fun _ => true) true n2 3 (([b0, b1, b2, b3].drop 3).take (Try.prog.cellsOf 3)) = some y3 := hf 3 _ rfl
  rw [cells_act28_int] at f3
  replace f3 : DataW.trod enc Try.prog W 0 (fun _ => true) true n2 3 [b3] = some y3 := f3
  obtain ⟨A0, k0, c0, f50, rfl, hn0, hl0, hz0⟩ := open_il_act28 f0
  obtain ⟨x1, e1, _, w1⟩ := DataW.trod_int Try.underlying3 f1
  simp at e1
  subst e1
  have h1 := bounds_i64 w1
  obtain ⟨x2, e2, _, w2⟩ := DataW.trod_int Try.underlying3 f2
  simp at e2
  subst e2
  have h2 := bounds_i64 w2
  obtain ⟨x3, e3, _, w3⟩ := DataW.trod_int Try.underlying3 f3
  simp at e3
  subst e3
  have h3 := bounds_i64 w3
  exact ⟨A0, k0, c0, f50, x1, x2, x3, rfl, hn0, hl0, hz0, ⟨by omega, by omega⟩, ⟨by omega, by omega⟩, ⟨by omega, by omega⟩⟩
set_option maxRecDepth 100000 in
theorem open_act28s {v : Value} {d : DataW H} {p : List MemPlace} (hv : Value.okWide Try.prog W .any base 94 v) (h : DataW.Trod enc Try.prog W 0 (fun _ => true) true 94 v d p) :
    ∃ A N C A0 k0 c0 f50 x1 x2 x3, v = .slice A N C ∧ (A = none → N = 0 ∧ C = 0) ∧ N ≤ C ∧ C ≤ 9223372036854775807 ∧ act28sAt W A N A0 k0 c0 f50 x1 x2 x3 := by
  obtain ⟨a0, N, C, rfl⟩ := okWide_slice Try.underlying94 hv
  obtain ⟨fuel, hf⟩ := h
  rcases Go.Deep.open_slice Try.underlying94 hf with ⟨hcs, hx⟩ | ⟨a, len, cap, m, n, D, Pl, hcs, hb, hl, hm, hmm, _, hx⟩
  · simp [Value.cells] at hcs
    obtain ⟨rfl, rfl, rfl⟩ := hcs
    exact ⟨none, 0, 0, fun _ => none, fun _ => 0, fun _ => 0, fun _ => fun _ => 0, fun _ => 0, fun _ => 0, fun _ => 0, rfl, fun _ => ⟨rfl, rfl⟩, Nat.le_refl _, by decide, ⟨RowsV.nil _ _ _ _, fun i h => absurd h (by omega), fun i h => absurd h (by omega), fun i h => absurd h (by omega), fun i h => absurd h (by omega), fun i h => absurd h (by omega), fun i h => absurd h (by omega)⟩⟩
  · simp only [Value.cells, List.cons.injEq, Value.slice.injEq, and_true] at hcs
    obtain ⟨rfl, rfl, rfl⟩ := hcs
    simp only [if_true] at hmm
    subst hmm
    rw [cells_act28] at hx
    obtain ⟨y, hy⟩ := Go.Deep.choose_lt (α := (Option Addr) × (Nat) × (Nat) × (Nat → Int) × (Int) × (Int) × (Int)) (n := m) (p := fun i y => W.cells? 0 (a.add (i * 4)) 4 = some [.slice y.1 y.2.1 y.2.2.1, .int .i64 y.2.2.2.2.1, .int .i64 y.2.2.2.2.2.1, .int .i64 y.2.2.2.2.2.2] ∧ ((y.2.1 : Int) ≤ 9223372036854775807) ∧ (Il W y.1 y.2.1 y.2.2.2.1) ∧ (y.1 = none → y.2.1 = 0 ∧ y.2.2.1 = 0) ∧ (-9223372036854775808 ≤ y.2.2.2.2.1 ∧ y.2.2.2.2.1 < 2 ^ 63) ∧ (-9223372036854775808 ≤ y.2.2.2.2.2.1 ∧ y.2.2.2.2.2.1 < 2 ^ 63) ∧ (-9223372036854775808 ≤ y.2.2.2.2.2.2 ∧ y.2.2.2.2.2.2 < 2 ^ 63)) (fun i hi => by
      obtain ⟨cs, h1, h2⟩ := hx i hi
      obtain ⟨A0, k0, c0, f50, x1, x2, x3, rfl, g0, g1, g2, g3, g4, g5⟩ := open_act28_row h2 (World.cells?_some h1).2.1
      exact ⟨(A0, k0, c0, f50, x1, x2, x3), h1, g0, g1, g2, g3, g4, g5⟩)
    unfold maxLen at hm
    refine ⟨some a, N, m, fun i => (y i).1, fun i => (y i).2.1, fun i => (y i).2.2.1, fun i => (y i).2.2.2.1, fun i => (y i).2.2.2.2.1, fun i => (y i).2.2.2.2.2.1, fun i => (y i).2.2.2.2.2.2, rfl, (fun h => by cases h), hl, by omega, ⟨RowsV.of_cells (by decide) fun i hi => (hy i (by omega)).1, fun i hi => (hy i (by omega)).2.1, fun i hi => (hy i (by omega)).2.2.1, fun i hi => (hy i (by omega)).2.2.2.1, fun i hi => (hy i (by omega)).2.2.2.2.1, fun i hi => (hy i (by omega)).2.2.2.2.2.1, fun i hi => (hy i (by omega)).2.2.2.2.2.2⟩⟩
end
end Go.Proofs.Ytffipojlpdphiaa

namespace Go.Proofs.Ytffipojlpdphiaa
open Go.RowKit Go.Maps

set_option maxRecDepth 100000 in
set_option maxHeartbeats 400000 in
theorem dset_dead (p : Value) (t : Int) (A : Option Addr) (n c : Nat) (x y z : Int) (w : World) (h : SDead w p) : Calls Try.prog 53 #[p, .int .i64 t, .slice A n c, .int .i64 x, .int .i64 y, .int .i64 z] w fun e w' => e = .returned (.int .i64 1) ∧ w = w' := by
  have HM := Lib.hid (made_dead p w h)
  clear h
  go_enter Try.func53, Try.ntmps53
  go_wp2_with (go_at_call 70; refine HM.out.mono ?_; rintro e w1 ⟨rfl, rfl⟩)
  go_ret
  exact ⟨rfl, rfl⟩
set_option maxRecDepth 100000 in
set_option maxHeartbeats 1000000 in
theorem light28_walk (g : Nat) (A : Option Addr) (n c : Nat) (x y z : Int) (w : World) (hr : w.heap[g]? = some (.cells #[.slice A n c, .int .i64 x, .int .i64 y, .int .i64 z] 97 (0, 0))) (hn : (n : Int) ≤ 9223372036854775807) :
    Calls Try.prog 51 #[.slice (some ⟨g, 0, none⟩) 1 1] w fun e w' => e = .returned (.bool (decide (n ≤ 5))) ∧ Below w.heap.size w w' := by
  obtain ⟨B, hB⟩ : ∃ B, B = decide (n ≤ 5) := ⟨_, rfl⟩
  rw [← hB]
  have HBe := Lib.hid hB
  have HR := Lib.hid hr
  clear hB hr
  go_enter Try.func51, Try.ntmps51
  go_wp2
  go_loopw [10] (fun i wr => ∃ j : Nat, j ≤ 1 ∧ i = .int .i64 (j : Nat) ∧ Below w.heap.size w wr ∧ (j = 1 → n ≤ 5)) (fun i _ => 1 - (intOf i).toNat)
  case atStart => exact ⟨0, by omega, rfl, Below.refl _ _, fun h => by omega⟩
  case round =>
    obtain ⟨j, hj, rfl, hb, h5⟩ := hrel
    have HB := Lib.hid hb
    have H5 := Lib.hid h5
    have rr := (hb.block g (hp_lt HR.out)).trans HR.out
    have c0 := (hp_cell (i := 0) rr).trans rfl
    have c1 := (hp_cell (i := 1) rr).trans rfl
    have c2 := (hp_cell (i := 2) rr).trans rfl
    have c3 := (hp_cell (i := 3) rr).trans rfl
    clear hb h5 rr
    rcases (by omega : j = 0 ∨ j = 1) with rfl | rfl
    · by_cases hn5 : n ≤ 5
      · have p1 : ¬ (5 : Int) < (n : Int) := by omega
        go_wp2
        exact ⟨⟨1, by omega, rfl, HB.out.alloc HB.out.size _, fun _ => hn5⟩, by simp [intOf]⟩
      · have p1 : (5 : Int) < (n : Int) := by omega
        have e0 : B = false := by rw [HBe.out]; exact decide_eq_false hn5
        subst e0
        go_wp2
        go_ret
        exact ⟨rfl, HB.out.alloc HB.out.size _⟩
    · have e0 : B = true := by rw [HBe.out]; exact decide_eq_true (H5.out rfl)
      subst e0
      go_wp2
      go_ret
      exact ⟨rfl, HB.out⟩
/-- the law's world: its box, the store z, the id -/
structure DNAt (W w : World) (s : Value) (A : Option Addr) (n c : Nat) (f : Nat → Int) (x y z : Int) : Prop where
  bl : Below W.heap.size W w
  r : w.heap[W.heap.size]? = some (.cells #[.slice A n c, .int .i64 x, .int .i64 y, .int .i64 z] 97 (0, 0))
  l : Il w A n f
  d : SDead w s
theorem DNAt.step {W w w' : World} {s : Value} {A : Option Addr} {n c : Nat} {f : Nat → Int} {x y z : Int} (h : DNAt W w s A n c f x y z) (hb : Below w.heap.size w w') : DNAt W w' s A n c f x y z :=
  ⟨h.bl.trans (hb.mono h.bl.size), (hb.block _ (hp_lt h.r)).trans h.r, h.l.below hb, h.d.below hb⟩
theorem DNAt.nil {W w : World} {s : Value} {A : Option Addr} {n c : Nat} {f : Nat → Int} {x y z : Int} (h : DNAt W w s A n c f x y z) : DNAt W w (.pointer none) A n c f x y z := ⟨h.bl, h.r, h.l, .inl rfl⟩
end Go.Proofs.Ytffipojlpdphiaa
