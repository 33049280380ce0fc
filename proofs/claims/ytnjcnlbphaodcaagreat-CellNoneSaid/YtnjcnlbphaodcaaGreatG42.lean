/- How tallage/tallagelaw10.Act that comes in is opened. -/
import Derived.Test.YtnjcnlbphaodcaaGreatG41
import Derived.Test.YtnjcnlbphaodcaaGreatG01
import Derived.Test.YtnjcnlbphaodcaaGreatG02
import Derived.OpenShut
import Derived.ChangeOld
import Derived.ChangeSlices
import Derived.Carry
import Derived.Deep.Slices
import Derived.ChangeSame
import Derived.Laws.IdiomArrays
namespace Go.Proofs.YtnjcnlbphaodcaaGreat
open Go.ChangeShapes Go.WideShapes Go.ChangeAt Go.RowKit

theorem cells_act10n : Tryz.prog.cellsOf 27 = 9 := by kernel_rfl
theorem cells_act10n_U : Tryz.prog.cellsOf 24 = 4 := by kernel_rfl
theorem cells_act10n_il : Tryz.prog.cellsOf 25 = 1 := by kernel_rfl
theorem cells_act10n_int : Tryz.prog.cellsOf 3 = 1 := by kernel_rfl
theorem list_act10n {α : Type} (l : List α) (h : l.length = 9) : ∃ b0 b1 b2 b3 b4 b5 b6 b7 b8, l = [b0, b1, b2, b3, b4, b5, b6, b7, b8] := by
  match l, h with
  | [b0, b1, b2, b3, b4, b5, b6, b7, b8], _ => exact ⟨b0, b1, b2, b3, b4, b5, b6, b7, b8, rfl⟩
theorem listy_act10n {α : Type} (l : List α) (h : l.length = 6) : ∃ y0 y1 y2 y3 y4 y5, l = [y0, y1, y2, y3, y4, y5] := by
  match l, h with
  | [y0, y1, y2, y3, y4, y5], _ => exact ⟨y0, y1, y2, y3, y4, y5, rfl⟩
section
variable {H : Type} {enc : TypeId × Value → H} {W : World} {base : Nat}
set_option maxRecDepth 100000 in
theorem open_il_act10n {b : Value} {m : Nat} {y : DataW H × List MemPlace} (hf : DataW.trod enc Tryz.prog W 0 (fun _ => true) true m 25 [b] = some y) :
    ∃ A n c f, b = .slice A n c ∧ (n : Int) ≤ 9223372036854775807 ∧ Il W A n f ∧ (A = none → n = 0 ∧ c = 0) := by
  rcases open_ints Tryz.underlying25 Tryz.underlying3 (show Tryz.prog.cellsOf 3 = 1 by kernel_rfl) hf with ⟨hcs, hx⟩ | ⟨a, n, c, zs, hcs, _, hl, hm, hz, hx, hcell, hwz⟩
  · simp only [List.cons.injEq, and_true] at hcs
    subst hcs
    exact ⟨none, 0, 0, fun _ => 0, rfl, by decide, ⟨fun _ => by show (0 : Int) < 2 ^ 63; decide, fun h => absurd h (by omega)⟩, fun _ => ⟨rfl, rfl⟩⟩
  · simp only [List.cons.injEq, and_true] at hcs
    subst hcs
    simp only [if_true] at hz
    refine ⟨some a, n, c, fun i => zs.getD i 0, rfl, ?_, ⟨fun i => ?_, fun hn => ?_⟩, fun h => by cases h⟩
    · have hh := hm
      simp [maxLen] at hh
      omega
    · rcases Nat.lt_or_ge i zs.length with hi | hi
      · have := bounds_i64 (hwz (zs.getD i 0) (by simp [List.getD, List.getElem?_eq_getElem hi]))
        show zs.getD i 0 < 2 ^ 63
        omega
      · simp only [List.getD, List.getElem?_eq_none hi, Option.getD_none]; decide
    · have hc0 := hcell 0 (by omega)
      have hlt := World.block_lt_of_cell? W _ hc0
      obtain ⟨g, o, sp⟩ := a
      have hspot : sp = none := by simpa [Addr.add] using World.cell?_spot hc0
      subst hspot
      exact ⟨g, o, rfl, hlt, fun i hi => by rw [← add_plain]; exact hcell i (by omega)⟩
set_option maxRecDepth 100000 in
theorem open_u_act10n {m : Nat} {c0 c1 c2 c3 : Value} {x : DataW H × List MemPlace} (hf : DataW.trod enc Tryz.prog W 0 (fun _ => true) true m 24 [c0, c1, c2, c3] = some x) :
    ∃ a, a < 2 ^ 256 ∧ c0 = .int .u64 (limb a 0 : Nat) ∧ c1 = .int .u64 (limb a 1 : Nat) ∧ c2 = .int .u64 (limb a 2 : Nat) ∧ c3 = .int .u64 (limb a 3 : Nat) := by
  obtain ⟨y0, y1, y2, y3, m, hx, hy0, hy1, hy2, hy3⟩ := trod_array4 Tryz.underlying24 (show Tryz.prog.cellsOf 22 = 1 by kernel_rfl) hf
  obtain ⟨x0, e0, rfl, w0⟩ := DataW.trod_int Tryz.underlying22 hy0
  obtain ⟨x1, e1, rfl, w1⟩ := DataW.trod_int Tryz.underlying22 hy1
  obtain ⟨x2, e2, rfl, w2⟩ := DataW.trod_int Tryz.underlying22 hy2
  obtain ⟨x3, e3, rfl, w3⟩ := DataW.trod_int Tryz.underlying22 hy3
  simp at e0 e1 e2 e3
  have hb0 := bounds_u64 w0
  have hb1 := bounds_u64 w1
  have hb2 := bounds_u64 w2
  have hb3 := bounds_u64 w3
  obtain ⟨n0, rfl⟩ : ∃ n : Nat, x0 = (n : Int) := ⟨x0.toNat, by omega⟩
  obtain ⟨n1, rfl⟩ : ∃ n : Nat, x1 = (n : Int) := ⟨x1.toNat, by omega⟩
  obtain ⟨n2, rfl⟩ : ∃ n : Nat, x2 = (n : Int) := ⟨x2.toNat, by omega⟩
  obtain ⟨n3, rfl⟩ : ∃ n : Nat, x3 = (n : Int) := ⟨x3.toNat, by omega⟩
  have hl : ∀ i, i < 4 → (fun i => match i with | 0 => n0 | 1 => n1 | 2 => n2 | _ => n3 : Nat → Nat) i < 2 ^ 64 := fun i hi => by
    rcases (by omega : i = 0 ∨ i = 1 ∨ i = 2 ∨ i = 3) with rfl | rfl | rfl | rfl
    · show n0 < 2 ^ 64; omega
    · show n1 < 2 ^ 64; omega
    · show n2 < 2 ^ 64; omega
    · show n3 < 2 ^ 64; omega
  refine ⟨val (fun i => match i with | 0 => n0 | 1 => n1 | 2 => n2 | _ => n3 : Nat → Nat) 4, val_lt 4 hl, ?_, ?_, ?_, ?_⟩
  · rw [e0, limb_val 4 hl 0 (by omega)]; rfl
  · rw [e1, limb_val 4 hl 1 (by omega)]; rfl
  · rw [e2, limb_val 4 hl 2 (by omega)]; rfl
  · rw [e3, limb_val 4 hl 3 (by omega)]; rfl
set_option maxRecDepth 100000 in
theorem open_act10n {v : Value} {d : DataW H} {p : List MemPlace} (hv : Value.okWide Tryz.prog W .any base 27 v) (h : DataW.Trod enc Tryz.prog W 0 (fun _ => true) true 27 v d p) :
    ∃ x0 x1 x2 x3 a4 A5 k5 c5 f55, v = .agg #[.int .i64 x0, .int .i64 x1, .int .i64 x2, .int .i64 x3, .int .u64 (limb a4 0 : Nat), .int .u64 (limb a4 1 : Nat), .int .u64 (limb a4 2 : Nat), .int .u64 (limb a4 3 : Nat), .slice A5 k5 c5] ∧ (-9223372036854775808 ≤ x0 ∧ x0 < 2 ^ 63) ∧ (-9223372036854775808 ≤ x1 ∧ x1 < 2 ^ 63) ∧ (-9223372036854775808 ≤ x2 ∧ x2 < 2 ^ 63) ∧ (-9223372036854775808 ≤ x3 ∧ x3 < 2 ^ 63) ∧ (a4 < 2 ^ 256) ∧ ((k5 : Int) ≤ 9223372036854775807) ∧ (Il W A5 k5 f55) ∧ (A5 = none → k5 = 0 ∧ c5 = 0) := by
  obtain ⟨cs, rfl, hsz, _⟩ : ∃ cs, v = .agg cs ∧ cs.size = Tryz.prog.cellsOf 27 ∧ Row.okWide Tryz.prog W .any base 27 cs := by
    simpa [Value.okWide, Tryz.underlying27] using hv
  rw [cells_act10n] at hsz
  obtain ⟨l⟩ := cs
  obtain ⟨b0, b1, b2, b3, b4, b5, b6, b7, b8, rfl⟩ := list_act10n l hsz
  obtain ⟨fuel, hf⟩ := h
  obtain ⟨ys, n2, _, _, _, hyl, hf⟩ := DataW.trod_struct Tryz.underlying27 hf
  obtain ⟨y0, y1, y2, y3, y4, y5, rfl⟩ := listy_act10n ys hyl
  have f0 : DataW.trod enc Tryz.prog W 0 (fun _ => true) true n2 3 (([b0, b1, b2, b3, b4, b5, b6, b7, b8].drop 0).take (Tryz.prog.cellsOf 3)) = some y0 := hf 0 _ rfl
  rw [cells_act10n_int] at f0
  replace f0 : DataW.trod enc Tryz.prog W 0 (fun _ => true) true n2 3 [b0] = some y0 := f0
  have f1 : DataW.trod enc Tryz.prog W 0 (fun _ => true) true n2 3 (([b0, b1, b2, b3, b4, b5, b6, b7, b8].drop 1).take (Tryz.prog.cellsOf 3)) = some y1 := hf 1 _ rfl
  rw [cells_act10n_int] at f1
  replace f1 : DataW.trod enc Tryz.prog W 0 (fun _ => true) true n2 3 [b1] = some y1 := f1
  have f2 : DataW.trod enc Tryz.prog W 0 (fun _ => true) true n2 3 (([b0, b1, b2, b3, b4, b5, b6, b7, b8].drop 2).take (Tryz.prog.cellsOf 3)) = some y2 := hf 2 _ rfl
  rw [cells_act10n_int] at f2
  replace f2 : DataW.trod enc Tryz.prog W 0 (fun _ => true) true n2 3 [b2] = some y2 := f2
  have f3 : DataW.trod enc Tryz.prog W 0 (fun _ => true) true n2 3 (([b0, b1, b2, b3, b4, b5, b6, b7, b8].drop 3).take (Tryz.prog.cellsOf 3)) = some y3 := hf 3 _ rfl
  rw [cells_act10n_int] at f3
  replace f3 : DataW.trod enc Tryz.prog W 0 (fun _ => true) true n2 3 [b3] = some y3 := f3
  have f4 : DataW.trod enc Tryz.prog W 0 (fun _ => true) true n2 24 (([b0, b1, b2, b3, b4, b5, b6, b7, b8].drop 4).take (Tryz.prog.cellsOf 24)) = some y4 := hf 4 _ rfl
  rw [cells_act10n_U] at f4
  replace f4 : DataW.trod enc Tryz.prog W 0 (fun _ => true) true n2 24 [b4, b5, b6, b7] = some y4 := f4
  have f5 : DataW.trod enc Tryz.prog W 0 (fun _ => true) true n2 25 (([b0, b1, b2, b3, b4, b5, b6, b7, b8].drop 8).take (Tryz.prog.cellsOf 25)) = some y5 := hf 5 _ rfl
  rw [cells_act10n_il] at f5
  replace f5 : DataW.trod enc Tryz.prog W 0 (fun _ => true) true n2 25 [b8] = some y5 := f5
  obtain ⟨x0, e0, _, w0⟩ := DataW.trod_int Tryz.underlying3 f0
  simp at e0
  subst e0
  have h0 := bounds_i64 w0
  obtain ⟨x1, e1, _, w1⟩ := DataW.trod_int Tryz.underlying3 f1
  simp at e1
  subst e1
  have h1 := bounds_i64 w1
  obtain ⟨x2, e2, _, w2⟩ := DataW.trod_int Tryz.underlying3 f2
  simp at e2
  subst e2
  have h2 := bounds_i64 w2
  obtain ⟨x3, e3, _, w3⟩ := DataW.trod_int Tryz.underlying3 f3
  simp at e3
  subst e3
  have h3 := bounds_i64 w3
  obtain ⟨a4, ha4, rfl, rfl, rfl, rfl⟩ := open_u_act10n f4
  obtain ⟨A5, k5, c5, f55, rfl, hn5, hl5, hz5⟩ := open_il_act10n f5
  exact ⟨x0, x1, x2, x3, a4, A5, k5, c5, f55, rfl, ⟨by omega, by omega⟩, ⟨by omega, by omega⟩, ⟨by omega, by omega⟩, ⟨by omega, by omega⟩, ha4, hn5, hl5, hz5⟩
end
end Go.Proofs.YtnjcnlbphaodcaaGreat

namespace Go.Proofs.YtnjcnlbphaodcaaGreat
open Go.RowKit Go.Maps Go.Sort

theorem sidx10a (a b : Value) (w : World) : (Instr.index 37 (.agg #[a, b]) (.int .i64 0)).run Tryz.prog w = .ok a w := by kernel_rfl
theorem sidx10b (a b : Value) (w : World) : (Instr.index 37 (.agg #[a, b]) (.int .i64 1)).run Tryz.prog w = .ok b w := by kernel_rfl
theorem ueq0 (w : World) : (Op.equalIn 10000 24 (.agg #[.int .u64 0, .int .u64 0, .int .u64 0, .int .u64 0]) (.agg #[.int .u64 0, .int .u64 0, .int .u64 0, .int .u64 0])).run Tryz.prog w = .ok true w := by
  have h := eq0_run (show 0 < 2 ^ 256 by decide) w
  have e : ∀ i, limb 0 i = 0 := fun i => by unfold limb; simp
  simpa [e] using h
set_option maxRecDepth 100000 in
set_option maxHeartbeats 1000000 in
theorem light10n_walk (g : Nat) (kd x tt n : Int) (a : Nat) (A : Option Addr) (N C : Nat) (w : World) (hr : w.heap[g]? = some (.cells #[.int .i64 kd, .int .i64 x, .int .i64 tt, .int .i64 n, .int .u64 (limb a 0 : Nat), .int .u64 (limb a 1 : Nat), .int .u64 (limb a 2 : Nat), .int .u64 (limb a 3 : Nat), .slice A N C] 27 (0, 0))) (hn : (N : Int) ≤ 9223372036854775807) :
    Calls Tryz.prog 4 #[.slice (some ⟨g, 0, none⟩) 1 1] w fun e w' => e = .returned (.bool (decide (N ≤ 20))) ∧ Below w.heap.size w w' := by
  obtain ⟨B, hB⟩ : ∃ B, B = decide (N ≤ 20) := ⟨_, rfl⟩
  rw [← hB]
  have HBe := Lib.hid hB
  have HR := Lib.hid hr
  clear hB hr
  go_enter Tryz.func4, Tryz.ntmps4
  go_wp2
  go_loopw [10] (fun i wr => ∃ j : Nat, j ≤ 1 ∧ i = .int .i64 (j : Nat) ∧ Below w.heap.size w wr ∧ (j = 1 → N ≤ 20)) (fun i _ => 1 - (intOf i).toNat)
  case atStart => exact ⟨0, by omega, rfl, Below.refl _ _, fun h => by omega⟩
  case round =>
    obtain ⟨j, hj, rfl, hb, h5⟩ := hrel
    have HB := Lib.hid hb
    have H5 := Lib.hid h5
    have rr := (hb.block g (hp_lt HR.out)).trans HR.out
    have c0 := (hp_cell (i := 0) rr).trans rfl
    have c1 := (hp_cell (i := 1) rr).trans rfl
    have c2 := (hp_cell (i := 2) rr).trans rfl
    have c3 := (hp_cell (i := 3) rr).trans rfl
    have c4 := (hp_cell (i := 4) rr).trans rfl
    have c5 := (hp_cell (i := 5) rr).trans rfl
    have c6 := (hp_cell (i := 6) rr).trans rfl
    have c7 := (hp_cell (i := 7) rr).trans rfl
    have c8 := (hp_cell (i := 8) rr).trans rfl
    clear hb h5 rr
    rcases (by omega : j = 0 ∨ j = 1) with rfl | rfl
    · by_cases hn5 : N ≤ 20
      · have p1 : ¬ (20 : Int) < (N : Int) := by omega
        go_wp2
        exact ⟨⟨1, by omega, rfl, HB.out.alloc HB.out.size _, fun _ => hn5⟩, by simp [intOf]⟩
      · have p1 : (20 : Int) < (N : Int) := by omega
        have e0 : B = false := by rw [HBe.out]; exact decide_eq_false hn5
        subst e0
        go_wp2
        go_ret
        exact ⟨rfl, HB.out.alloc HB.out.size _⟩
    · have e0 : B = true := by rw [HBe.out]; exact decide_eq_true (H5.out rfl)
      subst e0
      go_wp2
      go_ret
      exact ⟨rfl, HB.out⟩
theorem camt_dead0 (P : Option Addr) (k : ByteArray) (w : World) (h : SDead w (.pointer P)) : Calls Tryz.prog 9 #[.pointer P, .string k] w fun e w' => e = .returned (.agg #[.int .u64 0, .int .u64 0, .int .u64 0, .int .u64 0]) ∧ Below w.heap.size w w' := by
  have h1 := camount_dead P k w h
  rwa [U_zero] at h1
theorem csub_dead1 (P : Option Addr) (k : ByteArray) (w : World) (h : SDead w (.pointer P)) : Calls Tryz.prog 11 #[.pointer P, .string k, .agg #[.int .u64 1, .int .u64 0, .int .u64 0, .int .u64 0]] w fun e w' => e = .returned (.int .i64 13) ∧ Below w.heap.size w w' := by
  have h1 := csub_no P k 0 1 (by decide) (by decide) (by decide) w (fun W hb => camount_dead P k W (h.below hb))
  rwa [w1] at h1
/-- the law's world: its box, a store s that is dead, its row -/
structure CNAt (W w : World) (s : Value) (kd x tt n : Int) (a : Nat) (A : Option Addr) (N C : Nat) (f : Nat → Int) : Prop where
  bl : Below W.heap.size W w
  r : w.heap[W.heap.size]? = some (.cells #[.int .i64 kd, .int .i64 x, .int .i64 tt, .int .i64 n, .int .u64 (limb a 0 : Nat), .int .u64 (limb a 1 : Nat), .int .u64 (limb a 2 : Nat), .int .u64 (limb a 3 : Nat), .slice A N C] 27 (0, 0))
  l : Il w A N f
  d : SDead w s
theorem CNAt.step {W w w' : World} {s : Value} {kd x tt n : Int} {a : Nat} {A : Option Addr} {N C : Nat} {f : Nat → Int} (h : CNAt W w s kd x tt n a A N C f) (hb : Below w.heap.size w w') : CNAt W w' s kd x tt n a A N C f :=
  ⟨h.bl.trans (hb.mono h.bl.size), (hb.block _ (hp_lt h.r)).trans h.r, h.l.below hb, h.d.below hb⟩
theorem CNAt.other {W w : World} {s s' : Value} {kd x tt n : Int} {a : Nat} {A : Option Addr} {N C : Nat} {f : Nat → Int} (h : CNAt W w s kd x tt n a A N C f) (h' : SDead w s') : CNAt W w s' kd x tt n a A N C f := ⟨h.bl, h.r, h.l, h'⟩
/-- a round's act: the document's store is laid, the act runs -/
theorem CNAt.act {W w : World} {P : Option Addr} {kd x tt n : Int} {a : Nat} {A : Option Addr} {N C : Nat} {f : Nat → Int} (h : CNAt W w (.pointer P) kd x tt n a A N C f) (hN : N ≤ 100) (ha : a < 2 ^ 256) (hn : n < 2 ^ 63) :
    Calls Tryz.prog 6 #[.pointer P, .pointer (some ⟨w.heap.size, 0, none⟩), .agg #[.int .i64 kd, .int .i64 x, .int .i64 tt, .int .i64 n, .int .u64 (limb a 0 : Nat), .int .u64 (limb a 1 : Nat), .int .u64 (limb a 2 : Nat), .int .u64 (limb a 3 : Nat), .slice A N C]] (w.alloc (.cells #[.slice none 0 0, .slice none 0 0] 43)) fun e W' => (∃ z, e = .returned (.bool z)) ∧ Below w.heap.size w W' :=
  act10_any kd w (w.alloc (.cells #[.slice none 0 0, .slice none 0 0] 43)) P w.heap.size x tt n a A N C f (h.d.below ((Below.refl _ _).alloc (Nat.le_refl _) _)) (DS.new w w (Below.refl _ _) (.bool true) (.bool true) _ rfl) (h.l.below ((Below.refl _ _).alloc (Nat.le_refl _) _)) hN ha hn
set_option maxRecDepth 100000 in
set_option maxHeartbeats 4000000 in
theorem cellNone_walk (kd x tt n : Int) (a : Nat) (A : Option Addr) (N C : Nat) (f : Nat → Int) (w : World) (hl : Il w A N f) (hN : (N : Int) ≤ 9223372036854775807) (ha : a < 2 ^ 256) (hn : n < 2 ^ 63) :
    Calls Tryz.prog 3 #[.agg #[.int .i64 kd, .int .i64 x, .int .i64 tt, .int .i64 n, .int .u64 (limb a 0 : Nat), .int .u64 (limb a 1 : Nat), .int .u64 (limb a 2 : Nat), .int .u64 (limb a 3 : Nat), .slice A N C]] w fun e w' => e = .returned (.bool true) ∧ Below w.heap.size w w' := by
  have hx0 := sidx10a
  have hx1 := sidx10b
  have hu0 := ueq0
  have h0 : CNAt w ((w.alloc (.cells #[.int .i64 kd, .int .i64 x, .int .i64 tt, .int .i64 n, .int .u64 (limb a 0 : Nat), .int .u64 (limb a 1 : Nat), .int .u64 (limb a 2 : Nat), .int .u64 (limb a 3 : Nat), .slice A N C] 27)).alloc (.cells #[.int .i64 kd, .int .i64 x, .int .i64 tt, .int .i64 n, .int .u64 (limb a 0 : Nat), .int .u64 (limb a 1 : Nat), .int .u64 (limb a 2 : Nat), .int .u64 (limb a 3 : Nat), .slice A N C] 27)) (.pointer none) kd x tt n a A N C f := by
    have hb := ((Below.refl w.heap.size w).alloc (Nat.le_refl _) (.cells #[.int .i64 kd, .int .i64 x, .int .i64 tt, .int .i64 n, .int .u64 (limb a 0 : Nat), .int .u64 (limb a 1 : Nat), .int .u64 (limb a 2 : Nat), .int .u64 (limb a 3 : Nat), .slice A N C] 27)).alloc (by simp) (.cells #[.int .i64 kd, .int .i64 x, .int .i64 tt, .int .i64 n, .int .u64 (limb a 0 : Nat), .int .u64 (limb a 1 : Nat), .int .u64 (limb a 2 : Nat), .int .u64 (limb a 3 : Nat), .slice A N C] 27)
    exact ⟨hb, (heap_alloc_old _ _ (by simp)).trans (heap_alloc_new _ _), hl.below hb, .inl rfl⟩
  have hg1 := heap_alloc_new (w.alloc (.cells #[.int .i64 kd, .int .i64 x, .int .i64 tt, .int .i64 n, .int .u64 (limb a 0 : Nat), .int .u64 (limb a 1 : Nat), .int .u64 (limb a 2 : Nat), .int .u64 (limb a 3 : Nat), .slice A N C] 27)) (.cells #[.int .i64 kd, .int .i64 x, .int .i64 tt, .int .i64 n, .int .u64 (limb a 0 : Nat), .int .u64 (limb a 1 : Nat), .int .u64 (limb a 2 : Nat), .int .u64 (limb a 3 : Nat), .slice A N C] 27)
  rw [World.size_alloc] at hg1
  have HLt := Lib.hid (light10n_walk (w.heap.size + 1) kd x tt n a A N C ((w.alloc (.cells #[.int .i64 kd, .int .i64 x, .int .i64 tt, .int .i64 n, .int .u64 (limb a 0 : Nat), .int .u64 (limb a 1 : Nat), .int .u64 (limb a 2 : Nat), .int .u64 (limb a 3 : Nat), .slice A N C] 27)).alloc (.cells #[.int .i64 kd, .int .i64 x, .int .i64 tt, .int .i64 n, .int .u64 (limb a 0 : Nat), .int .u64 (limb a 1 : Nat), .int .u64 (limb a 2 : Nat), .int .u64 (limb a 3 : Nat), .slice A N C] 27)) hg1 hN)
  have H0 := Lib.hid h0
  have HF := Lib.hid (And.intro ha hn)
  clear h0 hl hN hg1 ha hn
  have HLv := Lib.hid (fun w => lives10_walk w)
  by_cases hn5 : N ≤ 20
  · rw [decide_eq_true hn5] at HLt
    have HN5 := Lib.hid hn5
    clear hn5
    go_enter Tryz.func3, Tryz.ntmps3
    go_wp2_with (go_at_call 4; refine HLt.out.mono ?_; rintro e w2 ⟨rfl, hb2⟩; have H2 := Lib.hid (H0.out.step hb2); clear hb2)
    have H3 := Lib.hid (H2.out.step ((Below.refl _ _).alloc (Nat.le_refl _) (.cells #[.map none, .slice none 0 0, .slice none 0 0] 35)))
    have hz : SDead (w2.alloc (.cells #[.map none, .slice none 0 0, .slice none 0 0] 35)) (.pointer (some ⟨w2.heap.size, 0, none⟩)) := .inr ⟨_, rfl, by simp, by simp⟩
    have HZ := Lib.hid hz
    clear hz
    go_loopw [12] (fun i wr => ∃ j : Nat, j ≤ 2 ∧ i = .int .i64 (j : Nat) ∧ CNAt w wr (.pointer none) kd x tt n a A N C f ∧ SDead wr (.pointer (some ⟨w2.heap.size, 0, none⟩))) (fun i _ => 2 - (intOf i).toNat)
    case atStart => exact ⟨0, by omega, rfl, H3.out, HZ.out⟩
    case round =>
      obtain ⟨j, hj, rfl, hd, hz⟩ := hrel
      have HN := Lib.hid hd
      have HZ2 := Lib.hid hz
      clear hd hz
      by_cases h2 : j < 2
      · have p1 : (j : Int) < 2 := by omega
        have r := (((Below.refl wr.heap.size wr).alloc (Nat.le_refl _) (.cells #[.slice none 0 0, .slice none 0 0] 43)).block _ (hp_lt HN.out.r)).trans HN.out.r
        have c0 := (hp_cell (i := 0) r).trans rfl
        have c1 := (hp_cell (i := 1) r).trans rfl
        have c2 := (hp_cell (i := 2) r).trans rfl
        have c3 := (hp_cell (i := 3) r).trans rfl
        have c4 := (hp_cell (i := 4) r).trans rfl
        have c5 := (hp_cell (i := 5) r).trans rfl
        have c6 := (hp_cell (i := 6) r).trans rfl
        have c7 := (hp_cell (i := 7) r).trans rfl
        have c8 := (hp_cell (i := 8) r).trans rfl
        clear r
        rcases (by omega : j = 0 ∨ j = 1) with rfl | rfl
        · have HAct := Lib.hid (HN.out.act (by have := HN5.out; omega) HF.out.1 HF.out.2)
          go_wp2_with (first
            | (go_at_call 12; refine (len_dead _ _ (DD.out.below B7.out)).mono ?_; rintro e wL ⟨rfl, rfl⟩)
            | (go_at_call 11; refine (csub_dead1 _ (kX 1) _ (DD.out.below B7k.out)).mono ?_; rintro e w7 ⟨rfl, hb⟩; have B7 := Lib.hid (B7k.out.trans (hb.mono B7k.out.size)); clear hb)
            | (go_at_call 8; have g5 := B6; clear g5; refine (key_any 1 _).mono ?_; rintro e w7k ⟨rfl, hb⟩; have B7k := Lib.hid (B6.out.trans (hb.mono B6.out.size)); clear hb)
            | (go_at_call 10; refine (row_dead _ (kX x) _ (DD.out.below B6k.out)).mono ?_; rintro e w6 ⟨rfl, hb⟩; have B6 := Lib.hid (B6k.out.trans (hb.mono B6k.out.size)); clear hb)
            | (go_at_call 8; have g5 := B5; clear g5; refine (key_any x _).mono ?_; rintro e w6k ⟨rfl, hb⟩; have B6k := Lib.hid (B5.out.trans (hb.mono B5.out.size)); clear hb)
            | (go_at_call 9; refine (camt_dead0 _ (kX x) _ (DD.out.below B5k.out)).mono ?_; rintro e w5 ⟨rfl, hb⟩; have B5 := Lib.hid (B5k.out.trans (hb.mono B5k.out.size)); have r5 := (B5.out.block _ (hp_lt R3.out)).trans R3.out; clear c1; have c1 := (hp_cell (i := 1) r5).trans rfl; clear hb r5)
            | (go_at_call 8; have g5 := B4; clear g5; refine (key_any x _).mono ?_; rintro e w5k ⟨rfl, hb⟩; have B5k := Lib.hid (B4.out.trans (hb.mono B4.out.size)); clear hb)
            | (go_at_call 7; refine (cint_dead _ (kX x) _ (DD.out.below B4k.out)).mono ?_; rintro e w4 ⟨rfl, hb⟩; have B4 := Lib.hid (B4k.out.trans (hb.mono B4k.out.size)); have r4 := (B4.out.block _ (hp_lt R3.out)).trans R3.out; clear c1; have c1 := (hp_cell (i := 1) r4).trans rfl; clear hb r4)
            | (go_at_call 8; have g5 := B3; clear g5; refine (key_any x _).mono ?_; rintro e w4k ⟨rfl, hb⟩; have B4k := Lib.hid (B3.out.trans (hb.mono B3.out.size)); clear hb)
            | (go_at_call 6; refine HAct.out.mono ?_; rintro e w3 ⟨⟨z, rfl⟩, hb⟩; have HB3 := Lib.hid hb; have H3 := Lib.hid (HN.out.step hb); have DD := Lib.hid (SDead.below HN.out.d hb); have R3 := Lib.hid H3.out.r; have B3 := Lib.hid (Below.refl w3.heap.size w3); have r3 := H3.out.r; clear c0 c1 c2 c3 c4 c5 c6 c7 c8; have c1 := (hp_cell (i := 1) r3).trans rfl; clear hb r3))
          have H6 := Lib.hid (H3.out.step B7.out)
          have HB36 := Lib.hid B7.out
          exact ⟨⟨1, by omega, rfl, H6.out, (HZ2.out.below HB3.out).below HB36.out⟩, by simp [intOf]⟩
        · have HAct := Lib.hid ((HN.out.other HZ2.out).act (by have := HN5.out; omega) HF.out.1 HF.out.2)
          go_wp2_with (first
            | (go_at_call 12; refine (len_dead _ _ (DD.out.below B7.out)).mono ?_; rintro e wL ⟨rfl, rfl⟩)
            | (go_at_call 11; refine (csub_dead1 _ (kX 1) _ (DD.out.below B7k.out)).mono ?_; rintro e w7 ⟨rfl, hb⟩; have B7 := Lib.hid (B7k.out.trans (hb.mono B7k.out.size)); clear hb)
            | (go_at_call 8; have g5 := B6; clear g5; refine (key_any 1 _).mono ?_; rintro e w7k ⟨rfl, hb⟩; have B7k := Lib.hid (B6.out.trans (hb.mono B6.out.size)); clear hb)
            | (go_at_call 10; refine (row_dead _ (kX x) _ (DD.out.below B6k.out)).mono ?_; rintro e w6 ⟨rfl, hb⟩; have B6 := Lib.hid (B6k.out.trans (hb.mono B6k.out.size)); clear hb)
            | (go_at_call 8; have g5 := B5; clear g5; refine (key_any x _).mono ?_; rintro e w6k ⟨rfl, hb⟩; have B6k := Lib.hid (B5.out.trans (hb.mono B5.out.size)); clear hb)
            | (go_at_call 9; refine (camt_dead0 _ (kX x) _ (DD.out.below B5k.out)).mono ?_; rintro e w5 ⟨rfl, hb⟩; have B5 := Lib.hid (B5k.out.trans (hb.mono B5k.out.size)); have r5 := (B5.out.block _ (hp_lt R3.out)).trans R3.out; clear c1; have c1 := (hp_cell (i := 1) r5).trans rfl; clear hb r5)
            | (go_at_call 8; have g5 := B4; clear g5; refine (key_any x _).mono ?_; rintro e w5k ⟨rfl, hb⟩; have B5k := Lib.hid (B4.out.trans (hb.mono B4.out.size)); clear hb)
            | (go_at_call 7; refine (cint_dead _ (kX x) _ (DD.out.below B4k.out)).mono ?_; rintro e w4 ⟨rfl, hb⟩; have B4 := Lib.hid (B4k.out.trans (hb.mono B4k.out.size)); have r4 := (B4.out.block _ (hp_lt R3.out)).trans R3.out; clear c1; have c1 := (hp_cell (i := 1) r4).trans rfl; clear hb r4)
            | (go_at_call 8; have g5 := B3; clear g5; refine (key_any x _).mono ?_; rintro e w4k ⟨rfl, hb⟩; have B4k := Lib.hid (B3.out.trans (hb.mono B3.out.size)); clear hb)
            | (go_at_call 6; refine HAct.out.mono ?_; rintro e w3 ⟨⟨z, rfl⟩, hb⟩; have HB3 := Lib.hid hb; have H3 := Lib.hid (HN.out.step hb); have DD := Lib.hid (SDead.below HZ2.out hb); have R3 := Lib.hid H3.out.r; have B3 := Lib.hid (Below.refl w3.heap.size w3); have r3 := H3.out.r; clear c0 c1 c2 c3 c4 c5 c6 c7 c8; have c1 := (hp_cell (i := 1) r3).trans rfl; clear hb r3))
          have H6 := Lib.hid (H3.out.step B7.out)
          have HB36 := Lib.hid B7.out
          exact ⟨⟨2, by omega, rfl, H6.out, (HZ2.out.below HB3.out).below HB36.out⟩, by simp [intOf]⟩
      · have p1 : ¬ (j : Int) < 2 := by omega
        go_wp2_with (go_at_call 5; refine (HLv.out _).mono ?_; rintro e w9 ⟨rfl, hb9⟩; have HB9 := Lib.hid hb9; clear hb9)
        go_ret
        exact ⟨rfl, HN.out.bl.trans (HB9.out.mono HN.out.bl.size)⟩
  · rw [decide_eq_false hn5] at HLt
    go_enter Tryz.func3, Tryz.ntmps3
    go_wp2_with (first
      | (go_at_call 5; refine (HLv.out _).mono ?_; rintro e w9 ⟨rfl, hb9⟩; have HB9 := Lib.hid hb9; clear hb9)
      | (go_at_call 4; refine HLt.out.mono ?_; rintro e w2 ⟨rfl, hb2⟩; have H2 := Lib.hid (H0.out.step hb2); clear hb2))
    go_ret
    exact ⟨rfl, H2.out.bl.trans (HB9.out.mono H2.out.bl.size)⟩
end Go.Proofs.YtnjcnlbphaodcaaGreat
