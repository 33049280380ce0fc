/- How values that come in are opened. -/
import Derived.Test.YtcodlbfomfjmfaaWFF
import Derived.Test.YtcodlbfomfjmfaaOctetBack
import Derived.Deep.Slices
import Derived.ChangeSame
namespace Go.Proofs.Ytcodlbfomfjmfaa
open Go.ChangeShapes Go.WideShapes Go.ChangeAt Go.RowKit

theorem cellsVal : Try.prog.cellsOf 65 = 7 := by kernel_rfl
theorem cellsInt1 : Try.prog.cellsOf 3 = 1 := by kernel_rfl
theorem cellsBl : Try.prog.cellsOf 33 = 1 := by kernel_rfl
theorem list7 {α : Type} (l : List α) (h : l.length = 7) : ∃ a b c d e f g, l = [a, b, c, d, e, f, g] := by
  match l, h with
  | [a, b, c, d, e, f, g], _ => exact ⟨a, b, c, d, e, f, g, rfl⟩
section
variable {H : Type} {enc : TypeId × Value → H} {W : World} {base : Nat}
set_option maxRecDepth 100000 in
theorem trod_bl {m : Nat} {v : Value} {y : DataW H × List MemPlace} (hf : DataW.trod enc Try.prog W 0 (fun _ => true) true m 33 [v] = some y) :
    ∃ A n c f, v = .slice A n c ∧ Sl W A n f ∧ (A = none → n = 0 ∧ c = 0) := by
  rcases open_ints Try.underlying33 Try.underlying5 cellsU8 hf with ⟨hcs, hx⟩ | ⟨a, len', cap', zs, hcs, _, hl, hm, hz, hx, hcell, hwz⟩
  · simp at hcs
    subst hcs
    exact ⟨none, 0, 0, fun _ => 0, rfl, ⟨fun _ => by decide, fun h => absurd h (by omega)⟩, fun _ => ⟨rfl, rfl⟩⟩
  · simp at hcs
    subst hcs
    simp only [if_true] at hz
    have hb : ∀ i, 0 ≤ zs.getD i 0 ∧ zs.getD i 0 < 256 := fun i => by
      rcases Nat.lt_or_ge i zs.length with hi | hi
      · have h1 := hwz (zs.getD i 0) (by simp [List.getD, List.getElem?_eq_getElem hi])
        have h2 := bounds_u8 h1
        omega
      · simp only [List.getD, List.getElem?_eq_none hi, Option.getD_none]; decide
    refine ⟨some a, len', cap', fun i => (zs.getD i 0).toNat, rfl, ⟨fun i => by have := hb i; omega, fun hn => ?_⟩, fun h => by cases h⟩
    have hc0 := hcell 0 (by omega)
    have hlt := World.block_lt_of_cell? W _ hc0
    obtain ⟨g, o, sp⟩ := a
    have hspot : sp = none := by simpa [Addr.add] using World.cell?_spot hc0
    subst hspot
    exact ⟨g, o, rfl, hlt, fun i hi => by
      have h1 := hcell i (by omega)
      have h2 := (hb i).1
      rw [add_plain] at h1
      rw [h1, Int.toNat_of_nonneg h2]⟩
set_option maxRecDepth 100000 in
theorem trod_U4 {m : Nat} {c0 c1 c2 c3 : Value} {x : DataW H × List MemPlace} (h : DataW.trod enc Try.prog W 0 (fun _ => true) true m 24 [c0, c1, c2, c3] = some x) :
    ∃ a, a < 2 ^ 256 ∧ c0 = .int .u64 (limb a 0 : Nat) ∧ c1 = .int .u64 (limb a 1 : Nat) ∧ c2 = .int .u64 (limb a 2 : Nat) ∧ c3 = .int .u64 (limb a 3 : Nat) := by
  obtain ⟨y0, y1, y2, y3, m, hx, hy0, hy1, hy2, hy3⟩ := trod_array4 Try.underlying24 cells64 h
  obtain ⟨x0, e0, rfl, w0⟩ := DataW.trod_int Try.underlying22 hy0
  obtain ⟨x1, e1, rfl, w1⟩ := DataW.trod_int Try.underlying22 hy1
  obtain ⟨x2, e2, rfl, w2⟩ := DataW.trod_int Try.underlying22 hy2
  obtain ⟨x3, e3, rfl, w3⟩ := DataW.trod_int Try.underlying22 hy3
  simp at e0 e1 e2 e3
  subst e0 e1 e2 e3
  obtain ⟨n0, rfl, l0⟩ := wf_u64 w0
  obtain ⟨n1, rfl, l1⟩ := wf_u64 w1
  obtain ⟨n2, rfl, l2⟩ := wf_u64 w2
  obtain ⟨n3, rfl, l3⟩ := wf_u64 w3
  have hl : ∀ i, four n0 n1 n2 n3 i < 2 ^ 64 := fun i => by
    match i with
    | 0 => exact l0
    | 1 => exact l1
    | 2 => exact l2
    | 3 => exact l3
    | _ + 4 => show 0 < 2 ^ 64; decide
  refine ⟨val (four n0 n1 n2 n3) 4, val_lt 4 (fun i _ => hl i), ?_, ?_, ?_, ?_⟩
  · rw [limb_val 4 (fun i _ => hl i) 0 (by omega)]; rfl
  · rw [limb_val 4 (fun i _ => hl i) 1 (by omega)]; rfl
  · rw [limb_val 4 (fun i _ => hl i) 2 (by omega)]; rfl
  · rw [limb_val 4 (fun i _ => hl i) 3 (by omega)]; rfl
/-- one value -/
def ValAt (W : World) (g q : Nat) (x : It) : Prop :=
  g < W.heap.size ∧ W.cell? ⟨g, q, none⟩ = some (.int .i64 x.kd) ∧ W.cell? ⟨g, q + 1, none⟩ = some (.int .i64 x.N) ∧ W.cell? ⟨g, q + 2, none⟩ = some (.int .u64 (limb x.a 0 : Nat)) ∧ W.cell? ⟨g, q + 3, none⟩ = some (.int .u64 (limb x.a 1 : Nat)) ∧
  W.cell? ⟨g, q + 4, none⟩ = some (.int .u64 (limb x.a 2 : Nat)) ∧ W.cell? ⟨g, q + 5, none⟩ = some (.int .u64 (limb x.a 3 : Nat)) ∧ W.cell? ⟨g, q + 6, none⟩ = some (.slice x.A x.m x.c) ∧ Sl W x.A x.m x.g ∧ (x.A = none → x.m = 0 ∧ x.c = 0) ∧ x.N < 2 ^ 63 ∧ x.a < 2 ^ 256
set_option maxRecDepth 100000 in
theorem open_vals {v : Value} {d : DataW H} {p : List MemPlace} (hv : Value.okWide Try.prog W .any base 63 v) (h : DataW.Trod enc Try.prog W 0 (fun _ => true) true 63 v d p) :
    ∃ V n c it, v = .slice V n c ∧ (0 < n → ∃ g o, V = some ⟨g, o, none⟩ ∧ Vals W g o n it) := by
  obtain ⟨a0, n, c, rfl⟩ := okWide_slice Try.underlying63 hv
  obtain ⟨fuel, hf⟩ := h
  rcases Go.Deep.open_slice Try.underlying63 hf with ⟨hcs, _⟩ | ⟨a, len, cap, m, n', D, Pl, hcs, _, hl, _, hmm, _, hi⟩
  · simp [Value.cells] at hcs
    obtain ⟨rfl, rfl, rfl⟩ := hcs
    exact ⟨none, 0, 0, fun _ => ⟨0, 0, 0, none, 0, 0, fun _ => 0⟩, rfl, fun h => absurd h (by omega)⟩
  · simp only [Value.cells, List.cons.injEq, Value.slice.injEq, and_true] at hcs
    obtain ⟨rfl, rfl, rfl⟩ := hcs
    simp only [if_true] at hmm
    rw [cellsVal] at hi
    rcases Nat.eq_zero_or_pos n with rfl | hn0
    · exact ⟨some a, 0, c, fun _ => ⟨0, 0, 0, none, 0, 0, fun _ => 0⟩, rfl, fun h => absurd h (by omega)⟩
    have hsp : a.spot = none := by
      obtain ⟨cs, hc, _⟩ := hi 0 (by omega)
      obtain ⟨_, hcl, hat⟩ := World.cells?_some hc
      obtain ⟨b0, b1, b2, b3, b4, b5, b6, rfl⟩ := list7 cs hcl
      exact World.cell?_spot (a := a) (v := b0) (by simpa [Addr.add] using hat 0 (by omega))
    obtain ⟨g, o, sp⟩ := a
    obtain rfl : sp = none := hsp
    have key : ∀ i, i < n → ∃ x, ValAt W g (o + i * 7) x := fun i hin => by
      obtain ⟨cs, hc, ht⟩ := hi i (by omega)
      obtain ⟨_, hcl, hat⟩ := World.cells?_some hc
      obtain ⟨b0, b1, b2, b3, b4, b5, b6, rfl⟩ := list7 cs hcl
      obtain ⟨ys, n2, _, _, _, hyl, hf⟩ := DataW.trod_struct Try.underlying65 ht
      obtain ⟨y0, y1, y2, y3, rfl⟩ := list4 ys hyl
      have f0 : DataW.trod enc Try.prog W 0 (fun _ => true) true n2 3 (([b0, b1, b2, b3, b4, b5, b6].drop 0).take (Try.prog.cellsOf 3)) = some y0 := hf 0 _ rfl
      rw [cellsInt1] at f0
      replace f0 : DataW.trod enc Try.prog W 0 (fun _ => true) true n2 3 [b0] = some y0 := f0
      have f1 : DataW.trod enc Try.prog W 0 (fun _ => true) true n2 3 (([b0, b1, b2, b3, b4, b5, b6].drop 1).take (Try.prog.cellsOf 3)) = some y1 := hf 1 _ rfl
      rw [cellsInt1] at f1
      replace f1 : DataW.trod enc Try.prog W 0 (fun _ => true) true n2 3 [b1] = some y1 := f1
      have f2 : DataW.trod enc Try.prog W 0 (fun _ => true) true n2 24 (([b0, b1, b2, b3, b4, b5, b6].drop 2).take (Try.prog.cellsOf 24)) = some y2 := hf 2 _ rfl
      rw [cellsU] at f2
      replace f2 : DataW.trod enc Try.prog W 0 (fun _ => true) true n2 24 [b2, b3, b4, b5] = some y2 := f2
      have f3 : DataW.trod enc Try.prog W 0 (fun _ => true) true n2 33 (([b0, b1, b2, b3, b4, b5, b6].drop 6).take (Try.prog.cellsOf 33)) = some y3 := hf 3 _ rfl
      rw [cellsBl] at f3
      replace f3 : DataW.trod enc Try.prog W 0 (fun _ => true) true n2 33 [b6] = some y3 := f3
      obtain ⟨kd, e0, rfl, _⟩ := DataW.trod_int Try.underlying3 f0
      obtain ⟨N, e1, rfl, wN⟩ := DataW.trod_int Try.underlying3 f1
      simp at e0 e1
      subst e0 e1
      obtain ⟨u, hu, rfl, rfl, rfl, rfl⟩ := trod_U4 f2
      obtain ⟨A, m', c', gg, rfl, hsl, hz⟩ := trod_bl f3
      have hlt : g < W.heap.size := by
        have h1 := hat 0 (by omega)
        simp only [add_plain] at h1
        exact World.block_lt_of_cell? W _ h1
      have hbN := bounds_i64 wN
      simp only [add_plain] at hat
      exact ⟨⟨kd, N, u, A, m', c', gg⟩, hlt, hat 0 (by omega), hat 1 (by omega), hat 2 (by omega), hat 3 (by omega), hat 4 (by omega), hat 5 (by omega), hat 6 (by omega), hsl, hz, by show N < 2 ^ 63; omega, hu⟩
    have hch : ∀ i, i < n → ValAt W g (o + i * 7) (if h : i < n then Classical.choose (key i h) else ⟨0, 0, 0, none, 0, 0, fun _ => 0⟩) := fun i hi => by
      rw [dif_pos hi]; exact Classical.choose_spec (key i hi)
    exact ⟨some ⟨g, o, none⟩, n, c, fun i => if h : i < n then Classical.choose (key i h) else ⟨0, 0, 0, none, 0, 0, fun _ => 0⟩, rfl, fun hn => ⟨g, o, rfl,
      fun h => (hch 0 h).1, fun i hi => (hch i hi).2.1, fun i hi => (hch i hi).2.2.1, fun i hi => (hch i hi).2.2.2.1, fun i hi => (hch i hi).2.2.2.2.1, fun i hi => (hch i hi).2.2.2.2.2.1, fun i hi => (hch i hi).2.2.2.2.2.2.1, fun i hi => (hch i hi).2.2.2.2.2.2.2.1, fun i hi => (hch i hi).2.2.2.2.2.2.2.2.1, fun i hi => (hch i hi).2.2.2.2.2.2.2.2.2.1, fun i hi => (hch i hi).2.2.2.2.2.2.2.2.2.2.1, fun i hi => (hch i hi).2.2.2.2.2.2.2.2.2.2.2⟩⟩
end
end Go.Proofs.Ytcodlbfomfjmfaa
