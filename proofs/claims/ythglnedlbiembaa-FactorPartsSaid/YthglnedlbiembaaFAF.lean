/- How a pair of 256-bit numbers that comes in is opened. -/
import Derived.Test.YthglnedlbiembaaFrame
import Derived.Test.YthglnedlbiembaaM5
namespace Go.Proofs.Ythglnedlbiembaa
open Go.ChangeShapes Go.WideShapes Go.ChangeAt Go.RowKit

theorem cellsUU : Try.prog.cellsOf 54 = 8 := by kernel_rfl
theorem list8 {α : Type} (l : List α) (h : (⟨l⟩ : Array α).size = 8) : ∃ a b c d e f g i, l = [a, b, c, d, e, f, g, i] := by
  match l, h with
  | [a, b, c, d, e, f, g, i], _ => exact ⟨a, b, c, d, e, f, g, i, rfl⟩
section
variable {H : Type} {enc : TypeId × Value → H} {W : World} {base : Nat}
set_option maxRecDepth 100000 in
theorem open_4 {m : Nat} {c0 c1 c2 c3 : Value} {x : DataW H × List MemPlace} (h : DataW.trod enc Try.prog W 0 (fun _ => true) true m 24 [c0, c1, c2, c3] = some x) :
    ∃ n : Nat → Nat, (∀ i, n i < 2 ^ 64) ∧ c0 = .int .u64 (n 0 : Nat) ∧ c1 = .int .u64 (n 1 : Nat) ∧ c2 = .int .u64 (n 2 : Nat) ∧ c3 = .int .u64 (n 3 : Nat) ∧ x = (.agg [.lit (.int .u64 (n 0 : Nat)), .lit (.int .u64 (n 1 : Nat)), .lit (.int .u64 (n 2 : Nat)), .lit (.int .u64 (n 3 : Nat))], []) ∧
      (Lit.int IntKind.u64 (n 0 : Nat)).wf = true ∧ (Lit.int IntKind.u64 (n 1 : Nat)).wf = true ∧ (Lit.int IntKind.u64 (n 2 : Nat)).wf = true ∧ (Lit.int IntKind.u64 (n 3 : Nat)).wf = true := by
  obtain ⟨y0, y1, y2, y3, m, hx, hy0, hy1, hy2, hy3⟩ := trod_array4 Try.underlying24 cells64 h
  obtain ⟨x0, e0, rfl, w0⟩ := DataW.trod_int Try.underlying22 hy0
  obtain ⟨x1, e1, rfl, w1⟩ := DataW.trod_int Try.underlying22 hy1
  obtain ⟨x2, e2, rfl, w2⟩ := DataW.trod_int Try.underlying22 hy2
  obtain ⟨x3, e3, rfl, w3⟩ := DataW.trod_int Try.underlying22 hy3
  simp at e0 e1 e2 e3
  subst e0 e1 e2 e3
  obtain ⟨n0, rfl, l0⟩ := wf_u64 w0
  obtain ⟨n1, rfl, l1⟩ := wf_u64 w1
  obtain ⟨n2, rfl, l2⟩ := wf_u64 w2
  obtain ⟨n3, rfl, l3⟩ := wf_u64 w3
  refine ⟨four n0 n1 n2 n3, fun i => ?_, rfl, rfl, rfl, rfl, by rw [hx]; rfl, w0, w1, w2, w3⟩
  match i with
  | 0 => exact l0
  | 1 => exact l1
  | 2 => exact l2
  | 3 => exact l3
  | _ + 4 => show 0 < 2 ^ 64; decide
set_option maxRecDepth 100000 in
theorem open_UU {v : Value} {d : DataW H} {p : List MemPlace} (hv : Value.okWide Try.prog W .any base 54 v) (h : DataW.Trod enc Try.prog W 0 (fun _ => true) true 54 v d p) :
    ∃ a b, a < 2 ^ 256 ∧ b < 2 ^ 256 ∧ v = WW a b ∧ p = [] ∧ ∀ (W' : World) (sp : Nat → Bool), DataW.Trod enc Try.prog W' 0 sp true 54 (WW a b) d [] := by
  obtain ⟨cs, rfl, hsz, _⟩ : ∃ cs, v = .agg cs ∧ cs.size = Try.prog.cellsOf 54 ∧ Row.okWide Try.prog W .any base 54 cs := by
    simpa [Value.okWide, Try.underlying54] using hv
  rw [cellsUU] at hsz
  obtain ⟨l⟩ := cs
  obtain ⟨c0, c1, c2, c3, e0, e1, e2, e3, rfl⟩ := list8 l hsz
  obtain ⟨fuel, hf⟩ := h
  obtain ⟨xs, m, h1, h2, h3, hxl, hi⟩ := DataW.trod_array Try.underlying54 hf
  rw [cellsU] at hi
  obtain ⟨x0, x1, rfl⟩ : ∃ x0 x1, xs = [x0, x1] := by
    match xs, hxl with
    | [a, b], _ => exact ⟨a, b, rfl⟩
  have k0 := hi 0 (by omega)
  have k1 := hi 1 (by omega)
  simp [Value.cells] at k0 k1
  obtain ⟨f, hf64, rfl, rfl, rfl, rfl, rfl, wf0, wf1, wf2, wf3⟩ := open_4 k0
  obtain ⟨g, hg64, rfl, rfl, rfl, rfl, rfl, wg0, wg1, wg2, wg3⟩ := open_4 k1
  simp only [Prod.mk.injEq, List.map_cons, List.map_nil, List.flatMap_cons, List.flatMap_nil, List.append_nil] at h2
  obtain ⟨rfl, rfl⟩ := h2
  have hU : (.agg #[.int .u64 (f 0 : Nat), .int .u64 (f 1 : Nat), .int .u64 (f 2 : Nat), .int .u64 (f 3 : Nat), .int .u64 (g 0 : Nat), .int .u64 (g 1 : Nat), .int .u64 (g 2 : Nat), .int .u64 (g 3 : Nat)] : Value) = WW (val f 4) (val g 4) := by
    unfold WW
    rw [limb_val 4 (fun i _ => hf64 i) 0 (by omega), limb_val 4 (fun i _ => hf64 i) 1 (by omega), limb_val 4 (fun i _ => hf64 i) 2 (by omega), limb_val 4 (fun i _ => hf64 i) 3 (by omega), limb_val 4 (fun i _ => hg64 i) 0 (by omega), limb_val 4 (fun i _ => hg64 i) 1 (by omega), limb_val 4 (fun i _ => hg64 i) 2 (by omega), limb_val 4 (fun i _ => hg64 i) 3 (by omega)]
  refine ⟨val f 4, val g 4, val_lt 4 (fun i _ => hf64 i), val_lt 4 (fun i _ => hg64 i), hU, rfl, fun W' sp => ?_⟩
  rw [← hU]
  exact ⟨3, by simp [DataW.trod, Value.cells, Try.underlying54, Try.underlying24, Try.underlying22, cellsUU, cellsU, cells64, wf0, wf1, wf2, wf3, wg0, wg1, wg2, wg3, show List.range 4 = [0, 1, 2, 3] from rfl, show List.range 2 = [0, 1] from rfl]⟩
end
end Go.Proofs.Ythglnedlbiembaa
