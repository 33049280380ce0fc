/- How a pair of 256-bit numbers that comes in is opened. -/
import Derived.Test.YtomhbggfdjooaaaDoorFrame
import Derived.Test.YtomhbggfdjooaaaDoorM5
namespace Go.Proofs.YtomhbggfdjooaaaDoor
open Go.ChangeShapes Go.WideShapes Go.ChangeAt Go.RowKit

theorem list8 {α : Type} (l : List α) (h : (⟨l⟩ : Array α).size = 8) : ∃ a b c d e f g i, l = [a, b, c, d, e, f, g, i] := by
  match l, h with
  | [a, b, c, d, e, f, g, i], _ => exact ⟨a, b, c, d, e, f, g, i, rfl⟩
section
variable {H : Type} {enc : TypeId × Value → H} {W : World} {base : Nat}
set_option maxRecDepth 100000 in
theorem open_4 {m : Nat} {c0 c1 c2 c3 : Value} {x : DataW H × List MemPlace} (h : DataW.trod enc Tryd.prog W 0 (fun _ => true) true m 24 [c0, c1, c2, c3] = some x) :
    ∃ n : Nat → Nat, (∀ i, n i < 2 ^ 64) ∧ c0 = .int .u64 (n 0 : Nat) ∧ c1 = .int .u64 (n 1 : Nat) ∧ c2 = .int .u64 (n 2 : Nat) ∧ c3 = .int .u64 (n 3 : Nat) ∧ x = (.agg [.lit (.int .u64 (n 0 : Nat)), .lit (.int .u64 (n 1 : Nat)), .lit (.int .u64 (n 2 : Nat)), .lit (.int .u64 (n 3 : Nat))], []) ∧
      (Lit.int IntKind.u64 (n 0 : Nat)).wf = true ∧ (Lit.int IntKind.u64 (n 1 : Nat)).wf = true ∧ (Lit.int IntKind.u64 (n 2 : Nat)).wf = true ∧ (Lit.int IntKind.u64 (n 3 : Nat)).wf = true := by
  obtain ⟨y0, y1, y2, y3, m, hx, hy0, hy1, hy2, hy3⟩ := trod_array4 Tryd.underlying24 cells64 h
  obtain ⟨x0, e0, rfl, w0⟩ := DataW.trod_int Tryd.underlying22 hy0
  obtain ⟨x1, e1, rfl, w1⟩ := DataW.trod_int Tryd.underlying22 hy1
  obtain ⟨x2, e2, rfl, w2⟩ := DataW.trod_int Tryd.underlying22 hy2
  obtain ⟨x3, e3, rfl, w3⟩ := DataW.trod_int Tryd.underlying22 hy3
  simp at e0 e1 e2 e3
  subst e0 e1 e2 e3
  obtain ⟨n0, rfl, l0⟩ := wf_u64 w0
  obtain ⟨n1, rfl, l1⟩ := wf_u64 w1
  obtain ⟨n2, rfl, l2⟩ := wf_u64 w2
  obtain ⟨n3, rfl, l3⟩ := wf_u64 w3
  refine ⟨four n0 n1 n2 n3, fun i => ?_, rfl, rfl, rfl, rfl, by rw [hx]; rfl, w0, w1, w2, w3⟩
  match i with
  | 0 => exact l0
  | 1 => exact l1
  | 2 => exact l2
  | 3 => exact l3
  | _ + 4 => show 0 < 2 ^ 64; decide
end
end Go.Proofs.YtomhbggfdjooaaaDoor
