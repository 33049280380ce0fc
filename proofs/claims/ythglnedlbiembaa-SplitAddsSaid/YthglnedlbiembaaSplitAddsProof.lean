/- For any 16-bit number and any number of 256 bits: both parts of an amount are together the amount, more of ten thousand is not less, and nothing, and all, are told as such: the law SplitAdds returns true, and its arguments read as before. No condition. -/
import Derived.Test.YthglnedlbiembaaFrame
import Derived.Test.YthglnedlbiembaaSP4
namespace Go.Proofs.Ythglnedlbiembaa.splitAddsDone
open Go.ChangeShapes Go.WideShapes Go.ChangeAt Go.RowKit

set_option maxRecDepth 100000 in
theorem lifted (os : Os) (started : os.Started) (H : Type) (enc : TypeId × Value → H) :
    ReturnsInHanded {} Try.checked os 12 .any (Rows.splitAddsSpec.pre6 enc Try.prog Try.f12 Rows.splitAddsRow.domain false) (Rows.splitAddsSpec.post enc Try.prog Try.f12 false true false false) := by
  refine returnsInHanded_of_change (C := Try.checked) own started (by kernel_rfl) Try.func12
    (ChangeSpec.witness6 (enc := enc) (C := Try.checked) false ⟨#[], #[.int .u16 0, .agg #[.int .u64 0, .int .u64 0, .int .u64 0, .int .u64 0]], []⟩ 8 (by kernel_rfl) (by kernel_rfl) (by kernel_rfl) (by kernel_rfl)) ?_
  intro W base args ds gs before hval0 hW hcnd _
  have hval : ∀ (j : Nat) t v, Try.f12.params[j]? = some t → args[j]? = some v → Value.okWide Try.prog W .any base t v := hval0
  have hW' := hW
  obtain ⟨p, q, hA0, hV, rfl, hfz, hnd⟩ := hW
  have hA : DataW.TrodAll enc Try.prog W 0 (fun _ => true) true Try.f12.params.toList args.toList ds p := hA0
  rw [Try.params12] at hA hval
  obtain ⟨v0, v1, d0, d1, p0, p1, rfl, rfl, rfl, h0, h1⟩ := trodAll_two hA
  obtain ⟨rfl, rfl⟩ := trodVars_none hV
  obtain ⟨a, rfl, rfl, rfl, ha⟩ := open_int Try.underlying60 (hval 0 60 v0 rfl rfl) h0
  have ra : ∀ (W' : World) (sp : Nat → Bool), DataW.Trod enc Try.prog W' 0 sp true 60 (.int .u16 a) (.lit (.int .u16 a)) [] := fun _ _ => shut_int Try.underlying60 ha
  obtain ⟨b, hb, rfl, rfl, rb⟩ := open_U (hval 1 24 v1 rfl rfl) h1
  clear hA0 hval0
  refine (splitAdds_walk a b W ha hb).mono fun e W' ⟨he, bel⟩ => ?_
  subst he
  exact ⟨_, rfl, _, _, _, [], _, [], hW', trodAll_mk1 (shut_bool Try.underlying4 _), trodAll_mk2 (ra _ _) (rb _ _), rfl, bel.frame _, fun h => by cases h⟩

theorem over : Rows.splitAddsRow.holds Try.pinned (OpenSpec.ofChange Rows.splitAddsSpec) :=
  OpenClaim.holds_of_wide 12 Try.f12 rfl rfl rfl rfl rfl rfl rfl ⟨rfl, rfl, rfl, rfl, rfl⟩ rfl rfl rfl rfl rfl (by kernel_rfl) Try.func12 (by kernel_rfl)
    (of_decide_eq_true (by kernel_rfl)) (by unfold Func.isWrapper; first | (rw [if_pos (by decide +kernel)]; kernel_rfl) | (rw [if_neg (by decide +kernel)]; exact ⟨rfl, rfl⟩))
    (fun os started H enc _ => lifted os started H enc)

theorem proved : Rows.SplitAddsSaid := over
end Go.Proofs.Ythglnedlbiembaa.splitAddsDone
