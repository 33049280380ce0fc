/- For any two rows of acts: whatever is set, deleted, undone and settled on a store, it tells what the document tells, entry by entry, and how many changes can be undone; a copy goes its own way: the law StoreActs returns true, and its arguments read as before. No condition. -/
import Derived.Test.YtbfmhafmncnhfaaG00
import Derived.Test.YtbfmhafmncnhfaaG23
namespace Go.Proofs.Ytbfmhafmncnhfaa.storeActsDone
open Go.ChangeShapes Go.WideShapes Go.ChangeAt Go.RowKit

set_option maxRecDepth 100000 in
theorem lifted (os : Os) (started : os.Started) (H : Type) (enc : TypeId × Value → H) :
    ReturnsInHanded {} Try.checked os 3 .any (Rows.storeActsSpec.pre6 enc Try.prog Try.f3 Rows.storeActsRow.domain false) (Rows.storeActsSpec.post enc Try.prog Try.f3 false true false false) := by
  refine returnsInHanded_of_change (C := Try.checked) own started (by kernel_rfl) Try.func3
    (ChangeSpec.witness6 (enc := enc) (C := Try.checked) false ⟨#[], #[.slice none 0 0, .slice none 0 0], []⟩ 8 (by kernel_rfl) (by kernel_rfl) (by kernel_rfl) (by kernel_rfl)) ?_
  intro W base args ds gs before hval0 hW hcnd _
  have hval : ∀ (j : Nat) t v, Try.f3.params[j]? = some t → args[j]? = some v → Value.okWide Try.prog W .any base t v := hval0
  have hW' := hW
  obtain ⟨p, q, hA0, hV, rfl, hfz, hnd⟩ := hW
  have hA : DataW.TrodAll enc Try.prog W 0 (fun _ => true) true Try.f3.params.toList args.toList ds p := hA0
  rw [Try.params3] at hA hval
  obtain ⟨v0, v1, d0, d1, p0, p1, rfl, rfl, rfl, h0, h1⟩ := trodAll_two hA
  obtain ⟨rfl, rfl⟩ := trodVars_none hV
  obtain ⟨A, N, C, x0, x1, x2, x3, rfl, hz0, hle0, hcm0, hr0⟩ := open_act08s (hval 0 22 v0 rfl rfl) h0
  obtain ⟨A', N', C', y0, y1, y2, y3, rfl, hz1, hle1, hcm1, hr1⟩ := open_act08s (hval 1 22 v1 rfl rfl) h1
  clear hA0 hval0
  simp only [List.append_nil] at hW'
  have hlt : ∀ x ∈ p0 ++ p1, x.block < W.heap.size := fun x hx => by simpa using hW'.lt x (by simpa using hx)
  refine (storeActs_walk A N C x0 x1 x2 x3 A' N' C' y0 y1 y2 y3 W hr0.rows hr1.rows (by omega) (by omega) (fun i hi => ⟨hr0.f1 i hi, hr0.f2 i hi, (hr0.f3 i hi).1, (hr0.f3 i hi).2⟩) (fun i hi => ⟨hr1.f1 i hi, hr1.f2 i hi, (hr1.f3 i hi).1, (hr1.f3 i hi).2⟩)).mono fun e W' ⟨he, bel⟩ => ?_
  subst he
  exact ⟨_, rfl, _, _, _, [], _, [], hW', trodAll_mk1 (shut_bool Try.underlying4 _), trodAll_mk2 (Below.trod laidOut (by kernel_rfl) (of_decide_eq_true (by kernel_rfl)) h0 bel (fun x hx => hlt x (by simp [hx]))) (Below.trod laidOut (by kernel_rfl) (of_decide_eq_true (by kernel_rfl)) h1 bel (fun x hx => hlt x (by simp [hx]))), rfl, bel.frame _, fun h => by cases h⟩

theorem over : Rows.storeActsRow.holds Try.pinned (OpenSpec.ofChange Rows.storeActsSpec) :=
  OpenClaim.holds_of_wide 3 Try.f3 rfl rfl rfl rfl rfl rfl rfl ⟨rfl, rfl, rfl, rfl, rfl⟩ rfl rfl rfl rfl rfl (by kernel_rfl) Try.func3 (by kernel_rfl)
    (of_decide_eq_true (by kernel_rfl)) (by unfold Func.isWrapper; first | (rw [if_pos (by decide +kernel)]; kernel_rfl) | (rw [if_neg (by decide +kernel)]; exact ⟨rfl, rfl⟩))
    (fun os started H enc _ => lifted os started H enc)

theorem proved : Rows.StoreActsSaid := over
end Go.Proofs.Ytbfmhafmncnhfaa.storeActsDone
