/- tallagelaw09.lives, walked. -/
import Derived.Test.YthglnedlbiembaaK2
namespace Go.Proofs.Ythglnedlbiembaa
open Go.RowKit

set_option maxRecDepth 100000 in
theorem parse9_walk (w : World) : Calls Try.prog 81 #[.string ⟨#[0, 0, 0, 0, 0, 0, 0, 0, 0]⟩] w fun e w' => e = .returned (.tuple #[.int .i64 0, .slice none 0 0, .bool false]) ∧ Below w.heap.size w w' := by
  go_enter Try.func81, Try.ntmps81
  go_wp2
  refine bodyPost_ret (v := .tuple #[.int .i64 0, .slice none 0 0, .bool false]) (by simp [results, Try.results81, go_sem]) rfl ⟨rfl, Below.refl _ _⟩
theorem keyStr12 : keyStr 1 (fun _ => 2) 1 = ⟨#[1, 0, 0, 0, 0, 0, 0, 0, 2]⟩ := by
  unfold keyStr
  rw [if_pos ⟨by decide, by decide, fun _ _ => by show (0 : Int) ≤ 2; decide⟩]
  decide +kernel
theorem key12_c (w : World) (g : Nat) (hg : g < w.heap.size) (hc : w.cell? ⟨g, 0, none⟩ = some (.int .i64 2)) : Calls Try.prog 80 #[.int .i64 1, .slice (some ⟨g, 0, none⟩) 1 1] w fun e w' => e = .returned (.string ⟨#[1, 0, 0, 0, 0, 0, 0, 0, 2]⟩) ∧ Below w.heap.size w w' := by
  have h := key_walk 1 (some ⟨g, 0, none⟩) 1 1 (fun _ => 2) w ⟨fun _ => by show (2 : Int) < 2 ^ 63; decide, fun _ => ⟨g, 0, rfl, hg, fun i hi => by rw [show i = 0 by omega]; exact hc⟩⟩ (by decide)
  exact h.mono fun e w' ⟨he, hw⟩ => ⟨by rw [he, keyStr12], hw⟩

set_option maxRecDepth 100000 in
theorem lives9_walk (w : World) : Calls Try.prog 79 #[] w fun e w' => e = .returned (.bool true) ∧ Below w.heap.size w w' := by
  go_enter Try.func79, Try.ntmps79
  go_wp2_with (first
    | (go_at_call 81; refine (parse9_walk _).mono ?_; rintro e w1 ⟨rfl, hb1⟩)
    | (go_at_call 80; refine (key12_c _ _ (by simp) (by simp)).mono ?_; rintro e w2 ⟨rfl, hb2⟩))
  go_ret
  exact ⟨rfl, (hb1.alloc hb1.size _).trans (hb2.mono (by have := hb1.size; simp only [World.size_alloc]; omega))⟩
end Go.Proofs.Ythglnedlbiembaa
