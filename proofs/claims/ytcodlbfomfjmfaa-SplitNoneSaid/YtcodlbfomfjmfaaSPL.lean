/- tallagelaw34.lives, walked. -/
import Derived.Test.YtcodlbfomfjmfaaSP1
namespace Go.Proofs.Ytcodlbfomfjmfaa
open Go.RowKit Go.Sort

theorem parts99_c (w : World) : Calls Try.prog 88 #[.int .i64 1000, .agg #[.int .u64 99, .int .u64 0, .int .u64 0, .int .u64 0]] w
    fun e w' => e = .returned (.tuple #[.agg #[.int .u64 9, .int .u64 0, .int .u64 0, .int .u64 0], .agg #[.int .u64 90, .int .u64 0, .int .u64 0, .int .u64 0], .bool true]) ∧ Below w.heap.size w w' := by
  have h := parts_yes_walk 1000 99 w (by decide) (by decide)
  rw [U_small (show 99 < 2 ^ 64 by decide)] at h
  refine h.mono fun e w' ⟨he, hw⟩ => ⟨?_, hw⟩
  rw [he, show 99 * 1000 / 10000 = 9 from rfl, show 99 - 9 = 90 from rfl, U_small (show 9 < 2 ^ 64 by decide), U_small (show 90 < 2 ^ 64 by decide)]
  rfl
set_option maxRecDepth 100000 in
set_option maxHeartbeats 2000000 in
theorem lives34_walk (w : World) : Calls Try.prog 89 #[] w fun e w' => e = .returned (.bool true) ∧ Below w.heap.size w w' := by
  have heq := eqU
  go_enter Try.func89, Try.ntmps89
  go_wp2_with (go_at_call 88; refine (parts99_c _).mono ?_; rintro e w1 ⟨rfl, hb1⟩)
  go_ret
  exact ⟨rfl, (hb1.alloc hb1.size _).alloc (by have := hb1.size; simp; omega) _⟩
end Go.Proofs.Ytcodlbfomfjmfaa
