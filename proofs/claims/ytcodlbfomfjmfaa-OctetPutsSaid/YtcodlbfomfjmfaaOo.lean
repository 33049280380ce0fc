/- A source that no call made: Amount and Hash, walked. -/
import Derived.Test.YtcodlbfomfjmfaaOn
namespace Go.Proofs.Ytcodlbfomfjmfaa
open Go.RowKit

set_option maxRecDepth 100000 in
set_option maxHeartbeats 400000 in
theorem amount_dead (p : Value) (w : World) (h : Dead w p) : Calls Try.prog 58 #[p] w fun e w' => e = .returned (U 0) ∧ Below w.heap.size w w' := by
  have HD := Lib.hid h
  clear h
  rw [U_zero]
  go_enter Try.func58, Try.ntmps58
  have hz0 : Arr .u64 (w.alloc (.cells #[.int .u64 0, .int .u64 0, .int .u64 0, .int .u64 0] 24)) w.heap.size 4 (fun _ => 0) := Arr.new4 (f := fun _ => 0) rfl
  have hsz : w.heap.size < (w.alloc (.cells #[.int .u64 0, .int .u64 0, .int .u64 0, .int .u64 0] 24)).heap.size := by simp
  have hd := HD.out.below ((Below.refl _ _).alloc (Nat.le_refl _) (.cells #[.int .u64 0, .int .u64 0, .int .u64 0, .int .u64 0] 24))
  have HT := Lib.hid (fun q => take_dead p q 1 _ hd)
  have HB := Lib.hid ((Below.refl w.heap.size w).alloc (Nat.le_refl _) (.cells #[.int .u64 0, .int .u64 0, .int .u64 0, .int .u64 0] 24))
  have Hz := Lib.hid hz0
  have Hsz := Lib.hid hsz
  clear hd hz0 hsz
  go_wp2_with (go_at_call 121; refine (HT.out _).mono ?_; rintro e w1 ⟨rfl, hb1⟩; have hz := Hz.out.below hb1 Hsz.out; obtain ⟨z0, z1, z2, z3⟩ := hz.cells4; obtain ⟨y0, y1, y2, y3⟩ := hz.frees4; have lz : w.heap.size < w1.heap.size := World.block_lt_of_cell? _ _ z0; have hbb := Lib.hid (HB.out.trans (hb1.mono (Nat.le_of_lt Hsz.out))))
  refine bodyPost_ret (v := .agg #[.int .u64 0, .int .u64 0, .int .u64 0, .int .u64 0]) (by simp [results, Try.results58, go_sem, z0, z1, z2, z3]) rfl ?_
  exact ⟨rfl, below_set4 hbb.out (Nat.le_refl _)⟩
end Go.Proofs.Ytcodlbfomfjmfaa
