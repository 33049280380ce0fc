/- A source that no call made: Hash, walked. -/
import Derived.Test.YtcodlbfomfjmfaaOw
import Derived.Laws.Tables
import Derived.Laws.CopyOwn
import Derived.Deep.Cut
namespace Go.Proofs.Ytcodlbfomfjmfaa
open Go.RowKit

/-- a hash's cells: all noughts -/
def z32 : Array Value := #[.int .u8 0, .int .u8 0, .int .u8 0, .int .u8 0, .int .u8 0, .int .u8 0, .int .u8 0, .int .u8 0, .int .u8 0, .int .u8 0, .int .u8 0, .int .u8 0, .int .u8 0, .int .u8 0, .int .u8 0, .int .u8 0, .int .u8 0, .int .u8 0, .int .u8 0, .int .u8 0, .int .u8 0, .int .u8 0, .int .u8 0, .int .u8 0, .int .u8 0, .int .u8 0, .int .u8 0, .int .u8 0, .int .u8 0, .int .u8 0, .int .u8 0, .int .u8 0]
theorem z32_info : (Try.prog.info? 44).map (·.size) = some z32.size := by kernel_rfl
theorem z32_one : z32.all (·.oneCell') = true := by unfold z32; simp [Value.oneCell']
/-- the two blocks of noughts -/
def hw32 (w : World) : World := (w.alloc (.cells z32 44)).alloc (.cells z32 44)
theorem hw32_below (w : World) : Below w.heap.size w (hw32 w) := ((Below.refl _ _).alloc (Nat.le_refl _) _).alloc (by simp) _
theorem hw32_size (w : World) : (hw32 w).heap.size = w.heap.size + 2 := by unfold hw32; simp
theorem hw32_0 (w : World) : (hw32 w).heap[w.heap.size]? = some (.cells z32 44 (0, 0)) := by
  unfold hw32; exact (heap_alloc_old (w.alloc (.cells z32 44)) (.cells z32 44) (r := w.heap.size) (by simp)).trans (heap_alloc_new _ _)
theorem hw32_1 (w : World) : (hw32 w).heap[w.heap.size + 1]? = some (.cells z32 44 (0, 0)) := heap_alloc2_new _ _ _
set_option maxRecDepth 100000 in
set_option maxHeartbeats 1000000 in
theorem hash_dead (p : Value) (w : World) (h : Dead w p) : Calls Try.prog 60 #[p] w fun e w' => e = .returned (.agg z32) ∧ Below w.heap.size w w' := by
  have HE := Lib.hid (err_dead p _ (h.below (hw32_below w)))
  clear h
  go_enter Try.func60, Try.ntmps60
  go_upto_region 4 with fail
  show Calls Try.prog _ _ (hw32 w) _
  refine HE.out.mono ?_
  rintro e w1 ⟨rfl, hb1⟩
  have r0 : w1.heap[w.heap.size]? = some (.cells z32 44 (0, 0)) := by rw [hb1.block _ (by rw [hw32_size]; omega)]; exact hw32_0 w
  have r1 : w1.heap[w.heap.size + 1]? = some (.cells z32 44 (0, 0)) := by rw [hb1.block _ (by rw [hw32_size]; omega)]; exact hw32_1 w
  have HB := Lib.hid ((hw32_below w).trans (hb1.mono (by rw [hw32_size]; omega)))
  have R0 := Lib.hid r0
  have R1 := Lib.hid r1
  clear hb1 r0 r1
  go_upto_region 4 with fail
  refine wp_region_lit (wpList_load_row rfl 44 (.tmp 3) rfl (w.heap.size + 1) rfl _ z32 (0, 0) _ R1.out Try.underlying44 rfl z32_info ?_)
  refine wpList_store_row rfl 44 (.tmp 2) (.tmp 13) rfl w.heap.size z32 rfl rfl _ z32 R0.out z32_info rfl z32_one ?_
  refine wpList_nil ?_
  go_wp2
  refine bodyPost_ret (v := .agg z32) (results_cell_row rfl _ _ w.heap.size 44 z32 (0, 0) _ rfl (setRow_heap _ _ z32 _ _ _ R0.out) Try.underlying44 rfl z32_info) rfl ⟨rfl, below_setRow HB.out (Nat.le_refl _) _⟩
end Go.Proofs.Ytcodlbfomfjmfaa
