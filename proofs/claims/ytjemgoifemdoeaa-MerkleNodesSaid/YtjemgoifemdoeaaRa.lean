/- The document's begins and constants, walked. -/
import Derived.Test.YtjemgoifemdoeaaHs
namespace Go.Proofs.Ytjemgoifemdoeaa
open Go.RowKit

theorem hl_vals : (vals .u32 sqH 8).toArray = (vals .u32 (fun i => HL.getD i 0) 8).toArray := by rw [vals_congr fun i hi => sqH_HL hi]
theorem kl_vals : (vals .u32 cubeK 64).toArray = (vals .u32 (fun i => KL.getD i 0) 64).toArray := by rw [vals_congr fun i hi => cubeK_KL hi]
theorem hl_info : (Try.prog.info? 40).map (·.size) = some (vals .u32 (fun i => HL.getD i 0) 8).toArray.size := by rw [List.size_toArray, vals_length]; exact w8_info
theorem kl_info : (Try.prog.info? 84).map (·.size) = some (vals .u32 (fun i => KL.getD i 0) 64).toArray.size := by rw [List.size_toArray, vals_length]; exact wz_info
set_option maxRecDepth 100000 in
theorem begins_walk (w : World) : Calls Try.prog 57 #[] w fun e w' => e = .returned (.agg (vals .u32 sqH 8).toArray) ∧ Below w.heap.size w w' := by
  rw [hl_vals]
  go_enter Try.func57, Try.ntmps57
  go_wp2_with ((with_reducible refine wpList_store_row rfl 40 (.tmp 0) (.tmp 1) rfl w.heap.size (vals .u32 (fun i => HL.getD i 0) 8).toArray ?_ ?_ 40 w8 ?_ ?_ ?_ ?_ ?_); (· rfl); (· kernel_rfl); (· exact heap_alloc_new _ _); (· exact hl_info); (· rfl); (· exact vals_all _ _ _))
  exact bodyPost_ret (v := .agg (vals .u32 (fun i => HL.getD i 0) 8).toArray) (results_cell_row rfl _ _ w.heap.size 40 _ (0, 0) _ rfl (setRow_heap _ _ w8 _ _ _ (heap_alloc_new _ _)) Try.underlying40 rfl hl_info) rfl ⟨rfl, below_setRow ((Below.refl _ _).alloc (Nat.le_refl _) _) (Nat.le_refl _) _⟩
set_option maxRecDepth 100000 in
set_option maxHeartbeats 4000000 in
theorem constants_walk (w : World) : Calls Try.prog 58 #[] w fun e w' => e = .returned (.agg (vals .u32 cubeK 64).toArray) ∧ Below w.heap.size w w' := by
  rw [kl_vals]
  go_enter Try.func58, Try.ntmps58
  go_wp2_with ((with_reducible refine wpList_store_row rfl 84 (.tmp 0) (.tmp 1) rfl w.heap.size (vals .u32 (fun i => KL.getD i 0) 64).toArray ?_ ?_ 84 wz ?_ ?_ ?_ ?_ ?_); (· rfl); (· kernel_rfl); (· exact heap_alloc_new _ _); (· exact kl_info); (· rw [wz_vals, List.size_toArray, List.size_toArray, vals_length, vals_length]); (· exact vals_all _ _ _))
  exact bodyPost_ret (v := .agg (vals .u32 (fun i => KL.getD i 0) 64).toArray) (results_cell_row rfl _ _ w.heap.size 84 _ (0, 0) _ rfl (setRow_heap _ _ wz _ _ _ (heap_alloc_new _ _)) Try.underlying84 rfl kl_info) rfl ⟨rfl, below_setRow ((Below.refl _ _).alloc (Nat.le_refl _) _) (Nat.le_refl _) _⟩
end Go.Proofs.Ytjemgoifemdoeaa
