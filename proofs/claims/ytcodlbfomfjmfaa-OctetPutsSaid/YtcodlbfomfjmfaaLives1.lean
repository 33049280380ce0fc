/- tallagelaw01.lives, walked: the document's examples are as it says. -/
import Derived.Test.YtcodlbfomfjmfaaUA
import Derived.Test.YtcodlbfomfjmfaaUB
namespace Go.Proofs.Ytcodlbfomfjmfaa
open Go.RowKit

def lit (n : Nat) : Value := .agg #[.int .u64 (n : Nat), .int .u64 0, .int .u64 0, .int .u64 0]
theorem U_small {n : Nat} (h : n < 2 ^ 64) : U n = lit n := by
  unfold U lit
  have h0 : limb n 0 = n := by unfold limb; simp; omega
  have h1 : ∀ i, 1 ≤ i → limb n i = 0 := fun i hi => by
    unfold limb
    rw [Nat.div_eq_of_lt (Nat.lt_of_lt_of_le h (Nat.pow_le_pow_right (by decide) (by omega)))]
  rw [h0, h1 1 (by omega), h1 2 (by omega), h1 3 (by omega)]; rfl
theorem sub12_c (w : World) : Calls Try.prog 19 #[.agg #[.int .u64 1, .int .u64 0, .int .u64 0, .int .u64 0], .agg #[.int .u64 2, .int .u64 0, .int .u64 0, .int .u64 0]] w
    fun e w' => e = .returned (.tuple #[.agg #[.int .u64 0, .int .u64 0, .int .u64 0, .int .u64 0], .bool false]) ∧ Below w.heap.size w w' := by
  have h := sub_walk 1 2 w (by decide) (by decide)
  rw [U_small (by decide), U_small (by decide)] at h
  exact h.mono fun e w' ⟨he, hw⟩ => ⟨by rw [he, if_neg (by decide), decide_eq_false (by decide), U_zero], hw⟩
theorem div72_c (w : World) : Calls Try.prog 23 #[.agg #[.int .u64 7, .int .u64 0, .int .u64 0, .int .u64 0], .agg #[.int .u64 2, .int .u64 0, .int .u64 0, .int .u64 0]] w
    fun e w' => e = .returned (.tuple #[.agg #[.int .u64 3, .int .u64 0, .int .u64 0, .int .u64 0], .agg #[.int .u64 1, .int .u64 0, .int .u64 0, .int .u64 0], .bool true]) ∧ Below w.heap.size w w' := by
  have h := div_walk 7 2 w (by decide) (by decide)
  rw [U_small (by decide), U_small (by decide)] at h
  exact h.mono fun e w' ⟨he, hw⟩ => ⟨by rw [he, if_neg (by decide), if_neg (by decide), decide_eq_true (by decide), U_small (by decide), U_small (by decide)]; rfl, hw⟩
theorem bytes258_c (w : World) : Calls Try.prog 35 #[.agg #[.int .u64 258, .int .u64 0, .int .u64 0, .int .u64 0]] w
    fun e w' => ∃ g, e = .returned (.slice (some ⟨g, 0, none⟩) 32 32) ∧ w'.cell? ⟨g, 30, none⟩ = some (.int .u8 1) ∧ w'.cell? ⟨g, 31, none⟩ = some (.int .u8 2) ∧ Below w.heap.size w w' := by
  have h := bytes_walk 258 w
  rw [U_small (by decide)] at h
  refine h.mono fun e w' ⟨g, he, _, _, ha, hw⟩ => ⟨g, he, ?_, ?_, hw⟩
  · rw [ha.cell 30 (by omega)]; rfl
  · rw [ha.cell 31 (by omega)]; rfl

set_option maxRecDepth 100000 in
set_option maxHeartbeats 1000000 in
theorem lives1_walk (w : World) : Calls Try.prog 28 #[] w fun e w' => e = .returned (.bool true) ∧ Below w.heap.size w w' := by
  have heq := eqU
  go_enter Try.func28, Try.ntmps28
  go_wp2_with fail
  refine (sub12_c _).mono ?_
  rintro e w1 ⟨rfl, hb1⟩
  go_wp2_with fail
  refine (div72_c _).mono ?_
  rintro e w2 ⟨rfl, hb2⟩
  go_wp2_with fail
  refine (bytes258_c _).mono ?_
  rintro e w3 ⟨g, rfl, g30, g31, hb3⟩
  have z3 : w2.heap.size + 1 + 1 ≤ w3.heap.size := by have := hb3.size; simpa using this
  have ma : Arr .u64 w3 w2.heap.size 4 (fun i => if i = 0 then 3 else 0) := ((Arr.new4 (f := fun i => if i = 0 then 3 else 0) rfl).alloc _).below hb3 (by simp only [World.size_alloc]; omega)
  have mb : Arr .u64 w3 (w2.heap.size + 1) 4 (fun i => if i = 0 then 1 else 0) := (Arr.new4 (f := fun i => if i = 0 then 1 else 0) (by simp)).below hb3 (by simp only [World.size_alloc]; omega)
  have a0 : w3.cell? ⟨w2.heap.size, 0, none⟩ = some (.int .u64 3) := ma.cell 0 (by omega)
  have a1 : w3.cell? ⟨w2.heap.size, 1, none⟩ = some (.int .u64 0) := ma.cell 1 (by omega)
  have a2 : w3.cell? ⟨w2.heap.size, 2, none⟩ = some (.int .u64 0) := ma.cell 2 (by omega)
  have a3 : w3.cell? ⟨w2.heap.size, 3, none⟩ = some (.int .u64 0) := ma.cell 3 (by omega)
  have b0 : w3.cell? ⟨w2.heap.size + 1, 0, none⟩ = some (.int .u64 1) := mb.cell 0 (by omega)
  have b1 : w3.cell? ⟨w2.heap.size + 1, 1, none⟩ = some (.int .u64 0) := mb.cell 1 (by omega)
  have b2 : w3.cell? ⟨w2.heap.size + 1, 2, none⟩ = some (.int .u64 0) := mb.cell 2 (by omega)
  have b3 : w3.cell? ⟨w2.heap.size + 1, 3, none⟩ = some (.int .u64 0) := mb.cell 3 (by omega)
  clear ma mb
  go_wp2
  go_ret
  refine ⟨rfl, ?_⟩
  have y1 := hb1.size
  have y2 : w1.heap.size + 1 ≤ w2.heap.size := by have := hb2.size; simpa using this
  exact (((((hb1.alloc y1 _).trans (hb2.mono (by simp only [World.size_alloc]; omega))).alloc (by omega) _).alloc (by simp only [World.size_alloc]; omega) _).trans (hb3.mono (by simp only [World.size_alloc]; omega)))
end Go.Proofs.Ytcodlbfomfjmfaa
