/- tallagelaw03.lives, walked. -/
import Derived.Test.YthglnedlbiembaaW3
namespace Go.Proofs.Ythglnedlbiembaa
open Go.RowKit Go.Sort

theorem oneL_c (w : World) : Calls Try.prog 72 #[] w fun e w' => e = .returned (.agg #[.int .u64 1000000000000000000, .int .u64 0, .int .u64 0, .int .u64 0]) ∧ Below w.heap.size w w' := by
  have h := one_walk w
  rw [U_WAD] at h
  exact h
theorem part10_c (w : World) : Calls Try.prog 49 #[.agg #[.int .u64 10, .int .u64 0, .int .u64 0, .int .u64 0], .agg #[.int .u64 1000000000000000000, .int .u64 0, .int .u64 0, .int .u64 0]] w
    fun e w' => e = .returned (.tuple #[.agg #[.int .u64 10, .int .u64 0, .int .u64 0, .int .u64 0], .bool true]) ∧ Below w.heap.size w w' := by
  have h := part_walk 10 WAD w (by decide) WAD_lt
  rw [U_small (n := 10) (by decide), U_WAD] at h
  exact h.mono fun e w' ⟨he, hw⟩ => ⟨by rw [he, show qv 10 WAD WAD = 10 by decide, show qok 10 WAD WAD = true by decide, U_small (by decide)]; rfl, hw⟩
theorem partUp1_c (w : World) : Calls Try.prog 51 #[.agg #[.int .u64 1, .int .u64 0, .int .u64 0, .int .u64 0], .agg #[.int .u64 1, .int .u64 0, .int .u64 0, .int .u64 0]] w
    fun e w' => e = .returned (.tuple #[.agg #[.int .u64 1, .int .u64 0, .int .u64 0, .int .u64 0], .bool true]) ∧ Below w.heap.size w w' := by
  have h := partUp_walk 1 1 w (by decide) (by decide)
  rw [U_small (n := 1) (by decide)] at h
  exact h.mono fun e w' ⟨he, hw⟩ => ⟨by rw [he, show uv 1 1 WAD = 1 by decide, show uok 1 1 WAD = true by decide, U_small (by decide)]; rfl, hw⟩
theorem scale3_c (w : World) : Calls Try.prog 55 #[.agg #[.int .u64 10, .int .u64 0, .int .u64 0, .int .u64 0], .agg #[.int .u64 1, .int .u64 0, .int .u64 0, .int .u64 0], .agg #[.int .u64 3, .int .u64 0, .int .u64 0, .int .u64 0]] w
    fun e w' => e = .returned (.tuple #[.agg #[.int .u64 3, .int .u64 0, .int .u64 0, .int .u64 0], .bool true]) ∧ Below w.heap.size w w' := by
  have h := scale_walk 10 1 3 w (by decide) (by decide) (by decide) (by decide)
  rw [U_small (n := 10) (by decide), U_small (n := 1) (by decide), U_small (n := 3) (by decide)] at h
  exact h.mono fun e w' ⟨he, hw⟩ => ⟨by rw [he, show qv 10 1 3 = 3 by decide, show qok 10 1 3 = true by decide, U_small (by decide)]; rfl, hw⟩

theorem carry1' {κ : IntKind} {w1 w2 : World} {o : Obj} {L : Nat} {f : Nat → Nat} (h : Arr κ (w1.alloc o) L 4 f) (hb : Below (w1.alloc o).heap.size (w1.alloc o) w2) : Arr κ w2 L 4 f := h.below hb h.lt4
set_option maxRecDepth 100000 in
set_option maxHeartbeats 2000000 in
theorem lives3_walk (w : World) : Calls Try.prog 67 #[] w fun e w' => e = .returned (.bool true) ∧ Below w.heap.size w w' := by
  have heq := eqU
  go_enter Try.func67, Try.ntmps67
  go_wp2_with fail
  refine (oneL_c _).mono ?_
  rintro e w0 ⟨rfl, hb0⟩
  go_wp2_with fail
  refine (part10_c _).mono ?_
  rintro e w1 ⟨rfl, hb1⟩
  go_wp2_with fail
  refine (partUp1_c _).mono ?_
  rintro e w2 ⟨rfl, hb2⟩
  have ma : Arr .u64 w2 w1.heap.size 4 (fun i => if i = 0 then 10 else 0) := carry1' (Arr.new4 (f := fun i => if i = 0 then 10 else 0) rfl) hb2
  go_wp2_with fail
  refine (scale3_c _).mono ?_
  rintro e w3 ⟨rfl, hb3⟩
  have ma3 := carry1 ma hb3
  have mb3 : Arr .u64 w3 w2.heap.size 4 (fun i => if i = 0 then 1 else 0) := carry1' (Arr.new4 (f := fun i => if i = 0 then 1 else 0) rfl) hb3
  have za : w1.heap.size < w3.heap.size := ma3.lt4
  have zb : w2.heap.size < w3.heap.size := mb3.lt4
  have a0 : w3.cell? ⟨w1.heap.size, 0, none⟩ = some (.int .u64 10) := ma3.cell 0 (by omega)
  have a1 : w3.cell? ⟨w1.heap.size, 1, none⟩ = some (.int .u64 0) := ma3.cell 1 (by omega)
  have a2 : w3.cell? ⟨w1.heap.size, 2, none⟩ = some (.int .u64 0) := ma3.cell 2 (by omega)
  have a3 : w3.cell? ⟨w1.heap.size, 3, none⟩ = some (.int .u64 0) := ma3.cell 3 (by omega)
  have b0 : w3.cell? ⟨w2.heap.size, 0, none⟩ = some (.int .u64 1) := mb3.cell 0 (by omega)
  have b1 : w3.cell? ⟨w2.heap.size, 1, none⟩ = some (.int .u64 0) := mb3.cell 1 (by omega)
  have b2 : w3.cell? ⟨w2.heap.size, 2, none⟩ = some (.int .u64 0) := mb3.cell 2 (by omega)
  have b3 : w3.cell? ⟨w2.heap.size, 3, none⟩ = some (.int .u64 0) := mb3.cell 3 (by omega)
  have y1 := hb1.size
  have y2 : w1.heap.size + 1 ≤ w2.heap.size := by have := hb2.size; simpa using this
  have y3 : w2.heap.size + 1 ≤ w3.heap.size := by have := hb3.size; simpa using this
  have y0 := hb0.size
  have hbl := Lib.hid (((((hb0.trans (hb1.mono y0)).alloc (by omega) _).trans (hb2.mono (by simp only [World.size_alloc]; omega))).alloc (by omega) _).trans (hb3.mono (by simp only [World.size_alloc]; omega)))
  clear ma ma3 mb3
  go_wp2_with fail
  refine (oneL_c _).mono ?_
  rintro e w4 ⟨rfl, hb4⟩
  go_wp2
  go_ret
  refine ⟨rfl, ?_⟩
  exact (hbl.out.alloc (by omega) _).trans (hb4.mono (by simp only [World.size_alloc]; omega))
end Go.Proofs.Ythglnedlbiembaa
