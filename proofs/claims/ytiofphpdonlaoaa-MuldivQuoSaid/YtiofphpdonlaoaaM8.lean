/- tallagelaw02.lives, walked. -/
import Derived.Test.YtiofphpdonlaoaaM7D
import Derived.Test.YtiofphpdonlaoaaM7U
namespace Go.Proofs.Ytiofphpdonlaoaa
open Go.RowKit Go.Sort

theorem limb3 (k : Nat) (hk : k < 2 ^ 64) : U (k * 2 ^ 192) = .agg #[.int .u64 0, .int .u64 0, .int .u64 0, .int .u64 (k : Nat)] := by
  unfold U
  have h : ∀ i, i < 3 → limb (k * 2 ^ 192) i = 0 := fun i hi => by
    unfold limb
    rw [show 192 = 64 * i + (64 + (192 - 64 * i - 64)) by omega, Nat.pow_add, Nat.pow_add, ← Nat.mul_assoc, Nat.mul_right_comm, Nat.mul_div_cancel _ (Nat.pow_pos (by decide)), Nat.mul_comm (2 ^ 64), ← Nat.mul_assoc]
    exact Nat.mul_mod_left _ _
  have h3 : limb (k * 2 ^ 192) 3 = k := by unfold limb; rw [show 64 * 3 = 192 from rfl, Nat.mul_div_cancel _ (by decide), Nat.mod_eq_of_lt hk]
  rw [h 0 (by omega), h 1 (by omega), h 2 (by omega), h3]; rfl
theorem down732_c (w : World) : Calls Try.prog 40 #[.agg #[.int .u64 7, .int .u64 0, .int .u64 0, .int .u64 0], .agg #[.int .u64 3, .int .u64 0, .int .u64 0, .int .u64 0], .agg #[.int .u64 2, .int .u64 0, .int .u64 0, .int .u64 0]] w
    fun e w' => e = .returned (.tuple #[.agg #[.int .u64 10, .int .u64 0, .int .u64 0, .int .u64 0], .bool true]) ∧ Below w.heap.size w w' := by
  have h := down_walk 7 3 2 w (by decide) (by decide) (by decide)
  rw [U_small (n := 7) (by decide), U_small (n := 3) (by decide), U_small (n := 2) (by decide)] at h
  exact h.mono fun e w' ⟨he, hw⟩ => ⟨by rw [he, show qv 7 3 2 = 10 by decide, show qok 7 3 2 = true by decide, U_small (by decide)]; rfl, hw⟩
theorem up732_c (w : World) : Calls Try.prog 42 #[.agg #[.int .u64 7, .int .u64 0, .int .u64 0, .int .u64 0], .agg #[.int .u64 3, .int .u64 0, .int .u64 0, .int .u64 0], .agg #[.int .u64 2, .int .u64 0, .int .u64 0, .int .u64 0]] w
    fun e w' => e = .returned (.tuple #[.agg #[.int .u64 11, .int .u64 0, .int .u64 0, .int .u64 0], .bool true]) ∧ Below w.heap.size w w' := by
  have h := up_walk 7 3 2 w (by decide) (by decide) (by decide)
  rw [U_small (n := 7) (by decide), U_small (n := 3) (by decide), U_small (n := 2) (by decide)] at h
  exact h.mono fun e w' ⟨he, hw⟩ => ⟨by rw [he, show uv 7 3 2 = 11 by decide, show uok 7 3 2 = true by decide, U_small (by decide)]; rfl, hw⟩
theorem down48_c (w : World) : Calls Try.prog 40 #[.agg #[.int .u64 0, .int .u64 0, .int .u64 0, .int .u64 9223372036854775808], .agg #[.int .u64 4, .int .u64 0, .int .u64 0, .int .u64 0], .agg #[.int .u64 8, .int .u64 0, .int .u64 0, .int .u64 0]] w
    fun e w' => e = .returned (.tuple #[.agg #[.int .u64 0, .int .u64 0, .int .u64 0, .int .u64 4611686018427387904], .bool true]) ∧ Below w.heap.size w w' := by
  have h := down_walk (9223372036854775808 * 2 ^ 192) 4 8 w (by decide) (by decide) (by decide)
  rw [limb3 9223372036854775808 (by decide), U_small (n := 4) (by decide), U_small (n := 8) (by decide)] at h
  exact h.mono fun e w' ⟨he, hw⟩ => ⟨by rw [he, show qv (9223372036854775808 * 2 ^ 192) 4 8 = 4611686018427387904 * 2 ^ 192 by decide, show qok (9223372036854775808 * 2 ^ 192) 4 8 = true by decide, limb3 _ (by decide)]; rfl, hw⟩

theorem carry1' {κ : IntKind} {w1 w2 : World} {o : Obj} {L : Nat} {f : Nat → Nat} (h : Arr κ (w1.alloc o) L 4 f) (hb : Below (w1.alloc o).heap.size (w1.alloc o) w2) : Arr κ w2 L 4 f := h.below hb h.lt4
set_option maxRecDepth 100000 in
set_option maxHeartbeats 1000000 in
theorem lives2_walk (w : World) : Calls Try.prog 46 #[] w fun e w' => e = .returned (.bool true) ∧ Below w.heap.size w w' := by
  have heq := eqU
  go_enter Try.func46, Try.ntmps46
  go_wp2_with fail
  refine (down732_c _).mono ?_
  rintro e w1 ⟨rfl, hb1⟩
  go_wp2_with fail
  refine (up732_c _).mono ?_
  rintro e w2 ⟨rfl, hb2⟩
  have ma : Arr .u64 w2 w1.heap.size 4 (fun i => if i = 0 then 10 else 0) := carry1' (Arr.new4 (f := fun i => if i = 0 then 10 else 0) rfl) hb2
  go_wp2_with fail
  refine (down48_c _).mono ?_
  rintro e w3 ⟨rfl, hb3⟩
  have ma3 := carry1 ma hb3
  have mb3 : Arr .u64 w3 w2.heap.size 4 (fun i => if i = 0 then 11 else 0) := carry1' (Arr.new4 (f := fun i => if i = 0 then 11 else 0) rfl) hb3
  have za : w1.heap.size < w3.heap.size := ma3.lt4
  have zb : w2.heap.size < w3.heap.size := mb3.lt4
  have a0 : w3.cell? ⟨w1.heap.size, 0, none⟩ = some (.int .u64 10) := ma3.cell 0 (by omega)
  have a1 : w3.cell? ⟨w1.heap.size, 1, none⟩ = some (.int .u64 0) := ma3.cell 1 (by omega)
  have a2 : w3.cell? ⟨w1.heap.size, 2, none⟩ = some (.int .u64 0) := ma3.cell 2 (by omega)
  have a3 : w3.cell? ⟨w1.heap.size, 3, none⟩ = some (.int .u64 0) := ma3.cell 3 (by omega)
  have b0 : w3.cell? ⟨w2.heap.size, 0, none⟩ = some (.int .u64 11) := mb3.cell 0 (by omega)
  have b1 : w3.cell? ⟨w2.heap.size, 1, none⟩ = some (.int .u64 0) := mb3.cell 1 (by omega)
  have b2 : w3.cell? ⟨w2.heap.size, 2, none⟩ = some (.int .u64 0) := mb3.cell 2 (by omega)
  have b3 : w3.cell? ⟨w2.heap.size, 3, none⟩ = some (.int .u64 0) := mb3.cell 3 (by omega)
  clear ma ma3 mb3
  go_wp2
  go_ret
  refine ⟨rfl, ?_⟩
  have y1 := hb1.size
  have y2 : w1.heap.size + 1 ≤ w2.heap.size := by have := hb2.size; simpa using this
  have y3 : w2.heap.size + 1 ≤ w3.heap.size := by have := hb3.size; simpa using this
  exact ((((((hb1.alloc y1 _).trans (hb2.mono (by simp only [World.size_alloc]; omega))).alloc (by omega) _).trans (hb3.mono (by simp only [World.size_alloc]; omega))).alloc (by omega) _))
end Go.Proofs.Ytiofphpdonlaoaa
