/- tallagelaw01.lives, walked: the document's examples are as it says. -/
import Derived.Test.YtomhbggfdjooaaaDoorUA
import Derived.Test.YtomhbggfdjooaaaDoorUB
namespace Go.Proofs.YtomhbggfdjooaaaDoor
open Go.RowKit

def lit (n : Nat) : Value := .agg #[.int .u64 (n : Nat), .int .u64 0, .int .u64 0, .int .u64 0]
theorem U_small {n : Nat} (h : n < 2 ^ 64) : U n = lit n := by
  unfold U lit
  have h0 : limb n 0 = n := by unfold limb; simp; omega
  have h1 : ∀ i, 1 ≤ i → limb n i = 0 := fun i hi => by
    unfold limb
    rw [Nat.div_eq_of_lt (Nat.lt_of_lt_of_le h (Nat.pow_le_pow_right (by decide) (by omega)))]
  rw [h0, h1 1 (by omega), h1 2 (by omega), h1 3 (by omega)]; rfl
theorem sub12_c (w : World) : Calls Tryd.prog 38 #[.agg #[.int .u64 1, .int .u64 0, .int .u64 0, .int .u64 0], .agg #[.int .u64 2, .int .u64 0, .int .u64 0, .int .u64 0]] w
    fun e w' => e = .returned (.tuple #[.agg #[.int .u64 0, .int .u64 0, .int .u64 0, .int .u64 0], .bool false]) ∧ Below w.heap.size w w' := by
  have h := sub_walk 1 2 w (by decide) (by decide)
  rw [U_small (by decide), U_small (by decide)] at h
  exact h.mono fun e w' ⟨he, hw⟩ => ⟨by rw [he, if_neg (by decide), decide_eq_false (by decide), U_zero], hw⟩
theorem div72_c (w : World) : Calls Tryd.prog 46 #[.agg #[.int .u64 7, .int .u64 0, .int .u64 0, .int .u64 0], .agg #[.int .u64 2, .int .u64 0, .int .u64 0, .int .u64 0]] w
    fun e w' => e = .returned (.tuple #[.agg #[.int .u64 3, .int .u64 0, .int .u64 0, .int .u64 0], .agg #[.int .u64 1, .int .u64 0, .int .u64 0, .int .u64 0], .bool true]) ∧ Below w.heap.size w w' := by
  have h := div_walk 7 2 w (by decide) (by decide)
  rw [U_small (by decide), U_small (by decide)] at h
  exact h.mono fun e w' ⟨he, hw⟩ => ⟨by rw [he, if_neg (by decide), if_neg (by decide), decide_eq_true (by decide), U_small (by decide), U_small (by decide)]; rfl, hw⟩
end Go.Proofs.YtomhbggfdjooaaaDoor
