/- What one byte more does to the words of a number laid from its top. -/
import Derived.Test.YtcodlbfomfjmfaaF2
namespace Go.Proofs.Ytcodlbfomfjmfaa
open Go.RowKit Go.Sort

theorem limb_q {Y c q r : Nat} (hr : r < 8) (hc : c < 256) :
    limb (Y * 2 ^ (64 * q + (r * 8 + 8)) + c * 2 ^ (64 * q + r * 8)) q = limb (Y * 2 ^ (64 * q + (r * 8 + 8))) q + c * 2 ^ (r * 8) ∧ limb (Y * 2 ^ (64 * q + (r * 8 + 8))) q % 2 ^ (r * 8 + 8) = 0 := by
  have hp : 0 < 2 ^ (64 * q) := Nat.pow_pos (by decide)
  have e1 : (Y * 2 ^ (64 * q + (r * 8 + 8)) + c * 2 ^ (64 * q + r * 8)) / 2 ^ (64 * q) = Y * 2 ^ (r * 8 + 8) + c * 2 ^ (r * 8) := by
    rw [Nat.pow_add 2 (64 * q) (r * 8 + 8), Nat.pow_add 2 (64 * q) (r * 8), Nat.mul_left_comm Y, Nat.mul_left_comm c, ← Nat.mul_add, Nat.mul_div_cancel_left _ hp]
  have e2 : Y * 2 ^ (64 * q + (r * 8 + 8)) / 2 ^ (64 * q) = Y * 2 ^ (r * 8 + 8) := by
    rw [Nat.pow_add 2 (64 * q) (r * 8 + 8), Nat.mul_left_comm Y, Nat.mul_div_cancel_left _ hp]
  have h64 : 2 ^ 64 = 2 ^ (r * 8 + 8) * 2 ^ (64 - (r * 8 + 8)) := by rw [← Nat.pow_add]; congr 1; omega
  have hpp : 2 ^ (r * 8 + 8) = 256 * 2 ^ (r * 8) := by rw [Nat.pow_add, Nat.mul_comm]
  have hcs : c * 2 ^ (r * 8) < 2 ^ (r * 8 + 8) := by rw [hpp]; exact Nat.mul_lt_mul_of_pos_right hc (Nat.pow_pos (by decide))
  have m1 : Y * 2 ^ (r * 8 + 8) % 2 ^ 64 = Y % 2 ^ (64 - (r * 8 + 8)) * 2 ^ (r * 8 + 8) := by
    rw [h64, Nat.mul_comm Y, Nat.mul_mod_mul_left, Nat.mul_comm]
  have m2 : (Y * 2 ^ (r * 8 + 8) + c * 2 ^ (r * 8)) % 2 ^ 64 = Y * 2 ^ (r * 8 + 8) % 2 ^ 64 + c * 2 ^ (r * 8) := by
    rw [Nat.add_mod, Nat.mod_eq_of_lt (a := c * 2 ^ (r * 8)) (Nat.lt_of_lt_of_le hcs (Nat.pow_le_pow_right (by decide) (by omega))), Nat.mod_eq_of_lt]
    rw [m1]
    have h1 : Y % 2 ^ (64 - (r * 8 + 8)) + 1 ≤ 2 ^ (64 - (r * 8 + 8)) := Nat.mod_lt _ (Nat.pow_pos (by decide))
    have h2 := Nat.mul_le_mul_right (2 ^ (r * 8 + 8)) h1
    rw [Nat.add_mul, Nat.one_mul, Nat.mul_comm (2 ^ (64 - (r * 8 + 8))), ← h64] at h2
    omega
  unfold limb
  rw [e1, e2]
  exact ⟨m2, by rw [m1]; exact Nat.mul_mod_left _ _⟩
theorem limb_other {Y c q r i : Nat} (hr : r < 8) (hc : c < 256) (hi : i ≠ q) :
    limb (Y * 2 ^ (64 * q + (r * 8 + 8)) + c * 2 ^ (64 * q + r * 8)) i = limb (Y * 2 ^ (64 * q + (r * 8 + 8))) i := by
  unfold limb
  rcases Nat.lt_or_ge i q with h | h
  · have e : ∀ x, 64 * q + x = 64 * i + (64 + (64 * (q - i - 1) + x)) := fun x => by omega
    rw [e (r * 8 + 8), e (r * 8)]
    simp only [Nat.pow_add]
    have d : ∀ y z : Nat, y * (2 ^ (64 * i) * (2 ^ 64 * z)) / 2 ^ (64 * i) % 2 ^ 64 = 0 := fun y z => by
      rw [Nat.mul_left_comm, Nat.mul_div_cancel_left _ (Nat.pow_pos (by decide)), Nat.mul_left_comm]; exact Nat.mul_mod_right _ _
    rw [d, show Y * (2 ^ (64 * i) * (2 ^ 64 * (2 ^ (64 * (q - i - 1)) * (2 ^ (r * 8) * 2 ^ 8)))) + c * (2 ^ (64 * i) * (2 ^ 64 * (2 ^ (64 * (q - i - 1)) * 2 ^ (r * 8)))) = (Y * 2 ^ 8 + c) * (2 ^ (64 * i) * (2 ^ 64 * (2 ^ (64 * (q - i - 1)) * 2 ^ (r * 8)))) by
      rw [Nat.add_mul]; congr 1; simp only [Nat.mul_assoc, Nat.mul_comm, Nat.mul_left_comm], d]
  · have e : 64 * i = 64 * q + (r * 8 + 8) + (64 * i - (64 * q + (r * 8 + 8))) := by omega
    have hz : c * 2 ^ (64 * q + r * 8) < 2 ^ (64 * q + (r * 8 + 8)) := by
      rw [show 64 * q + (r * 8 + 8) = 8 + (64 * q + r * 8) by omega, Nat.pow_add 2 8]
      exact Nat.mul_lt_mul_of_pos_right hc (Nat.pow_pos (by decide))
    rw [e, Nat.pow_add 2 (64 * q + (r * 8 + 8)), ← Nat.div_div_eq_div_mul, ← Nat.div_div_eq_div_mul, Nat.mul_comm Y, Nat.mul_add_div (Nat.pow_pos (by decide)), Nat.div_eq_of_lt hz, Nat.add_zero, Nat.mul_div_cancel_left _ (Nat.pow_pos (by decide))]
end Go.Proofs.Ytcodlbfomfjmfaa
