/- How many bytes a number needs. No program. -/
import Derived.Test.YtcodlbfomfjmfaaU5
import Derived.Test.YtcodlbfomfjmfaaUB
namespace Go.Proofs.Ytcodlbfomfjmfaa
open Go.RowKit

def cnt (a : Nat) : Nat := (blen a + 7) / 8
theorem cnt_le {a m : Nat} (h : a < 2 ^ (8 * m)) : cnt a ≤ m := by
  have := blen_le h
  unfold cnt; omega
theorem cnt_is {a m : Nat} (h : a < 2 ^ (8 * m)) (h' : m = 0 ∨ 2 ^ (8 * (m - 1)) ≤ a) : cnt a = m := by
  have h1 := cnt_le h
  rcases Nat.eq_zero_or_pos m with e | e
  · omega
  · have h2 : 2 ^ (8 * (m - 1)) < 2 ^ blen a := Nat.lt_of_le_of_lt (h'.resolve_left (by omega)) (lt_blen a)
    have h3 := (Nat.pow_lt_pow_iff_right (by decide : 1 < 2)).1 h2
    unfold cnt at *; omega
theorem lead_lt {a : Nat} (ha : a < 2 ^ (8 * 32)) : ∀ k, k ≤ 32 → (∀ j, j < k → byteAt a (31 - j) = 0) → a < 2 ^ (8 * (32 - k))
  | 0, _, _ => ha
  | k + 1, hk, h => by
    have h1 := lead_lt ha k (by omega) (fun j hj => h j (by omega))
    have h2 := h k (by omega)
    unfold byteAt at h2
    have e : 2 ^ (8 * (32 - k)) = 256 * 2 ^ (8 * (31 - k)) := by
      rw [show (256 : Nat) = 2 ^ 8 from rfl, ← Nat.pow_add]; congr 1; omega
    have hp : 0 < 2 ^ (8 * (31 - k)) := Nat.pow_pos (by decide)
    have h3 : a / 2 ^ (8 * (31 - k)) < 256 := (Nat.div_lt_iff_lt_mul hp).2 (by rw [← e]; exact h1)
    have h4 : a / 2 ^ (8 * (31 - k)) = 0 := by rw [Nat.mod_eq_of_lt h3] at h2; exact h2
    have h5 := (Nat.div_eq_zero_iff_lt hp).1 h4
    rw [show 32 - (k + 1) = 31 - k by omega]
    exact h5
theorem lead_cnt {a k : Nat} (ha : a < 2 ^ (8 * 32)) (hk : k ≤ 32) (h : ∀ j, j < k → byteAt a (31 - j) = 0) (h' : k = 32 ∨ byteAt a (31 - k) ≠ 0) : cnt a = 32 - k := by
  refine cnt_is (lead_lt ha k hk h) ?_
  rcases h' with e | e
  · exact .inl (by omega)
  · refine .inr ?_
    rw [show 32 - k - 1 = 31 - k by omega]
    unfold byteAt at e
    refine Nat.le_of_not_lt fun hl => e ?_
    rw [Nat.div_eq_of_lt hl, Nat.zero_mod]
end Go.Proofs.Ytcodlbfomfjmfaa
