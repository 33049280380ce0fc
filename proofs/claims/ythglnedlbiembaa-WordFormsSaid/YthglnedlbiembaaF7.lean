/- The number of a text's digits: plain lemmas for both Parses; one text for one number. -/
import Derived.Test.YthglnedlbiembaaF6
namespace Go.Proofs.Ythglnedlbiembaa
open Go.RowKit Go.Sort

/-- the number of the first k digits -/
def pnum (f : Nat → Nat) : Nat → Nat
  | 0 => 0
  | k + 1 => pnum f k * 10 + (f k - 48)
/-- the text tells a number -/
def pok (f : Nat → Nat) (n : Nat) : Prop := 0 < n ∧ (n = 1 ∨ f 0 ≠ 48) ∧ (∀ i, i < n → 48 ≤ f i ∧ f i ≤ 57) ∧ pnum f n < 2 ^ 256
theorem pnum_le {f : Nat → Nat} (k : Nat) : ∀ d, pnum f k ≤ pnum f (k + d)
  | 0 => Nat.le_refl _
  | d + 1 => by
    have ih := pnum_le (f := f) k d
    rw [show k + (d + 1) = k + d + 1 from rfl]
    simp only [pnum]; omega
theorem pnum_mono {f : Nat → Nat} {k n : Nat} (h : k ≤ n) : pnum f k ≤ pnum f n := by
  have := pnum_le (f := f) k (n - k)
  rw [show k + (n - k) = n by omega] at this; exact this
theorem pnum_lt {f : Nat → Nat} : ∀ k, (∀ i, i < k → f i ≤ 57) → pnum f k < 10 ^ k
  | 0, _ => by simp [pnum]
  | k + 1, h => by
    have ih := pnum_lt k (fun i hi => h i (by omega))
    have h9 := h k (by omega)
    simp only [pnum]
    rw [Nat.pow_succ]; omega
theorem pnum_ge {f : Nat → Nat} (h0 : 49 ≤ f 0) : ∀ k, 10 ^ k ≤ pnum f (k + 1)
  | 0 => by simp only [pnum]; rw [Nat.pow_zero]; omega
  | k + 1 => by
    have ih := pnum_ge h0 k
    have e : pnum f (k + 1 + 1) = pnum f (k + 1) * 10 + (f (k + 1) - 48) := rfl
    rw [e, Nat.pow_succ]; omega
/-- beyond 78 digits, without a nought ahead, there is no such number -/
theorem pok_le {f : Nat → Nat} {n : Nat} (h : pok f n) : n ≤ 78 := by
  obtain ⟨h1, h2, h3, h4⟩ := h
  rcases Nat.lt_or_ge 78 n with h5 | h5
  · have h0 := h3 0 (by omega)
    have hg := pnum_ge (f := f) (by rcases h2 with h | h <;> omega) (n - 1)
    rw [show n - 1 + 1 = n by omega] at hg
    have h78 : (2 : Nat) ^ 256 ≤ 10 ^ (n - 1) := Nat.le_trans (by decide : 2 ^ 256 ≤ 10 ^ 78) (Nat.pow_le_pow_right (by decide) (by omega))
    omega
  · exact h5
/-- a trimmed number's words are few -/
theorem trimmed_len {f : Nat → Nat} {n k : Nat} (h : Trimmed n f) (hv : nval f n < 2 ^ (32 * k)) : n ≤ k := by
  rcases Nat.lt_or_ge k n with h1 | h1
  · rcases h with h | h
    · omega
    · exfalso
      obtain ⟨m, hm⟩ : ∃ m, n = m + 1 := ⟨n - 1, by omega⟩
      subst hm
      rw [Nat.add_sub_cancel] at h
      simp only [nval] at hv
      have h2 : 1 * 2 ^ (32 * m) ≤ f m * 2 ^ (32 * m) := Nat.mul_le_mul_right _ (by omega)
      have h3 : 2 ^ (32 * k) ≤ 2 ^ (32 * m) := Nat.pow_le_pow_right (by decide) (by omega)
      omega
  · exact h1
theorem text_one {a j j' : Nat} (h1 : 1 ≤ j) (h2 : a < 10 ^ j) (h3 : j = 1 ∨ 10 ^ (j - 1) ≤ a) (k1 : 1 ≤ j') (k2 : a < 10 ^ j') (k3 : j' = 1 ∨ 10 ^ (j' - 1) ≤ a) : j = j' := by
  rcases Nat.lt_trichotomy j j' with h | h | h
  · exfalso
    rcases k3 with k | k
    · omega
    · have := Nat.pow_le_pow_right (show 0 < 10 by decide) (show j ≤ j' - 1 by omega); omega
  · exact h
  · exfalso
    rcases h3 with k | k
    · omega
    · have := Nat.pow_le_pow_right (show 0 < 10 by decide) (show j' ≤ j - 1 by omega); omega
end Go.Proofs.Ythglnedlbiembaa
