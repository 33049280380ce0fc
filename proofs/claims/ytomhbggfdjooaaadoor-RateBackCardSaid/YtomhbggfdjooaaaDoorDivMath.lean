/- Plain arithmetic: quotients of two words by one, guessed from the upper half and put right. No program is named here. -/
namespace Go.Proofs.YtomhbggfdjooaaaDoor

/-- What a guess of a quotient's digit keeps: u is the dividend's upper part, n its next digit (below B), y = y1 * B + y0. -/
structure Guess (B u n y1 y0 q r : Nat) : Prop where
  sum : q * y1 + r = u
  over : (u * B + n) / (y1 * B + y0) ≤ q

theorem guess_first {B u n y1 y0 : Nat} (hy1 : 0 < y1) (hB : 0 < B) (hn : n < B) : Guess B u n y1 y0 (u / y1) (u % y1) where
  sum := by rw [Nat.mul_comm]; exact Nat.div_add_mod u y1
  over := by
    refine Nat.le_of_lt_succ ((Nat.div_lt_iff_lt_mul (Nat.add_pos_left (Nat.mul_pos hy1 hB) _)).2 ?_)
    have h1 := Nat.div_add_mod u y1
    have h2 := Nat.mod_lt u hy1
    have h3 : u + 1 ≤ (u / y1 + 1) * y1 := by rw [Nat.add_mul, Nat.one_mul, Nat.mul_comm (u / y1)]; omega
    have h4 := Nat.mul_le_mul_right B h3
    rw [Nat.add_mul, Nat.one_mul] at h4
    have h5 : (u / y1 + 1) * y1 * B ≤ (u / y1 + 1) * (y1 * B + y0) := by rw [Nat.mul_assoc]; exact Nat.mul_le_mul_left _ (by omega)
    show _ < (u / y1 + 1) * _
    omega

/-- the guess is too great: one less still is at least the quotient -/
theorem Guess.less {B u n y1 y0 q r : Nat} (g : Guess B u n y1 y0 q r) (hbig : (u * B + n) / (y1 * B + y0) < q) : Guess B u n y1 y0 (q - 1) (r + y1) where
  sum := by
    have := g.sum
    have hq : 0 < q := Nat.lt_of_le_of_lt (Nat.zero_le _) hbig
    clear hbig
    obtain ⟨k, rfl⟩ : ∃ k, q = k + 1 := ⟨q - 1, by omega⟩
    rw [Nat.add_mul] at this; simp only [Nat.add_sub_cancel]; omega
  over := by
    generalize (u * B + n) / (y1 * B + y0) = x at *
    omega

theorem Guess.big_of_test {B u n y1 y0 q r : Nat} (g : Guess B u n y1 y0 q r) (hy : 0 < y1 * B + y0) (ht : r * B + n < q * y0) : (u * B + n) / (y1 * B + y0) < q := by
  refine (Nat.div_lt_iff_lt_mul hy).2 ?_
  have h := g.sum
  have h1 := congrArg (· * B) h
  simp only [Nat.add_mul, Nat.mul_assoc] at h1
  rw [Nat.mul_add]
  omega
theorem Guess.exact_of_test {B u n y1 y0 q r : Nat} (g : Guess B u n y1 y0 q r) (hy : 0 < y1 * B + y0) (ht : q * y0 ≤ r * B + n) : q = (u * B + n) / (y1 * B + y0) := by
  refine Nat.le_antisymm ((Nat.le_div_iff_mul_le hy).2 ?_) g.over
  have h := g.sum
  have h1 := congrArg (· * B) h
  simp only [Nat.add_mul, Nat.mul_assoc] at h1
  rw [Nat.mul_add]
  omega
theorem quot_lt {B u n y : Nat} (hu : u < y) (hn : n < B) : (u * B + n) / y < B := by
  refine (Nat.div_lt_iff_lt_mul (by omega)).2 ?_
  have h := Nat.mul_le_mul_right B (show u + 1 ≤ y by omega)
  rw [Nat.add_mul, Nat.one_mul, Nat.mul_comm y] at h
  omega

/-- a quotient in two digits -/
theorem two_digits {B u n1 n0 y : Nat} (hy : 0 < y) (hn0 : n0 < B) :
    (u * B * B + (n1 * B + n0)) / y = (u * B + n1) / y * B + ((u * B + n1) % y * B + n0) / y ∧ (u * B * B + (n1 * B + n0)) % y = ((u * B + n1) % y * B + n0) % y := by
  have e : u * B * B + (n1 * B + n0) = y * ((u * B + n1) / y * B) + ((u * B + n1) % y * B + n0) := by
    have h := Nat.div_add_mod (u * B + n1) y
    have h1 := congrArg (· * B) h
    simp only [Nat.add_mul, Nat.mul_assoc] at h1
    rw [Nat.mul_assoc u B B, ← Nat.mul_assoc y] at *
    omega
  constructor
  · rw [e, Nat.mul_add_div hy]
  · rw [e, Nat.mul_add_mod]

/-- what is left of a word's quotient, when the word was guessed: X = guess * D + left, or short of it by less than M -/
theorem word_over {R n D R3 R2 D3 P : Nat} (hP : 0 < P) (hR : R * (18446744073709551616) + n < (R3 * 18446744073709551616 + R2 + 1) * P) (hD : D3 * P ≤ D) (hD3 : 0 < D3) :
    (R * 18446744073709551616 + n) / D ≤ (R3 * 18446744073709551616 + R2) / D3 := by
  refine (Nat.le_div_iff_mul_le hD3).2 ?_
  have hD0 : 0 < D := Nat.lt_of_lt_of_le (Nat.mul_pos hD3 hP) hD
  have h1 := Nat.div_mul_le_self (R * 18446744073709551616 + n) D
  have h2 := Nat.mul_le_mul_left ((R * 18446744073709551616 + n) / D) hD
  have h3 : (R * 18446744073709551616 + n) / D * D3 * P < (R3 * 18446744073709551616 + R2 + 1) * P := by rw [Nat.mul_assoc]; omega
  have h4 := Nat.lt_of_mul_lt_mul_right h3
  omega

end Go.Proofs.YtomhbggfdjooaaaDoor
