/- Plain lemmas for tallageref01.QuoRem. -/
import Derived.Test.YtoaepgiajooecaaGreatG28
import Derived.Test.YtoaepgiajooecaaGreatG20
import Derived.Test.YtoaepgiajooecaaGreatG21
namespace Go.Proofs.YtoaepgiajooecaaGreat
open Go.RowKit Go.Sort

theorem w32_val {f : Nat → Nat} : ∀ n, (∀ i, f i < 2 ^ 32) → ∀ j, j < n → w32 (nval f n) j = f j
  | 0, _, j, hj => by omega
  | n + 1, h, j, hj => by
    have hv := nval_lt n (fun i _ => h i)
    have hp : 0 < 2 ^ (32 * n) := Nat.pow_pos (by decide)
    by_cases hjn : j = n
    · subst hjn
      simp only [nval, w32]
      rw [Nat.add_mul_div_right _ _ hp, Nat.div_eq_of_lt hv, Nat.zero_add, Nat.mod_eq_of_lt (h j)]
    · have hj' : j < n := by omega
      rw [← w32_val n h j hj']
      simp only [nval, w32]
      have e : 2 ^ (32 * n) = 2 ^ (32 * j) * (2 ^ 32 * 2 ^ (32 * (n - 1 - j))) := by
        rw [← Nat.pow_add, ← Nat.pow_add]; congr 1; omega
      rw [e, Nat.mul_left_comm (f n), Nat.add_mul_div_left _ _ (Nat.pow_pos (by decide)), Nat.mul_left_comm (f n), Nat.add_mul_mod_self_left]
/-- a bit of a number out of its word -/
theorem bit_word (N w r : Nat) (hr : r < 32) : w32 N w / 2 ^ r % 2 = N / 2 ^ (32 * w + r) % 2 := by
  unfold w32
  have e : N / 2 ^ (32 * w + r) = N / 2 ^ (32 * w) / 2 ^ r := by rw [Nat.div_div_eq_div_mul, ← Nat.pow_add]
  rw [e]
  generalize N / 2 ^ (32 * w) = X
  have h : (2 : Nat) ^ 32 = 2 ^ r * (2 * 2 ^ (31 - r)) := by
    rw [← Nat.pow_succ', ← Nat.pow_add]; congr 1; omega
  rw [h, Nat.mod_mul_right_div_self, Nat.mod_mul_right_mod]
theorem and_bit {x r : Nat} (hx : x < 2 ^ 32) : bits BinOp.and IntKind.u32 ((x : Int) / 2 ^ r) 1 = ((x / 2 ^ r % 2 : Nat) : Int) := by
  have e : (x : Int) / 2 ^ r = ((x / 2 ^ r : Nat) : Int) := by rw [Int.natCast_ediv, Int.natCast_pow]; rfl
  have h := u32_and_nat (x / 2 ^ r) 1 (Nat.lt_of_le_of_lt (Nat.div_le_self _ _) hx) (by decide)
  rw [e]
  rw [nat_mask1] at h
  exact h
theorem or_low (x : Nat) {c : Nat} (hc : c ≤ 1) : bits BinOp.or IntKind.u32 ((2 * x % 4294967296 : Nat) : Int) (c : Int) = ((2 * x % 4294967296 + c : Nat) : Int) := by
  rw [u32_or_nat _ _ (by omega) (by omega), nat_join 1 _ _ (by omega) (by omega)]
theorem or_top {x r : Nat} (hx : x % 2 ^ (r + 1) = 0) (hr : r < 32) (hl : x < 2 ^ 32) : bits BinOp.or IntKind.u32 (x : Int) (IntKind.u32.wrap (2 ^ r)) = ((x + 2 ^ r : Nat) : Int) ∧ x + 2 ^ r < 2 ^ 32 := by
  have h2 : 2 ^ r < 2 ^ 32 := Nat.pow_lt_pow_right (by decide) hr
  have e : IntKind.u32.wrap (2 ^ r : Int) = ((2 ^ r : Nat) : Int) := by
    rw [IntKind.wrap_u32, Int.natCast_pow]
    have : ((2 ^ r : Nat) : Int) < 4294967296 := by omega
    rw [Int.natCast_pow] at this
    exact Int.emod_eq_of_lt (by rw [show ((2 : Int) ^ r) = ((2 ^ r : Nat) : Int) by rw [Int.natCast_pow]; rfl]; omega) this
  have hj : x ||| 2 ^ r = x + 2 ^ r := nat_join (r + 1) _ _ hx (Nat.pow_lt_pow_right (by decide) (by omega))
  rw [e, u32_or_nat _ _ (by omega) (by omega), hj]
  refine ⟨rfl, ?_⟩
  rw [← hj]
  exact Nat.or_lt_two_pow hl h2
theorem word_low {Q : Nat → Nat} {n w r q : Nat} (hQ : ∀ i, Q i < 2 ^ 32) (hw : w < n) (hr : r < 32) (h : nval Q n = q * 2 ^ (32 * w + r + 1)) : Q w % 2 ^ (r + 1) = 0 := by
  rw [← w32_val n hQ w hw, h]
  unfold w32
  have e : q * 2 ^ (32 * w + r + 1) / 2 ^ (32 * w) = q * 2 ^ (r + 1) := by
    rw [show 32 * w + r + 1 = (r + 1) + 32 * w by omega, Nat.pow_add, ← Nat.mul_assoc, Nat.mul_div_cancel _ (Nat.pow_pos (by decide))]
  have e2 : (2 : Nat) ^ 32 = 2 ^ (r + 1) * 2 ^ (31 - r) := by rw [← Nat.pow_add]; congr 1; omega
  rw [e, e2, Nat.mod_mul_right_mod]
  exact Nat.mul_mod_left _ _
/-- one bit more of a division -/
theorem qr_step {A B k : Nat} (hB : 0 < B) :
    let X := 2 * (A / 2 ^ (k + 1) % B) + A / 2 ^ k % 2
    (B ≤ X → A / 2 ^ k % B = X - B ∧ A / 2 ^ k / B = 2 * (A / 2 ^ (k + 1) / B) + 1) ∧ (X < B → A / 2 ^ k % B = X ∧ A / 2 ^ k / B = 2 * (A / 2 ^ (k + 1) / B)) := by
  intro X
  have e : A / 2 ^ (k + 1) = A / 2 ^ k / 2 := by rw [Nat.pow_succ, Nat.div_div_eq_div_mul]
  have hXd : X = 2 * (A / 2 ^ (k + 1) % B) + A / 2 ^ k % 2 := rfl
  rw [e] at hXd ⊢
  clear_value X
  generalize A / 2 ^ k = Y at *
  have h1 := Nat.div_add_mod (Y / 2) B
  have h2 := Nat.mod_lt (Y / 2) hB
  have h3 := Nat.div_add_mod Y 2
  generalize Y / 2 / B = q at *
  generalize Y / 2 % B = r at *
  have h4 : Y = B * (2 * q) + X := by rw [Nat.mul_left_comm]; omega
  constructor
  · intro h
    have h5 : Y = B * (2 * q + 1) + (X - B) := by rw [Nat.mul_add]; omega
    have h6 : X - B < B := by omega
    rw [h5]
    exact ⟨by rw [Nat.mul_add_mod, Nat.mod_eq_of_lt h6], by rw [Nat.mul_add_div hB, Nat.div_eq_of_lt h6, Nat.add_zero]⟩
  · intro h
    rw [h4]
    exact ⟨by rw [Nat.mul_add_mod, Nat.mod_eq_of_lt h], by rw [Nat.mul_add_div hB, Nat.div_eq_of_lt h, Nat.add_zero]⟩
end Go.Proofs.YtoaepgiajooecaaGreat

namespace Go.Proofs.YtoaepgiajooecaaGreat
open Go.RowKit Go.Sort

theorem bit_limb (N w r : Nat) (hr : r < 64) : limb N w / 2 ^ r % 2 = N / 2 ^ (64 * w + r) % 2 := by
  unfold limb
  have e : N / 2 ^ (64 * w + r) = N / 2 ^ (64 * w) / 2 ^ r := by rw [Nat.div_div_eq_div_mul, ← Nat.pow_add]
  rw [e]
  generalize N / 2 ^ (64 * w) = X
  have h : (2 : Nat) ^ 64 = 2 ^ r * (2 * 2 ^ (63 - r)) := by
    rw [← Nat.pow_succ', ← Nat.pow_add]; congr 1; omega
  rw [h, Nat.mod_mul_right_div_self, Nat.mod_mul_right_mod]
theorem and_bit64 {x r : Nat} (hx : x < 2 ^ 64) : bits BinOp.and IntKind.u64 ((x : Int) / 2 ^ r) 1 = ((x / 2 ^ r % 2 : Nat) : Int) := by
  have e : (x : Int) / 2 ^ r = ((x / 2 ^ r : Nat) : Int) := by rw [Int.natCast_ediv, Int.natCast_pow]; rfl
  have h := u64_and_nat (x / 2 ^ r) 1 (Nat.lt_of_le_of_lt (Nat.div_le_self _ _) hx) (by decide)
  rw [e]
  rw [nat_mask1] at h
  exact h
/-- the bits above k are nought -/
def RbRel (a : Nat) (w : World) (x : Value) (wr : World) : Prop :=
  ∃ k : Nat, k ≤ 256 ∧ x = .int .i64 ((k : Int) - 1) ∧ a < 2 ^ k ∧ Arr .u64 wr w.heap.size 4 (limb a) ∧ Below w.heap.size w wr
theorem bit_one {a i : Nat} (h : a < 2 ^ (i + 1)) (hb : a / 2 ^ i % 2 = 1) : blen a = i + 1 := by
  have hp : 0 < 2 ^ i := Nat.pow_pos (by decide)
  have h1 : 1 ≤ a / 2 ^ i := by
    generalize a / 2 ^ i = x at hb ⊢; omega
  have h2 : 2 ^ i ≤ a := by have := (Nat.le_div_iff_mul_le hp).1 h1; omega
  exact (blen_iff (by omega)).2 ⟨h2, h⟩
theorem bit_nought {a i : Nat} (h : a < 2 ^ (i + 1)) (hb : a / 2 ^ i % 2 = 0) : a < 2 ^ i := by
  have hp : 0 < 2 ^ i := Nat.pow_pos (by decide)
  have h1 : a / 2 ^ i < 2 := (Nat.div_lt_iff_lt_mul hp).2 (by rw [Nat.mul_comm]; exact h)
  have h2 : a / 2 ^ i < 1 := by
    generalize a / 2 ^ i = x at hb h1 ⊢; omega
  have := (Nat.div_lt_iff_lt_mul hp).1 h2
  omega

end Go.Proofs.YtoaepgiajooecaaGreat

namespace Go.Proofs.YtoaepgiajooecaaGreat
open Go.RowKit Go.Sort

theorem limb_q {Y c q r : Nat} (hr : r < 8) (hc : c < 256) :
    limb (Y * 2 ^ (64 * q + (r * 8 + 8)) + c * 2 ^ (64 * q + r * 8)) q = limb (Y * 2 ^ (64 * q + (r * 8 + 8))) q + c * 2 ^ (r * 8) ∧ limb (Y * 2 ^ (64 * q + (r * 8 + 8))) q % 2 ^ (r * 8 + 8) = 0 := by
  have hp : 0 < 2 ^ (64 * q) := Nat.pow_pos (by decide)
  have e1 : (Y * 2 ^ (64 * q + (r * 8 + 8)) + c * 2 ^ (64 * q + r * 8)) / 2 ^ (64 * q) = Y * 2 ^ (r * 8 + 8) + c * 2 ^ (r * 8) := by
    rw [Nat.pow_add 2 (64 * q) (r * 8 + 8), Nat.pow_add 2 (64 * q) (r * 8), Nat.mul_left_comm Y, Nat.mul_left_comm c, ← Nat.mul_add, Nat.mul_div_cancel_left _ hp]
  have e2 : Y * 2 ^ (64 * q + (r * 8 + 8)) / 2 ^ (64 * q) = Y * 2 ^ (r * 8 + 8) := by
    rw [Nat.pow_add 2 (64 * q) (r * 8 + 8), Nat.mul_left_comm Y, Nat.mul_div_cancel_left _ hp]
  have h64 : 2 ^ 64 = 2 ^ (r * 8 + 8) * 2 ^ (64 - (r * 8 + 8)) := by rw [← Nat.pow_add]; congr 1; omega
  have hpp : 2 ^ (r * 8 + 8) = 256 * 2 ^ (r * 8) := by rw [Nat.pow_add, Nat.mul_comm]
  have hcs : c * 2 ^ (r * 8) < 2 ^ (r * 8 + 8) := by rw [hpp]; exact Nat.mul_lt_mul_of_pos_right hc (Nat.pow_pos (by decide))
  have m1 : Y * 2 ^ (r * 8 + 8) % 2 ^ 64 = Y % 2 ^ (64 - (r * 8 + 8)) * 2 ^ (r * 8 + 8) := by
    rw [h64, Nat.mul_comm Y, Nat.mul_mod_mul_left, Nat.mul_comm]
  have m2 : (Y * 2 ^ (r * 8 + 8) + c * 2 ^ (r * 8)) % 2 ^ 64 = Y * 2 ^ (r * 8 + 8) % 2 ^ 64 + c * 2 ^ (r * 8) := by
    rw [Nat.add_mod, Nat.mod_eq_of_lt (a := c * 2 ^ (r * 8)) (Nat.lt_of_lt_of_le hcs (Nat.pow_le_pow_right (by decide) (by omega))), Nat.mod_eq_of_lt]
    rw [m1]
    have h1 : Y % 2 ^ (64 - (r * 8 + 8)) + 1 ≤ 2 ^ (64 - (r * 8 + 8)) := Nat.mod_lt _ (Nat.pow_pos (by decide))
    have h2 := Nat.mul_le_mul_right (2 ^ (r * 8 + 8)) h1
    rw [Nat.add_mul, Nat.one_mul, Nat.mul_comm (2 ^ (64 - (r * 8 + 8))), ← h64] at h2
    omega
  unfold limb
  rw [e1, e2]
  exact ⟨m2, by rw [m1]; exact Nat.mul_mod_left _ _⟩
theorem limb_other {Y c q r i : Nat} (hr : r < 8) (hc : c < 256) (hi : i ≠ q) :
    limb (Y * 2 ^ (64 * q + (r * 8 + 8)) + c * 2 ^ (64 * q + r * 8)) i = limb (Y * 2 ^ (64 * q + (r * 8 + 8))) i := by
  unfold limb
  rcases Nat.lt_or_ge i q with h | h
  · have e : ∀ x, 64 * q + x = 64 * i + (64 + (64 * (q - i - 1) + x)) := fun x => by omega
    rw [e (r * 8 + 8), e (r * 8)]
    simp only [Nat.pow_add]
    have d : ∀ y z : Nat, y * (2 ^ (64 * i) * (2 ^ 64 * z)) / 2 ^ (64 * i) % 2 ^ 64 = 0 := fun y z => by
      rw [Nat.mul_left_comm, Nat.mul_div_cancel_left _ (Nat.pow_pos (by decide)), Nat.mul_left_comm]; exact Nat.mul_mod_right _ _
    rw [d, show Y * (2 ^ (64 * i) * (2 ^ 64 * (2 ^ (64 * (q - i - 1)) * (2 ^ (r * 8) * 2 ^ 8)))) + c * (2 ^ (64 * i) * (2 ^ 64 * (2 ^ (64 * (q - i - 1)) * 2 ^ (r * 8)))) = (Y * 2 ^ 8 + c) * (2 ^ (64 * i) * (2 ^ 64 * (2 ^ (64 * (q - i - 1)) * 2 ^ (r * 8)))) by
      rw [Nat.add_mul]; congr 1; simp only [Nat.mul_assoc, Nat.mul_comm, Nat.mul_left_comm], d]
  · have e : 64 * i = 64 * q + (r * 8 + 8) + (64 * i - (64 * q + (r * 8 + 8))) := by omega
    have hz : c * 2 ^ (64 * q + r * 8) < 2 ^ (64 * q + (r * 8 + 8)) := by
      rw [show 64 * q + (r * 8 + 8) = 8 + (64 * q + r * 8) by omega, Nat.pow_add 2 8]
      exact Nat.mul_lt_mul_of_pos_right hc (Nat.pow_pos (by decide))
    rw [e, Nat.pow_add 2 (64 * q + (r * 8 + 8)), ← Nat.div_div_eq_div_mul, ← Nat.div_div_eq_div_mul, Nat.mul_comm Y, Nat.mul_add_div (Nat.pow_pos (by decide)), Nat.div_eq_of_lt hz, Nat.add_zero, Nat.mul_div_cancel_left _ (Nat.pow_pos (by decide))]
end Go.Proofs.YtoaepgiajooecaaGreat
