/- Roots: the constants of the sums, walked. -/
import Derived.Test.YtjemgoifemdoeaaHc
import Derived.Test.YtjemgoifemdoeaaShelf
import Derived.Shelf.Bits.Mul64
namespace Go.Proofs.Ytjemgoifemdoeaa
open Go.RowKit

theorem idx64 (f : Nat → Nat) {k : Nat} (hk : k < 64) (w : World) : (Instr.index 102 (.agg (vals .u64 f 64).toArray) (.int .i64 (k : Nat))).run Try.prog w = .ok (.int .u64 (f k : Nat)) w := by
  have hu := Try.underlying102
  have hg := vals_get .u64 f hk
  have aa := Try.isAgg92
  simp [Instr.index, Sem.run_bind, run_underlying hu, asIntOf, go_sem]
  rw [if_pos hk, hg]; rfl
theorem bits_or64 {a b : Nat} (ha : a < 2 ^ 64) (hb : b < 2 ^ 64) : bits .or .u64 (a : Int) (b : Int) = ((a ||| b : Nat) : Int) := by
  show IntKind.u64.wrap ((BitVec.ofInt 64 (a : Int) ||| BitVec.ofInt 64 (b : Int)).toNat : Int) = _
  rw [BitVec.toNat_or, BitVec.toNat_ofInt, BitVec.toNat_ofInt]
  have h1 : ((a : Int) % (2 ^ 64 : Nat)).toNat = a := by omega
  have h2 : ((b : Int) % (2 ^ 64 : Nat)).toNat = b := by omega
  rw [h1, h2]
  exact IntWalk.u64_in _ (by have := Nat.or_lt_two_pow ha hb; omega)
/-- is a cube too great? hi, lo: its words above and below the 64th bit -/
def cubeOk (p x : Nat) : Bool := decide (x * x * x / 2 ^ 64 < p * 2 ^ 32) || (decide (x * x * x / 2 ^ 64 = p * 2 ^ 32) && decide (x * x * x % 2 ^ 64 = 0))
def rootC (p : Nat) : Nat → Nat
  | 0 => 0
  | j + 1 => if cubeOk p (rootC p j ||| 17179869184 / 2 ^ j) then rootC p j ||| 17179869184 / 2 ^ j else rootC p j
theorem bit_lt (j : Nat) : 17179869184 / 2 ^ j < 2 ^ 35 := Nat.lt_of_le_of_lt (Nat.div_le_self _ _) (by decide)
theorem rootC_lt (p : Nat) : ∀ j, rootC p j < 2 ^ 35
  | 0 => by show 0 < _; decide
  | j + 1 => by
    show (if _ then _ else _) < _
    split
    · exact Nat.or_lt_two_pow (rootC_lt p j) (bit_lt j)
    · exact rootC_lt p j
theorem bit_half (j : Nat) : 17179869184 / 2 ^ j / 2 = 17179869184 / 2 ^ (j + 1) := by rw [Nat.div_div_eq_div_mul, Nat.pow_succ]
theorem bit_pos {j : Nat} : 0 < 17179869184 / 2 ^ j ↔ j < 35 := by
  constructor
  · intro h
    refine Nat.lt_of_not_le fun h35 => ?_
    have h1 : 2 ^ 35 ≤ 2 ^ j := Nat.pow_le_pow_right (by decide) h35
    rw [Nat.div_eq_of_lt (by omega)] at h
    omega
  · intro h
    have h1 : 2 ^ j ≤ 2 ^ 34 := Nat.pow_le_pow_right (by decide) (by omega)
    exact Nat.div_pos (by omega) (Nat.pow_pos (by decide))
theorem prime_lt (i : Nat) : primeF i < 312 := by
  unfold primeF
  rw [svs_end]
  by_cases h : i < 64
  · have : ∀ i : Fin 64, [2, 3, 5, 7, 11, 13, 17, 19, 23, 29, 31, 37, 41, 43, 47, 53, 59, 61, 67, 71, 73, 79, 83, 89, 97, 101, 103, 107, 109, 113, 127, 131, 137, 139, 149, 151, 157, 163, 167, 173, 179, 181, 191, 193, 197, 199, 211, 223, 227, 229, 233, 239, 241, 251, 257, 263, 269, 271, 277, 281, 283, 293, 307, 311].getD i.val 0 < 312 := by decide
    exact this ⟨i, h⟩
  · rw [List.getD, List.getElem?_eq_none (by simp; omega)]; decide
/-- the cube by two products -/
theorem cube_words {x : Nat} (hx : x < 2 ^ 36) : x * x / 18446744073709551616 * x + x * x % 18446744073709551616 * x / 18446744073709551616 = x * x * x / 2 ^ 64 ∧ x * x % 18446744073709551616 * x % 18446744073709551616 = x * x * x % 2 ^ 64 ∧ x * x * x / 2 ^ 64 < 2 ^ 44 := by
  obtain ⟨q, hq⟩ : ∃ q, q = x * x / 18446744073709551616 := ⟨_, rfl⟩
  obtain ⟨r, hr⟩ : ∃ r, r = x * x % 18446744073709551616 := ⟨_, rfl⟩
  have h1 : x * x = 18446744073709551616 * q + r := by rw [hq, hr]; exact (Nat.div_add_mod _ _).symm
  have h2 : x * x * x = 18446744073709551616 * (q * x) + r * x := by rw [h1, Nat.add_mul, Nat.mul_assoc]
  rw [← hq, ← hr]
  have e64 : (2 : Nat) ^ 64 = 18446744073709551616 := by decide
  refine ⟨?_, ?_, ?_⟩
  · rw [h2, e64, Nat.mul_add_div (by decide)]
  · rw [h2, e64, Nat.mul_add_mod]
  · rw [e64]
    refine (Nat.div_lt_iff_lt_mul (by decide)).2 ?_
    have h3 : x * x < 2 ^ 36 * 2 ^ 36 := Nat.mul_lt_mul'' hx hx
    have h4 : x * x * x < 2 ^ 36 * 2 ^ 36 * 2 ^ 36 := Nat.mul_lt_mul'' h3 hx
    exact Nat.lt_of_lt_of_eq h4 (by decide)
end Go.Proofs.Ytjemgoifemdoeaa
