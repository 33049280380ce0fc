/- muldiv.shiftLeft, walked. -/
import Derived.Test.YtedkhpnlhkjjgaaG20
namespace Go.Proofs.Ytedkhpnlhkjjgaa
open Go.RowKit

def shlA (l r : Nat) : Nat := l * 2 ^ r % 18446744073709551616
theorem shlA_lt (l r : Nat) : shlA l r < 2 ^ 64 := Nat.mod_lt _ (by decide)
theorem shlA_run (l r : Nat) : IntKind.u64.wrap ((l : Int) * 2 ^ r) = ((shlA l r : Nat) : Int) := by
  rw [IntKind.wrap_u64]; unfold shlA; rw [Int.natCast_emod, Int.natCast_mul, Int.natCast_pow]; rfl
theorem shlHi_lt {l r : Nat} (hl : l < 2 ^ 64) (hr : r < 64) : shlHi l r < 2 ^ r := by
  unfold shlHi
  refine (Nat.div_lt_iff_lt_mul (Nat.pow_pos (by decide))).2 ?_
  rw [← Nat.pow_add, show r + (64 - r) = 64 by omega]; exact hl
theorem or_join2 {y l r : Nat} (hy : y < 2 ^ 64) (hr : r < 64) : bits BinOp.or IntKind.u64 ((shlA l r : Nat) : Int) ((y : Int) / 2 ^ (64 - r)) = ((shlLo (shlHi y r) l r : Nat) : Int) := by
  have hx := shlHi_lt hy hr
  have h64 : 18446744073709551616 = 2 ^ r * 2 ^ (64 - r) := by rw [← Nat.pow_add, show r + (64 - r) = 64 by omega]
  have hle : 2 ^ r ≤ 2 ^ 64 := Nat.pow_le_pow_right (by decide) (by omega)
  have e : (y : Int) / 2 ^ (64 - r) = ((shlHi y r : Nat) : Int) := by unfold shlHi; rw [Int.natCast_ediv, Int.natCast_pow]; rfl
  rw [e, u64_or_nat _ _ (shlA_lt _ _) (by omega)]
  unfold shlA
  rw [nat_join r _ _ ?_ hx, Nat.add_comm]
  · rfl
  · rw [h64, Nat.mod_mul_right_mod]; exact Nat.mul_mod_left _ _
theorem limb_shl_low (n w r j : Nat) (hj : j < w) : limb (n * 2 ^ (64 * w + r)) j = 0 := by
  unfold limb
  have e : 64 * w + r = 64 * j + (64 + (64 * (w - 1 - j) + r)) := by omega
  rw [e, Nat.pow_add, Nat.pow_add, ← Nat.mul_assoc, Nat.mul_right_comm, Nat.mul_div_cancel _ (Nat.pow_pos (by decide)), Nat.mul_comm (2 ^ 64), ← Nat.mul_assoc]
  exact Nat.mul_mod_left _ _
theorem limb_shl0 (n w r : Nat) : limb (n * 2 ^ (64 * w + r)) w = shlA (limb n 0) r := by
  unfold limb shlA
  rw [Nat.pow_add, Nat.mul_comm (2 ^ (64 * w)), ← Nat.mul_assoc, Nat.mul_div_cancel _ (Nat.pow_pos (by decide))]
  simp only [Nat.mul_zero, Nat.pow_zero, Nat.div_one]
  show n * 2 ^ r % 2 ^ 64 = n % 2 ^ 64 * 2 ^ r % 2 ^ 64
  rw [Nat.mod_mul_mod]
theorem limb_shl (n w r m : Nat) (hr : r < 64) : limb (n * 2 ^ (64 * w + r)) (m + 1 + w) = shlLo (shlHi (limb n m) r) (limb n (m + 1)) r := by
  have hlo := shlLo_lt (l := limb n (m + 1)) (shlHi_lt (limb_lt n m) hr) hr
  have e0 : n * 2 ^ (64 * w + r) / 2 ^ (64 * (m + 1 + w)) = n / 2 ^ (64 * m) / 2 ^ (64 - r) := by
    rw [show 64 * (m + 1 + w) = (64 * w + r) + (64 * m + (64 - r)) by omega, Nat.pow_add 2 (64 * w + r), Nat.mul_comm n, Nat.mul_div_mul_left _ _ (Nat.pow_pos (by decide)), Nat.pow_add, Nat.div_div_eq_div_mul]
  have e1 : limb n (m + 1) = n / 2 ^ (64 * m) / 2 ^ 64 % 2 ^ 64 := by unfold limb; rw [Nat.div_div_eq_div_mul, ← Nat.pow_add]; congr 3
  have e2 : limb n m = n / 2 ^ (64 * m) % 2 ^ 64 := rfl
  have e3 : limb (n * 2 ^ (64 * w + r)) (m + 1 + w) = n / 2 ^ (64 * m) / 2 ^ (64 - r) % 2 ^ 64 := by unfold limb; rw [e0]
  rw [e3]
  rw [e1, e2] at hlo ⊢
  generalize n / 2 ^ (64 * m) = X at *
  have h64 : (2 : Nat) ^ 64 = 2 ^ r * 2 ^ (64 - r) := by rw [← Nat.pow_add, show r + (64 - r) = 64 by omega]
  have e4 : X / 2 ^ (64 - r) = X / 2 ^ 64 * 2 ^ r + shlHi (X % 2 ^ 64) r := by
    unfold shlHi
    have h := Nat.div_add_mod X (2 ^ 64)
    have h1 : X = 2 ^ (64 - r) * (X / 2 ^ 64 * 2 ^ r) + X % 2 ^ 64 := by
      rw [← Nat.mul_assoc, Nat.mul_right_comm, Nat.mul_comm (2 ^ (64 - r) * 2 ^ r), Nat.mul_comm (2 ^ (64 - r)), ← h64, Nat.mul_comm]; exact h.symm
    conv => lhs; rw [h1]
    rw [Nat.mul_add_div (Nat.pow_pos (by decide))]
  rw [e4]
  have e5 : (X / 2 ^ 64 * 2 ^ r) % 2 ^ 64 = X / 2 ^ 64 % 2 ^ 64 * 2 ^ r % 2 ^ 64 := by rw [Nat.mod_mul_mod]
  rw [Nat.add_mod, e5]
  have e6 : shlHi (X % 2 ^ 64) r % 2 ^ 64 = shlHi (X % 2 ^ 64) r := Nat.mod_eq_of_lt (Nat.lt_of_lt_of_le (shlHi_lt (Nat.mod_lt _ (by decide)) hr) (Nat.pow_le_pow_right (by decide) (by omega)))
  rw [e6]
  unfold shlLo at hlo ⊢
  rw [Nat.add_comm]
  exact Nat.mod_eq_of_lt hlo

/-- the words of a wide number as they lie: the high half ahead -/
def wl (n i : Nat) : Nat := if i < 4 then limb n (i + 4) else limb n (i - 4)
def eight (x0 x1 x2 x3 x4 x5 x6 x7 : Nat) : Nat → Nat
  | 0 => x0
  | 1 => x1
  | 2 => x2
  | 3 => x3
  | 4 => x4
  | 5 => x5
  | 6 => x6
  | 7 => x7
  | _ => 0
theorem Arr.newW {w : World} {b : Nat} {t : TypeId} {n : Nat} (hb : b = w.heap.size) :
    Arr .u64 (w.alloc (.cells #[.int .u64 (limb n 4 : Nat), .int .u64 (limb n 5 : Nat), .int .u64 (limb n 6 : Nat), .int .u64 (limb n 7 : Nat), .int .u64 (limb n 0 : Nat), .int .u64 (limb n 1 : Nat), .int .u64 (limb n 2 : Nat), .int .u64 (limb n 3 : Nat)] t)) b 8 (wl n) := by
  refine Arr.congr (Arr.new8 (f := eight (limb n 4) (limb n 5) (limb n 6) (limb n 7) (limb n 0) (limb n 1) (limb n 2) (limb n 3)) hb) fun i hi => ?_
  rcases (by omega : i = 0 ∨ i = 1 ∨ i = 2 ∨ i = 3 ∨ i = 4 ∨ i = 5 ∨ i = 6 ∨ i = 7) with rfl | rfl | rfl | rfl | rfl | rfl | rfl | rfl <;> simp [eight, wl]
def ShlWPost (n by_ : Nat) (w : World) (e : Ending) (w' : World) : Prop := e = .returned (W2 (n * 2 ^ by_)) ∧ Below w.heap.size w w'
def ShlWRel (n by_ words : Nat) (w : World) (i : Value) (wr : World) : Prop :=
  ∃ (k : Nat) (f : Nat → Nat), k ≤ 8 - words ∧ i = .int .i64 (k : Nat) ∧ (∀ j, j < k + words → f j = limb (n * 2 ^ by_) j) ∧
    Arr .u64 wr (w.heap.size + 1) 8 (fun _ => 0) ∧ Arr .u64 wr (w.heap.size + 1 + 1) 8 (limb n) ∧ Arr .u64 wr (w.heap.size + 1 + 1 + 1) 8 f ∧
    Below w.heap.size w wr ∧ w.heap.size + 1 + 1 + 1 < wr.heap.size

end Go.Proofs.Ytedkhpnlhkjjgaa

namespace Go.Proofs.Ytedkhpnlhkjjgaa
open Go.RowKit

end Go.Proofs.Ytedkhpnlhkjjgaa

namespace Go.Proofs.Ytedkhpnlhkjjgaa

/-- What a guess of a quotient's digit keeps: u is the dividend's upper part, n its next digit (below B), y = y1 * B + y0. -/
structure Guess (B u n y1 y0 q r : Nat) : Prop where
  sum : q * y1 + r = u
  over : (u * B + n) / (y1 * B + y0) ≤ q

theorem guess_first {B u n y1 y0 : Nat} (hy1 : 0 < y1) (hB : 0 < B) (hn : n < B) : Guess B u n y1 y0 (u / y1) (u % y1) where
  sum := by rw [Nat.mul_comm]; exact Nat.div_add_mod u y1
  over := by
    refine Nat.le_of_lt_succ ((Nat.div_lt_iff_lt_mul (Nat.add_pos_left (Nat.mul_pos hy1 hB) _)).2 ?_)
    have h1 := Nat.div_add_mod u y1
    have h2 := Nat.mod_lt u hy1
    have h3 : u + 1 ≤ (u / y1 + 1) * y1 := by rw [Nat.add_mul, Nat.one_mul, Nat.mul_comm (u / y1)]; omega
    have h4 := Nat.mul_le_mul_right B h3
    rw [Nat.add_mul, Nat.one_mul] at h4
    have h5 : (u / y1 + 1) * y1 * B ≤ (u / y1 + 1) * (y1 * B + y0) := by rw [Nat.mul_assoc]; exact Nat.mul_le_mul_left _ (by omega)
    show _ < (u / y1 + 1) * _
    omega

/-- the guess is too great: one less still is at least the quotient -/
theorem Guess.less {B u n y1 y0 q r : Nat} (g : Guess B u n y1 y0 q r) (hbig : (u * B + n) / (y1 * B + y0) < q) : Guess B u n y1 y0 (q - 1) (r + y1) where
  sum := by
    have := g.sum
    have hq : 0 < q := Nat.lt_of_le_of_lt (Nat.zero_le _) hbig
    clear hbig
    obtain ⟨k, rfl⟩ : ∃ k, q = k + 1 := ⟨q - 1, by omega⟩
    rw [Nat.add_mul] at this; simp only [Nat.add_sub_cancel]; omega
  over := by
    generalize (u * B + n) / (y1 * B + y0) = x at *
    omega

theorem Guess.big_of_test {B u n y1 y0 q r : Nat} (g : Guess B u n y1 y0 q r) (hy : 0 < y1 * B + y0) (ht : r * B + n < q * y0) : (u * B + n) / (y1 * B + y0) < q := by
  refine (Nat.div_lt_iff_lt_mul hy).2 ?_
  have h := g.sum
  have h1 := congrArg (· * B) h
  simp only [Nat.add_mul, Nat.mul_assoc] at h1
  rw [Nat.mul_add]
  omega
theorem Guess.exact_of_test {B u n y1 y0 q r : Nat} (g : Guess B u n y1 y0 q r) (hy : 0 < y1 * B + y0) (ht : q * y0 ≤ r * B + n) : q = (u * B + n) / (y1 * B + y0) := by
  refine Nat.le_antisymm ((Nat.le_div_iff_mul_le hy).2 ?_) g.over
  have h := g.sum
  have h1 := congrArg (· * B) h
  simp only [Nat.add_mul, Nat.mul_assoc] at h1
  rw [Nat.mul_add]
  omega
theorem quot_lt {B u n y : Nat} (hu : u < y) (hn : n < B) : (u * B + n) / y < B := by
  refine (Nat.div_lt_iff_lt_mul (by omega)).2 ?_
  have h := Nat.mul_le_mul_right B (show u + 1 ≤ y by omega)
  rw [Nat.add_mul, Nat.one_mul, Nat.mul_comm y] at h
  omega

/-- a quotient in two digits -/
theorem two_digits {B u n1 n0 y : Nat} (hy : 0 < y) (hn0 : n0 < B) :
    (u * B * B + (n1 * B + n0)) / y = (u * B + n1) / y * B + ((u * B + n1) % y * B + n0) / y ∧ (u * B * B + (n1 * B + n0)) % y = ((u * B + n1) % y * B + n0) % y := by
  have e : u * B * B + (n1 * B + n0) = y * ((u * B + n1) / y * B) + ((u * B + n1) % y * B + n0) := by
    have h := Nat.div_add_mod (u * B + n1) y
    have h1 := congrArg (· * B) h
    simp only [Nat.add_mul, Nat.mul_assoc] at h1
    rw [Nat.mul_assoc u B B, ← Nat.mul_assoc y] at *
    omega
  constructor
  · rw [e, Nat.mul_add_div hy]
  · rw [e, Nat.mul_add_mod]

/-- what is left of a word's quotient, when the word was guessed: X = guess * D + left, or short of it by less than M -/
theorem word_over {R n D R3 R2 D3 P : Nat} (hP : 0 < P) (hR : R * (18446744073709551616) + n < (R3 * 18446744073709551616 + R2 + 1) * P) (hD : D3 * P ≤ D) (hD3 : 0 < D3) :
    (R * 18446744073709551616 + n) / D ≤ (R3 * 18446744073709551616 + R2) / D3 := by
  refine (Nat.le_div_iff_mul_le hD3).2 ?_
  have hD0 : 0 < D := Nat.lt_of_lt_of_le (Nat.mul_pos hD3 hP) hD
  have h1 := Nat.div_mul_le_self (R * 18446744073709551616 + n) D
  have h2 := Nat.mul_le_mul_left ((R * 18446744073709551616 + n) / D) hD
  have h3 : (R * 18446744073709551616 + n) / D * D3 * P < (R3 * 18446744073709551616 + R2 + 1) * P := by rw [Nat.mul_assoc]; omega
  have h4 := Nat.lt_of_mul_lt_mul_right h3
  omega

end Go.Proofs.Ytedkhpnlhkjjgaa
