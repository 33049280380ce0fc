/- u256.shiftRight, walked. -/
import Derived.Test.YtnjcnlbphaodcaaGreatG13
import Derived.Deep.DeepCutAuto
import Derived.Deep.CutBlock
namespace Go.Proofs.YtnjcnlbphaodcaaGreat
open Go.RowKit

def shr0 (l r : Nat) : Nat := l / 2 ^ r
theorem or_join' {x l r : Nat} (hx : x < 2 ^ r) (hr : r ≤ 64) : bits BinOp.or IntKind.u64 (x : Int) (IntKind.u64.wrap ((l : Int) * 2 ^ r)) = ((shlLo x l r : Nat) : Int) := by
  have h64 : 18446744073709551616 = 2 ^ r * 2 ^ (64 - r) := by rw [← Nat.pow_add, show r + (64 - r) = 64 by omega]
  have hle : 2 ^ r ≤ 2 ^ 64 := Nat.pow_le_pow_right (by decide) (by omega)
  have hw : IntKind.u64.wrap ((l : Int) * 2 ^ r) = ((l * 2 ^ r % 18446744073709551616 : Nat) : Int) := by
    rw [IntKind.wrap_u64, Int.natCast_emod, Int.natCast_mul, Int.natCast_pow]; rfl
  rw [hw, u64_or_nat _ _ (by omega) (Nat.mod_lt _ (by decide)), Nat.or_comm, nat_join r _ _ ?_ hx, Nat.add_comm]
  · rfl
  · rw [h64, Nat.mod_mul_right_mod]; exact Nat.mul_mod_left _ _
theorem shr0_lt {l r : Nat} (hl : l < 2 ^ 64) (hr : r ≤ 64) : shr0 l r < 2 ^ (64 - r) := by
  unfold shr0
  refine (Nat.div_lt_iff_lt_mul (Nat.pow_pos (by decide))).2 ?_
  rw [← Nat.pow_add, show 64 - r + r = 64 by omega]; exact hl
theorem shr0_run (l r : Nat) : (l : Int) / 2 ^ r = ((shr0 l r : Nat) : Int) := by unfold shr0; rw [Int.natCast_ediv, Int.natCast_pow]; rfl
/-- a word of a number that is shifted right -/
theorem limb_shr (a j w : Nat) {r : Nat} (hr : r < 64) : limb (a / 2 ^ (64 * w + r)) j = shlLo (shr0 (limb a (j + w)) r) (limb a (j + w + 1)) (64 - r) := by
  have e1 : a / 2 ^ (64 * w + r) / 2 ^ (64 * j) = a / 2 ^ (64 * (j + w)) / 2 ^ r := by
    rw [Nat.div_div_eq_div_mul, Nat.div_div_eq_div_mul, ← Nat.pow_add, ← Nat.pow_add]; congr 2; omega
  have e2 : limb a (j + w + 1) = a / 2 ^ (64 * (j + w)) / 2 ^ 64 % 2 ^ 64 := by
    unfold limb; rw [Nat.div_div_eq_div_mul, ← Nat.pow_add]; congr 3
  have e3 : limb a (j + w) = a / 2 ^ (64 * (j + w)) % 2 ^ 64 := rfl
  rw [e2, e3]
  unfold limb shlLo shr0
  rw [e1]
  generalize a / 2 ^ (64 * (j + w)) = X
  have h64 : (18446744073709551616 : Nat) = 2 ^ (64 - r) * 2 ^ r := by rw [← Nat.pow_add, show 64 - r + r = 64 by omega]
  have hpr : 0 < 2 ^ r := Nat.pow_pos (by decide)
  have hps : 0 < 2 ^ (64 - r) := Nat.pow_pos (by decide)
  show X / 2 ^ r % 18446744073709551616 = X % 18446744073709551616 / 2 ^ r + X / 18446744073709551616 % 18446744073709551616 * 2 ^ (64 - r) % 18446744073709551616
  have a1 : X % 18446744073709551616 / 2 ^ r = X / 2 ^ r % 2 ^ (64 - r) := by rw [h64, Nat.mul_comm, Nat.mod_mul_right_div_self]
  have a2 : X / 18446744073709551616 = X / 2 ^ r / 2 ^ (64 - r) := by rw [h64, Nat.mul_comm, Nat.div_div_eq_div_mul]
  rw [a1, a2]
  generalize X / 2 ^ r = Y
  have a3 : Y / 2 ^ (64 - r) % 18446744073709551616 * 2 ^ (64 - r) % 18446744073709551616 = Y / 2 ^ (64 - r) % 2 ^ r * 2 ^ (64 - r) := by
    rw [show Y / 2 ^ (64 - r) % 18446744073709551616 * 2 ^ (64 - r) % 18446744073709551616 = Y / 2 ^ (64 - r) % 18446744073709551616 * 2 ^ (64 - r) % (2 ^ r * 2 ^ (64 - r)) by rw [Nat.mul_comm (2 ^ r), ← h64]]
    rw [Nat.mul_mod_mul_right]
    congr 1
    rw [h64, Nat.mod_mul_left_mod]
  rw [a3, h64, Nat.mod_mul, Nat.mul_comm (2 ^ (64 - r))]
theorem limb_top {a i : Nat} (ha : a < 2 ^ 256) (hi : 4 ≤ i) : limb a i = 0 := by
  unfold limb
  rw [Nat.div_eq_of_lt (Nat.lt_of_lt_of_le ha (Nat.pow_le_pow_right (by decide) (by omega)))]
theorem shlLo_zero (x r : Nat) : shlLo x 0 r = x := by unfold shlLo; simp

def ShrPost (a by_ : Nat) (w : World) (e : Ending) (w' : World) : Prop := e = .returned (U (a / 2 ^ by_)) ∧ Below w.heap.size w w'
def ShrRel (a by_ words : Nat) (w : World) (i : Value) (wr : World) : Prop :=
  ∃ (k : Nat) (f : Nat → Nat), k ≤ 4 - words ∧ i = .int .i64 (k : Nat) ∧ (∀ j, j < k → f j = limb (a / 2 ^ by_) j) ∧ (∀ j, k ≤ j → f j = 0) ∧
    Arr .u64 wr w.heap.size 4 (limb a) ∧ Arr .u64 wr (w.heap.size + 1) 4 (fun _ => 0) ∧ Arr .u64 wr (w.heap.size + 1 + 1) 4 f ∧
    Below w.heap.size w wr ∧ w.heap.size + 1 + 1 < wr.heap.size

end Go.Proofs.YtnjcnlbphaodcaaGreat

namespace Go.Proofs.YtnjcnlbphaodcaaGreat

/-- What a guess of a quotient's digit keeps: u is the dividend's upper part, n its next digit (below B), y = y1 * B + y0. -/
structure Guess (B u n y1 y0 q r : Nat) : Prop where
  sum : q * y1 + r = u
  over : (u * B + n) / (y1 * B + y0) ≤ q

theorem guess_first {B u n y1 y0 : Nat} (hy1 : 0 < y1) (hB : 0 < B) (hn : n < B) : Guess B u n y1 y0 (u / y1) (u % y1) where
  sum := by rw [Nat.mul_comm]; exact Nat.div_add_mod u y1
  over := by
    refine Nat.le_of_lt_succ ((Nat.div_lt_iff_lt_mul (Nat.add_pos_left (Nat.mul_pos hy1 hB) _)).2 ?_)
    have h1 := Nat.div_add_mod u y1
    have h2 := Nat.mod_lt u hy1
    have h3 : u + 1 ≤ (u / y1 + 1) * y1 := by rw [Nat.add_mul, Nat.one_mul, Nat.mul_comm (u / y1)]; omega
    have h4 := Nat.mul_le_mul_right B h3
    rw [Nat.add_mul, Nat.one_mul] at h4
    have h5 : (u / y1 + 1) * y1 * B ≤ (u / y1 + 1) * (y1 * B + y0) := by rw [Nat.mul_assoc]; exact Nat.mul_le_mul_left _ (by omega)
    show _ < (u / y1 + 1) * _
    omega

/-- the guess is too great: one less still is at least the quotient -/
theorem Guess.less {B u n y1 y0 q r : Nat} (g : Guess B u n y1 y0 q r) (hbig : (u * B + n) / (y1 * B + y0) < q) : Guess B u n y1 y0 (q - 1) (r + y1) where
  sum := by
    have := g.sum
    have hq : 0 < q := Nat.lt_of_le_of_lt (Nat.zero_le _) hbig
    clear hbig
    obtain ⟨k, rfl⟩ : ∃ k, q = k + 1 := ⟨q - 1, by omega⟩
    rw [Nat.add_mul] at this; simp only [Nat.add_sub_cancel]; omega
  over := by
    generalize (u * B + n) / (y1 * B + y0) = x at *
    omega

theorem Guess.big_of_test {B u n y1 y0 q r : Nat} (g : Guess B u n y1 y0 q r) (hy : 0 < y1 * B + y0) (ht : r * B + n < q * y0) : (u * B + n) / (y1 * B + y0) < q := by
  refine (Nat.div_lt_iff_lt_mul hy).2 ?_
  have h := g.sum
  have h1 := congrArg (· * B) h
  simp only [Nat.add_mul, Nat.mul_assoc] at h1
  rw [Nat.mul_add]
  omega
theorem Guess.exact_of_test {B u n y1 y0 q r : Nat} (g : Guess B u n y1 y0 q r) (hy : 0 < y1 * B + y0) (ht : q * y0 ≤ r * B + n) : q = (u * B + n) / (y1 * B + y0) := by
  refine Nat.le_antisymm ((Nat.le_div_iff_mul_le hy).2 ?_) g.over
  have h := g.sum
  have h1 := congrArg (· * B) h
  simp only [Nat.add_mul, Nat.mul_assoc] at h1
  rw [Nat.mul_add]
  omega
theorem quot_lt {B u n y : Nat} (hu : u < y) (hn : n < B) : (u * B + n) / y < B := by
  refine (Nat.div_lt_iff_lt_mul (by omega)).2 ?_
  have h := Nat.mul_le_mul_right B (show u + 1 ≤ y by omega)
  rw [Nat.add_mul, Nat.one_mul, Nat.mul_comm y] at h
  omega

/-- a quotient in two digits -/
theorem two_digits {B u n1 n0 y : Nat} (hy : 0 < y) (hn0 : n0 < B) :
    (u * B * B + (n1 * B + n0)) / y = (u * B + n1) / y * B + ((u * B + n1) % y * B + n0) / y ∧ (u * B * B + (n1 * B + n0)) % y = ((u * B + n1) % y * B + n0) % y := by
  have e : u * B * B + (n1 * B + n0) = y * ((u * B + n1) / y * B) + ((u * B + n1) % y * B + n0) := by
    have h := Nat.div_add_mod (u * B + n1) y
    have h1 := congrArg (· * B) h
    simp only [Nat.add_mul, Nat.mul_assoc] at h1
    rw [Nat.mul_assoc u B B, ← Nat.mul_assoc y] at *
    omega
  constructor
  · rw [e, Nat.mul_add_div hy]
  · rw [e, Nat.mul_add_mod]

/-- what is left of a word's quotient, when the word was guessed: X = guess * D + left, or short of it by less than M -/
theorem word_over {R n D R3 R2 D3 P : Nat} (hP : 0 < P) (hR : R * (18446744073709551616) + n < (R3 * 18446744073709551616 + R2 + 1) * P) (hD : D3 * P ≤ D) (hD3 : 0 < D3) :
    (R * 18446744073709551616 + n) / D ≤ (R3 * 18446744073709551616 + R2) / D3 := by
  refine (Nat.le_div_iff_mul_le hD3).2 ?_
  have hD0 : 0 < D := Nat.lt_of_lt_of_le (Nat.mul_pos hD3 hP) hD
  have h1 := Nat.div_mul_le_self (R * 18446744073709551616 + n) D
  have h2 := Nat.mul_le_mul_left ((R * 18446744073709551616 + n) / D) hD
  have h3 : (R * 18446744073709551616 + n) / D * D3 * P < (R3 * 18446744073709551616 + R2 + 1) * P := by rw [Nat.mul_assoc]; omega
  have h4 := Nat.lt_of_mul_lt_mul_right h3
  omega

end Go.Proofs.YtnjcnlbphaodcaaGreat

namespace Go.Proofs.YtnjcnlbphaodcaaGreat
open Go.RowKit

def dq (hi lo y : Nat) : Nat := (hi * 18446744073709551616 + lo) / y
def dr (hi lo y : Nat) : Nat := (hi * 18446744073709551616 + lo) % y
theorem q_bound {hi y y1 y0 : Nat} (h : hi < y) (hy : y = y1 * 4294967296 + y0) (h0 : y0 < 4294967296) (h1 : 2147483648 ≤ y1) : hi / y1 ≤ 4294967297 := by
  refine Nat.le_of_lt_succ ((Nat.div_lt_iff_lt_mul (by omega)).2 ?_)
  show hi < 4294967298 * y1
  omega
theorem wrap_left {hi n Q y u : Nat} (h : hi * 4294967296 + n = Q * y + u) (hu : u < 18446744073709551616) :
    IntKind.u64.wrap (IntKind.u64.wrap (IntKind.u64.wrap ((hi : Int) * 4294967296) + (n : Int)) - IntKind.u64.wrap ((Q : Int) * (y : Int))) = (u : Int) := by
  have h' : ((hi * 4294967296 + n : Nat) : Int) = ((Q * y + u : Nat) : Int) := by rw [h]
  rw [Int.natCast_add, Int.natCast_mul, Int.natCast_add, Int.natCast_mul] at h'
  simp only [IntKind.wrap_u64]
  generalize (Q : Int) * (y : Int) = x at *
  omega
theorem wrap_rest {hi q y1 r : Nat} (h : q * y1 + r = hi) (hhi : hi < 18446744073709551616) :
    IntKind.u64.wrap ((hi : Int) - IntKind.u64.wrap ((q : Int) * (y1 : Int))) = (r : Int) := by
  have h' : ((q * y1 + r : Nat) : Int) = (hi : Int) := by rw [h]
  rw [Int.natCast_add, Int.natCast_mul] at h'
  simp only [IntKind.wrap_u64]
  generalize (q : Int) * (y1 : Int) = x at *
  omega
theorem wrap_prod {q y0 p : Nat} (h : q * y0 = p) (hp : p < 18446744073709551616) : IntKind.u64.wrap ((q : Int) * (y0 : Int)) = (p : Int) := by
  have h' : (q : Int) * (y0 : Int) = (p : Int) := by rw [← h, Int.natCast_mul]
  rw [h']; exact IntWalk.u64_in _ (by omega)
theorem small_prod {q y0 : Nat} (hq : q ≤ 4294967296) (h0 : y0 < 4294967296) : q * y0 ≤ 4294967296 * 4294967295 := Nat.mul_le_mul hq (by omega)

/-- the state at the head of a digit's loop -/
def DigRel (u n y1 y0 : Nat) (a b : Value) : Prop :=
  ∃ q r : Nat, a = .int .u64 (q : Nat) ∧ b = .int .u64 (r : Nat) ∧ Guess 4294967296 u n y1 y0 q r ∧ q ≤ 4294967297 ∧ r < 4294967296
theorem dig_more {u n y1 y0 q r : Nat} (G : Guess 4294967296 u n y1 y0 q r) (hlt : (u * 4294967296 + n) / (y1 * 4294967296 + y0) < q) (hq : q ≤ 4294967297) (hr : r + y1 < 4294967296) :
    DigRel u n y1 y0 (.int .u64 ((q : Int) - 1)) (.int .u64 ((r : Int) + (y1 : Int))) := by
  have h0 : 0 < q := Nat.lt_of_le_of_lt (Nat.zero_le _) hlt
  exact ⟨q - 1, r + y1, by congr 1; clear hlt; omega, by congr 1, G.less hlt, by clear hlt; omega, hr⟩
theorem dig_break {u n y1 y0 y q r Q : Nat} (G : Guess 4294967296 u n y1 y0 q r) (hlt : (u * 4294967296 + n) / (y1 * 4294967296 + y0) < q) (hq : q ≤ 4294967297) (hr : 4294967296 ≤ r + y1)
    (h0 : y0 < 4294967296) (hy : y = y1 * 4294967296 + y0) (hyp : 0 < y) (hQ : Q = (u * 4294967296 + n) / y) : (.int .u64 ((q : Int) - 1) : Value) = .int .u64 (Q : Nat) := by
  have hq0 : 0 < q := Nat.lt_of_le_of_lt (Nat.zero_le _) hlt
  have e := (G.less hlt).exact_of_test (by rw [← hy]; exact hyp) (by have := small_prod (show q - 1 ≤ 4294967296 by omega) h0; clear hlt hQ G; omega)
  rw [← hy, ← hQ] at e
  congr 1; clear hlt hQ; omega
theorem dig_done {u n y1 y0 y q r Q : Nat} (G : Guess 4294967296 u n y1 y0 q r) (ht : q * y0 ≤ r * 4294967296 + n) (hy : y = y1 * 4294967296 + y0) (hyp : 0 < y) (hQ : Q = (u * 4294967296 + n) / y) :
    (.int .u64 (q : Nat) : Value) = .int .u64 (Q : Nat) := by
  rw [hQ, hy, ← G.exact_of_test (by rw [← hy]; exact hyp) ht]

def Div64Post (hi lo y : Nat) (w : World) (e : Ending) (w' : World) : Prop :=
  e = .returned (.tuple #[.int .u64 (dq hi lo y : Nat), .int .u64 (dr hi lo y : Nat)]) ∧ ∃ n, w' = w.drewN n

end Go.Proofs.YtnjcnlbphaodcaaGreat
