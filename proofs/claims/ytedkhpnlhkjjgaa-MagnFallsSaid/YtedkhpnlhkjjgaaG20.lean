/- u256.Mul, walked. -/
import Derived.Test.YtedkhpnlhkjjgaaG19
import Derived.Test.YtedkhpnlhkjjgaaG14
import Derived.Test.YtedkhpnlhkjjgaaG05
import Derived.Test.YtedkhpnlhkjjgaaG15
namespace Go.Proofs.Ytedkhpnlhkjjgaa
open Go.RowKit

def mh (x y : Nat) : Nat := x * y / 18446744073709551616
def ml (x y : Nat) : Nat := x * y % 18446744073709551616
theorem run_add64z (x y : Nat) (w : World) :
    (callFunc 135 #[.int .u64 (x : Nat), .int .u64 (y : Nat), .int .u64 0]).run Try.prog w =
      .ok (.value (.tuple #[.int .u64 (s64 x y 0 : Nat), .int .u64 (c64 x y 0 : Nat)])) w := run_add64n x y 0 (by omega) w
theorem ml_lt (x y : Nat) : ml x y < 2 ^ 64 := Nat.mod_lt _ (by decide)
theorem mh_le {x y : Nat} (hx : x < 2 ^ 64) (hy : y < 2 ^ 64) : mh x y + 2 ≤ 2 ^ 64 := by
  unfold mh
  have h1 : x * y ≤ (2 ^ 64 - 1) * (2 ^ 64 - 1) := Nat.mul_le_mul (by omega) (by omega)
  have h2 : x * y / 18446744073709551616 ≤ (2 ^ 64 - 1) * (2 ^ 64 - 1) / 18446744073709551616 := Nat.div_le_div_right h1
  have h3 : (2 ^ 64 - 1) * (2 ^ 64 - 1) / 18446744073709551616 = 18446744073709551614 := by decide
  omega
theorem mhl (x y : Nat) : mh x y * 2 ^ 64 + ml x y = x * y := by unfold mh ml; omega

theorem mul_step {x y d g : Nat} (hx : x < 2 ^ 64) (hy : y < 2 ^ 64) (hd : d < 2 ^ 64) (hg : g < 2 ^ 64) :
    mh x y + c64 (ml x y) d 0 + c64 g (s64 (ml x y) d 0) 0 < 2 ^ 64 ∧
    (mh x y + c64 (ml x y) d 0 + c64 g (s64 (ml x y) d 0) 0) * 2 ^ 64 + s64 g (s64 (ml x y) d 0) 0 = g + x * y + d := by
  have h1 := mhl x y
  have h2 := sc64 (ml x y) d 0
  have h3 := sc64 g (s64 (ml x y) d 0) 0
  have h4 : x * y ≤ (2 ^ 64 - 1) * (2 ^ 64 - 1) := Nat.mul_le_mul (by omega) (by omega)
  generalize s64 (ml x y) d 0 = s1 at *
  generalize s64 g s1 0 = s at *
  generalize c64 (ml x y) d 0 = c1 at *
  generalize c64 g s1 0 = c2 at *
  generalize x * y = xy at *
  omega
theorem mul_inner_math {x y d g s D v v' V0 vb P Q R M : Nat} (hv : v' + g * P = v + s * P) (h : v + d * P = V0 + x * vb * Q) (hs : D * M + s = g + x * y + d) (hP : P = R * Q) :
    v' + D * (M * P) = V0 + x * (vb + y * R) * Q := by
  have h1 := congrArg (· * P) hs
  simp only [Nat.add_mul, Nat.mul_assoc] at h1
  have e : x * (vb + y * R) * Q = x * vb * Q + x * (y * P) := by rw [hP, Nat.mul_add, Nat.add_mul, Nat.mul_assoc, Nat.mul_assoc, Nat.mul_assoc]
  rw [e, ← Nat.mul_assoc D]
  have e2 : D * M * P = D * (M * P) := Nat.mul_assoc _ _ _
  omega
theorem mul_outer_math {x d v v' V0 A b P Q : Nat} (hv : v' + 0 * P = v + d * P) (h : v + d * P = V0 + x * b * Q) (hV : V0 = A * b) : v' = (A + x * Q) * b := by
  have e : (A + x * Q) * b = A * b + x * b * Q := by rw [Nat.add_mul, Nat.mul_assoc, Nat.mul_assoc, Nat.mul_comm Q b]
  omega
theorem wrap_u64 {n : Nat} (h : n < 2 ^ 64) : IntKind.u64.wrap (n : Int) = (n : Int) := IntWalk.u64_in _ (by omega)
/-- the state at the head of Mul's outer loop -/
def MulOut (a b : Nat) (w : World) (i : Value) (wr : World) : Prop :=
  ∃ (k : Nat) (f : Nat → Nat), k ≤ 4 ∧ i = .int .i64 (k : Nat) ∧ (∀ j, f j < 2 ^ 64) ∧ (∀ j, k + 4 ≤ j → f j = 0) ∧ val f 8 = val (limb a) k * b ∧
    Arr .u64 wr w.heap.size 4 (limb a) ∧ Arr .u64 wr (w.heap.size + 1) 4 (limb b) ∧ Arr .u64 wr (w.heap.size + 1 + 1) 4 (fun _ => 0) ∧ Arr .u64 wr (w.heap.size + 1 + 1 + 1) 8 f ∧
    Below w.heap.size w wr ∧ w.heap.size + 1 + 1 + 1 < wr.heap.size
/-- the state at the head of its inner loop -/
def MulIn (a b : Nat) (w : World) (k V0 : Nat) (c i : Value) (wr : World) : Prop :=
  ∃ (j d : Nat) (f : Nat → Nat), j ≤ 4 ∧ i = .int .i64 (j : Nat) ∧ c = .int .u64 (d : Nat) ∧ d < 2 ^ 64 ∧ (∀ j, f j < 2 ^ 64) ∧ (∀ j, k + 4 ≤ j → f j = 0) ∧
    val f 8 + d * 2 ^ (64 * (k + j)) = V0 + limb a k * val (limb b) j * 2 ^ (64 * k) ∧
    Arr .u64 wr w.heap.size 4 (limb a) ∧ Arr .u64 wr (w.heap.size + 1) 4 (limb b) ∧ Arr .u64 wr (w.heap.size + 1 + 1) 4 (fun _ => 0) ∧ Arr .u64 wr (w.heap.size + 1 + 1 + 1) 8 f ∧
    Below w.heap.size w wr ∧ w.heap.size + 1 + 1 + 1 < wr.heap.size

def MulPost (a b : Nat) (w : World) (e : Ending) (w' : World) : Prop :=
  e = .returned (.tuple #[U (if a * b < 2 ^ 256 then a * b else 0), .bool (decide (a * b < 2 ^ 256))]) ∧ Below w.heap.size w w'

theorem mulPost_yes {a b : Nat} {w w' : World} {e : Ending} (h : a * b < 2 ^ 256) (he : e = .returned (.tuple #[U (a * b), .bool true])) (hw : Below w.heap.size w w') : MulPost a b w e w' := by
  unfold MulPost; rw [if_pos h, decide_eq_true h]; exact ⟨he, hw⟩
theorem mulPost_no {a b : Nat} {w w' : World} {e : Ending} (h : ¬ a * b < 2 ^ 256) (he : e = .returned (.tuple #[U 0, .bool false])) (hw : Below w.heap.size w w') : MulPost a b w e w' := by
  unfold MulPost; rw [if_neg h, decide_eq_false h]; exact ⟨he, hw⟩

end Go.Proofs.Ytedkhpnlhkjjgaa

namespace Go.Proofs.Ytedkhpnlhkjjgaa
open Go.RowKit

/-- the lower and the upper word of s + a b + c -/
def apl (s a b c : Nat) : Nat := s64 (s64 (ml a b) c 0) s 0
def aph (s a b c : Nat) : Nat := mh a b + c64 (ml a b) c 0 + c64 (s64 (ml a b) c 0) s 0
theorem ap_eq {s a b c : Nat} (hs : s < 2 ^ 64) (ha : a < 2 ^ 64) (hb : b < 2 ^ 64) (hc : c < 2 ^ 64) :
    aph s a b c < 2 ^ 64 ∧ aph s a b c * 2 ^ 64 + apl s a b c = s + a * b + c := by
  have h := mul_step ha hb hc hs
  unfold aph apl
  have e1 : c64 (s64 (ml a b) c 0) s 0 = c64 s (s64 (ml a b) c 0) 0 := by unfold c64; congr 1; omega
  have e2 : s64 (s64 (ml a b) c 0) s 0 = s64 s (s64 (ml a b) c 0) 0 := by unfold s64; congr 1; omega
  rw [e1, e2]; exact h
theorem apl_lt (s a b c : Nat) : apl s a b c < 2 ^ 64 := s64_lt _ _ _

/-- a number of 512 bits, as the program holds it: the high half ahead -/
def W2 (n : Nat) : Value := .agg #[.int .u64 (limb n 4 : Nat), .int .u64 (limb n 5 : Nat), .int .u64 (limb n 6 : Nat), .int .u64 (limb n 7 : Nat), .int .u64 (limb n 0 : Nat), .int .u64 (limb n 1 : Nat), .int .u64 (limb n 2 : Nat), .int .u64 (limb n 3 : Nat)]
def JoinPost (n : Nat) (w : World) (e : Ending) (w' : World) : Prop := e = .returned (W2 n) ∧ Below w.heap.size w w'
/-- the state at the head of Mul's outer loop -/
def WMulOut (a b : Nat) (w : World) (i : Value) (wr : World) : Prop :=
  ∃ (k : Nat) (f : Nat → Nat), k ≤ 4 ∧ i = .int .i64 (k : Nat) ∧ (∀ j, f j < 2 ^ 64) ∧ (∀ j, k + 4 ≤ j → f j = 0) ∧ val f 8 = val (limb a) k * b ∧
    Arr .u64 wr w.heap.size 4 (limb a) ∧ Arr .u64 wr (w.heap.size + 1) 4 (limb b) ∧ Arr .u64 wr (w.heap.size + 1 + 1) 8 (fun _ => 0) ∧ Arr .u64 wr (w.heap.size + 1 + 1 + 1) 8 f ∧
    Below w.heap.size w wr ∧ w.heap.size + 1 + 1 + 1 < wr.heap.size
/-- the state at the head of its inner loop -/
def WMulIn (a b : Nat) (w : World) (k V0 : Nat) (c i : Value) (wr : World) : Prop :=
  ∃ (j d : Nat) (f : Nat → Nat), j ≤ 4 ∧ i = .int .i64 (j : Nat) ∧ c = .int .u64 (d : Nat) ∧ d < 2 ^ 64 ∧ (∀ j, f j < 2 ^ 64) ∧ (∀ j, k + 4 ≤ j → f j = 0) ∧
    val f 8 + d * 2 ^ (64 * (k + j)) = V0 + limb a k * val (limb b) j * 2 ^ (64 * k) ∧
    Arr .u64 wr w.heap.size 4 (limb a) ∧ Arr .u64 wr (w.heap.size + 1) 4 (limb b) ∧ Arr .u64 wr (w.heap.size + 1 + 1) 8 (fun _ => 0) ∧ Arr .u64 wr (w.heap.size + 1 + 1 + 1) 8 f ∧
    Below w.heap.size w wr ∧ w.heap.size + 1 + 1 + 1 < wr.heap.size
def WMulPost (a b : Nat) (w : World) (e : Ending) (w' : World) : Prop := e = .returned (W2 (a * b)) ∧ Below w.heap.size w w'

theorem Arr.set8 {w : World} {b : Nat} {f : Nat → Nat} {x0 x1 x2 x3 x4 x5 x6 x7 : Nat} (h : Arr .u64 w b 8 f) :
    Arr .u64 ((((((((w.setCell ⟨b, 0, none⟩ (.int .u64 (x0 : Nat))).setCell ⟨b, 1, none⟩ (.int .u64 (x1 : Nat))).setCell ⟨b, 2, none⟩ (.int .u64 (x2 : Nat))).setCell ⟨b, 3, none⟩ (.int .u64 (x3 : Nat))).setCell ⟨b, 4, none⟩ (.int .u64 (x4 : Nat))).setCell ⟨b, 5, none⟩ (.int .u64 (x5 : Nat))).setCell ⟨b, 6, none⟩ (.int .u64 (x6 : Nat))).setCell ⟨b, 7, none⟩ (.int .u64 (x7 : Nat))) b 8
      (upd (upd (upd (upd (upd (upd (upd (upd f 0 x0) 1 x1) 2 x2) 3 x3) 4 x4) 5 x5) 6 x6) 7 x7) :=
  (((((((h.set (by omega)).set (by omega)).set (by omega)).set (by omega)).set (by omega)).set (by omega)).set (by omega)).set (by omega)

end Go.Proofs.Ytedkhpnlhkjjgaa

namespace Go.Proofs.Ytedkhpnlhkjjgaa
open Go.RowKit

def shr0 (l r : Nat) : Nat := l / 2 ^ r
theorem or_join' {x l r : Nat} (hx : x < 2 ^ r) (hr : r ≤ 64) : bits BinOp.or IntKind.u64 (x : Int) (IntKind.u64.wrap ((l : Int) * 2 ^ r)) = ((shlLo x l r : Nat) : Int) := by
  have h64 : 18446744073709551616 = 2 ^ r * 2 ^ (64 - r) := by rw [← Nat.pow_add, show r + (64 - r) = 64 by omega]
  have hle : 2 ^ r ≤ 2 ^ 64 := Nat.pow_le_pow_right (by decide) (by omega)
  have hw : IntKind.u64.wrap ((l : Int) * 2 ^ r) = ((l * 2 ^ r % 18446744073709551616 : Nat) : Int) := by
    rw [IntKind.wrap_u64, Int.natCast_emod, Int.natCast_mul, Int.natCast_pow]; rfl
  rw [hw, u64_or_nat _ _ (by omega) (Nat.mod_lt _ (by decide)), Nat.or_comm, nat_join r _ _ ?_ hx, Nat.add_comm]
  · rfl
  · rw [h64, Nat.mod_mul_right_mod]; exact Nat.mul_mod_left _ _
theorem shr0_lt {l r : Nat} (hl : l < 2 ^ 64) (hr : r ≤ 64) : shr0 l r < 2 ^ (64 - r) := by
  unfold shr0
  refine (Nat.div_lt_iff_lt_mul (Nat.pow_pos (by decide))).2 ?_
  rw [← Nat.pow_add, show 64 - r + r = 64 by omega]; exact hl
theorem shr0_run (l r : Nat) : (l : Int) / 2 ^ r = ((shr0 l r : Nat) : Int) := by unfold shr0; rw [Int.natCast_ediv, Int.natCast_pow]; rfl
/-- a word of a number that is shifted right -/
theorem limb_shr (a j w : Nat) {r : Nat} (hr : r < 64) : limb (a / 2 ^ (64 * w + r)) j = shlLo (shr0 (limb a (j + w)) r) (limb a (j + w + 1)) (64 - r) := by
  have e1 : a / 2 ^ (64 * w + r) / 2 ^ (64 * j) = a / 2 ^ (64 * (j + w)) / 2 ^ r := by
    rw [Nat.div_div_eq_div_mul, Nat.div_div_eq_div_mul, ← Nat.pow_add, ← Nat.pow_add]; congr 2; omega
  have e2 : limb a (j + w + 1) = a / 2 ^ (64 * (j + w)) / 2 ^ 64 % 2 ^ 64 := by
    unfold limb; rw [Nat.div_div_eq_div_mul, ← Nat.pow_add]; congr 3
  have e3 : limb a (j + w) = a / 2 ^ (64 * (j + w)) % 2 ^ 64 := rfl
  rw [e2, e3]
  unfold limb shlLo shr0
  rw [e1]
  generalize a / 2 ^ (64 * (j + w)) = X
  have h64 : (18446744073709551616 : Nat) = 2 ^ (64 - r) * 2 ^ r := by rw [← Nat.pow_add, show 64 - r + r = 64 by omega]
  have hpr : 0 < 2 ^ r := Nat.pow_pos (by decide)
  have hps : 0 < 2 ^ (64 - r) := Nat.pow_pos (by decide)
  show X / 2 ^ r % 18446744073709551616 = X % 18446744073709551616 / 2 ^ r + X / 18446744073709551616 % 18446744073709551616 * 2 ^ (64 - r) % 18446744073709551616
  have a1 : X % 18446744073709551616 / 2 ^ r = X / 2 ^ r % 2 ^ (64 - r) := by rw [h64, Nat.mul_comm, Nat.mod_mul_right_div_self]
  have a2 : X / 18446744073709551616 = X / 2 ^ r / 2 ^ (64 - r) := by rw [h64, Nat.mul_comm, Nat.div_div_eq_div_mul]
  rw [a1, a2]
  generalize X / 2 ^ r = Y
  have a3 : Y / 2 ^ (64 - r) % 18446744073709551616 * 2 ^ (64 - r) % 18446744073709551616 = Y / 2 ^ (64 - r) % 2 ^ r * 2 ^ (64 - r) := by
    rw [show Y / 2 ^ (64 - r) % 18446744073709551616 * 2 ^ (64 - r) % 18446744073709551616 = Y / 2 ^ (64 - r) % 18446744073709551616 * 2 ^ (64 - r) % (2 ^ r * 2 ^ (64 - r)) by rw [Nat.mul_comm (2 ^ r), ← h64]]
    rw [Nat.mul_mod_mul_right]
    congr 1
    rw [h64, Nat.mod_mul_left_mod]
  rw [a3, h64, Nat.mod_mul, Nat.mul_comm (2 ^ (64 - r))]
theorem limb_top {a i : Nat} (ha : a < 2 ^ 256) (hi : 4 ≤ i) : limb a i = 0 := by
  unfold limb
  rw [Nat.div_eq_of_lt (Nat.lt_of_lt_of_le ha (Nat.pow_le_pow_right (by decide) (by omega)))]
theorem shlLo_zero (x r : Nat) : shlLo x 0 r = x := by unfold shlLo; simp

def ShrPost (a by_ : Nat) (w : World) (e : Ending) (w' : World) : Prop := e = .returned (U (a / 2 ^ by_)) ∧ Below w.heap.size w w'
def ShrRel (a by_ words : Nat) (w : World) (i : Value) (wr : World) : Prop :=
  ∃ (k : Nat) (f : Nat → Nat), k ≤ 4 - words ∧ i = .int .i64 (k : Nat) ∧ (∀ j, j < k → f j = limb (a / 2 ^ by_) j) ∧ (∀ j, k ≤ j → f j = 0) ∧
    Arr .u64 wr w.heap.size 4 (limb a) ∧ Arr .u64 wr (w.heap.size + 1) 4 (fun _ => 0) ∧ Arr .u64 wr (w.heap.size + 1 + 1) 4 f ∧
    Below w.heap.size w wr ∧ w.heap.size + 1 + 1 < wr.heap.size

end Go.Proofs.Ytedkhpnlhkjjgaa
