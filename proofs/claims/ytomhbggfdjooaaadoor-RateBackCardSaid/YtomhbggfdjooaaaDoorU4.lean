/- u256.Mul, walked. -/
import Derived.Test.YtomhbggfdjooaaaDoorU1
import Derived.Test.YtomhbggfdjooaaaDoorU3
import Derived.Test.YtomhbggfdjooaaaDoorShelf
namespace Go.Proofs.YtomhbggfdjooaaaDoor
open Go.RowKit

def mh (x y : Nat) : Nat := x * y / 18446744073709551616
def ml (x y : Nat) : Nat := x * y % 18446744073709551616
theorem mul64_c (x y : Nat) (hx : x < 2 ^ 64) (hy : y < 2 ^ 64) (w : World) :
    Calls Tryd.prog 61 #[.int .u64 (x : Nat), .int .u64 (y : Nat)] w fun e w' => e = .returned (.tuple #[.int .u64 (mh x y : Nat), .int .u64 (ml x y : Nat)]) ∧ w' = w :=
  Tryd.bits_Mul64 x y hx hy w
theorem run_add64z (x y : Nat) (w : World) :
    (callFunc 53 #[.int .u64 (x : Nat), .int .u64 (y : Nat), .int .u64 0]).run Tryd.prog w =
      .ok (.value (.tuple #[.int .u64 (s64 x y 0 : Nat), .int .u64 (c64 x y 0 : Nat)])) w := run_add64n x y 0 (by omega) w
theorem ml_lt (x y : Nat) : ml x y < 2 ^ 64 := Nat.mod_lt _ (by decide)
theorem mh_le {x y : Nat} (hx : x < 2 ^ 64) (hy : y < 2 ^ 64) : mh x y + 2 ≤ 2 ^ 64 := by
  unfold mh
  have h1 : x * y ≤ (2 ^ 64 - 1) * (2 ^ 64 - 1) := Nat.mul_le_mul (by omega) (by omega)
  have h2 : x * y / 18446744073709551616 ≤ (2 ^ 64 - 1) * (2 ^ 64 - 1) / 18446744073709551616 := Nat.div_le_div_right h1
  have h3 : (2 ^ 64 - 1) * (2 ^ 64 - 1) / 18446744073709551616 = 18446744073709551614 := by decide
  omega
theorem mhl (x y : Nat) : mh x y * 2 ^ 64 + ml x y = x * y := by unfold mh ml; omega

theorem mul_step {x y d g : Nat} (hx : x < 2 ^ 64) (hy : y < 2 ^ 64) (hd : d < 2 ^ 64) (hg : g < 2 ^ 64) :
    mh x y + c64 (ml x y) d 0 + c64 g (s64 (ml x y) d 0) 0 < 2 ^ 64 ∧
    (mh x y + c64 (ml x y) d 0 + c64 g (s64 (ml x y) d 0) 0) * 2 ^ 64 + s64 g (s64 (ml x y) d 0) 0 = g + x * y + d := by
  have h1 := mhl x y
  have h2 := sc64 (ml x y) d 0
  have h3 := sc64 g (s64 (ml x y) d 0) 0
  have h4 : x * y ≤ (2 ^ 64 - 1) * (2 ^ 64 - 1) := Nat.mul_le_mul (by omega) (by omega)
  generalize s64 (ml x y) d 0 = s1 at *
  generalize s64 g s1 0 = s at *
  generalize c64 (ml x y) d 0 = c1 at *
  generalize c64 g s1 0 = c2 at *
  generalize x * y = xy at *
  omega
theorem mul_inner_math {x y d g s D v v' V0 vb P Q R M : Nat} (hv : v' + g * P = v + s * P) (h : v + d * P = V0 + x * vb * Q) (hs : D * M + s = g + x * y + d) (hP : P = R * Q) :
    v' + D * (M * P) = V0 + x * (vb + y * R) * Q := by
  have h1 := congrArg (· * P) hs
  simp only [Nat.add_mul, Nat.mul_assoc] at h1
  have e : x * (vb + y * R) * Q = x * vb * Q + x * (y * P) := by rw [hP, Nat.mul_add, Nat.add_mul, Nat.mul_assoc, Nat.mul_assoc, Nat.mul_assoc]
  rw [e, ← Nat.mul_assoc D]
  have e2 : D * M * P = D * (M * P) := Nat.mul_assoc _ _ _
  omega
theorem mul_outer_math {x d v v' V0 A b P Q : Nat} (hv : v' + 0 * P = v + d * P) (h : v + d * P = V0 + x * b * Q) (hV : V0 = A * b) : v' = (A + x * Q) * b := by
  have e : (A + x * Q) * b = A * b + x * b * Q := by rw [Nat.add_mul, Nat.mul_assoc, Nat.mul_assoc, Nat.mul_comm Q b]
  omega
theorem wrap_u64 {n : Nat} (h : n < 2 ^ 64) : IntKind.u64.wrap (n : Int) = (n : Int) := IntWalk.u64_in _ (by omega)
/-- the state at the head of Mul's outer loop -/
def MulOut (a b : Nat) (w : World) (i : Value) (wr : World) : Prop :=
  ∃ (k : Nat) (f : Nat → Nat), k ≤ 4 ∧ i = .int .i64 (k : Nat) ∧ (∀ j, f j < 2 ^ 64) ∧ (∀ j, k + 4 ≤ j → f j = 0) ∧ val f 8 = val (limb a) k * b ∧
    Arr .u64 wr w.heap.size 4 (limb a) ∧ Arr .u64 wr (w.heap.size + 1) 4 (limb b) ∧ Arr .u64 wr (w.heap.size + 1 + 1) 4 (fun _ => 0) ∧ Arr .u64 wr (w.heap.size + 1 + 1 + 1) 8 f ∧
    Below w.heap.size w wr ∧ w.heap.size + 1 + 1 + 1 < wr.heap.size
/-- the state at the head of its inner loop -/
def MulIn (a b : Nat) (w : World) (k V0 : Nat) (c i : Value) (wr : World) : Prop :=
  ∃ (j d : Nat) (f : Nat → Nat), j ≤ 4 ∧ i = .int .i64 (j : Nat) ∧ c = .int .u64 (d : Nat) ∧ d < 2 ^ 64 ∧ (∀ j, f j < 2 ^ 64) ∧ (∀ j, k + 4 ≤ j → f j = 0) ∧
    val f 8 + d * 2 ^ (64 * (k + j)) = V0 + limb a k * val (limb b) j * 2 ^ (64 * k) ∧
    Arr .u64 wr w.heap.size 4 (limb a) ∧ Arr .u64 wr (w.heap.size + 1) 4 (limb b) ∧ Arr .u64 wr (w.heap.size + 1 + 1) 4 (fun _ => 0) ∧ Arr .u64 wr (w.heap.size + 1 + 1 + 1) 8 f ∧
    Below w.heap.size w wr ∧ w.heap.size + 1 + 1 + 1 < wr.heap.size

def MulPost (a b : Nat) (w : World) (e : Ending) (w' : World) : Prop :=
  e = .returned (.tuple #[U (if a * b < 2 ^ 256 then a * b else 0), .bool (decide (a * b < 2 ^ 256))]) ∧ Below w.heap.size w w'

theorem mulPost_yes {a b : Nat} {w w' : World} {e : Ending} (h : a * b < 2 ^ 256) (he : e = .returned (.tuple #[U (a * b), .bool true])) (hw : Below w.heap.size w w') : MulPost a b w e w' := by
  unfold MulPost; rw [if_pos h, decide_eq_true h]; exact ⟨he, hw⟩
theorem mulPost_no {a b : Nat} {w w' : World} {e : Ending} (h : ¬ a * b < 2 ^ 256) (he : e = .returned (.tuple #[U 0, .bool false])) (hw : Below w.heap.size w w') : MulPost a b w e w' := by
  unfold MulPost; rw [if_neg h, decide_eq_false h]; exact ⟨he, hw⟩

end Go.Proofs.YtomhbggfdjooaaaDoor
