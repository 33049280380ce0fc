/- u256.Bytes, walked. -/
import Derived.Test.YtomhbggfdjooaaaDoorU3
namespace Go.Proofs.YtomhbggfdjooaaaDoor
open Go.RowKit

/-- the i-th byte of a number, the least first -/
def byteAt (a i : Nat) : Nat := a / 2 ^ (8 * i) % 256
theorem byteAt_lt (a i : Nat) : byteAt a i < 256 := Nat.mod_lt _ (by decide)
theorem byte_of_limb (a k : Nat) : limb a (k / 8) / 2 ^ (k % 8 * 8) % 256 = byteAt a k := by
  unfold limb byteAt
  have e1 : 2 ^ 64 = 2 ^ (k % 8 * 8) * 2 ^ (64 - k % 8 * 8) := by rw [← Nat.pow_add]; congr 1; omega
  have e2 : 2 ^ (64 - k % 8 * 8) = 256 * 2 ^ (64 - k % 8 * 8 - 8) := by rw [show (256 : Nat) = 2 ^ 8 from rfl, ← Nat.pow_add]; congr 1; omega
  rw [e1, Nat.mod_mul_right_div_self, Nat.div_div_eq_div_mul, ← Nat.pow_add, e2, Nat.mod_mul_right_mod]
  congr 3; omega
theorem byte_run {a k q r : Nat} (hq : q = k / 8) (hr : r = k % 8) : IntKind.u8.wrap ((limb a q : Int) / 2 ^ (r * 8)) = ((byteAt a k : Nat) : Int) := by
  subst hq hr
  rw [IntKind.wrap_u8', ← byte_of_limb, Int.natCast_emod, Int.natCast_ediv, Int.natCast_pow]; rfl

def BytesPost (a : Nat) (w : World) (e : Ending) (w' : World) : Prop :=
  ∃ g, e = .returned (.slice (some ⟨g, 0, none⟩) 32 32) ∧ w.heap.size ≤ g ∧ g < w'.heap.size ∧ Arr .u8 w' g 32 (fun i => byteAt a (31 - i)) ∧ Below w.heap.size w w'
def BytesRel (a : Nat) (w : World) (i : Value) (wr : World) : Prop :=
  ∃ (k : Nat) (f : Nat → Nat), k ≤ 32 ∧ i = .int .i64 (k : Nat) ∧ (∀ j, 32 - k ≤ j → j < 32 → f j = byteAt a (31 - j)) ∧
    Arr .u64 wr w.heap.size 4 (limb a) ∧ Arr .u8 wr (w.heap.size + 1) 32 f ∧ Below w.heap.size w wr ∧ w.heap.size + 1 < wr.heap.size

end Go.Proofs.YtomhbggfdjooaaaDoor
