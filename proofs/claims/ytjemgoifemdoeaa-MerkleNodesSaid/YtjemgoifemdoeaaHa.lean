/- Words of 32 bits: turned, and, or, exclusive or; bits.RotateLeft32, sha.turned and the document's turn, walked. -/
import Derived.Test.YtjemgoifemdoeaaProg
import Derived.Test.YtjemgoifemdoeaaKit
import Derived.Lib.Hide
namespace Go.Proofs.Ytjemgoifemdoeaa
open Go.RowKit

/-- x turned right by n bits -/
def rotr (x n : Nat) : Nat := (x <<< (32 - n)) % 2 ^ 32 ||| x >>> n
theorem ofInt_u32 (a : Nat) (h : a < 2 ^ 32) : (BitVec.ofInt 32 (a : Int)).toNat = a := by
  rw [BitVec.toNat_ofInt]; omega
theorem wrap_u32 {a : Nat} (h : a < 2 ^ 32) : IntKind.u32.wrap (a : Int) = (a : Int) := IntWalk.u32_in _ (by omega)
theorem bits_or32 {a b : Nat} (ha : a < 2 ^ 32) (hb : b < 2 ^ 32) : bits .or .u32 (a : Int) (b : Int) = ((a ||| b : Nat) : Int) := by
  show IntKind.u32.wrap ((BitVec.ofInt 32 (a : Int) ||| BitVec.ofInt 32 (b : Int)).toNat : Int) = _
  rw [BitVec.toNat_or, ofInt_u32 a ha, ofInt_u32 b hb]
  exact wrap_u32 (Nat.or_lt_two_pow ha hb)
theorem bits_and32 {a b : Nat} (ha : a < 2 ^ 32) (hb : b < 2 ^ 32) : bits .and .u32 (a : Int) (b : Int) = ((a &&& b : Nat) : Int) := by
  show IntKind.u32.wrap ((BitVec.ofInt 32 (a : Int) &&& BitVec.ofInt 32 (b : Int)).toNat : Int) = _
  rw [BitVec.toNat_and, ofInt_u32 a ha, ofInt_u32 b hb]
  exact wrap_u32 (Nat.lt_of_le_of_lt Nat.and_le_left ha)
theorem bits_xor32 {a b : Nat} (ha : a < 2 ^ 32) (hb : b < 2 ^ 32) : bits .xor .u32 (a : Int) (b : Int) = ((a ^^^ b : Nat) : Int) := by
  show IntKind.u32.wrap ((BitVec.ofInt 32 (a : Int) ^^^ BitVec.ofInt 32 (b : Int)).toNat : Int) = _
  rw [BitVec.toNat_xor, ofInt_u32 a ha, ofInt_u32 b hb]
  exact wrap_u32 (Nat.xor_lt_two_pow ha hb)
theorem shl_lt (x m : Nat) : (x <<< m) % 2 ^ 32 < 2 ^ 32 := Nat.mod_lt _ (by decide)
theorem shr_lt {x : Nat} (h : x < 2 ^ 32) (m : Nat) : x >>> m < 2 ^ 32 := by
  rw [Nat.shiftRight_eq_div_pow]; exact Nat.lt_of_le_of_lt (Nat.div_le_self _ _) h
theorem rotr_lt {x : Nat} (h : x < 2 ^ 32) (n : Nat) : rotr x n < 2 ^ 32 := Nat.or_lt_two_pow (shl_lt _ _) (shr_lt h _)
/-- the walk's spelling of both shifts -/
theorem shl_run (x m : Nat) : (x : Int) * 2 ^ m % 4294967296 = (((x <<< m) % 2 ^ 32 : Nat) : Int) := by
  rw [Nat.shiftLeft_eq]
  have e : (x : Int) * 2 ^ m = ((x * 2 ^ m : Nat) : Int) := by rw [Int.natCast_mul, Int.natCast_pow]; rfl
  rw [e]; omega
theorem shr_run (x m : Nat) : (x : Int) / 2 ^ m = ((x >>> m : Nat) : Int) := by
  rw [Nat.shiftRight_eq_div_pow, Int.natCast_ediv, Int.natCast_pow]; rfl
theorem and31 : ∀ n : Fin 32, 1 ≤ n.val → bits .and .u64 (IntKind.u64.wrap (-((n.val : Nat) : Int))) 31 = ((32 - n.val : Nat) : Int) := by decide
set_option maxRecDepth 100000 in
theorem rot_walk (x n : Nat) (w : World) (hx : x < 2 ^ 32) (hn : 1 ≤ n) (hn2 : n ≤ 31) : Calls Try.prog 80 #[.int .u32 (x : Nat), .int .i64 (-(n : Int))] w fun e w' => e = .returned (.int .u32 (rotr x n : Nat)) ∧ w = w' := by
  obtain ⟨m, hm⟩ : ∃ m, m = 32 - n := ⟨_, rfl⟩
  have e1 : bits .and .u64 (IntKind.u64.wrap (-(n : Int))) 31 = (m : Int) := by rw [hm]; exact and31 ⟨n, by omega⟩ hn
  have hm1 : m ≤ 31 := by omega
  have hm2 : 1 ≤ m := by omega
  have e2 : 32 - (m : Int) = (n : Int) := by omega
  have Hm := Lib.hid hm
  clear hm
  go_enter Try.func80, Try.ntmps80
  go_wp2
  go_ret
  refine ⟨?_, rfl⟩
  show Ending.returned (.int .u32 (bits .or .u32 ((x : Int) * 2 ^ m % 4294967296) ((x : Int) / 2 ^ n))) = _
  rw [shl_run, shr_run, bits_or32 (shl_lt _ _) (shr_lt hx _), Hm.out]
  rfl
set_option maxRecDepth 100000 in
theorem turned_walk (x n : Nat) (k : Int) (w : World) (hk : k = (n : Int)) (hx : x < 2 ^ 32) (hn : 1 ≤ n) (hn2 : n ≤ 31) : Calls Try.prog 78 #[.int .u32 (x : Nat), .int .i64 k] w fun e w' => e = .returned (.int .u32 (rotr x n : Nat)) ∧ w = w' := by
  subst hk
  have HR := Lib.hid (rot_walk x n w hx hn hn2)
  have e2 : IntKind.i64.wrap (-(n : Int)) = -(n : Int) := IntWalk.i64_in _ (by omega)
  go_enter Try.func78, Try.ntmps78
  go_wp2_with (go_at_call 80; refine HR.out.mono ?_; rintro e w1 ⟨rfl, rfl⟩)
  go_ret
  exact ⟨rfl, rfl⟩
set_option maxRecDepth 100000 in
theorem turn_walk (x n : Nat) (k : Int) (w : World) (hk : k = (n : Int)) (hx : x < 2 ^ 32) (hn : 1 ≤ n) (hn2 : n ≤ 31) : Calls Try.prog 59 #[.int .u32 (x : Nat), .int .i64 k] w fun e w' => e = .returned (.int .u32 (rotr x n : Nat)) ∧ w = w' := by
  subst hk
  obtain ⟨m, hm⟩ : ∃ m, m = 32 - n := ⟨_, rfl⟩
  have hm1 : m ≤ 31 := by omega
  have e2 : 32 - (n : Int) = (m : Int) := by omega
  have Hm := Lib.hid hm
  clear hm
  go_enter Try.func59, Try.ntmps59
  go_wp2
  go_ret
  refine ⟨?_, rfl⟩
  show Ending.returned (.int .u32 (bits .or .u32 ((x : Int) / 2 ^ n) ((x : Int) * 2 ^ m % 4294967296))) = _
  rw [shl_run, shr_run, bits_or32 (shr_lt hx _) (shl_lt _ _), Hm.out, Nat.or_comm]
  rfl
end Go.Proofs.Ytjemgoifemdoeaa
