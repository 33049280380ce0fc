/- keys.number, walked. -/
import Derived.Test.YtedkhpnlhkjjgaaK4
namespace Go.Proofs.Ytedkhpnlhkjjgaa
open Go.RowKit

/-- the number of the first k bytes -/
def numv (v : ByteArray) : Nat → Nat
  | 0 => 0
  | k + 1 => numv v k * 256 + (v.data.toList.getD k 0).toNat
theorem numv_lt (v : ByteArray) : ∀ k, numv v k < 2 ^ (8 * k)
  | 0 => by simp [numv]
  | k + 1 => by
    have h := numv_lt v k
    have h2 := (v.data.toList.getD k 0).toNat_lt
    rw [numv, show 8 * (k + 1) = 8 * k + 8 by omega, Nat.pow_add]
    omega
theorem or_byte {n y : Nat} (hn : n < 2 ^ 56) (hy : y < 256) : bits BinOp.or IntKind.u64 (IntKind.u64.wrap ((n : Int) * 256)) (IntKind.u64.wrap (y : Int)) = ((n * 256 + y : Nat) : Int) := by
  have h1 : IntKind.u64.wrap ((n : Int) * 256) = ((n * 256 : Nat) : Int) := by rw [IntKind.wrap_u64]; omega
  have h2 : IntKind.u64.wrap (y : Int) = ((y : Nat) : Int) := by rw [IntKind.wrap_u64]; omega
  rw [h1, h2, u64_or_nat _ _ (by omega) (by omega), nat_join 8 _ _ (by omega) (by omega)]
theorem num_top (n : Nat) : ((n : Int) / 9223372036854775808 == 0) = decide (n < 2 ^ 63) := by
  by_cases h : n < 2 ^ 63
  · rw [decide_eq_true h, beq_iff_eq]; omega
  · rw [decide_eq_false h, beq_eq_false_iff_ne]; omega
def NumRel (v : ByteArray) (w : World) (x i : Value) (wr : World) : Prop := ∃ k : Nat, k ≤ 8 ∧ i = .int .i64 (k : Nat) ∧ x = .int .u64 (numv v k : Nat) ∧ wr = w
set_option maxRecDepth 100000 in
set_option maxHeartbeats 1000000 in
theorem number_walk (v : ByteArray) (w : World) (hv : 8 ≤ v.size) (hv2 : (v.size : Int) ≤ 9223372036854775807) : Calls Try.prog 140 #[.string v] w fun e w' => e = .returned (.tuple #[.int .i64 (IntKind.i64.wrap (numv v 8 : Nat)), .bool (decide (numv v 8 < 2 ^ 63))]) ∧ w' = w := by
  go_enter Try.func140, Try.ntmps140
  go_wp2
  go_loopw [4, 6] (NumRel v w) (fun _ i _ => 8 - (intOf i).toNat)
  case atStart => exact ⟨0, by omega, rfl, rfl, rfl⟩
  case round =>
    obtain ⟨k, hk, rfl, rfl, rfl⟩ := hrel
    obtain ⟨n, hn⟩ : ∃ n, n = numv v k := ⟨_, rfl⟩
    rw [← hn]
    have Hn := Lib.hid hn
    clear hn
    by_cases hlt : k < 8
    · have kv : (k : Int) < v.size := by omega
      go_wp2
      go_roundw
      case rel =>
        have h1 : n < 2 ^ 56 := by
          rw [Hn.out]
          exact Nat.lt_of_lt_of_le (numv_lt v k) (Nat.pow_le_pow_right (by decide) (by omega))
        refine ⟨k + 1, by omega, by go_num, ?_, rfl⟩
        rw [or_byte h1 (UInt8.toNat_lt _), numv, ← Hn.out]
        congr 4
        have hk8 : k < v.data.toList.length := by have : v.data.toList.length = v.size := rfl; omega
        simp only [List.getD, List.getElem?_eq_getElem hk8, Option.getD_some]
        rfl
      case measure => simp [intOf]; omega
    · obtain rfl : k = 8 := by omega
      go_wp2
      refine bodyPost_ret (v := .tuple #[.int .i64 (wrap64 (n : Int)), .bool ((n : Int) / 9223372036854775808 == 0)]) (by simp [results, Try.results140, go_sem]) rfl ⟨?_, rfl⟩
      rw [← Hn.out, num_top, show wrap64 (n : Int) = IntKind.i64.wrap (n : Int) by rw [IntKind.wrap_i64]; unfold wrap64; omega]
end Go.Proofs.Ytedkhpnlhkjjgaa
