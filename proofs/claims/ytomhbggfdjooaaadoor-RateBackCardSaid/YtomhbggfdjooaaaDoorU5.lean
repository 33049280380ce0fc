/- u256.Bits, walked. -/
import Derived.Test.YtomhbggfdjooaaaDoorU3
import Derived.Test.YtomhbggfdjooaaaDoorShelf
namespace Go.Proofs.YtomhbggfdjooaaaDoor
open Go.RowKit

/-- how many binary digits -/
def blen (n : Nat) : Nat := if n = 0 then 0 else n.log2 + 1
theorem blen_zero : blen 0 = 0 := rfl
theorem blen_pos {n : Nat} (h : n ≠ 0) : blen n = n.log2 + 1 := if_neg h
theorem blen_iff {n k : Nat} (h : n ≠ 0) : blen n = k + 1 ↔ 2 ^ k ≤ n ∧ n < 2 ^ (k + 1) := by
  rw [blen_pos h, ← Nat.log2_eq_iff h]; omega
theorem blen_le {n k : Nat} (h : n < 2 ^ k) : blen n ≤ k := by
  by_cases h0 : n = 0
  · subst h0; rw [blen_zero]; omega
  · rw [blen_pos h0]; exact (Nat.log2_lt h0).2 h
theorem lt_blen (n : Nat) : n < 2 ^ blen n := by
  by_cases h0 : n = 0
  · subst h0; decide
  · rw [blen_pos h0]; exact Nat.lt_log2_self
theorem bitLenAux_eq : ∀ (f x : Nat), x < 2 ^ f → Lib.bitLenAux f x = blen x
  | 0, x, h => by have : x = 0 := by simpa using h
                  subst this; rfl
  | f + 1, x, h => by
    rw [Lib.bitLenAux]
    by_cases h0 : x = 0
    · rw [if_pos h0, h0]; rfl
    · rw [if_neg h0, bitLenAux_eq f (x / 2) (by rw [Nat.pow_succ] at h; omega), blen_pos h0]
      by_cases h1 : x < 2
      · obtain rfl : x = 1 := by omega
        decide
      · rw [blen_pos (by omega), Nat.log2_def x, if_pos (by omega)]; omega
theorem bitLen_eq {x : Nat} (h : x < 2 ^ 64) : Lib.bitLen x = blen x := bitLenAux_eq 64 x h
theorem blen_join {v l m : Nat} (hl : l ≠ 0) (hv : v < 2 ^ m) : blen (v + l * 2 ^ m) = m + blen l := by
  have hp : 0 < 2 ^ m := Nat.pow_pos (by decide)
  have hne : v + l * 2 ^ m ≠ 0 := by have := Nat.mul_pos (Nat.pos_of_ne_zero hl) hp; omega
  rw [blen_pos hl, ← Nat.add_assoc, blen_iff hne]
  have h1 : 2 ^ l.log2 ≤ l := Nat.log2_self_le hl
  have h2 : l + 1 ≤ 2 ^ (l.log2 + 1) := Nat.lt_log2_self
  constructor
  · have := Nat.mul_le_mul_right (2 ^ m) h1
    rw [Nat.pow_add, Nat.mul_comm (2 ^ m)]; omega
  · have := Nat.mul_le_mul_right (2 ^ m) h2
    rw [Nat.add_mul, Nat.one_mul] at this
    rw [show m + l.log2 + 1 = (l.log2 + 1) + m by omega, Nat.pow_add]; omega

theorem len64_c (x : Nat) (hx : x < 2 ^ 64) (w : World) :
    Calls Tryd.prog 59 #[.int .u64 (x : Nat)] w fun e w' => e = .returned (.int .i64 (blen x : Nat)) ∧ w = w' := by
  refine (Tryd.bits_Len64 (x : Int) w (by omega) (by omega)).mono ?_
  rintro e w' ⟨rfl, rfl⟩
  exact ⟨by rw [Int.toNat_natCast, bitLen_eq hx], rfl⟩

def BitsPost (a : Nat) (w : World) (e : Ending) (w' : World) : Prop := e = .returned (.int .i64 (blen a : Nat)) ∧ Below w.heap.size w w'
theorem bitsPost_mk {a m : Nat} {w w' : World} (h : m = blen a) (hb : Below w.heap.size w w') : BitsPost a w (.returned (.int .i64 (m : Nat))) w' := ⟨by rw [h], hb⟩
def BitsRel (a : Nat) (w : World) (c i : Value) (wr : World) : Prop :=
  ∃ (k m : Nat), k ≤ 4 ∧ i = .int .i64 (k : Nat) ∧ c = .int .i64 (m : Nat) ∧ m = blen (val (limb a) k) ∧ Arr .u64 wr w.heap.size 4 (limb a) ∧ Below w.heap.size w wr

set_option maxRecDepth 100000 in
set_option maxHeartbeats 1000000 in
theorem bits_walk (a : Nat) (w : World) (hal : a < 2 ^ 256) : Calls Tryd.prog 47 #[U a] w (BitsPost a w) := by
  have Hal := Lib.hid hal
  clear hal
  unfold U
  go_enter Tryd.func47, Tryd.ntmps47
  go_wp2
  go_loopw [3, 5] (BitsRel a w) (fun _ i _ => 4 - (intOf i).toNat)
  case atStart => exact ⟨0, 0, by omega, rfl, rfl, rfl, Arr.new4 (f := limb a) rfl, (Below.refl _ _).alloc (Nat.le_refl _) _⟩
  case round =>
    obtain ⟨k, m, hk, rfl, rfl, hm, ha, hbel⟩ := hrel
    have Hm := Lib.hid hm
    clear hm
    by_cases hlt : k < 4
    · have a1 := ha.cell k hlt
      by_cases h0 : limb a k = 0
      · have ht : ((limb a k : Int) != 0) = false := by rw [h0]; rfl
        have H0 := Lib.hid h0
        clear h0
        go_wp2
        go_roundw
        case rel =>
          refine ⟨k + 1, m, by omega, by go_num, rfl, ?_, ha, hbel⟩
          simp only [val]; rw [H0.out, Nat.zero_mul, Nat.add_zero]; exact Hm.out
        case measure => simp [intOf]; omega
      · have ht : ((limb a k : Int) != 0) = true := by rw [bne_iff_ne]; omega
        have H0 := Lib.hid h0
        clear h0
        have hb64 : blen (limb a k) ≤ 64 := blen_le (limb_lt a k)
        go_wp2_with (go_at_call 59; refine (len64_c _ (limb_lt a k) _).mono ?_; rintro e w' ⟨rfl, rfl⟩)
        go_roundw
        case rel =>
          refine ⟨k + 1, k * 64 + blen (limb a k), by omega, by go_num, by go_num, ?_, ha, hbel⟩
          simp only [val]; rw [blen_join H0.out (val_lt k (fun i _ => limb_lt a i))]; omega
        case measure => simp [intOf]; omega
    · obtain rfl : k = 4 := by omega
      go_wp2
      go_ret
      exact bitsPost_mk (by rw [Hm.out, val4_limb Hal.out]) hbel
end Go.Proofs.YtomhbggfdjooaaaDoor
