/- u256.Bytes, walked. -/
import Derived.Test.YtedkhpnlhkjjgaaG14
import Derived.Test.YtedkhpnlhkjjgaaG05
namespace Go.Proofs.Ytedkhpnlhkjjgaa
open Go.RowKit

/-- the i-th byte of a number, the least first -/
def byteAt (a i : Nat) : Nat := a / 2 ^ (8 * i) % 256
theorem byteAt_lt (a i : Nat) : byteAt a i < 256 := Nat.mod_lt _ (by decide)
theorem byte_of_limb (a k : Nat) : limb a (k / 8) / 2 ^ (k % 8 * 8) % 256 = byteAt a k := by
  unfold limb byteAt
  have e1 : 2 ^ 64 = 2 ^ (k % 8 * 8) * 2 ^ (64 - k % 8 * 8) := by rw [← Nat.pow_add]; congr 1; omega
  have e2 : 2 ^ (64 - k % 8 * 8) = 256 * 2 ^ (64 - k % 8 * 8 - 8) := by rw [show (256 : Nat) = 2 ^ 8 from rfl, ← Nat.pow_add]; congr 1; omega
  rw [e1, Nat.mod_mul_right_div_self, Nat.div_div_eq_div_mul, ← Nat.pow_add, e2, Nat.mod_mul_right_mod]
  congr 3; omega
theorem byte_run {a k q r : Nat} (hq : q = k / 8) (hr : r = k % 8) : IntKind.u8.wrap ((limb a q : Int) / 2 ^ (r * 8)) = ((byteAt a k : Nat) : Int) := by
  subst hq hr
  rw [IntKind.wrap_u8', ← byte_of_limb, Int.natCast_emod, Int.natCast_ediv, Int.natCast_pow]; rfl

def BytesPost (a : Nat) (w : World) (e : Ending) (w' : World) : Prop :=
  ∃ g, e = .returned (.slice (some ⟨g, 0, none⟩) 32 32) ∧ w.heap.size ≤ g ∧ g < w'.heap.size ∧ Arr .u8 w' g 32 (fun i => byteAt a (31 - i)) ∧ Below w.heap.size w w'
def BytesRel (a : Nat) (w : World) (i : Value) (wr : World) : Prop :=
  ∃ (k : Nat) (f : Nat → Nat), k ≤ 32 ∧ i = .int .i64 (k : Nat) ∧ (∀ j, 32 - k ≤ j → j < 32 → f j = byteAt a (31 - j)) ∧
    Arr .u64 wr w.heap.size 4 (limb a) ∧ Arr .u8 wr (w.heap.size + 1) 32 f ∧ Below w.heap.size w wr ∧ w.heap.size + 1 < wr.heap.size

set_option maxRecDepth 100000 in
set_option maxHeartbeats 1000000 in
theorem bytes_walk (a : Nat) (w : World) : Calls Try.prog 117 #[U a] w (BytesPost a w) := by
  have hmk : ∀ w, (Instr.makeSlice 56 (.int .i64 32) (.int .i64 32)).run Try.prog w = .ok (.slice (some ⟨w.heap.size, 0, none⟩) 32 32) (w.alloc (.cells (Array.replicate 32 (.int .u8 0)) 5)) := fun _ => by kernel_rfl
  unfold U
  go_enter Try.func117, Try.ntmps117
  go_wp2
  go_loopw [8] (BytesRel a w) (fun i _ => 32 - (intOf i).toNat)
  case atStart =>
    refine ⟨0, fun _ => 0, by omega, rfl, fun j h1 h2 => by omega, (Arr.new4 (f := limb a) rfl).alloc _, ?_, ?_, by simp⟩
    · exact Arr.new_rep (by simp)
    · exact ((Below.refl _ _).alloc (Nat.le_refl _) _).alloc (by simp only [World.size_alloc]; omega) _
  case round =>
    obtain ⟨k, f, hk, rfl, hf, ha, hs, hbel, hsz⟩ := hrel
    have Hf := Lib.hid hf
    clear hf
    by_cases hlt : k < 32
    · obtain ⟨q, hq⟩ : ∃ q, q = k / 8 := ⟨_, rfl⟩
      obtain ⟨r, hr⟩ : ∃ r, r = k % 8 := ⟨_, rfl⟩
      have e1 : (k : Int).tdiv 8 = (q : Int) := by rw [Int.tdiv_eq_ediv_of_nonneg (by omega)]; omega
      have e2 : (k : Int).tmod 8 = (r : Int) := by rw [Int.tmod_eq_emod_of_nonneg (by omega)]; omega
      have e3 : (k : Int) / 8 = (q : Int) := by omega
      have hq4 : q < 4 := by omega
      have hr8 : r < 8 := by omega
      have b1 := byte_run (a := a) hq hr
      have a1 := ha.cell q hq4
      have f1 := hs.free (31 - k) (by omega)
      have f2 := hs.cell (31 - k) (by omega)
      have i2 : (31 : Int) - (k : Int) = ((31 - k : Nat) : Int) := by omega
      have i3 : ((31 - k : Nat) : Int) < 32 := by omega
      clear hq hr
      go_wp2
      go_roundw
      case rel =>
        refine ⟨k + 1, upd f (31 - k) (byteAt a k), by omega, by go_num, fun j h1 h2 => ?_, ha.set_far (by omega), hs.set (by omega), hbel.setCell (by simp) _, by rw [World.size_setCell]; exact hsz⟩
        by_cases hj : j = 31 - k
        · rw [hj, upd_same, show 31 - (31 - k) = k by omega]
        · rw [upd_ne _ hj]; exact Hf.out j (by omega) h2
      case measure => simp [intOf]; omega
    · obtain rfl : k = 32 := by omega
      go_wp2
      go_ret
      exact ⟨w.heap.size + 1, rfl, by omega, hsz, hs.congr fun i hi => Hf.out i (by omega) hi, hbel⟩
end Go.Proofs.Ytedkhpnlhkjjgaa

namespace Go.Proofs.Ytedkhpnlhkjjgaa
open Go.RowKit

/-- how many binary digits -/
def blen (n : Nat) : Nat := if n = 0 then 0 else n.log2 + 1
theorem blen_zero : blen 0 = 0 := rfl
theorem blen_pos {n : Nat} (h : n ≠ 0) : blen n = n.log2 + 1 := if_neg h
theorem blen_iff {n k : Nat} (h : n ≠ 0) : blen n = k + 1 ↔ 2 ^ k ≤ n ∧ n < 2 ^ (k + 1) := by
  rw [blen_pos h, ← Nat.log2_eq_iff h]; omega
theorem blen_le {n k : Nat} (h : n < 2 ^ k) : blen n ≤ k := by
  by_cases h0 : n = 0
  · subst h0; rw [blen_zero]; omega
  · rw [blen_pos h0]; exact (Nat.log2_lt h0).2 h
theorem lt_blen (n : Nat) : n < 2 ^ blen n := by
  by_cases h0 : n = 0
  · subst h0; decide
  · rw [blen_pos h0]; exact Nat.lt_log2_self
theorem bitLenAux_eq : ∀ (f x : Nat), x < 2 ^ f → Lib.bitLenAux f x = blen x
  | 0, x, h => by have : x = 0 := by simpa using h
                  subst this; rfl
  | f + 1, x, h => by
    rw [Lib.bitLenAux]
    by_cases h0 : x = 0
    · rw [if_pos h0, h0]; rfl
    · rw [if_neg h0, bitLenAux_eq f (x / 2) (by rw [Nat.pow_succ] at h; omega), blen_pos h0]
      by_cases h1 : x < 2
      · obtain rfl : x = 1 := by omega
        decide
      · rw [blen_pos (by omega), Nat.log2_def x, if_pos (by omega)]; omega
theorem bitLen_eq {x : Nat} (h : x < 2 ^ 64) : Lib.bitLen x = blen x := bitLenAux_eq 64 x h
theorem blen_join {v l m : Nat} (hl : l ≠ 0) (hv : v < 2 ^ m) : blen (v + l * 2 ^ m) = m + blen l := by
  have hp : 0 < 2 ^ m := Nat.pow_pos (by decide)
  have hne : v + l * 2 ^ m ≠ 0 := by have := Nat.mul_pos (Nat.pos_of_ne_zero hl) hp; omega
  rw [blen_pos hl, ← Nat.add_assoc, blen_iff hne]
  have h1 : 2 ^ l.log2 ≤ l := Nat.log2_self_le hl
  have h2 : l + 1 ≤ 2 ^ (l.log2 + 1) := Nat.lt_log2_self
  constructor
  · have := Nat.mul_le_mul_right (2 ^ m) h1
    rw [Nat.pow_add, Nat.mul_comm (2 ^ m)]; omega
  · have := Nat.mul_le_mul_right (2 ^ m) h2
    rw [Nat.add_mul, Nat.one_mul] at this
    rw [show m + l.log2 + 1 = (l.log2 + 1) + m by omega, Nat.pow_add]; omega

def BitsPost (a : Nat) (w : World) (e : Ending) (w' : World) : Prop := e = .returned (.int .i64 (blen a : Nat)) ∧ Below w.heap.size w w'
theorem bitsPost_mk {a m : Nat} {w w' : World} (h : m = blen a) (hb : Below w.heap.size w w') : BitsPost a w (.returned (.int .i64 (m : Nat))) w' := ⟨by rw [h], hb⟩
def BitsRel (a : Nat) (w : World) (c i : Value) (wr : World) : Prop :=
  ∃ (k m : Nat), k ≤ 4 ∧ i = .int .i64 (k : Nat) ∧ c = .int .i64 (m : Nat) ∧ m = blen (val (limb a) k) ∧ Arr .u64 wr w.heap.size 4 (limb a) ∧ Below w.heap.size w wr

end Go.Proofs.Ytedkhpnlhkjjgaa

namespace Go.Proofs.Ytedkhpnlhkjjgaa
open Go.RowKit

def shlLo (x l r : Nat) : Nat := x + l * 2 ^ r % 18446744073709551616
def shlHi (l r : Nat) : Nat := l / 2 ^ (64 - r)
theorem shlLo_lt {x l r : Nat} (hx : x < 2 ^ r) (hr : r < 64) : shlLo x l r < 2 ^ 64 := by
  unfold shlLo
  have h64 : 18446744073709551616 = 2 ^ r * 2 ^ (64 - r) := by rw [← Nat.pow_add, show r + (64 - r) = 64 by omega]
  have h1 : l * 2 ^ r % 18446744073709551616 = l % 2 ^ (64 - r) * 2 ^ r := by rw [h64, Nat.mul_comm (2 ^ r), Nat.mul_mod_mul_right]
  have h2 : l % 2 ^ (64 - r) + 1 ≤ 2 ^ (64 - r) := Nat.mod_lt _ (Nat.pow_pos (by decide))
  have h3 := Nat.mul_le_mul_right (2 ^ r) h2
  have h5 : 2 ^ 64 = 2 ^ (64 - r) * 2 ^ r := by rw [← Nat.pow_add, show 64 - r + r = 64 by omega]
  rw [h1, h5]; rw [Nat.add_mul] at h3; omega
theorem or_join {x l r : Nat} (hx : x < 2 ^ r) (hr : r < 64) : bits BinOp.or IntKind.u64 (x : Int) (IntKind.u64.wrap ((l : Int) * 2 ^ r)) = ((shlLo x l r : Nat) : Int) := by
  have h64 : 18446744073709551616 = 2 ^ r * 2 ^ (64 - r) := by rw [← Nat.pow_add, show r + (64 - r) = 64 by omega]
  have hle : 2 ^ r ≤ 2 ^ 64 := Nat.pow_le_pow_right (by decide) (by omega)
  have hw : IntKind.u64.wrap ((l : Int) * 2 ^ r) = ((l * 2 ^ r % 18446744073709551616 : Nat) : Int) := by
    rw [IntKind.wrap_u64, Int.natCast_emod, Int.natCast_mul, Int.natCast_pow]; rfl
  rw [hw, u64_or_nat _ _ (by omega) (Nat.mod_lt _ (by decide)), Nat.or_comm, nat_join r _ _ ?_ hx, Nat.add_comm]
  · rfl
  · rw [h64, Nat.mod_mul_right_mod]; exact Nat.mul_mod_left _ _
theorem or_high {x l r : Nat} (hx : x = 0) (hl : l < 2 ^ 64) : bits BinOp.or IntKind.u64 (x : Int) ((l : Int) / 2 ^ (64 - r)) = ((shlHi l r : Nat) : Int) := by
  have hw : (l : Int) / 2 ^ (64 - r) = ((shlHi l r : Nat) : Int) := by
    unfold shlHi; rw [Int.natCast_ediv, Int.natCast_pow]; rfl
  have hlt : shlHi l r < 18446744073709551616 := Nat.lt_of_le_of_lt (Nat.div_le_self _ _) hl
  rw [hw, hx, u64_or_nat _ _ (by decide) hlt, Nat.zero_or]
theorem shl_parts {x l r : Nat} (hl : l < 2 ^ 64) (hr : r < 64) : x + l * 2 ^ r = shlLo x l r + shlHi l r * 2 ^ 64 ∧ shlHi l r < 2 ^ r := by
  unfold shlLo shlHi
  have h64 : 2 ^ 64 = 2 ^ (64 - r) * 2 ^ r := by rw [← Nat.pow_add]; congr 1; omega
  have hd : l * 2 ^ r / 2 ^ 64 = l / 2 ^ (64 - r) := by rw [h64, Nat.mul_div_mul_right _ _ (Nat.pow_pos (by decide))]
  refine ⟨?_, (Nat.div_lt_iff_lt_mul (Nat.pow_pos (by decide))).2 (by rw [Nat.mul_comm, ← h64]; exact hl)⟩
  rw [← hd]; have := Nat.mod_add_div' (l * 2 ^ r) (2 ^ 64); omega

def ShlPost (a by_ : Nat) (w : World) (e : Ending) (w' : World) : Prop := e = .returned (U8 (a * 2 ^ by_)) ∧ Below w.heap.size w w'
def ShlRel (a words rest : Nat) (w : World) (i : Value) (wr : World) : Prop :=
  ∃ (k : Nat) (f : Nat → Nat), k ≤ 4 ∧ i = .int .i64 (k : Nat) ∧ (∀ j, f j < 2 ^ 64) ∧ (∀ j, k + words < j → f j = 0) ∧ f (k + words) < 2 ^ rest ∧ val f 8 = val (limb a) k * 2 ^ (64 * words + rest) ∧
    Arr .u64 wr w.heap.size 4 (limb a) ∧ Arr .u64 wr (w.heap.size + 1) 8 (fun _ => 0) ∧ Arr .u64 wr (w.heap.size + 1 + 1) 8 f ∧
    Below w.heap.size w wr ∧ w.heap.size + 1 + 1 < wr.heap.size

end Go.Proofs.Ytedkhpnlhkjjgaa
