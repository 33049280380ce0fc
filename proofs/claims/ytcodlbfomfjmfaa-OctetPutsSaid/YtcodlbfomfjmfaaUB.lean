/- u256.Bytes, walked. -/
import Derived.Test.YtcodlbfomfjmfaaU3
namespace Go.Proofs.Ytcodlbfomfjmfaa
open Go.RowKit

/-- the i-th byte of a number, the least first -/
def byteAt (a i : Nat) : Nat := a / 2 ^ (8 * i) % 256
theorem byteAt_lt (a i : Nat) : byteAt a i < 256 := Nat.mod_lt _ (by decide)
theorem byte_of_limb (a k : Nat) : limb a (k / 8) / 2 ^ (k % 8 * 8) % 256 = byteAt a k := by
  unfold limb byteAt
  have e1 : 2 ^ 64 = 2 ^ (k % 8 * 8) * 2 ^ (64 - k % 8 * 8) := by rw [← Nat.pow_add]; congr 1; omega
  have e2 : 2 ^ (64 - k % 8 * 8) = 256 * 2 ^ (64 - k % 8 * 8 - 8) := by rw [show (256 : Nat) = 2 ^ 8 from rfl, ← Nat.pow_add]; congr 1; omega
  rw [e1, Nat.mod_mul_right_div_self, Nat.div_div_eq_div_mul, ← Nat.pow_add, e2, Nat.mod_mul_right_mod]
  congr 3; omega
theorem byte_run {a k q r : Nat} (hq : q = k / 8) (hr : r = k % 8) : IntKind.u8.wrap ((limb a q : Int) / 2 ^ (r * 8)) = ((byteAt a k : Nat) : Int) := by
  subst hq hr
  rw [IntKind.wrap_u8', ← byte_of_limb, Int.natCast_emod, Int.natCast_ediv, Int.natCast_pow]; rfl

def BytesPost (a : Nat) (w : World) (e : Ending) (w' : World) : Prop :=
  ∃ g, e = .returned (.slice (some ⟨g, 0, none⟩) 32 32) ∧ w.heap.size ≤ g ∧ g < w'.heap.size ∧ Arr .u8 w' g 32 (fun i => byteAt a (31 - i)) ∧ Below w.heap.size w w'
def BytesRel (a : Nat) (w : World) (i : Value) (wr : World) : Prop :=
  ∃ (k : Nat) (f : Nat → Nat), k ≤ 32 ∧ i = .int .i64 (k : Nat) ∧ (∀ j, 32 - k ≤ j → j < 32 → f j = byteAt a (31 - j)) ∧
    Arr .u64 wr w.heap.size 4 (limb a) ∧ Arr .u8 wr (w.heap.size + 1) 32 f ∧ Below w.heap.size w wr ∧ w.heap.size + 1 < wr.heap.size

set_option maxRecDepth 100000 in
set_option maxHeartbeats 1000000 in
theorem bytes_walk (a : Nat) (w : World) : Calls Try.prog 35 #[U a] w (BytesPost a w) := by
  have hmk : ∀ w, (Instr.makeSlice 33 (.int .i64 32) (.int .i64 32)).run Try.prog w = .ok (.slice (some ⟨w.heap.size, 0, none⟩) 32 32) (w.alloc (.cells (Array.replicate 32 (.int .u8 0)) 5)) := fun _ => by kernel_rfl
  unfold U
  go_enter Try.func35, Try.ntmps35
  go_wp2
  go_loopw [8] (BytesRel a w) (fun i _ => 32 - (intOf i).toNat)
  case atStart =>
    refine ⟨0, fun _ => 0, by omega, rfl, fun j h1 h2 => by omega, (Arr.new4 (f := limb a) rfl).alloc _, ?_, ?_, by simp⟩
    · exact Arr.new_rep (by simp)
    · exact ((Below.refl _ _).alloc (Nat.le_refl _) _).alloc (by simp only [World.size_alloc]; omega) _
  case round =>
    obtain ⟨k, f, hk, rfl, hf, ha, hs, hbel, hsz⟩ := hrel
    have Hf := Lib.hid hf
    clear hf
    by_cases hlt : k < 32
    · obtain ⟨q, hq⟩ : ∃ q, q = k / 8 := ⟨_, rfl⟩
      obtain ⟨r, hr⟩ : ∃ r, r = k % 8 := ⟨_, rfl⟩
      have e1 : (k : Int).tdiv 8 = (q : Int) := by rw [Int.tdiv_eq_ediv_of_nonneg (by omega)]; omega
      have e2 : (k : Int).tmod 8 = (r : Int) := by rw [Int.tmod_eq_emod_of_nonneg (by omega)]; omega
      have e3 : (k : Int) / 8 = (q : Int) := by omega
      have hq4 : q < 4 := by omega
      have hr8 : r < 8 := by omega
      have b1 := byte_run (a := a) hq hr
      have a1 := ha.cell q hq4
      have f1 := hs.free (31 - k) (by omega)
      have f2 := hs.cell (31 - k) (by omega)
      have i2 : (31 : Int) - (k : Int) = ((31 - k : Nat) : Int) := by omega
      have i3 : ((31 - k : Nat) : Int) < 32 := by omega
      clear hq hr
      go_wp2
      go_roundw
      case rel =>
        refine ⟨k + 1, upd f (31 - k) (byteAt a k), by omega, by go_num, fun j h1 h2 => ?_, ha.set_far (by omega), hs.set (by omega), hbel.setCell (by simp) _, by rw [World.size_setCell]; exact hsz⟩
        by_cases hj : j = 31 - k
        · rw [hj, upd_same, show 31 - (31 - k) = k by omega]
        · rw [upd_ne _ hj]; exact Hf.out j (by omega) h2
      case measure => simp [intOf]; omega
    · obtain rfl : k = 32 := by omega
      go_wp2
      go_ret
      exact ⟨w.heap.size + 1, rfl, by omega, hsz, hs.congr fun i hi => Hf.out i (by omega) hi, hbel⟩
end Go.Proofs.Ytcodlbfomfjmfaa
