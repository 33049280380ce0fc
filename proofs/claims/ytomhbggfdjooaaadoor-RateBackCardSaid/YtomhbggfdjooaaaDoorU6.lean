/- u256.shiftLeft, walked. -/
import Derived.Test.YtomhbggfdjooaaaDoorU3
namespace Go.Proofs.YtomhbggfdjooaaaDoor
open Go.RowKit

def shlLo (x l r : Nat) : Nat := x + l * 2 ^ r % 18446744073709551616
def shlHi (l r : Nat) : Nat := l / 2 ^ (64 - r)
theorem shlLo_lt {x l r : Nat} (hx : x < 2 ^ r) (hr : r < 64) : shlLo x l r < 2 ^ 64 := by
  unfold shlLo
  have h64 : 18446744073709551616 = 2 ^ r * 2 ^ (64 - r) := by rw [← Nat.pow_add, show r + (64 - r) = 64 by omega]
  have h1 : l * 2 ^ r % 18446744073709551616 = l % 2 ^ (64 - r) * 2 ^ r := by rw [h64, Nat.mul_comm (2 ^ r), Nat.mul_mod_mul_right]
  have h2 : l % 2 ^ (64 - r) + 1 ≤ 2 ^ (64 - r) := Nat.mod_lt _ (Nat.pow_pos (by decide))
  have h3 := Nat.mul_le_mul_right (2 ^ r) h2
  have h5 : 2 ^ 64 = 2 ^ (64 - r) * 2 ^ r := by rw [← Nat.pow_add, show 64 - r + r = 64 by omega]
  rw [h1, h5]; rw [Nat.add_mul] at h3; omega
theorem or_join {x l r : Nat} (hx : x < 2 ^ r) (hr : r < 64) : bits BinOp.or IntKind.u64 (x : Int) (IntKind.u64.wrap ((l : Int) * 2 ^ r)) = ((shlLo x l r : Nat) : Int) := by
  have h64 : 18446744073709551616 = 2 ^ r * 2 ^ (64 - r) := by rw [← Nat.pow_add, show r + (64 - r) = 64 by omega]
  have hle : 2 ^ r ≤ 2 ^ 64 := Nat.pow_le_pow_right (by decide) (by omega)
  have hw : IntKind.u64.wrap ((l : Int) * 2 ^ r) = ((l * 2 ^ r % 18446744073709551616 : Nat) : Int) := by
    rw [IntKind.wrap_u64, Int.natCast_emod, Int.natCast_mul, Int.natCast_pow]; rfl
  rw [hw, u64_or_nat _ _ (by omega) (Nat.mod_lt _ (by decide)), Nat.or_comm, nat_join r _ _ ?_ hx, Nat.add_comm]
  · rfl
  · rw [h64, Nat.mod_mul_right_mod]; exact Nat.mul_mod_left _ _
theorem or_high {x l r : Nat} (hx : x = 0) (hl : l < 2 ^ 64) : bits BinOp.or IntKind.u64 (x : Int) ((l : Int) / 2 ^ (64 - r)) = ((shlHi l r : Nat) : Int) := by
  have hw : (l : Int) / 2 ^ (64 - r) = ((shlHi l r : Nat) : Int) := by
    unfold shlHi; rw [Int.natCast_ediv, Int.natCast_pow]; rfl
  have hlt : shlHi l r < 18446744073709551616 := Nat.lt_of_le_of_lt (Nat.div_le_self _ _) hl
  rw [hw, hx, u64_or_nat _ _ (by decide) hlt, Nat.zero_or]
theorem shl_parts {x l r : Nat} (hl : l < 2 ^ 64) (hr : r < 64) : x + l * 2 ^ r = shlLo x l r + shlHi l r * 2 ^ 64 ∧ shlHi l r < 2 ^ r := by
  unfold shlLo shlHi
  have h64 : 2 ^ 64 = 2 ^ (64 - r) * 2 ^ r := by rw [← Nat.pow_add]; congr 1; omega
  have hd : l * 2 ^ r / 2 ^ 64 = l / 2 ^ (64 - r) := by rw [h64, Nat.mul_div_mul_right _ _ (Nat.pow_pos (by decide))]
  refine ⟨?_, (Nat.div_lt_iff_lt_mul (Nat.pow_pos (by decide))).2 (by rw [Nat.mul_comm, ← h64]; exact hl)⟩
  rw [← hd]; have := Nat.mod_add_div' (l * 2 ^ r) (2 ^ 64); omega

def ShlPost (a by_ : Nat) (w : World) (e : Ending) (w' : World) : Prop := e = .returned (U8 (a * 2 ^ by_)) ∧ Below w.heap.size w w'
def ShlRel (a words rest : Nat) (w : World) (i : Value) (wr : World) : Prop :=
  ∃ (k : Nat) (f : Nat → Nat), k ≤ 4 ∧ i = .int .i64 (k : Nat) ∧ (∀ j, f j < 2 ^ 64) ∧ (∀ j, k + words < j → f j = 0) ∧ f (k + words) < 2 ^ rest ∧ val f 8 = val (limb a) k * 2 ^ (64 * words + rest) ∧
    Arr .u64 wr w.heap.size 4 (limb a) ∧ Arr .u64 wr (w.heap.size + 1) 8 (fun _ => 0) ∧ Arr .u64 wr (w.heap.size + 1 + 1) 8 f ∧
    Below w.heap.size w wr ∧ w.heap.size + 1 + 1 < wr.heap.size

set_option maxRecDepth 100000 in
set_option maxHeartbeats 1000000 in
theorem shl_walk (a by_ : Nat) (w : World) (hal : a < 2 ^ 256) (hby : by_ < 256) : Calls Tryd.prog 55 #[U a, .int .i64 (by_ : Nat)] w (ShlPost a by_ w) := by
  have Hal := Lib.hid hal
  clear hal
  obtain ⟨words, hw⟩ : ∃ n, n = by_ / 64 := ⟨_, rfl⟩
  obtain ⟨rest, hr⟩ : ∃ n, n = by_ % 64 := ⟨_, rfl⟩
  have e1 : (by_ : Int) / 64 = (words : Int) := by omega
  have e2 : (by_ : Int).tmod 64 = (rest : Int) := by rw [Int.tmod_eq_emod_of_nonneg (by omega)]; omega
  have e3 : (by_ : Int).tdiv 64 = (words : Int) := by rw [Int.tdiv_eq_ediv_of_nonneg (by omega)]; omega
  have hw4 : words < 4 := by omega
  have hr64 : rest < 64 := by omega
  have Hby : Hid (by_ = 64 * words + rest) := Lib.hid (by omega)
  clear hw hr
  unfold U
  go_enter Tryd.func55, Tryd.ntmps55
  go_wp2
  go_loopw [13] (ShlRel a words rest w) (fun i _ => 4 - (intOf i).toNat)
  case atStart =>
    refine ⟨0, fun _ => 0, by omega, rfl, by simp, by simp, Nat.pow_pos (by decide), by rw [val_zero]; simp only [val]; omega, ?_, ?_, ?_, ?_, ?_⟩
    · exact ((Arr.new4 (f := limb a) rfl).alloc _).alloc _
    · exact (Arr.new8 (f := fun _ => 0) (by simp)).alloc _
    · exact Arr.new8 (f := fun _ => 0) (by simp)
    · exact (((Below.refl _ _).alloc (Nat.le_refl _) _).alloc (by simp only [World.size_alloc]; omega) _).alloc (by simp only [World.size_alloc]; omega) _
    · simp
  case round =>
    obtain ⟨k, f, hk, rfl, hf, hf0, hfr, hv, ha, hz, hs, hbel, hsz⟩ := hrel
    by_cases hlt : k < 4
    · have a1 := ha.cell k hlt
      have f1 := hs.free (k + words) (by omega)
      have f2 := hs.cell (k + words) (by omega)
      have f3 := hs.free (k + words + 1) (by omega)
      have f4 := hs.cell (k + words + 1) (by omega)
      have q3 : (k : Int) + (words : Int) < 8 := by omega
      have q4 : (k : Int) + (words : Int) + 1 < 8 := by omega
      have o1 := or_join (l := limb a k) hfr hr64
      have o2 := or_high (r := rest) (hf0 (k + words + 1) (by omega)) (limb_lt a k)
      have Hf := Lib.hid hf
      have Hf0 := Lib.hid hf0
      have Hfr := Lib.hid hfr
      have Hv := Lib.hid hv
      clear hf hf0 hfr hv
      go_wp2
      go_region
      go_wp2
      go_region
      go_wp2
      go_roundw
      case rel =>
        have hp := shl_parts (x := f (k + words)) (limb_lt a k) hr64
        have hlo := shlLo_lt (l := limb a k) Hfr.out hr64
        have hhi : shlHi (limb a k) rest < 2 ^ 64 := Nat.lt_of_le_of_lt (Nat.div_le_self _ _) (limb_lt a k)
        refine ⟨k + 1, upd (upd f (k + words) (shlLo (f (k + words)) (limb a k) rest)) (k + words + 1) (shlHi (limb a k) rest), by omega, by go_num, upd_lt (upd_lt Hf.out hlo) hhi, ?_, ?_, ?_, ?_, ?_, ?_, ?_, ?_⟩
        · intro i hi; rw [upd_ne _ (by omega), upd_ne _ (by omega)]; exact Hf0.out i (by omega)
        · rw [show k + 1 + words = k + words + 1 by omega, upd_same]; exact hp.2
        · have v1 := val_upd_at (upd f (k + words) (shlLo (f (k + words)) (limb a k) rest)) (shlHi (limb a k) rest) (show k + words + 1 < 8 by omega)
          have v2 := val_upd_at f (shlLo (f (k + words)) (limb a k) rest) (show k + words < 8 by omega)
          rw [upd_ne _ (show k + words + 1 ≠ k + words by omega), Hf0.out (k + words + 1) (by omega), pow_succ64] at v1
          have h1 := congrArg (· * 2 ^ (64 * (k + words))) hp.1
          have hv := Hv.out
          have e : 2 ^ rest * 2 ^ (64 * (k + words)) = 2 ^ (64 * k) * 2 ^ (64 * words + rest) := by rw [← Nat.pow_add, ← Nat.pow_add]; congr 1; omega
          simp only [Nat.add_mul, Nat.mul_assoc, e] at h1
          have hk1 : val (limb a) (k + 1) = val (limb a) k + limb a k * 2 ^ (64 * k) := rfl
          rw [hk1, Nat.add_mul, Nat.mul_assoc (limb a k), ← hv]
          rw [Nat.zero_mul] at v1
          omega
        · exact ((ha.drew.drew).set_far (by omega)).set_far (by omega)
        · exact ((hz.drew.drew).set_far (by omega)).set_far (by omega)
        · exact ((hs.drew.drew).set (by omega)).set (by omega)
        · exact ((below_drewN hbel 2).setCell (by simp; omega) _).setCell (by simp; omega) _
        · simp; omega
      case measure => simp [intOf]; omega
    · obtain rfl : k = 4 := by omega
      have hn : val f 8 = a * 2 ^ by_ := by rw [hv, val4_limb Hal.out, Hby.out]
      have Hn := Lib.hid hn
      have Hf := Lib.hid hf
      clear hv hn hf hf0 hfr
      obtain ⟨s0, s1, s2, s3, s4, s5, s6, s7⟩ := hs.cells8
      obtain ⟨y0, y1, y2, y3, y4, y5, y6, y7⟩ := hz.frees8
      obtain ⟨z0, z1, z2, z3, z4, z5, z6, z7⟩ := hz.cells8
      go_wp2
      refine bodyPost_ret (v := .agg #[.int .u64 (f 0 : Nat), .int .u64 (f 1 : Nat), .int .u64 (f 2 : Nat), .int .u64 (f 3 : Nat), .int .u64 (f 4 : Nat), .int .u64 (f 5 : Nat), .int .u64 (f 6 : Nat), .int .u64 (f 7 : Nat)]) (by simp [results, Tryd.results55, go_sem, z0, z1, z2, z3, z4, z5, z6, z7]) rfl ⟨by rw [U8_of Hf.out, Hn.out], ?_⟩
      exact below_set8 hbel (by omega)
end Go.Proofs.YtomhbggfdjooaaaDoor
