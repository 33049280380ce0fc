/- tallageref01.Bits, FromBytes, walked. -/
import Derived.Test.YtcodlbfomfjmfaaU5
import Derived.Test.YtcodlbfomfjmfaaRA
import Derived.Test.YtcodlbfomfjmfaaUC
namespace Go.Proofs.Ytcodlbfomfjmfaa
open Go.RowKit Go.Sort

theorem bit_limb (N w r : Nat) (hr : r < 64) : limb N w / 2 ^ r % 2 = N / 2 ^ (64 * w + r) % 2 := by
  unfold limb
  have e : N / 2 ^ (64 * w + r) = N / 2 ^ (64 * w) / 2 ^ r := by rw [Nat.div_div_eq_div_mul, ← Nat.pow_add]
  rw [e]
  generalize N / 2 ^ (64 * w) = X
  have h : (2 : Nat) ^ 64 = 2 ^ r * (2 * 2 ^ (63 - r)) := by
    rw [← Nat.pow_succ', ← Nat.pow_add]; congr 1; omega
  rw [h, Nat.mod_mul_right_div_self, Nat.mod_mul_right_mod]
theorem and_bit64 {x r : Nat} (hx : x < 2 ^ 64) : bits BinOp.and IntKind.u64 ((x : Int) / 2 ^ r) 1 = ((x / 2 ^ r % 2 : Nat) : Int) := by
  have e : (x : Int) / 2 ^ r = ((x / 2 ^ r : Nat) : Int) := by rw [Int.natCast_ediv, Int.natCast_pow]; rfl
  have h := u64_and_nat (x / 2 ^ r) 1 (Nat.lt_of_le_of_lt (Nat.div_le_self _ _) hx) (by decide)
  rw [e]
  rw [nat_mask1] at h
  exact h
/-- the bits above k are nought -/
def RbRel (a : Nat) (w : World) (x : Value) (wr : World) : Prop :=
  ∃ k : Nat, k ≤ 256 ∧ x = .int .i64 ((k : Int) - 1) ∧ a < 2 ^ k ∧ Arr .u64 wr w.heap.size 4 (limb a) ∧ Below w.heap.size w wr
theorem bit_one {a i : Nat} (h : a < 2 ^ (i + 1)) (hb : a / 2 ^ i % 2 = 1) : blen a = i + 1 := by
  have hp : 0 < 2 ^ i := Nat.pow_pos (by decide)
  have h1 : 1 ≤ a / 2 ^ i := by
    generalize a / 2 ^ i = x at hb ⊢; omega
  have h2 : 2 ^ i ≤ a := by have := (Nat.le_div_iff_mul_le hp).1 h1; omega
  exact (blen_iff (by omega)).2 ⟨h2, h⟩
theorem bit_nought {a i : Nat} (h : a < 2 ^ (i + 1)) (hb : a / 2 ^ i % 2 = 0) : a < 2 ^ i := by
  have hp : 0 < 2 ^ i := Nat.pow_pos (by decide)
  have h1 : a / 2 ^ i < 2 := (Nat.div_lt_iff_lt_mul hp).2 (by rw [Nat.mul_comm]; exact h)
  have h2 : a / 2 ^ i < 1 := by
    generalize a / 2 ^ i = x at hb h1 ⊢; omega
  have := (Nat.div_lt_iff_lt_mul hp).1 h2
  omega

set_option maxRecDepth 100000 in
set_option maxHeartbeats 2000000 in
theorem rbits_walk (a : Nat) (w : World) (ha : a < 2 ^ 256) : Calls Try.prog 40 #[U a] w (BitsPost a w) := by
  have Ha := Lib.hid ha
  clear ha
  unfold U
  go_enter Try.func40, Try.ntmps40
  go_wp2
  go_loopw [3] (RbRel a w) (fun x _ => ((intOf x) + 1).toNat)
  case atStart => exact ⟨256, by omega, rfl, Ha.out, Arr.new4 (f := limb a) rfl, (Below.refl _ _).alloc (Nat.le_refl _) _⟩
  case round =>
    obtain ⟨k, hk, rfl, hlt, hb, hbel⟩ := hrel
    by_cases hk0 : k = 0
    · subst hk0
      have h0 : blen a = 0 := by
        rw [Nat.pow_zero] at hlt
        have : a = 0 := by omega
        rw [this]; rfl
      have H0 := Lib.hid h0
      clear hlt h0 hb
      go_wp2
      go_ret
      exact ⟨by rw [H0.out]; rfl, hbel⟩
    · obtain ⟨i, hki⟩ : ∃ i, k = i + 1 := ⟨k - 1, by omega⟩
      obtain ⟨wi, hwi⟩ : ∃ x, x = i / 64 := ⟨_, rfl⟩
      obtain ⟨ri, hri⟩ : ∃ x, x = i % 64 := ⟨_, rfl⟩
      have q6 : (0 : Int) ≤ (k : Int) - 1 := by omega
      have e1 : ((k : Int) - 1) / 64 = (wi : Int) := by omega
      have e2 : ((k : Int) - 1).tdiv 64 = (wi : Int) := by rw [Int.tdiv_eq_ediv_of_nonneg (by omega)]; omega
      have e3 : ((k : Int) - 1).tmod 64 = (ri : Int) := by rw [Int.tmod_eq_emod_of_nonneg (by omega)]; omega
      have hwn : wi < 4 := by omega
      have q7 : (wi : Int) < 4 := by omega
      have hr64 : ri < 64 := by omega
      have q8 : IntKind.u64.wrap (ri : Int) = (ri : Int) := wrap_u64 (by omega)
      have ca1 := hb.cell wi hwn
      obtain ⟨bit, hbit⟩ : ∃ x, x = a / 2 ^ i % 2 := ⟨_, rfl⟩
      have o1 : bits BinOp.and IntKind.u64 ((limb a wi : Int) / 2 ^ ri) 1 = (bit : Int) := by
        rw [and_bit64 (limb_lt a wi), bit_limb a wi ri hr64, hbit, show 64 * wi + ri = i by omega]
      have q9 : IntKind.i64.wrap ((k : Int) - 1 + 1) = (k : Int) := by rw [IntWalk.i64_in _ (by omega)]; omega
      have q10 : IntKind.i64.wrap ((k : Int) - 1 - 1) = (k : Int) - 1 - 1 := IntWalk.i64_in _ (by omega)
      rw [hki] at hlt
      by_cases hb1 : bit = 1
      · have t1 : ((bit : Int) == 1) = true := by rw [hb1]; rfl
        have Hr := Lib.hid (show blen a = k by rw [hki]; exact bit_one hlt (by rw [← hbit]; exact hb1))
        clear hki hwi hri hbit hb hk0 hlt hb1
        go_wp2
        go_ret
        exact ⟨by rw [Hr.out]; rfl, hbel⟩
      · have t1 : ((bit : Int) == 1) = false := by rw [beq_eq_false_iff_ne]; omega
        have Hr := Lib.hid (show a < 2 ^ i from bit_nought hlt (by omega))
        have Hi := Lib.hid hki
        clear hki hwi hri hbit hk0 hlt hb1
        go_wp2
        go_roundw
        case rel => exact ⟨i, by have := Hi.out; omega, by have := Hi.out; congr 1; omega, Hr.out, hb, hbel⟩
        case measure => simp [intOf]; omega
end Go.Proofs.Ytcodlbfomfjmfaa
