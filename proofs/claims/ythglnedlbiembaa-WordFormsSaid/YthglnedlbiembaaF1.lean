/- u256.Int, tallageref01.Int, walked. -/
import Derived.Test.YthglnedlbiembaaUD
import Derived.Test.YthglnedlbiembaaBase
import Derived.Lib.QuietBelow
namespace Go.Proofs.Ythglnedlbiembaa
open Go.RowKit Go.Sort

def iv (a : Nat) : Nat := if a < 2 ^ 63 then a else 0
theorem iv_yes {a : Nat} (h : a < 2 ^ 63) : iv a = a := if_pos h
theorem iv_no {a : Nat} (h : ¬ a < 2 ^ 63) : iv a = 0 := if_neg h
theorem limb_small {a : Nat} (h : a < 2 ^ 64) : limb a 0 = a := by unfold limb; rw [Nat.mul_zero, Nat.pow_zero, Nat.div_one]; exact Nat.mod_eq_of_lt h
theorem limb_high {a i : Nat} (h : a < 2 ^ 64) (hi : 0 < i) : limb a i = 0 := by
  unfold limb
  rw [Nat.div_eq_of_lt (Nat.lt_of_lt_of_le h (Nat.pow_le_pow_right (by decide) (by omega)))]
theorem limb00 (a : Nat) : limb (limb a 0) 0 = limb a 0 := limb_small (limb_lt a 0)
theorem limb0i (a i : Nat) (hi : 0 < i) : limb (limb a 0) i = 0 := limb_high (limb_lt a 0) hi
theorem small_iff {a : Nat} : a = limb a 0 ↔ a < 2 ^ 64 := ⟨fun h => by rw [h]; exact limb_lt a 0, fun h => (limb_small h).symm⟩

theorem ofE_c (n : Nat) (w : World) : Calls Try.prog 39 #[.int .u64 (n : Nat)] w fun e w' => e = .returned (.agg #[.int .u64 (n : Nat), .int .u64 0, .int .u64 0, .int .u64 0]) ∧ Below w.heap.size w w' := of_walk n w

set_option maxRecDepth 100000 in
set_option maxHeartbeats 2000000 in
theorem int_walk (a : Nat) (w : World) (ha : a < 2 ^ 256) : Calls Try.prog 31 #[U a] w fun e w' => e = .returned (.tuple #[.int .i64 (iv a : Nat), .bool (decide (a < 2 ^ 63))]) ∧ Below w.heap.size w w' := by
  have heq := fun w => eq_run (a := a) (b := limb a 0) ha (Nat.lt_of_lt_of_le (limb_lt a 0) (by decide)) w
  have h1 := limb0i a 1 (by decide)
  have h2 := limb0i a 2 (by decide)
  have h3 := limb0i a 3 (by decide)
  simp only [limb00, h1, h2, h3, show ((0 : Nat) : Int) = 0 from rfl] at heq
  have T0 := Lib.hid (Arr.new4 (κ := .u64) (w := w) (t := 24) (f := limb a) (b := w.heap.size) rfl)
  obtain ⟨ok, hok⟩ : ∃ x, x = decide (a < 2 ^ 63) := ⟨_, rfl⟩
  obtain ⟨v, hv⟩ : ∃ x, x = iv a := ⟨_, rfl⟩
  have l0 := limb_lt a 0
  rw [← hok, ← hv]
  have Hok := Lib.hid hok
  have Hv := Lib.hid hv
  clear hok hv h1 h2 h3
  unfold U
  by_cases h64 : a < 2 ^ 64
  · have hd : decide (a = limb a 0) = true := decide_eq_true (small_iff.2 h64)
    have e0 := limb_small h64
    by_cases h63 : a < 2 ^ 63
    · have q1 : ¬ (9223372036854775807 : Int) < (limb a 0 : Int) := by rw [e0]; omega
      have q2 : IntKind.i64.wrap (limb a 0 : Int) = (limb a 0 : Int) := IntWalk.i64_in _ (by omega)
      have Hok2 := Lib.hid (show v = limb a 0 ∧ ok = true from ⟨by rw [Hv.out, e0]; exact iv_yes h63, by rw [Hok.out]; exact decide_eq_true h63⟩)
      clear h64 l0 ha e0 h63
      go_enter Try.func31, Try.ntmps31
      go_upto_region 1 with (fail)
      obtain ⟨W, hW⟩ : ∃ W, W = w.alloc (.cells #[.int .u64 (limb a 0 : Nat), .int .u64 (limb a 1 : Nat), .int .u64 (limb a 2 : Nat), .int .u64 (limb a 3 : Nat)] 24) := ⟨_, rfl⟩
      have tw : Arr .u64 W w.heap.size 4 (limb a) := by rw [hW]; exact T0.out
      have bel : Below w.heap.size w W := by rw [hW]; exact (Below.refl _ _).alloc (Nat.le_refl _) _
      rw [← hW]
      have hfin : ∀ dq osq, Below w.heap.size w (grow (redrawn W dq) osq) := fun dq osq => bel.trans ((below_regrown W dq osq).mono bel.size)
      have Hfin := Lib.hid hfin
      obtain ⟨u0, u1, u2, u3⟩ := tw.grow4
      clear hfin tw bel hW T0
      refine wp_region_quiet_below (by kernel_rfl) (by kernel_rfl) ?_
      repeat (quiet_step (first | (go_at_call 39; exact Calls.regrown_of (ofE_c _ _))))
      refine wpQuiet_nil ?_
      intro _ hw'
      obtain ⟨⟨dq, osq⟩, hw''⟩ := hw'
      subst hw''
      go_wp2
      refine bodyPost_ret (v := .tuple #[.int .i64 (limb a 0 : Nat), .bool true]) (by simp [results, Try.results31, go_sem]) rfl ⟨by rw [Hok2.out.1, Hok2.out.2], Hfin.out _ _⟩
    · have q1 : (9223372036854775807 : Int) < (limb a 0 : Int) := by rw [e0]; omega
      have Hok2 := Lib.hid (show v = 0 ∧ ok = false from ⟨by rw [Hv.out]; exact iv_no h63, by rw [Hok.out]; exact decide_eq_false h63⟩)
      clear h64 l0 ha e0 h63
      go_enter Try.func31, Try.ntmps31
      go_upto_region 1 with (fail)
      obtain ⟨W, hW⟩ : ∃ W, W = w.alloc (.cells #[.int .u64 (limb a 0 : Nat), .int .u64 (limb a 1 : Nat), .int .u64 (limb a 2 : Nat), .int .u64 (limb a 3 : Nat)] 24) := ⟨_, rfl⟩
      have tw : Arr .u64 W w.heap.size 4 (limb a) := by rw [hW]; exact T0.out
      have bel : Below w.heap.size w W := by rw [hW]; exact (Below.refl _ _).alloc (Nat.le_refl _) _
      rw [← hW]
      have hfin : ∀ dq osq, Below w.heap.size w (grow (redrawn W dq) osq) := fun dq osq => bel.trans ((below_regrown W dq osq).mono bel.size)
      have Hfin := Lib.hid hfin
      obtain ⟨u0, u1, u2, u3⟩ := tw.grow4
      clear hfin tw bel hW T0
      refine wp_region_quiet_below (by kernel_rfl) (by kernel_rfl) ?_
      repeat (quiet_step (first | (go_at_call 39; exact Calls.regrown_of (ofE_c _ _))))
      refine wpQuiet_nil ?_
      intro _ hw'
      obtain ⟨⟨dq, osq⟩, hw''⟩ := hw'
      subst hw''
      go_wp2
      refine bodyPost_ret (v := .tuple #[.int .i64 0, .bool false]) (by simp [results, Try.results31, go_sem]) rfl ⟨by rw [Hok2.out.1, Hok2.out.2]; rfl, Hfin.out _ _⟩

  · have hd : decide (a = limb a 0) = false := decide_eq_false (fun h => h64 (small_iff.1 h))
    have Hok2 := Lib.hid (show v = 0 ∧ ok = false from ⟨by rw [Hv.out]; exact iv_no (by omega), by rw [Hok.out]; exact decide_eq_false (by omega)⟩)
    clear h64 l0 ha
    go_enter Try.func31, Try.ntmps31
    go_upto_region 1 with (fail)
    obtain ⟨W, hW⟩ : ∃ W, W = w.alloc (.cells #[.int .u64 (limb a 0 : Nat), .int .u64 (limb a 1 : Nat), .int .u64 (limb a 2 : Nat), .int .u64 (limb a 3 : Nat)] 24) := ⟨_, rfl⟩
    have tw : Arr .u64 W w.heap.size 4 (limb a) := by rw [hW]; exact T0.out
    have bel : Below w.heap.size w W := by rw [hW]; exact (Below.refl _ _).alloc (Nat.le_refl _) _
    rw [← hW]
    have hfin : ∀ dq osq, Below w.heap.size w (grow (redrawn W dq) osq) := fun dq osq => bel.trans ((below_regrown W dq osq).mono bel.size)
    have Hfin := Lib.hid hfin
    obtain ⟨u0, u1, u2, u3⟩ := tw.grow4
    clear hfin tw bel hW T0
    refine wp_region_quiet_below (by kernel_rfl) (by kernel_rfl) ?_
    repeat (quiet_step (first | (go_at_call 39; exact Calls.regrown_of (ofE_c _ _))))
    refine wpQuiet_nil ?_
    intro _ hw'
    obtain ⟨⟨dq, osq⟩, hw''⟩ := hw'
    subst hw''
    go_wp2
    refine bodyPost_ret (v := .tuple #[.int .i64 0, .bool false]) (by simp [results, Try.results31, go_sem]) rfl ⟨by rw [Hok2.out.1, Hok2.out.2]; rfl, Hfin.out _ _⟩


theorem or_zero : bits BinOp.or IntKind.u64 0 0 = 0 := by decide
theorem or_nz {x y : Nat} (hx : x < 2 ^ 64) (hy : y < 2 ^ 64) : ∃ z : Nat, bits BinOp.or IntKind.u64 (x : Int) (y : Int) = (z : Int) ∧ z < 2 ^ 64 ∧ (z = 0 ↔ x = 0 ∧ y = 0) := by
  refine ⟨x ||| y, ?_, Nat.or_lt_two_pow hx hy, ?_⟩
  · exact u64_or_nat _ _ (by omega) (by omega)
  · rw [Nat.or_eq_zero_iff]
set_option maxRecDepth 100000 in
set_option maxHeartbeats 2000000 in
theorem rint_walk (a : Nat) (w : World) (ha : a < 2 ^ 256) : Calls Try.prog 32 #[U a] w fun e w' => e = .returned (.tuple #[.int .i64 (iv a : Nat), .bool (decide (a < 2 ^ 63))]) ∧ Below w.heap.size w w' := by
  obtain ⟨y, hy, hy64, hyz⟩ := or_nz (limb_lt a 1) (limb_lt a 2)
  obtain ⟨z, hz, hz64, hzz⟩ := or_nz hy64 (limb_lt a 3)
  have hz0 : z = 0 ↔ a < 2 ^ 64 := by
    rw [hzz, hyz]
    constructor
    · rintro ⟨⟨h1, h2⟩, h3⟩
      have h := limbs_eq ha (Nat.lt_of_lt_of_le (limb_lt a 0) (by decide : 2 ^ 64 ≤ 2 ^ 256))
      rw [limb00, limb0i a 1 (by decide), limb0i a 2 (by decide), limb0i a 3 (by decide), h1, h2, h3] at h
      have h' : decide (a = limb a 0) = true := by rw [← h]; simp
      exact small_iff.1 (of_decide_eq_true h')
    · intro h; exact ⟨⟨limb_high h (by decide), limb_high h (by decide)⟩, limb_high h (by decide)⟩
  obtain ⟨ok, hok⟩ : ∃ x, x = decide (a < 2 ^ 63) := ⟨_, rfl⟩
  obtain ⟨v, hv⟩ : ∃ x, x = iv a := ⟨_, rfl⟩
  rw [← hok, ← hv]
  have Hok := Lib.hid hok
  have Hv := Lib.hid hv
  clear hok hv hyz hzz hy64 hz64
  unfold U
  by_cases h64 : a < 2 ^ 64
  · have hd : ((z : Int) != 0) = false := by rw [hz0.2 h64]; rfl
    have e0 := limb_small h64
    by_cases h63 : a < 2 ^ 63
    · have q1 : ¬ (9223372036854775807 : Int) < (limb a 0 : Int) := by rw [e0]; omega
      have q2 : IntKind.i64.wrap (limb a 0 : Int) = (limb a 0 : Int) := IntWalk.i64_in _ (by omega)
      have Hok2 := Lib.hid (show v = limb a 0 ∧ ok = true from ⟨by rw [Hv.out, e0]; exact iv_yes h63, by rw [Hok.out]; exact decide_eq_true h63⟩)
      clear h64 ha e0 h63 hz0
      go_enter Try.func32, Try.ntmps32
      go_wp2
      refine bodyPost_ret (v := .tuple #[.int .i64 (limb a 0 : Nat), .bool true]) (by simp [results, Try.results32, go_sem]) rfl ⟨by rw [Hok2.out.1, Hok2.out.2], (Below.refl _ _).alloc (Nat.le_refl _) _⟩
    · have q1 : (9223372036854775807 : Int) < (limb a 0 : Int) := by rw [e0]; omega
      have Hok2 := Lib.hid (show v = 0 ∧ ok = false from ⟨by rw [Hv.out]; exact iv_no h63, by rw [Hok.out]; exact decide_eq_false h63⟩)
      clear h64 ha e0 h63 hz0
      go_enter Try.func32, Try.ntmps32
      go_wp2
      refine bodyPost_ret (v := .tuple #[.int .i64 0, .bool false]) (by simp [results, Try.results32, go_sem]) rfl ⟨by rw [Hok2.out.1, Hok2.out.2]; rfl, (Below.refl _ _).alloc (Nat.le_refl _) _⟩
  · have hd : ((z : Int) != 0) = true := by rw [bne_iff_ne]; intro h; exact h64 (hz0.1 (by omega))
    have Hok2 := Lib.hid (show v = 0 ∧ ok = false from ⟨by rw [Hv.out]; exact iv_no (by omega), by rw [Hok.out]; exact decide_eq_false (by omega)⟩)
    clear h64 ha hz0
    go_enter Try.func32, Try.ntmps32
    go_wp2
    refine bodyPost_ret (v := .tuple #[.int .i64 0, .bool false]) (by simp [results, Try.results32, go_sem]) rfl ⟨by rw [Hok2.out.1, Hok2.out.2]; rfl, (Below.refl _ _).alloc (Nat.le_refl _) _⟩
end Go.Proofs.Ythglnedlbiembaa
