/- tallagelaw02.MuldivScales, walked: it returns true. -/
import Derived.Test.YtiofphpdonlaoaaM8
namespace Go.Proofs.Ytiofphpdonlaoaa
open Go.RowKit Go.Sort

theorem scale_x {a b : Nat} (ha : a < 2 ^ 256) (hb : b ≠ 0) : qok a b b = true ∧ qv a b b = a := by
  have e : a * b / b = a := Nat.mul_div_cancel _ (by omega)
  have h : quoOk (a * b) b := ⟨hb, by rw [e]; exact ha⟩
  unfold qok qv
  rw [decide_eq_true h, if_pos h, e]; exact ⟨rfl, rfl⟩
theorem scale_y {a b : Nat} (hb : b < 2 ^ 256) (ha : a ≠ 0) : uok a b a = true ∧ uv a b a = b := by
  have e : upVal (a * b) a = b := by unfold upVal; rw [if_pos (Nat.mul_mod_right _ _), Nat.mul_div_cancel_left _ (by omega)]
  have h : upOk (a * b) a := ⟨ha, by rw [e]; exact hb⟩
  unfold uok uv
  rw [decide_eq_true h, if_pos h, e]; exact ⟨rfl, rfl⟩
theorem scale_x0 (a : Nat) : qok a 0 0 = false := decide_eq_false fun h => h.1 rfl
theorem scale_y0 (b : Nat) : uok 0 b 0 = false := decide_eq_false fun h => h.1 rfl

theorem wmulW_ab (a b H L : Nat) (w : World) (ha : a < 2 ^ 256) (hb : b < 2 ^ 256) (hH : H = a * b / 2 ^ 256) (hL : L = a * b % 2 ^ 256) :
    Calls Try.prog 44 #[.agg #[.int .u64 (limb a 0 : Nat), .int .u64 (limb a 1 : Nat), .int .u64 (limb a 2 : Nat), .int .u64 (limb a 3 : Nat)], .agg #[.int .u64 (limb b 0 : Nat), .int .u64 (limb b 1 : Nat), .int .u64 (limb b 2 : Nat), .int .u64 (limb b 3 : Nat)]] w fun e w' =>
      e = .returned (.agg #[.int .u64 (limb H 0 : Nat), .int .u64 (limb H 1 : Nat), .int .u64 (limb H 2 : Nat), .int .u64 (limb H 3 : Nat), .int .u64 (limb L 0 : Nat), .int .u64 (limb L 1 : Nat), .int .u64 (limb L 2 : Nat), .int .u64 (limb L 3 : Nat)]) ∧ Below w.heap.size w w' := wmulH_walk a b H L w ha hb hH hL
theorem wmulW_ba (a b H L : Nat) (w : World) (ha : a < 2 ^ 256) (hb : b < 2 ^ 256) (hH : H = a * b / 2 ^ 256) (hL : L = a * b % 2 ^ 256) :
    Calls Try.prog 44 #[.agg #[.int .u64 (limb b 0 : Nat), .int .u64 (limb b 1 : Nat), .int .u64 (limb b 2 : Nat), .int .u64 (limb b 3 : Nat)], .agg #[.int .u64 (limb a 0 : Nat), .int .u64 (limb a 1 : Nat), .int .u64 (limb a 2 : Nat), .int .u64 (limb a 3 : Nat)]] w fun e w' =>
      e = .returned (.agg #[.int .u64 (limb H 0 : Nat), .int .u64 (limb H 1 : Nat), .int .u64 (limb H 2 : Nat), .int .u64 (limb H 3 : Nat), .int .u64 (limb L 0 : Nat), .int .u64 (limb L 1 : Nat), .int .u64 (limb L 2 : Nat), .int .u64 (limb L 3 : Nat)]) ∧ Below w.heap.size w w' := wmulH_walk b a H L w hb ha (by rw [hH, Nat.mul_comm]) (by rw [hL, Nat.mul_comm])

set_option maxRecDepth 100000 in
set_option maxHeartbeats 4000000 in
theorem muldivScales_walk (a b : Nat) (w : World) (hal : a < 2 ^ 256) (hbl : b < 2 ^ 256) :
    Calls Try.prog 10 #[U a, U b] w fun e w' => e = .returned (.bool true) ∧ Below w.heap.size w w' := by
  obtain ⟨x, hx⟩ : ∃ x, x = qv a b b := ⟨_, rfl⟩
  obtain ⟨ok, hok⟩ : ∃ x, x = qok a b b := ⟨_, rfl⟩
  obtain ⟨y, hy⟩ : ∃ x, x = uv a b a := ⟨_, rfl⟩
  obtain ⟨is, his⟩ : ∃ x, x = uok a b a := ⟨_, rfl⟩
  have heqb := fun w => eq0_run hbl w
  have heqa := fun w => eq0_run hal w
  have heqx := fun w => eq_run (a := x) (b := a) (by rw [hx]; exact qv_lt _ _ _) hal w
  have heqy := fun w => eq_run (a := y) (b := b) (by rw [hy]; exact uv_lt _ _ _) hbl w
  have Hal := Lib.hid hal
  have Hbl := Lib.hid hbl
  have Hx := Lib.hid hx
  have Hok := Lib.hid hok
  have Hy := Lib.hid hy
  have His := Lib.hid his
  clear hal hbl hx hok hy his
  unfold U
  go_enter Try.func10, Try.ntmps10
  go_wp2_with fail
  refine (down_walk a b b _ Hal.out Hbl.out Hbl.out).mono ?_
  rintro e w1 ⟨rfl, hb1⟩
  rw [← Hx.out, ← Hok.out]
  unfold U
  have t1 : Two' w w1 a b := Two'.below ⟨(Arr.new4 (f := limb a) rfl).alloc _, Arr.new4 (f := limb b) (by simp), ((Below.refl _ _).alloc (Nat.le_refl _) _).alloc (by simp only [World.size_alloc]; omega) _, by simp⟩ hb1
  have t1s := t1.s
  obtain ⟨a0, a1, a2, a3⟩ := t1.a.cells4
  obtain ⟨b0, b1, b2, b3⟩ := t1.b.cells4
  have za : w.heap.size < w1.heap.size := by omega
  clear hb1
  go_wp2_with fail
  refine (up_walk a b a _ Hal.out Hbl.out Hal.out).mono ?_
  rintro e w2 ⟨rfl, hb2⟩
  rw [← Hy.out, ← His.out]
  unfold U
  have t2 : Two' w w2 a b := (t1.alloc _).below hb2
  have x2 : Box w2 w1.heap.size x := (Box.new rfl).below hb2
  clear a0 a1 a2 a3 b0 b1 b2 b3 hb2 t1s za
  go_upto_region 3 with (fail)
  obtain ⟨W, hW⟩ : ∃ W, W = w2.alloc (.cells #[.int .u64 (limb y 0 : Nat), .int .u64 (limb y 1 : Nat), .int .u64 (limb y 2 : Nat), .int .u64 (limb y 3 : Nat)] 24) := ⟨_, rfl⟩
  have t3 : Two' w W a b := by rw [hW]; exact t2.alloc _
  have x3 : Box W w1.heap.size x := by rw [hW]; exact x2.alloc _
  have y3 : Box W w2.heap.size y := by rw [hW]; exact Box.new rfl
  rw [← hW]
  clear hW t1 t2 x2
  obtain ⟨a0, a1, a2, a3⟩ := t3.a.cells4
  obtain ⟨b0, b1, b2, b3⟩ := t3.b.cells4
  obtain ⟨x0, x1, x2, x3'⟩ := x3.a.cells4
  obtain ⟨y0, y1, y2, y3'⟩ := y3.a.cells4
  have T3 := Lib.hid t3
  clear t3 x3 y3
  have hfin : ∀ dq osq, Below w.heap.size w (grow (redrawn W dq) osq) := fun dq osq => T3.out.l.trans ((below_regrown W dq osq).mono (by have := T3.out.s; omega))
  have Hfin := Lib.hid hfin
  clear hfin
  obtain ⟨H, hH⟩ : ∃ x, x = a * b / 2 ^ 256 := ⟨_, rfl⟩
  obtain ⟨L, hL⟩ : ∃ x, x = a * b % 2 ^ 256 := ⟨_, rfl⟩
  have hh := mul_halves Hal.out Hbl.out
  rw [← hH, ← hL] at hh
  have heqW := fun w => eqWW_run (H := H) (L := L) (H' := H) (L' := L) hh.1 hh.2.1 hh.1 hh.2.1 w
  unfold WW at heqW
  have HH := Lib.hid hH
  have HL := Lib.hid hL
  clear hH hL hh
  have K : Hid ((b = 0 → ok = false) ∧ (b ≠ 0 → ok = true ∧ x = a) ∧ (a = 0 → is = false) ∧ (a ≠ 0 → is = true ∧ y = b)) := Lib.hid (by
    refine ⟨fun h => ?_, fun h => ?_, fun h => ?_, fun h => ?_⟩
    · rw [Hok.out, h]; exact scale_x0 _
    · rw [Hok.out, Hx.out]; exact scale_x Hal.out h
    · rw [His.out, h]; exact scale_y0 _
    · rw [His.out, Hy.out]; exact scale_y Hbl.out h)
  have da : decide (a = 0) = true ∨ decide (a = 0) = false := by by_cases h : a = 0 <;> simp [h]
  have db : decide (b = 0) = true ∨ decide (b = 0) = false := by by_cases h : b = 0 <;> simp [h]
  rcases db with db | db
  · have kb : ok = false := K.out.1 (of_decide_eq_true db)
    rcases da with da | da
    · have ka : is = false := K.out.2.2.1 (of_decide_eq_true da)
      go_upto_region 7 with (fail)
      clear heqb heqa heqx heqy
      obtain ⟨a0', a1', a2', a3''⟩ := T3.out.a.grow4
      obtain ⟨b0', b1', b2', b3''⟩ := T3.out.b.grow4
      refine wp_region_quiet_below (by kernel_rfl) (by kernel_rfl) ?_
      repeat (quiet_step (first | (go_at_call 44; with_reducible exact Calls.regrown_of (wmulW_ab a b H L _ Hal.out Hbl.out HH.out HL.out)) | (go_at_call 44; with_reducible exact Calls.regrown_of (wmulW_ba a b H L _ Hal.out Hbl.out HH.out HL.out)) | (go_at_call 46; with_reducible exact Calls.regrown_of (lives2_walk _))))
      refine wpQuiet_nil ?_
      intro _ hw'
      obtain ⟨⟨dq, osq⟩, hw''⟩ := hw'
      subst hw''
      go_wp2
      go_ret
      exact ⟨rfl, Hfin.out _ _⟩
    · have ka := K.out.2.2.2 (of_decide_eq_false da)
      obtain ⟨ka, ky⟩ := ka
      have dy : decide (y = b) = true := decide_eq_true ky
      clear ky
      go_upto_region 7 with (fail)
      clear heqb heqa heqx heqy
      obtain ⟨a0', a1', a2', a3''⟩ := T3.out.a.grow4
      obtain ⟨b0', b1', b2', b3''⟩ := T3.out.b.grow4
      refine wp_region_quiet_below (by kernel_rfl) (by kernel_rfl) ?_
      repeat (quiet_step (first | (go_at_call 44; with_reducible exact Calls.regrown_of (wmulW_ab a b H L _ Hal.out Hbl.out HH.out HL.out)) | (go_at_call 44; with_reducible exact Calls.regrown_of (wmulW_ba a b H L _ Hal.out Hbl.out HH.out HL.out)) | (go_at_call 46; with_reducible exact Calls.regrown_of (lives2_walk _))))
      refine wpQuiet_nil ?_
      intro _ hw'
      obtain ⟨⟨dq, osq⟩, hw''⟩ := hw'
      subst hw''
      go_wp2
      go_ret
      exact ⟨rfl, Hfin.out _ _⟩
  · have kb := K.out.2.1 (of_decide_eq_false db)
    obtain ⟨kb, kx⟩ := kb
    have dx : decide (x = a) = true := decide_eq_true kx
    clear kx
    rcases da with da | da
    · have ka : is = false := K.out.2.2.1 (of_decide_eq_true da)
      go_upto_region 7 with (fail)
      clear heqb heqa heqx heqy
      obtain ⟨a0', a1', a2', a3''⟩ := T3.out.a.grow4
      obtain ⟨b0', b1', b2', b3''⟩ := T3.out.b.grow4
      refine wp_region_quiet_below (by kernel_rfl) (by kernel_rfl) ?_
      repeat (quiet_step (first | (go_at_call 44; with_reducible exact Calls.regrown_of (wmulW_ab a b H L _ Hal.out Hbl.out HH.out HL.out)) | (go_at_call 44; with_reducible exact Calls.regrown_of (wmulW_ba a b H L _ Hal.out Hbl.out HH.out HL.out)) | (go_at_call 46; with_reducible exact Calls.regrown_of (lives2_walk _))))
      refine wpQuiet_nil ?_
      intro _ hw'
      obtain ⟨⟨dq, osq⟩, hw''⟩ := hw'
      subst hw''
      go_wp2
      go_ret
      exact ⟨rfl, Hfin.out _ _⟩
    · have ka := K.out.2.2.2 (of_decide_eq_false da)
      obtain ⟨ka, ky⟩ := ka
      have dy : decide (y = b) = true := decide_eq_true ky
      clear ky
      go_upto_region 7 with (fail)
      clear heqb heqa heqx heqy
      obtain ⟨a0', a1', a2', a3''⟩ := T3.out.a.grow4
      obtain ⟨b0', b1', b2', b3''⟩ := T3.out.b.grow4
      refine wp_region_quiet_below (by kernel_rfl) (by kernel_rfl) ?_
      repeat (quiet_step (first | (go_at_call 44; with_reducible exact Calls.regrown_of (wmulW_ab a b H L _ Hal.out Hbl.out HH.out HL.out)) | (go_at_call 44; with_reducible exact Calls.regrown_of (wmulW_ba a b H L _ Hal.out Hbl.out HH.out HL.out)) | (go_at_call 46; with_reducible exact Calls.regrown_of (lives2_walk _))))
      refine wpQuiet_nil ?_
      intro _ hw'
      obtain ⟨⟨dq, osq⟩, hw''⟩ := hw'
      subst hw''
      go_wp2
      go_ret
      exact ⟨rfl, Hfin.out _ _⟩
end Go.Proofs.Ytiofphpdonlaoaa
