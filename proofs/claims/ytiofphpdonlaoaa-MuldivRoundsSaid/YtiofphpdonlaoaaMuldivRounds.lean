/- tallagelaw02.MuldivRounds, walked: it returns true. -/
import Derived.Test.YtiofphpdonlaoaaR8
import Derived.Test.YtiofphpdonlaoaaM8
namespace Go.Proofs.Ytiofphpdonlaoaa
open Go.RowKit Go.Sort

theorem mulG_c (a b H L : Nat) (w : World) (ha : a < 2 ^ 256) (hb : b < 2 ^ 256) (hH : H = a * b / 2 ^ 256) (hL : L = a * b % 2 ^ 256) :
    Calls Try.prog 44 #[.agg #[.int .u64 (limb a 0 : Nat), .int .u64 (limb a 1 : Nat), .int .u64 (limb a 2 : Nat), .int .u64 (limb a 3 : Nat)], .agg #[.int .u64 (limb b 0 : Nat), .int .u64 (limb b 1 : Nat), .int .u64 (limb b 2 : Nat), .int .u64 (limb b 3 : Nat)]] w fun e w' => e = .returned (WW H L) ∧ Below w.heap.size w w' := wmulH_walk a b H L w ha hb hH hL
theorem three_first' {a b d : Nat} {w : World} {t1 t2 t3 : TypeId} :
    Three w (((w.alloc (.cells #[.int .u64 (limb a 0 : Nat), .int .u64 (limb a 1 : Nat), .int .u64 (limb a 2 : Nat), .int .u64 (limb a 3 : Nat)] t1)).alloc (.cells #[.int .u64 (limb b 0 : Nat), .int .u64 (limb b 1 : Nat), .int .u64 (limb b 2 : Nat), .int .u64 (limb b 3 : Nat)] t2)).alloc (.cells #[.int .u64 (limb d 0 : Nat), .int .u64 (limb d 1 : Nat), .int .u64 (limb d 2 : Nat), .int .u64 (limb d 3 : Nat)] t3)) a b d :=
  ⟨((Arr.new4 (f := limb a) rfl).alloc _).alloc _, (Arr.new4 (f := limb b) (by simp)).alloc _, Arr.new4 (f := limb d) (by simp), (((Below.refl _ _).alloc (Nat.le_refl _) _).alloc (by simp only [World.size_alloc]; omega) _).alloc (by simp only [World.size_alloc]; omega) _, by simp⟩

set_option maxRecDepth 100000 in
set_option maxHeartbeats 4000000 in
theorem rounds_no (a b d : Nat) (w : World) (hal : a < 2 ^ 256) (hbl : b < 2 ^ 256) (hdl : d < 2 ^ 256) (hk : ¬ quoOk (a * b) d) :
    Calls Try.prog 9 #[U a, U b, U d] w fun e w' => e = .returned (.bool true) ∧ Below w.heap.size w w' := by
  have X := up_no hk
  obtain ⟨x, hx⟩ : ∃ x, x = qv a b d := ⟨_, rfl⟩
  have heqx := fun w => eq0_run (a := x) (by rw [hx]; exact qv_lt _ _ _) w
  have dx : decide (x = 0) = true := decide_eq_true (by rw [hx]; exact X.2.2.1)
  have HX := Lib.hid (show qv a b d = x ∧ qok a b d = false from ⟨hx.symm, X.2.2.2⟩)
  have Hal := Lib.hid hal
  have Hbl := Lib.hid hbl
  have Hdl := Lib.hid hdl
  clear hal hbl hdl hk X hx
  have T0 := Lib.hid (three_first' (a := a) (b := b) (d := d) (w := w) (t1 := 24) (t2 := 24) (t3 := 24))
  unfold U
  go_enter Try.func9, Try.ntmps9
  go_wp2_with (first
    | (go_at_call 46; refine (lives2_walk _).mono ?_; rintro e w2 ⟨rfl, hb2⟩)
    | (go_at_call 40; refine (down_walk a b d _ Hal.out Hbl.out Hdl.out).mono ?_; rintro e w1 ⟨rfl, hb1⟩; rw [HX.out.1, HX.out.2]; have u1 := T0.out.below hb1; unfold U))
  go_ret
  exact ⟨rfl, ((u1.alloc _).below hb2).l⟩

set_option maxRecDepth 100000 in
set_option maxHeartbeats 8000000 in
theorem rounds_yes (a b d : Nat) (w : World) (hal : a < 2 ^ 256) (hbl : b < 2 ^ 256) (hdl : d < 2 ^ 256) (hk : quoOk (a * b) d) :
    Calls Try.prog 9 #[U a, U b, U d] w fun e w' => e = .returned (.bool true) ∧ Below w.heap.size w w' := by
  obtain ⟨x, hx⟩ : ∃ x, x = qv a b d := ⟨_, rfl⟩
  have hx2 : x = a * b / d := by rw [hx]; exact if_pos hk
  have hxl : x < 2 ^ 256 := by rw [hx]; exact qv_lt _ _ _
  obtain ⟨PH, hPH⟩ : ∃ x, x = a * b / 2 ^ 256 := ⟨_, rfl⟩
  obtain ⟨PL, hPL⟩ : ∃ x, x = a * b % 2 ^ 256 := ⟨_, rfl⟩
  obtain ⟨LH, hLH⟩ : ∃ y, y = x * d / 2 ^ 256 := ⟨_, rfl⟩
  obtain ⟨LL, hLL⟩ : ∃ y, y = x * d % 2 ^ 256 := ⟨_, rfl⟩
  have hp := mul_halves hal hbl
  have hl := mul_halves hxl hdl
  rw [← hPH, ← hPL] at hp
  rw [← hLH, ← hLL] at hl
  obtain ⟨RL, hRL⟩ : ∃ y, y = a * b % d := ⟨_, rfl⟩
  obtain ⟨RH, hRH⟩ : ∃ y : Nat, y = 0 := ⟨_, rfl⟩
  have hRd : RL < d := by rw [hRL]; exact Nat.mod_lt _ (Nat.pos_of_ne_zero hk.1)
  have hsum : LH * 2 ^ 256 + LL + (RH * 2 ^ 256 + RL) = PH * 2 ^ 256 + PL := by
    rw [hl.2.2, hp.2.2, hRH, hRL, hx2, Nat.zero_mul, Nat.zero_add, Nat.mul_comm]; exact Nat.div_add_mod _ _
  have heven : (PH = LH ∧ PL = LL) ↔ a * b % d = 0 := by
    rw [← hRL]
    have h1 := hp.2.1
    have h2 := hl.2.1
    constructor
    · rintro ⟨rfl, rfl⟩; omega
    · intro h; omega
  obtain ⟨y, hy⟩ : ∃ x, x = uv a b d := ⟨_, rfl⟩
  obtain ⟨is, his⟩ : ∃ x, x = uok a b d := ⟨_, rfl⟩
  have heqW := fun w => eqWW_run (H := PH) (L := PL) (H' := LH) (L' := LL) hp.1 hp.2.1 hl.1 hl.2.1 w
  unfold WW at heqW
  have HX := Lib.hid (show qv a b d = x ∧ qok a b d = true ∧ x < 2 ^ 256 from ⟨hx.symm, decide_eq_true hk, hxl⟩)
  have HP := Lib.hid (show PH = a * b / 2 ^ 256 ∧ PL = a * b % 2 ^ 256 ∧ PH < 2 ^ 256 ∧ PL < 2 ^ 256 from ⟨hPH, hPL, hp.1, hp.2.1⟩)
  have HL := Lib.hid (show LH = x * d / 2 ^ 256 ∧ LL = x * d % 2 ^ 256 ∧ LH < 2 ^ 256 ∧ LL < 2 ^ 256 from ⟨hLH, hLL, hl.1, hl.2.1⟩)
  have HR := Lib.hid (show RH = 0 ∧ RL < d ∧ RH < 2 ^ 256 ∧ RL < 2 ^ 256 from ⟨hRH, hRd, by rw [hRH]; decide, by omega⟩)
  have HY := Lib.hid (show uv a b d = y ∧ uok a b d = is ∧ y < 2 ^ 256 from ⟨hy.symm, his.symm, by rw [hy]; exact uv_lt _ _ _⟩)
  have Hsum := Lib.hid hsum
  have Hal := Lib.hid hal
  have Hbl := Lib.hid hbl
  have Hdl := Lib.hid hdl
  have Hk := Lib.hid hk
  have heqy := fun w => eq_run (a := y) (b := y) HY.out.2.2 HY.out.2.2 w
  have T0 := Lib.hid (three_first' (a := a) (b := b) (d := d) (w := w) (t1 := 24) (t2 := 24) (t3 := 24))
  by_cases h0 : a * b % d = 0
  · have E := up_even hk h0
    have dw : decide (PH = LH ∧ PL = LL) = true := decide_eq_true (heven.2 h0)
    have his1 : is = true := by rw [his]; exact E.1
    have hyx : y = x := by rw [hy, hx]; exact E.2.1
    have Hyx := Lib.hid hyx
    have heqyx := fun w => eq_run (a := y) (b := x) HY.out.2.2 HX.out.2.2 w
    have dyx : decide (y = x) = true := decide_eq_true hyx
    clear hal hbl hdl hk hx hx2 hxl hPH hPL hLH hLL hp hl hRL hRH hRd hsum heven hy his h0 E hyx
    unfold U
    go_enter Try.func9, Try.ntmps9
    go_wp2_with (first
      | (go_at_call 46; refine (lives2_walk _).mono ?_; rintro e w9 ⟨rfl, hb9⟩)
      | (go_at_call 42; refine (up_walk a b d _ Hal.out Hbl.out Hdl.out).mono ?_; rintro e w6 ⟨rfl, hb6⟩; rw [HY.out.1, HY.out.2.1]; have u6 := u5.below hb6; have bx6 := bx5.below hb6; have p6 := p5.below hb6; have q6 := q5.below hb6; have lx6 := bx6.s; have lp6 := p6.s; have lq6 := q6.s; obtain ⟨x0, x1, x2, x3⟩ := bx6.a.cells4; obtain ⟨p0, p1, p2, p3, p4', p5', p6', p7'⟩ := wh_cells p6.a; obtain ⟨q0, q1, q2, q3, q4', q5', q6', q7'⟩ := wh_cells q6.a; unfold U)
      | (go_at_call 50; refine (below_walk LR RH RL d _ hLR HR.out.2.2.1 HR.out.2.2.2 Hdl.out HR.out.1 HR.out.2.1).mono ?_; rintro e w5 ⟨rfl, hb5⟩; have u5 := u4.below hb5; have bx5 := bx4.below hb5; have p5 := p4.below hb5; have q5 := q4.below hb5; obtain ⟨a50, a51, a52, a53⟩ := u5.a.cells4; obtain ⟨b50, b51, b52, b53⟩ := u5.b.cells4; obtain ⟨c50, c51, c52, c53⟩ := u5.c.cells4)
      | (go_at_call 49; refine (less_walk PH PL LH LL RH RL _ HP.out.2.2.1 HP.out.2.2.2 HL.out.2.2.1 HL.out.2.2.2 Hsum.out HR.out.2.2.2).mono ?_; rintro e w4 ⟨⟨LR, rfl, hLR⟩, hb4⟩; have u4 := (u3.alloc _).below hb4; have bx4 := (bx3.alloc _).below hb4; have p4 := (p3.alloc _).below hb4; have q4 := (Wide8.new (H := LH) (Lo := LL)).below hb4; obtain ⟨c40, c41, c42, c43⟩ := u4.c.cells4)
      | (go_at_call 44; with_reducible refine (mulG_c x d LH LL _ HX.out.2.2 Hdl.out HL.out.1 HL.out.2.1).mono ?_; rintro e w3 ⟨rfl, hb3⟩; have u3 := (u2.alloc _).below hb3; have bx3 := (bx2.alloc _).below hb3; have p3 := (Wide8.new (H := PH) (Lo := PL)).below hb3; have lp3 := p3.s; obtain ⟨r0, r1, r2, r3, r4, r5, r6, r7⟩ := wh_cells p3.a; unfold WW)
      | (go_at_call 44; with_reducible refine (mulG_c a b PH PL _ Hal.out Hbl.out HP.out.1 HP.out.2.1).mono ?_; rintro e w2 ⟨rfl, hb2⟩; have u2 := (u1.alloc _).below hb2; have bx2 := (Box.new (n := x) rfl).below hb2; have lx2 := bx2.s; have s2 := u2.s; obtain ⟨x20, x21, x22, x23⟩ := bx2.a.cells4; obtain ⟨c20, c21, c22, c23⟩ := u2.c.cells4; unfold WW)
      | (go_at_call 40; refine (down_walk a b d _ Hal.out Hbl.out Hdl.out).mono ?_; rintro e w1 ⟨rfl, hb1⟩; rw [HX.out.1, HX.out.2.1]; have u1 := T0.out.below hb1; have s1 := u1.s; have la1 : w.heap.size < w1.heap.size := (by omega); have lb1 : w.heap.size + 1 < w1.heap.size := (by omega); obtain ⟨a10, a11, a12, a13⟩ := u1.a.cells4; obtain ⟨b10, b11, b12, b13⟩ := u1.b.cells4; unfold U))
    go_ret
    exact ⟨rfl, ((u6.alloc _).below hb9).l⟩
  · have O := up_odd hk h0
    have dw : decide (PH = LH ∧ PL = LL) = false := decide_eq_false (fun h => h0 (heven.1 h))
    have HN := Lib.hid (show addv x 1 = y ∧ addk x 1 = is from ⟨by rw [hy, hx]; exact O.2.1.symm, by rw [his, hx]; exact O.1.symm⟩)
    have bis : (is == is) = true := by cases is <;> rfl
    clear hal hbl hdl hk hx hx2 hxl hPH hPL hLH hLL hp hl hRL hRH hRd hsum heven hy his h0 O
    unfold U
    go_enter Try.func9, Try.ntmps9
    go_wp2_with (first
      | (go_at_call 46; refine (lives2_walk _).mono ?_; rintro e w9 ⟨rfl, hb9⟩)
      | (go_at_call 16; with_reducible refine (radd1_c x _ HX.out.2.2).mono ?_; rintro e w7 ⟨rfl, hb7⟩; rw [HN.out.1, HN.out.2]; have u7 := (u6.alloc _).below hb7; have by7 := (Box.new (n := y) rfl).below hb7; have ly7 := by7.s; obtain ⟨y0, y1, y2, y3⟩ := by7.a.cells4; unfold U)
      | (go_at_call 42; refine (up_walk a b d _ Hal.out Hbl.out Hdl.out).mono ?_; rintro e w6 ⟨rfl, hb6⟩; rw [HY.out.1, HY.out.2.1]; have u6 := u5.below hb6; have bx6 := bx5.below hb6; have p6 := p5.below hb6; have q6 := q5.below hb6; have lx6 := bx6.s; have lp6 := p6.s; have lq6 := q6.s; obtain ⟨x0, x1, x2, x3⟩ := bx6.a.cells4; obtain ⟨p0, p1, p2, p3, p4', p5', p6', p7'⟩ := wh_cells p6.a; obtain ⟨q0, q1, q2, q3, q4', q5', q6', q7'⟩ := wh_cells q6.a; unfold U)
      | (go_at_call 50; refine (below_walk LR RH RL d _ hLR HR.out.2.2.1 HR.out.2.2.2 Hdl.out HR.out.1 HR.out.2.1).mono ?_; rintro e w5 ⟨rfl, hb5⟩; have u5 := u4.below hb5; have bx5 := bx4.below hb5; have p5 := p4.below hb5; have q5 := q4.below hb5; obtain ⟨a50, a51, a52, a53⟩ := u5.a.cells4; obtain ⟨b50, b51, b52, b53⟩ := u5.b.cells4; obtain ⟨c50, c51, c52, c53⟩ := u5.c.cells4)
      | (go_at_call 49; refine (less_walk PH PL LH LL RH RL _ HP.out.2.2.1 HP.out.2.2.2 HL.out.2.2.1 HL.out.2.2.2 Hsum.out HR.out.2.2.2).mono ?_; rintro e w4 ⟨⟨LR, rfl, hLR⟩, hb4⟩; have u4 := (u3.alloc _).below hb4; have bx4 := (bx3.alloc _).below hb4; have p4 := (p3.alloc _).below hb4; have q4 := (Wide8.new (H := LH) (Lo := LL)).below hb4; obtain ⟨c40, c41, c42, c43⟩ := u4.c.cells4)
      | (go_at_call 44; with_reducible refine (mulG_c x d LH LL _ HX.out.2.2 Hdl.out HL.out.1 HL.out.2.1).mono ?_; rintro e w3 ⟨rfl, hb3⟩; have u3 := (u2.alloc _).below hb3; have bx3 := (bx2.alloc _).below hb3; have p3 := (Wide8.new (H := PH) (Lo := PL)).below hb3; have lp3 := p3.s; obtain ⟨r0, r1, r2, r3, r4, r5, r6, r7⟩ := wh_cells p3.a; unfold WW)
      | (go_at_call 44; with_reducible refine (mulG_c a b PH PL _ Hal.out Hbl.out HP.out.1 HP.out.2.1).mono ?_; rintro e w2 ⟨rfl, hb2⟩; have u2 := (u1.alloc _).below hb2; have bx2 := (Box.new (n := x) rfl).below hb2; have lx2 := bx2.s; have s2 := u2.s; obtain ⟨x20, x21, x22, x23⟩ := bx2.a.cells4; obtain ⟨c20, c21, c22, c23⟩ := u2.c.cells4; unfold WW)
      | (go_at_call 40; refine (down_walk a b d _ Hal.out Hbl.out Hdl.out).mono ?_; rintro e w1 ⟨rfl, hb1⟩; rw [HX.out.1, HX.out.2.1]; have u1 := T0.out.below hb1; have s1 := u1.s; have la1 : w.heap.size < w1.heap.size := (by omega); have lb1 : w.heap.size + 1 < w1.heap.size := (by omega); obtain ⟨a10, a11, a12, a13⟩ := u1.a.cells4; obtain ⟨b10, b11, b12, b13⟩ := u1.b.cells4; unfold U))
    go_ret
    exact ⟨rfl, ((u7.alloc _).below hb9).l⟩

theorem muldivRounds_walk (a b d : Nat) (w : World) (hal : a < 2 ^ 256) (hbl : b < 2 ^ 256) (hdl : d < 2 ^ 256) :
    Calls Try.prog 9 #[U a, U b, U d] w fun e w' => e = .returned (.bool true) ∧ Below w.heap.size w w' := by
  by_cases hk : quoOk (a * b) d
  · exact rounds_yes a b d w hal hbl hdl hk
  · exact rounds_no a b d w hal hbl hdl hk
end Go.Proofs.Ytiofphpdonlaoaa
