/- tallagelaw03.WadScales, walked: it returns true. -/
import Derived.Test.YtiofphpdonlaoaaW4
import Derived.Test.YtiofphpdonlaoaaR7C
namespace Go.Proofs.Ytiofphpdonlaoaa
open Go.RowKit Go.Sort

/-- three numbers in boxes that came in, three in boxes made later -/
structure Six (w wr : World) (a b c x y z L7 L9 L11 : Nat) : Prop where
  t : Three w wr a b c
  x : Box wr L7 x
  y : Box wr L9 y
  z : Box wr L11 z
theorem Six.below {w wr w' : World} {a b c x y z L7 L9 L11 : Nat} (h : Six w wr a b c x y z L7 L9 L11) (hb : Below wr.heap.size wr w') : Six w w' a b c x y z L7 L9 L11 := ⟨h.t.below hb, h.x.below hb, h.y.below hb, h.z.below hb⟩
theorem scales_x {a t f : Nat} (ha : a < 2 ^ 256) (htf : t ≤ f) (hf : f ≠ 0) : qok a t f = true ∧ qv a t f ≤ a := by
  have h1 : a * t / f ≤ a := Nat.div_le_of_le_mul (by rw [Nat.mul_comm f]; exact Nat.mul_le_mul_left a htf)
  have h : quoOk (a * t) f := ⟨hf, by omega⟩
  unfold qok qv
  rw [decide_eq_true h, if_pos h]; exact ⟨rfl, h1⟩
theorem scales_y {a t f : Nat} (ha : a < 2 ^ 256) (htf : t ≤ f) (hf : f ≠ 0) : uok a t f = true ∧ uv a t f ≤ a ∧ qv a t f ≤ uv a t f := by
  have h1 : a * t / f ≤ a := Nat.div_le_of_le_mul (by rw [Nat.mul_comm f]; exact Nat.mul_le_mul_left a htf)
  have h2 : upVal (a * t) f ≤ a ∧ a * t / f ≤ upVal (a * t) f := by
    unfold upVal
    by_cases hr : a * t % f = 0
    · rw [if_pos hr]; exact ⟨h1, Nat.le_refl _⟩
    · rw [if_neg hr]
      refine ⟨?_, by omega⟩
      have h3 := Nat.div_add_mod (a * t) f
      have h4 := Nat.mul_le_mul_left a htf
      rcases Nat.eq_or_lt_of_le h1 with e | e
      · rw [e, Nat.mul_comm f a] at h3; omega
      · exact e
  have h : upOk (a * t) f := ⟨hf, by omega⟩
  have hq : quoOk (a * t) f := ⟨hf, by omega⟩
  unfold uok uv qv
  rw [decide_eq_true h, if_pos h, if_pos hq]; exact ⟨rfl, h2.1, h2.2⟩
theorem scales_w {a f : Nat} (ha : a < 2 ^ 256) (hf : f ≠ 0) : qok a f f = true ∧ qv a f f = a := by
  have e : a * f / f = a := Nat.mul_div_cancel _ (by omega)
  have h : quoOk (a * f) f := ⟨hf, by rw [e]; exact ha⟩
  unfold qok qv
  rw [decide_eq_true h, if_pos h, e]; exact ⟨rfl, rfl⟩
theorem three_first {a b d : Nat} {w : World} {t1 t2 t3 : TypeId} :
    Three w (((w.alloc (.cells #[.int .u64 (limb a 0 : Nat), .int .u64 (limb a 1 : Nat), .int .u64 (limb a 2 : Nat), .int .u64 (limb a 3 : Nat)] t1)).alloc (.cells #[.int .u64 (limb b 0 : Nat), .int .u64 (limb b 1 : Nat), .int .u64 (limb b 2 : Nat), .int .u64 (limb b 3 : Nat)] t2)).alloc (.cells #[.int .u64 (limb d 0 : Nat), .int .u64 (limb d 1 : Nat), .int .u64 (limb d 2 : Nat), .int .u64 (limb d 3 : Nat)] t3)) a b d :=
  ⟨((Arr.new4 (f := limb a) rfl).alloc _).alloc _, (Arr.new4 (f := limb b) (by simp)).alloc _, Arr.new4 (f := limb d) (by simp), (((Below.refl _ _).alloc (Nat.le_refl _) _).alloc (by simp only [World.size_alloc]; omega) _).alloc (by simp only [World.size_alloc]; omega) _, by simp⟩

set_option maxRecDepth 100000 in
set_option maxHeartbeats 4000000 in
theorem wadScales_walk (a t f : Nat) (w : World) (hal : a < 2 ^ 256) (htl : t < 2 ^ 256) (hfl : f < 2 ^ 256) :
    Calls Try.prog 13 #[U a, U t, U f] w fun e w' => e = .returned (.bool true) ∧ Below w.heap.size w w' := by
  have heqf := fun w => eq0_run hfl w
  obtain ⟨c0, hc0⟩ : ∃ c, c = cmpU t f := ⟨_, rfl⟩
  have Hal := Lib.hid hal
  have Htl := Lib.hid htl
  have Hfl := Lib.hid hfl
  have Hc0 := Lib.hid hc0
  clear hal htl hfl hc0
  have T0 := Lib.hid (three_first (a := a) (b := t) (d := f) (w := w) (t1 := 24) (t2 := 24) (t3 := 24))
  unfold U
  by_cases htf : t ≤ f
  · have q0 : ¬ 0 < c0 := by rw [Hc0.out]; have := (cmpU_le t f).2 htf; omega
    have Htf := Lib.hid htf
    clear htf
    by_cases hf0 : f = 0
    · have df : decide (f = 0) = true := decide_eq_true hf0
      clear hf0
      go_enter Try.func13, Try.ntmps13
      go_wp2_with (first
        | (go_at_call 69; refine (lives3_walk _).mono ?_; rintro e w2 ⟨rfl, hb2⟩)
        | (go_at_call 23; refine (rcmp_walk t f _ Htl.out Hfl.out).mono ?_; rintro e w1 ⟨rfl, hb1⟩; rw [← Hc0.out]; have u1 := T0.out.below hb1; obtain ⟨k0, k1, k2, k3⟩ := u1.c.cells4))
      go_ret
      exact ⟨rfl, (u1.below hb2).l⟩
    · have df : decide (f = 0) = false := decide_eq_false hf0
      have X := scales_x Hal.out Htf.out hf0
      have Y := scales_y Hal.out Htf.out hf0
      have Z := scales_w Hal.out hf0
      obtain ⟨x, hx⟩ : ∃ x, x = qv a t f := ⟨_, rfl⟩
      obtain ⟨y, hy⟩ : ∃ x, x = uv a t f := ⟨_, rfl⟩
      obtain ⟨c1, hc1⟩ : ∃ c, c = cmpU x a := ⟨_, rfl⟩
      obtain ⟨c2, hc2⟩ : ∃ c, c = cmpU y a := ⟨_, rfl⟩
      obtain ⟨c3, hc3⟩ : ∃ c, c = cmpU x y := ⟨_, rfl⟩
      have q1 : c1 ≤ 0 := by rw [hc1, cmpU_le, hx]; exact X.2
      have q2 : c2 ≤ 0 := by rw [hc2, cmpU_le, hy]; exact Y.2.1
      have q3 : c3 ≤ 0 := by rw [hc3, cmpU_le, hx, hy]; exact Y.2.2
      have HX := Lib.hid (show qv a t f = x ∧ qok a t f = true ∧ x < 2 ^ 256 from ⟨hx.symm, X.1, by rw [hx]; exact qv_lt _ _ _⟩)
      have HY := Lib.hid (show uv a t f = y ∧ uok a t f = true ∧ y < 2 ^ 256 from ⟨hy.symm, Y.1, by rw [hy]; exact uv_lt _ _ _⟩)
      have HZ := Lib.hid Z
      have Hf0 := Lib.hid hf0
      have Hc1 := Lib.hid hc1
      have Hc2 := Lib.hid hc2
      have Hc3 := Lib.hid hc3
      have heqa := fun w => eq_run (a := a) (b := a) Hal.out Hal.out w
      clear hf0 X Y Z hx hy hc1 hc2 hc3
      go_enter Try.func13, Try.ntmps13
      go_wp2_with (first
        | (go_at_call 69; refine (lives3_walk _).mono ?_; rintro e w8 ⟨rfl, hb8⟩)
        | (go_at_call 23; with_reducible refine (rcmpW_c x y _ HX.out.2.2 HY.out.2.2).mono ?_; rintro e w7 ⟨rfl, hb7⟩; rw [← Hc3.out]; have u7 := u6.below hb7; have bz7 := bz6.below hb7; obtain ⟨v0, v1, v2, v3⟩ := bz7.a.cells4; obtain ⟨v0', v1', v2', v3'⟩ := u7.a.cells4)
        | (go_at_call 23; with_reducible refine (rcmpW_c y a _ HY.out.2.2 Hal.out).mono ?_; rintro e w6 ⟨rfl, hb6⟩; rw [← Hc2.out]; have u6 := u5.below hb6; have bx6 := bx5.below hb6; have by6 := by5.below hb6; have bz6 := bz5.below hb6; obtain ⟨r0, r1, r2, r3⟩ := bx6.a.cells4; obtain ⟨r0', r1', r2', r3'⟩ := by6.a.cells4)
        | (go_at_call 23; with_reducible refine (rcmpW_c x a _ HX.out.2.2 Hal.out).mono ?_; rintro e w5 ⟨rfl, hb5⟩; rw [← Hc1.out]; have u5 := (u4.alloc _).below hb5; have bx5 := (bx4.alloc _).below hb5; have by5 := (by4.alloc _).below hb5; have bz5 := (Box.new (n := a) rfl).below hb5; obtain ⟨p0, p1, p2, p3⟩ := by5.a.cells4; obtain ⟨p0', p1', p2', p3'⟩ := u5.a.cells4)
        | (go_at_call 57; with_reducible refine (scaleW_c a f f _ Hal.out Hfl.out Hfl.out Hf0.out).mono ?_; rintro e w4 ⟨rfl, hb4⟩; rw [HZ.out.1, HZ.out.2]; have u4 := (u3.alloc _).below hb4; have bx4 := (bx3.alloc _).below hb4; have by4 := (Box.new (n := y) rfl).below hb4; have lx4 := bx4.s; have ly4 := by4.s; have la4 : w.heap.size < w4.heap.size := (by have := u4.s; omega); obtain ⟨n0, n1, n2, n3⟩ := bx4.a.cells4; obtain ⟨o0, o1, o2, o3⟩ := u4.a.cells4; unfold U)
        | (go_at_call 59; refine (scaleUp_walk a t f _ Hal.out Htl.out Hfl.out Hf0.out).mono ?_; rintro e w3 ⟨rfl, hb3⟩; rw [HY.out.1, HY.out.2.1]; have u3 := (u2.alloc _).below hb3; have bx3 := (Box.new (n := x) rfl).below hb3; have s3 := u3.s; have z3 : w.heap.size < w3.heap.size := (by omega); have z3' : w.heap.size + 1 + 1 < w3.heap.size := (by omega); obtain ⟨i0, i1, i2, i3⟩ := u3.a.cells4; obtain ⟨m0, m1, m2, m3⟩ := u3.c.cells4; unfold U)
        | (go_at_call 57; refine (scale_walk a t f _ Hal.out Htl.out Hfl.out Hf0.out).mono ?_; rintro e w2 ⟨rfl, hb2⟩; rw [HX.out.1, HX.out.2.1]; have u2 := u1.below hb2; have s2 := u2.s; have z2 : w.heap.size < w2.heap.size := (by omega); have z2' : w.heap.size + 1 < w2.heap.size := (by omega); obtain ⟨h0, h1, h2, h3⟩ := u2.a.cells4; obtain ⟨j0, j1, j2, j3⟩ := u2.b.cells4; obtain ⟨l0, l1, l2, l3⟩ := u2.c.cells4; unfold U)
        | (go_at_call 23; with_reducible refine (rcmpW_c t f _ Htl.out Hfl.out).mono ?_; rintro e w1 ⟨rfl, hb1⟩; rw [← Hc0.out]; have u1 := T0.out.below hb1; obtain ⟨f0, f1, f2, f3⟩ := u1.a.cells4; obtain ⟨g0, g1, g2, g3⟩ := u1.b.cells4; obtain ⟨k0, k1, k2, k3⟩ := u1.c.cells4))
      go_ret
      exact ⟨rfl, (u7.below hb8).l⟩
  · have q0 : 0 < c0 := by rw [Hc0.out]; exact Int.not_le.1 (fun h => htf ((cmpU_le t f).1 h))
    clear htf
    go_enter Try.func13, Try.ntmps13
    go_wp2_with (first
      | (go_at_call 69; refine (lives3_walk _).mono ?_; rintro e w2 ⟨rfl, hb2⟩)
      | (go_at_call 23; refine (rcmp_walk t f _ Htl.out Hfl.out).mono ?_; rintro e w1 ⟨rfl, hb1⟩; rw [← Hc0.out]; have u1 := T0.out.below hb1))
    go_ret
    exact ⟨rfl, (u1.below hb2).l⟩
end Go.Proofs.Ytiofphpdonlaoaa
