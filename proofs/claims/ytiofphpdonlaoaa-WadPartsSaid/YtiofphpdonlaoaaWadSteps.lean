/- tallagelaw03.WadSteps, walked: it returns true. -/
import Derived.Test.YtiofphpdonlaoaaWadScales
namespace Go.Proofs.Ytiofphpdonlaoaa
open Go.RowKit Go.Sort

theorem keepA {W w' : World} (h : Below W.heap.size W w') (o : Obj) : Below W.heap.size W (w'.alloc o) := h.alloc h.size o
theorem keepD {W w' : World} (h : Below W.heap.size W w') : Below W.heap.size W w'.drew := below_drewN h 1
theorem keepP {W w' : World} {L : Nat} {x0 x1 x2 x3 : Value} (h : Below W.heap.size W w') (hL : W.heap.size ≤ L) : Below W.heap.size W ((((w'.setCell ⟨L, 0, none⟩ x0).setCell ⟨L, 1, none⟩ x1).setCell ⟨L, 2, none⟩ x2).setCell ⟨L, 3, none⟩ x3) := below_set4 h hL
theorem keepB {W w1 w2 : World} (h : Below W.heap.size W w1) (hb : Below w1.heap.size w1 w2) : Below W.heap.size W w2 := h.trans (hb.mono h.size)
theorem steps_x {a f : Nat} (ha : a < 2 ^ 256) (hf : f ≤ WAD) : qok a f WAD = true ∧ qv a f WAD = a * f / WAD ∧ qv a f WAD ≤ a := by
  have h1 : a * f / WAD ≤ a := Nat.div_le_of_le_mul (by rw [Nat.mul_comm WAD]; exact Nat.mul_le_mul_left a hf)
  have h : quoOk (a * f) WAD := ⟨by decide, by omega⟩
  unfold qok qv
  rw [decide_eq_true h, if_pos h]; exact ⟨rfl, rfl, h1⟩
theorem steps_z {b : Nat} (hb : b < 2 ^ 256) : qok b WAD WAD = true ∧ qv b WAD WAD = b := by
  have h := steps_x hb (Nat.le_refl WAD)
  exact ⟨h.1, by rw [h.2.1]; exact Nat.mul_div_cancel _ (by decide)⟩
theorem good_c (a : Nat) (w : World) (ok : Bool) (ha : a < 2 ^ 256) (h : decide (a ≤ WAD) = ok) : Calls Try.prog 61 #[U a] w fun e w' => e = .returned (.bool ok) ∧ Below w.heap.size w w' := by
  rw [← h]; exact good_walk a w ha
theorem amount_c (a : Nat) (w : World) (ok : Bool) (ha : a < 2 ^ 256) (h : decide (a ≤ MOST) = ok) : Calls Try.prog 63 #[U a] w fun e w' => e = .returned (.bool ok) ∧ Below w.heap.size w w' := by
  rw [← h]; exact amount_walk a w ha

theorem heldW {W w' : World} {B b : Nat} (hc : Arr .u64 W B 4 (limb b)) (h : Below W.heap.size W w') : w'.cell? ⟨B, 0, none⟩ = some (.int .u64 (limb b 0 : Nat)) ∧ w'.cell? ⟨B, 1, none⟩ = some (.int .u64 (limb b 1 : Nat)) ∧ w'.cell? ⟨B, 2, none⟩ = some (.int .u64 (limb b 2 : Nat)) ∧ w'.cell? ⟨B, 3, none⟩ = some (.int .u64 (limb b 3 : Nat)) ∧ Below W.heap.size W w' := by
  obtain ⟨a0, a1, a2, a3⟩ := (hc.below h hc.lt4).cells4
  exact ⟨a0, a1, a2, a3, h⟩
theorem un_heldW {W w' : World} {B b : Nat} (h : w'.cell? ⟨B, 0, none⟩ = some (.int .u64 (limb b 0 : Nat)) ∧ w'.cell? ⟨B, 1, none⟩ = some (.int .u64 (limb b 1 : Nat)) ∧ w'.cell? ⟨B, 2, none⟩ = some (.int .u64 (limb b 2 : Nat)) ∧ w'.cell? ⟨B, 3, none⟩ = some (.int .u64 (limb b 3 : Nat)) ∧ Below W.heap.size W w') : Below W.heap.size W w' := h.2.2.2.2

set_option maxRecDepth 100000 in
set_option maxHeartbeats 4000000 in
theorem wadSteps_walk (a b f : Nat) (w : World) (hal : a < 2 ^ 256) (hbl : b < 2 ^ 256) (hfl : f < 2 ^ 256) :
    Calls Try.prog 14 #[U a, U b, U f] w fun e w' => e = .returned (.bool true) ∧ Below w.heap.size w w' := by
  obtain ⟨c0, hc0⟩ : ∃ c, c = cmpU a b := ⟨_, rfl⟩
  obtain ⟨g1, hg1⟩ : ∃ g, g = decide (b ≤ MOST) := ⟨_, rfl⟩
  obtain ⟨g2, hg2⟩ : ∃ g, g = decide (f ≤ WAD) := ⟨_, rfl⟩
  have Hal := Lib.hid hal
  have Hbl := Lib.hid hbl
  have Hfl := Lib.hid hfl
  have Hc0 := Lib.hid hc0
  have Hg1 := Lib.hid hg1
  have Hg2 := Lib.hid hg2
  clear hal hbl hfl hc0 hg1 hg2
  have T0 := Lib.hid (three_first (a := a) (b := b) (d := f) (w := w) (t1 := 24) (t2 := 24) (t3 := 24))
  unfold U
  have part : (∃ h : Hid (0 < c0), True) ∨ (∃ h : Hid (¬ 0 < c0 ∧ g1 = false), True) ∨ (∃ h : Hid (¬ 0 < c0 ∧ g1 = true ∧ g2 = false), True) ∨ (∃ h : Hid (¬ 0 < c0 ∧ g1 = true ∧ g2 = true), True) := by
    by_cases h0 : 0 < c0
    · exact .inl ⟨Lib.hid h0, trivial⟩
    · cases h1 : g1
      · exact .inr (.inl ⟨Lib.hid ⟨h0, rfl⟩, trivial⟩)
      · cases h2 : g2
        · exact .inr (.inr (.inl ⟨Lib.hid ⟨h0, rfl, rfl⟩, trivial⟩))
        · exact .inr (.inr (.inr ⟨Lib.hid ⟨h0, rfl, rfl⟩, trivial⟩))
  rcases part with ⟨h, _⟩ | ⟨h, _⟩ | ⟨h, _⟩ | ⟨h, _⟩
  · have q0 := h.out
    go_enter Try.func14, Try.ntmps14
    go_wp2_with (first
      | (go_at_call 69; refine (lives3_walk _).mono ?_; rintro e w2 ⟨rfl, hb2⟩)
      | (go_at_call 23; refine (rcmp_walk a b _ Hal.out Hbl.out).mono ?_; rintro e w1 ⟨rfl, hb1⟩; rw [← Hc0.out]; have u1 := T0.out.below hb1))
    go_ret
    exact ⟨rfl, (u1.below hb2).l⟩
  · have q0 := h.out.1
    have q1 := h.out.2
    go_enter Try.func14, Try.ntmps14
    go_wp2_with (first
      | (go_at_call 69; refine (lives3_walk _).mono ?_; rintro e w3 ⟨rfl, hb3⟩)
      | (go_at_call 63; refine (amount_c b _ g1 Hbl.out Hg1.out.symm).mono ?_; rintro e w2 ⟨rfl, hb2⟩; have u2 := u1.below hb2)
      | (go_at_call 23; refine (rcmp_walk a b _ Hal.out Hbl.out).mono ?_; rintro e w1 ⟨rfl, hb1⟩; rw [← Hc0.out]; have u1 := T0.out.below hb1; obtain ⟨k0, k1, k2, k3⟩ := u1.b.cells4))
    go_ret
    exact ⟨rfl, (u2.below hb3).l⟩
  · have q0 := h.out.1
    have q1 := h.out.2.1
    have q2 := h.out.2.2
    go_enter Try.func14, Try.ntmps14
    go_wp2_with (first
      | (go_at_call 69; refine (lives3_walk _).mono ?_; rintro e w4 ⟨rfl, hb4⟩)
      | (go_at_call 61; refine (good_c f _ g2 Hfl.out Hg2.out.symm).mono ?_; rintro e w3 ⟨rfl, hb3⟩; have u3 := u2.below hb3)
      | (go_at_call 63; refine (amount_c b _ g1 Hbl.out Hg1.out.symm).mono ?_; rintro e w2 ⟨rfl, hb2⟩; have u2 := u1.below hb2; obtain ⟨l0, l1, l2, l3⟩ := u2.c.cells4)
      | (go_at_call 23; refine (rcmp_walk a b _ Hal.out Hbl.out).mono ?_; rintro e w1 ⟨rfl, hb1⟩; rw [← Hc0.out]; have u1 := T0.out.below hb1; obtain ⟨k0, k1, k2, k3⟩ := u1.b.cells4))
    go_ret
    exact ⟨rfl, (u3.below hb4).l⟩
  · have q0 := h.out.1
    have q1 := h.out.2.1
    have q2 := h.out.2.2
    have hab : a ≤ b := by have := q0; rw [Hc0.out] at this; exact (cmpU_le a b).1 (by omega)
    have hfW : f ≤ WAD := of_decide_eq_true (by rw [← Hg2.out]; exact q2)
    have X := steps_x Hal.out hfW
    have Y := steps_x Hbl.out hfW
    have Z := steps_z Hbl.out
    obtain ⟨x, hx⟩ : ∃ x, x = qv a f WAD := ⟨_, rfl⟩
    obtain ⟨y, hy⟩ : ∃ x, x = qv b f WAD := ⟨_, rfl⟩
    obtain ⟨c1, hc1⟩ : ∃ c, c = cmpU x y := ⟨_, rfl⟩
    obtain ⟨c2, hc2⟩ : ∃ c, c = cmpU y b := ⟨_, rfl⟩
    have r1 : c1 ≤ 0 := by rw [hc1, cmpU_le, hx, hy, X.2.1, Y.2.1]; exact Nat.div_le_div_right (Nat.mul_le_mul_right f hab)
    have r2 : c2 ≤ 0 := by rw [hc2, cmpU_le, hy]; exact Y.2.2
    have HX := Lib.hid (show qv a f WAD = x ∧ qok a f WAD = true ∧ x < 2 ^ 256 from ⟨hx.symm, X.1, by rw [hx]; exact qv_lt _ _ _⟩)
    have HY := Lib.hid (show qv b f WAD = y ∧ qok b f WAD = true ∧ y < 2 ^ 256 from ⟨hy.symm, Y.1, by rw [hy]; exact qv_lt _ _ _⟩)
    have HZ := Lib.hid Z
    have Hc1 := Lib.hid hc1
    have Hc2 := Lib.hid hc2
    have heqb := fun w => eq_run (a := b) (b := b) Hbl.out Hbl.out w
    clear X Y Z hx hy hc1 hc2 hab hfW
    go_enter Try.func14, Try.ntmps14
    go_upto_region 5 with (first
      | (go_at_call 51; with_reducible refine (partW_c b f _ Hbl.out Hfl.out).mono ?_; rintro e w5 ⟨rfl, hb5⟩; rw [HY.out.1, HY.out.2.1]; have u5 := (u4.alloc _).below hb5; have bx5 := (Box.new (n := x) rfl).below hb5; unfold U)
      | (go_at_call 51; with_reducible refine (partW_c a f _ Hal.out Hfl.out).mono ?_; rintro e w4 ⟨rfl, hb4⟩; rw [HX.out.1, HX.out.2.1]; have u4 := u3.below hb4; have s4 := u4.s; have z4 : w.heap.size + 1 < w4.heap.size := (by omega); obtain ⟨m0, m1, m2, m3⟩ := u4.b.cells4; obtain ⟨n0, n1, n2, n3⟩ := u4.c.cells4; unfold U)
      | (go_at_call 61; refine (good_c f _ g2 Hfl.out Hg2.out.symm).mono ?_; rintro e w3 ⟨rfl, hb3⟩; have u3 := u2.below hb3; obtain ⟨i0, i1, i2, i3⟩ := u3.a.cells4; obtain ⟨j0, j1, j2, j3⟩ := u3.c.cells4)
      | (go_at_call 63; refine (amount_c b _ g1 Hbl.out Hg1.out.symm).mono ?_; rintro e w2 ⟨rfl, hb2⟩; have u2 := u1.below hb2; obtain ⟨l0, l1, l2, l3⟩ := u2.c.cells4)
      | (go_at_call 23; refine (rcmp_walk a b _ Hal.out Hbl.out).mono ?_; rintro e w1 ⟨rfl, hb1⟩; rw [← Hc0.out]; have u1 := T0.out.below hb1; obtain ⟨k0, k1, k2, k3⟩ := u1.b.cells4))
    obtain ⟨W, hW⟩ : ∃ W, W = w5.alloc (.cells #[.int .u64 (limb y 0 : Nat), .int .u64 (limb y 1 : Nat), .int .u64 (limb y 2 : Nat), .int .u64 (limb y 3 : Nat)] 24) := ⟨_, rfl⟩
    have U6 := Lib.hid (show Three w W a b f by rw [hW]; exact u5.alloc _)
    have BX := Lib.hid (show Box W w4.heap.size x by rw [hW]; exact bx5.alloc _)
    have BY := Lib.hid (show Box W w5.heap.size y by rw [hW]; exact Box.new rfl)
    have HB := Lib.hid U6.out.b
    rw [← hW]
    obtain ⟨L7, hL7⟩ : ∃ n, n = w4.heap.size := ⟨_, rfl⟩
    obtain ⟨L9, hL9⟩ : ∃ n, n = w5.heap.size := ⟨_, rfl⟩
    rw [← hL7, ← hL9]
    rw [← hL7] at BX
    rw [← hL9] at BY
    clear hW hb1 hb2 hb3 hb4 hb5 u1 u2 u3 u4 u5 bx5 s4 z4 k0 k1 k2 k3 l0 l1 l2 l3 i0 i1 i2 i3 j0 j1 j2 j3 m0 m1 m2 m3 n0 n1 n2 n3 hL7 hL9
    go_cut [11, 12] (fun p k wx => ∃ L, p = .pointer (some ⟨L, 0, none⟩) ∧ k = .bool true ∧ Box wx L b ∧ Below W.heap.size W wx)
    case first =>
      go_region_held3 (fun w' => w'.cell? ⟨w.heap.size + 1, 0, none⟩ = some (.int .u64 (limb b 0 : Nat)) ∧ w'.cell? ⟨w.heap.size + 1, 1, none⟩ = some (.int .u64 (limb b 1 : Nat)) ∧ w'.cell? ⟨w.heap.size + 1, 2, none⟩ = some (.int .u64 (limb b 2 : Nat)) ∧ w'.cell? ⟨w.heap.size + 1, 3, none⟩ = some (.int .u64 (limb b 3 : Nat)) ∧ Below W.heap.size W w')
        ((refine heldW HB.out ?_; repeat (first | with_reducible exact k2 | with_reducible exact k1 | with_reducible exact Below.refl _ _ | with_reducible refine keepD ?_ | with_reducible refine keepA ?_ _ | with_reducible refine keepP ?_ (by omega) | with_reducible exact un_heldW (by with_reducible assumption))))
        (first
          | (go_at_call 51; refine (part_walk b WAD _ Hbl.out WAD_lt).mono ?_; rintro e v2 ⟨rfl, hv2⟩; rw [HZ.out.1, HZ.out.2]; have k2 := keepB (un_heldW (by with_reducible assumption)) hv2; have y2 := hv2.size; (try simp at y2); (first | (with_reducible have zA2 := carry0 zA hv2) | skip); (first | (with_reducible have zC2 := z_one hv2) | skip); (first | (obtain ⟨_, _, _, _⟩ := zA2.frees4; obtain ⟨_, _, _, _⟩ := zA2.cells4; have lA := zA2.lt4) | skip); (first | (obtain ⟨_, _, _, _⟩ := zC2.frees4; obtain ⟨_, _, _, _⟩ := zC2.cells4; have lC := zC2.lt4) | skip); unfold U)
          | (go_at_call 70; refine (one_walk _).mono ?_; rintro e v1 ⟨rfl, hv1⟩; have k1 := keepB (un_heldW (by with_reducible assumption)) hv1; have y1 := k1.size; (first | (with_reducible have zA := z_one_d hv1) | skip); unfold U))
      all_goals
        go_wp2
        go_meet
        case rel =>
          refine ⟨_, rfl, rfl, ⟨?_, ?_⟩, ?_⟩
          · repeat (first | with_reducible assumption | with_reducible exact Arr.new4 (f := limb b) rfl | with_reducible refine Arr.put4 (f := fun _ => 0) ?_)
          · simp only [World.size_setCell, World.size_alloc]; omega
          · repeat (first | with_reducible exact k2 | with_reducible refine keepA ?_ _ | with_reducible refine keepP ?_ (by omega))
    case rest =>
      obtain ⟨L, rfl, rfl, bz, hbl⟩ := hcut
      have u6 := U6.out.below hbl
      have bx6 := BX.out.below hbl
      have by6 := BY.out.below hbl
      obtain ⟨p0, p1, p2, p3⟩ := bx6.a.cells4
      obtain ⟨r0, r1', r2', r3⟩ := by6.a.cells4
      go_wp2_with (first
        | (go_at_call 69; refine (lives3_walk _).mono ?_; rintro e w9 ⟨rfl, hb9⟩)
        | (go_at_call 23; with_reducible refine (rcmpW_c y b _ HY.out.2.2 Hbl.out).mono ?_; rintro e w8 ⟨rfl, hb8⟩; rw [← Hc2.out]; have u8 := u7.below hb8; have bz8 := bz7.below hb8; obtain ⟨v0, v1, v2, v3⟩ := bz8.a.cells4; obtain ⟨v0', v1', v2', v3'⟩ := u8.b.cells4)
        | (go_at_call 23; with_reducible refine (rcmpW_c x y _ HX.out.2.2 HY.out.2.2).mono ?_; rintro e w7 ⟨rfl, hb7⟩; rw [← Hc1.out]; have u7 := u6.below hb7; have by7 := by6.below hb7; have bz7 := bz.below hb7; obtain ⟨s0, s1, s2, s3⟩ := by7.a.cells4; obtain ⟨s0', s1', s2', s3'⟩ := bz7.a.cells4))
      go_ret
      exact ⟨rfl, (u8.below hb9).l⟩
end Go.Proofs.Ytiofphpdonlaoaa
