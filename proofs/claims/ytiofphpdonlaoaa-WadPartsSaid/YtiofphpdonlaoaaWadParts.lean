/- tallagelaw03.WadParts, walked: it returns true. -/
import Derived.Test.YtiofphpdonlaoaaWadSteps
namespace Go.Proofs.Ytiofphpdonlaoaa
open Go.RowKit Go.Sort

theorem parts_sum {a f : Nat} (ha : a < 2 ^ 256) (hf : f ≤ WAD) : uok a (WAD - f) WAD = true ∧ qv a f WAD + uv a (WAD - f) WAD = a := by
  have X := steps_x ha hf
  have hW : 0 < WAD := by decide
  have Y : uok a (WAD - f) WAD = true ∧ uv a (WAD - f) WAD = upVal (a * (WAD - f)) WAD := by
    have h := scales_y ha (Nat.sub_le WAD f) (show WAD ≠ 0 by decide)
    refine ⟨h.1, ?_⟩
    unfold uv
    unfold uok at h
    rw [if_pos (of_decide_eq_true h.1)]
  refine ⟨Y.1, ?_⟩
  rw [Y.2, X.2.1]
  have e : a * f + a * (WAD - f) = a * WAD := by rw [← Nat.mul_add]; congr 1; omega
  have h1 := Nat.div_add_mod (a * f) WAD
  have h2 := Nat.mod_lt (a * f) hW
  have h3 := Nat.div_add_mod (a * (WAD - f)) WAD
  have h4 := Nat.mod_lt (a * (WAD - f)) hW
  generalize a * f = p at *
  generalize a * (WAD - f) = q at *
  unfold upVal
  generalize p / WAD = i at *
  generalize q / WAD = j at *
  generalize p % WAD = r at *
  generalize q % WAD = s at *
  have h5 : WAD * i + r + (WAD * j + s) = a * WAD := by rw [h1, h3]; exact e
  have h6 : WAD * (i + j) + (r + s) = WAD * a := by rw [Nat.mul_add, Nat.mul_comm WAD a]; omega
  clear h1 h3 e h5
  by_cases hs : s = 0
  · rw [if_pos hs]
    have h7 : i + j ≤ a := by
      rcases Nat.lt_or_ge a (i + j) with h | h
      · have := Nat.mul_le_mul_left WAD (show a + 1 ≤ i + j from h); simp only [Nat.mul_add] at this h6; omega
      · exact h
    obtain ⟨k, hk⟩ : ∃ k, a = i + j + k := ⟨a - (i + j), by omega⟩
    rw [hk] at h6; simp only [Nat.mul_add] at h6
    rcases Nat.eq_zero_or_pos k with h | h
    · omega
    · have := Nat.mul_le_mul_left WAD h; omega
  · rw [if_neg hs]
    obtain ⟨k, hk⟩ | h7 : (∃ k, a = i + j + k) ∨ a < i + j := by
      rcases Nat.lt_or_ge a (i + j) with h | h
      · exact .inr h
      · exact .inl ⟨a - (i + j), by omega⟩
    · rw [hk] at h6; simp only [Nat.mul_add] at h6
      rcases (show k = 0 ∨ k = 1 ∨ 2 ≤ k by omega) with h | h | h
      · rw [h] at h6; omega
      · omega
      · have := Nat.mul_le_mul_left WAD h; omega
    · have := Nat.mul_le_mul_left WAD (show a + 1 ≤ i + j from h7); simp only [Nat.mul_add] at this h6; omega

set_option maxRecDepth 100000 in
set_option maxHeartbeats 4000000 in
theorem wadParts_walk (a f : Nat) (w : World) (hal : a < 2 ^ 256) (hfl : f < 2 ^ 256) :
    Calls Try.prog 12 #[U a, U f] w fun e w' => e = .returned (.bool true) ∧ Below w.heap.size w w' := by
  obtain ⟨g1, hg1⟩ : ∃ g, g = decide (f ≤ WAD) := ⟨_, rfl⟩
  obtain ⟨g2, hg2⟩ : ∃ g, g = decide (a ≤ MOST) := ⟨_, rfl⟩
  have Hal := Lib.hid hal
  have Hfl := Lib.hid hfl
  have Hg1 := Lib.hid hg1
  have Hg2 := Lib.hid hg2
  clear hal hfl hg1 hg2
  have T0 := Lib.hid (two_first (a := a) (b := f) (w := w) (t1 := 24) (t2 := 24))
  unfold U
  have part : (∃ h : Hid (g1 = false), True) ∨ (∃ h : Hid (g1 = true ∧ g2 = false), True) ∨ (∃ h : Hid (g1 = true ∧ g2 = true), True) := by
    cases h1 : g1
    · exact .inl ⟨Lib.hid rfl, trivial⟩
    · cases h2 : g2
      · exact .inr (.inl ⟨Lib.hid ⟨rfl, rfl⟩, trivial⟩)
      · exact .inr (.inr ⟨Lib.hid ⟨rfl, rfl⟩, trivial⟩)
  rcases part with ⟨h, _⟩ | ⟨h, _⟩ | ⟨h, _⟩
  · have q1 := h.out
    go_enter Try.func12, Try.ntmps12
    go_wp2_with (first
      | (go_at_call 69; refine (lives3_walk _).mono ?_; rintro e w2 ⟨rfl, hb2⟩)
      | (go_at_call 61; refine (good_c f _ g1 Hfl.out Hg1.out.symm).mono ?_; rintro e w1 ⟨rfl, hb1⟩; have u1 := T0.out.below hb1))
    go_ret
    exact ⟨rfl, (u1.below hb2).l⟩
  · have q1 := h.out.1
    have q2 := h.out.2
    go_enter Try.func12, Try.ntmps12
    go_wp2_with (first
      | (go_at_call 69; refine (lives3_walk _).mono ?_; rintro e w3 ⟨rfl, hb3⟩)
      | (go_at_call 63; refine (amount_c a _ g2 Hal.out Hg2.out.symm).mono ?_; rintro e w2 ⟨rfl, hb2⟩; have u2 := u1.below hb2)
      | (go_at_call 61; refine (good_c f _ g1 Hfl.out Hg1.out.symm).mono ?_; rintro e w1 ⟨rfl, hb1⟩; have u1 := T0.out.below hb1; obtain ⟨k0, k1, k2, k3⟩ := u1.a.cells4))
    go_ret
    exact ⟨rfl, (u2.below hb3).l⟩
  · have q1 := h.out.1
    have q2 := h.out.2
    have hfW : f ≤ WAD := of_decide_eq_true (by rw [← Hg1.out]; exact q1)
    have X := steps_x Hal.out hfW
    have Y := parts_sum Hal.out hfW
    obtain ⟨r, hr⟩ : ∃ x, x = WAD - f := ⟨_, rfl⟩
    have S : subv WAD f = r ∧ subk WAD f = true ∧ r < 2 ^ 256 := ⟨by rw [hr]; exact if_pos hfW, decide_eq_true hfW, by have := WAD_lt; omega⟩
    rw [← hr] at Y
    obtain ⟨x, hx⟩ : ∃ x, x = qv a f WAD := ⟨_, rfl⟩
    obtain ⟨y, hy⟩ : ∃ x, x = uv a r WAD := ⟨_, rfl⟩
    obtain ⟨c1, hc1⟩ : ∃ c, c = cmpU x a := ⟨_, rfl⟩
    have r1 : c1 ≤ 0 := by rw [hc1, cmpU_le, hx]; exact X.2.2
    have hxy : x + y = a := by rw [hx, hy]; exact Y.2
    have HA := Lib.hid (show addv x y = a ∧ addk x y = true by unfold addv addk; rw [hxy, if_pos Hal.out, decide_eq_true Hal.out]; exact ⟨rfl, rfl⟩)
    have HX := Lib.hid (show qv a f WAD = x ∧ qok a f WAD = true ∧ x < 2 ^ 256 from ⟨hx.symm, X.1, by rw [hx]; exact qv_lt _ _ _⟩)
    have HY := Lib.hid (show uv a r WAD = y ∧ uok a r WAD = true ∧ y < 2 ^ 256 from ⟨hy.symm, Y.1, by rw [hy]; exact uv_lt _ _ _⟩)
    have HS := Lib.hid S
    have Hc1 := Lib.hid hc1
    have heqa := fun w => eq_run (a := a) (b := a) Hal.out Hal.out w
    clear X Y hx hy hc1 hfW hr S hxy
    go_enter Try.func12, Try.ntmps12
    go_upto_region 3 with (first
      | (go_at_call 63; refine (amount_c a _ g2 Hal.out Hg2.out.symm).mono ?_; rintro e w2 ⟨rfl, hb2⟩; have u2 := u1.below hb2)
      | (go_at_call 61; refine (good_c f _ g1 Hfl.out Hg1.out.symm).mono ?_; rintro e w1 ⟨rfl, hb1⟩; have u1 := T0.out.below hb1; obtain ⟨k0, k1, k2, k3⟩ := u1.a.cells4))
    obtain ⟨W, hW⟩ : ∃ W, W = w2 := ⟨_, rfl⟩
    rw [← hW] at u2
    have U6 := Lib.hid u2
    have HB := Lib.hid U6.out.b
    rw [← hW]
    clear hW hb1 hb2 u1 u2 k0 k1 k2 k3
    go_cut [5] (fun p wx => ∃ L, p = .pointer (some ⟨L, 0, none⟩) ∧ Box wx L r ∧ Below W.heap.size W wx)
    case first =>
      go_region_held3 (fun w' => w'.cell? ⟨w.heap.size + 1, 0, none⟩ = some (.int .u64 (limb f 0 : Nat)) ∧ w'.cell? ⟨w.heap.size + 1, 1, none⟩ = some (.int .u64 (limb f 1 : Nat)) ∧ w'.cell? ⟨w.heap.size + 1, 2, none⟩ = some (.int .u64 (limb f 2 : Nat)) ∧ w'.cell? ⟨w.heap.size + 1, 3, none⟩ = some (.int .u64 (limb f 3 : Nat)) ∧ Below W.heap.size W w')
        ((refine heldW HB.out ?_; repeat (first | with_reducible exact k2 | with_reducible exact k1 | with_reducible exact Below.refl _ _ | with_reducible refine keepD ?_ | with_reducible refine keepA ?_ _ | with_reducible refine keepP ?_ (by omega) | with_reducible exact un_heldW (by with_reducible assumption))))
        (first
          | (go_at_call 18; refine (rsub_walk WAD f _ WAD_lt Hfl.out).mono ?_; rintro e v2 ⟨rfl, hv2⟩; rw [HS.out.1, HS.out.2.1]; have k2 := keepB (un_heldW (by with_reducible assumption)) hv2; have y2 := hv2.size; (try simp at y2); (first | (with_reducible have zA2 := carry0 zA hv2) | skip); (first | (with_reducible have zC2 := z_one hv2) | skip); (first | (obtain ⟨_, _, _, _⟩ := zA2.frees4; obtain ⟨_, _, _, _⟩ := zA2.cells4; have lA := zA2.lt4) | skip); (first | (obtain ⟨_, _, _, _⟩ := zC2.frees4; obtain ⟨_, _, _, _⟩ := zC2.cells4; have lC := zC2.lt4) | skip); unfold U)
          | (go_at_call 70; refine (one_walk _).mono ?_; rintro e v1 ⟨rfl, hv1⟩; have k1 := keepB (un_heldW (by with_reducible assumption)) hv1; have y1 := k1.size; (first | (with_reducible have zA := z_one_d hv1) | skip); unfold U))
      all_goals
        go_wp2
        go_meet
        case rel =>
          refine ⟨_, rfl, ⟨?_, ?_⟩, ?_⟩
          · repeat (first | with_reducible assumption | with_reducible exact Arr.new4 (f := limb r) rfl | with_reducible refine Arr.put4 (f := fun _ => 0) ?_)
          · simp only [World.size_setCell, World.size_alloc]; omega
          · repeat (first | with_reducible exact k2 | with_reducible refine keepA ?_ _ | with_reducible refine keepP ?_ (by omega))
    case rest =>
      obtain ⟨L, rfl, br, hbl⟩ := hcut
      have u6 := U6.out.below hbl
      obtain ⟨p0, p1, p2, p3⟩ := u6.a.cells4
      obtain ⟨r0, r1', r2', r3⟩ := u6.b.cells4
      go_wp2_with (first
        | (go_at_call 69; refine (lives3_walk _).mono ?_; rintro e w9 ⟨rfl, hb9⟩)
        | (go_at_call 23; refine (rcmp_walk x a _ HX.out.2.2 Hal.out).mono ?_; rintro e w8 ⟨rfl, hb8⟩; rw [← Hc1.out]; have u8 := (u5.alloc _).below hb8)
        | (go_at_call 16; refine (radd_walk x y _ HX.out.2.2 HY.out.2.2).mono ?_; rintro e w5 ⟨rfl, hb5⟩; rw [HA.out.1, HA.out.2]; have u5 := (u4.alloc _).below hb5; have bx5 := (bx4.alloc _).below hb5; have s5 := u5.s; have la5 : w.heap.size < w5.heap.size := (by omega); have lx5 := bx5.s; obtain ⟨t0, t1, t2, t3⟩ := u5.a.cells4; obtain ⟨t0', t1', t2', t3'⟩ := bx5.a.cells4; unfold U)
        | (go_at_call 53; refine (partUp_walk a r _ Hal.out HS.out.2.2).mono ?_; rintro e w4 ⟨rfl, hb4⟩; rw [HY.out.1, HY.out.2.1]; have u4 := (u3.alloc _).below hb4; have bx4 := (Box.new (n := x) rfl).below hb4; have lx4 := bx4.s; obtain ⟨n0, n1, n2, n3⟩ := bx4.a.cells4; unfold U)
        | (go_at_call 51; refine (part_walk a f _ Hal.out Hfl.out).mono ?_; rintro e w3 ⟨rfl, hb3⟩; rw [HX.out.1, HX.out.2.1]; have u3 := u6.below hb3; have br3 := br.below hb3; have lr3 := br3.s; have la3 : w.heap.size < w3.heap.size := (by have := u3.s; omega); obtain ⟨m0, m1, m2, m3⟩ := u3.a.cells4; obtain ⟨m0', m1', m2', m3'⟩ := br3.a.cells4; unfold U))
      go_ret
      exact ⟨rfl, (u8.below hb9).l⟩
end Go.Proofs.Ytiofphpdonlaoaa
