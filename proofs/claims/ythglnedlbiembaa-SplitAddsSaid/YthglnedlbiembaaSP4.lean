/- tallagelaw34.SplitAdds, walked. -/
import Derived.Test.YthglnedlbiembaaSP3
import Derived.Test.YthglnedlbiembaaR7C
import Derived.OpenShut
namespace Go.Proofs.Ythglnedlbiembaa
open Go.RowKit Go.Sort

theorem or_hi {a : Nat} (ha : a < 2 ^ 256) (hm : ¬ a ≤ MOST) : (bits BinOp.or IntKind.u64 (limb a 2 : Nat) (limb a 3 : Nat) != 0) = true := by
  rw [u64_or_nat _ _ (Nat.lt_of_lt_of_le (limb_lt a 2) (by decide)) (Nat.lt_of_lt_of_le (limb_lt a 3) (by decide)), bne_iff_ne]
  intro h
  have h0 : limb a 2 ||| limb a 3 = 0 := by omega
  rw [Nat.or_eq_zero_iff] at h0
  have hv := val_limb a 4
  rw [Nat.mod_eq_of_lt ha] at hv
  simp only [val, h0.1, h0.2] at hv
  have h1 := limb_lt a 0
  have h2 := limb_lt a 1
  unfold MOST at hm
  omega
set_option maxRecDepth 100000 in
set_option maxHeartbeats 4000000 in
theorem splitAdds_no_walk (b : Nat) (a : Nat) (w : World) (ha : a < 2 ^ 256) (hb : b < 65536) (hm : ¬ a ≤ MOST) :
    Calls Try.prog 12 #[.int .u16 (b : Nat), U a] w fun e w' => e = .returned (.bool true) ∧ Below w.heap.size w w' := by
  obtain ⟨n, hn⟩ : ∃ n, n = b % 10001 := ⟨_, rfl⟩
  have Hn' := Lib.hid (show (b : Int) % 10001 = (n : Int) by omega)
  have Hno := Lib.hid (fun w => parts_no_walk (n : Int) a w ha fun h => hm h.2.2)
  have K0 := Lib.hid (Bk.push (t := 24) a (Bk.nil (w := w)))
  have hor := or_hi ha hm
  clear hm ha hn
  unfold U
  go_enter Try.func12, Try.ntmps12
  go_upto_region 2 with (fail)
  rw [Hn'.out]
  go_wp2_with (first
    | (go_at_call 78; refine (lives34_walk _).mono ?_; rintro e w3 ⟨rfl, hb3⟩)
    | (go_at_call 76; refine (Hno.out _).mono ?_; rintro e w1 ⟨rfl, hb1⟩; have k1 := K0.out.call hb1; rw [U_zero]; obtain ⟨⟨a0, a1, a2, a3⟩, a4⟩ := k1.cells w.heap.size a (by simp)))
  go_ret
  exact ⟨rfl, ((k1.alloc _).alloc _ |>.call hb3).l⟩
theorem Bk.pushz {w wr : World} {l : List (Nat × Nat)} {t : TypeId} (h : Bk w wr l) : Bk w (wr.alloc (.cells #[.int .u64 0, .int .u64 0, .int .u64 0, .int .u64 0] t)) ((wr.heap.size, 0) :: l) := Bk.push 0 h
theorem Bk.cellsz {w wr : World} {l : List (Nat × Nat)} (h : Bk w wr l) (L : Nat) (hm : (L, 0) ∈ l) :
    (wr.cell? ⟨L, 0, none⟩ = some (.int .u64 0) ∧ wr.cell? ⟨L, 1, none⟩ = some (.int .u64 0) ∧ wr.cell? ⟨L, 2, none⟩ = some (.int .u64 0) ∧ wr.cell? ⟨L, 3, none⟩ = some (.int .u64 0)) ∧ L < wr.heap.size := h.cells L 0 hm
theorem parts_0_c (a : Nat) (w : World) (ha : a ≤ MOST) : Calls Try.prog 76 #[.int .i64 0, U a] w fun e w' => e = .returned (.tuple #[.agg #[.int .u64 0, .int .u64 0, .int .u64 0, .int .u64 0], U a, .bool true]) ∧ Below w.heap.size w w' := by
  refine (parts_yes_walk 0 a w ha (by decide)).mono fun e w' ⟨he, hw⟩ => ⟨?_, hw⟩
  rw [he, Nat.mul_zero, Nat.zero_div, Nat.sub_zero, U_zero]
theorem parts_all_c (a : Nat) (w : World) (ha : a ≤ MOST) : Calls Try.prog 76 #[.int .i64 10000, U a] w fun e w' => e = .returned (.tuple #[U a, .agg #[.int .u64 0, .int .u64 0, .int .u64 0, .int .u64 0], .bool true]) ∧ Below w.heap.size w w' := by
  refine (parts_yes_walk 10000 a w ha (Nat.le_refl _)).mono fun e w' ⟨he, hw⟩ => ⟨?_, hw⟩
  rw [he, Nat.mul_div_cancel _ (by decide), Nat.sub_self, U_zero]
theorem parts_more_c (n a : Nat) (w : World) (ha : a ≤ MOST) (hn : n + 1 ≤ 10000) : Calls Try.prog 76 #[.int .i64 ((n : Int) + 1), U a] w fun e w' => e = .returned (.tuple #[U (a * (n + 1) / 10000), U (a - a * (n + 1) / 10000), .bool true]) ∧ Below w.heap.size w w' := by
  rw [show (n : Int) + 1 = ((n + 1 : Nat) : Int) by omega]
  exact parts_yes_walk (n + 1) a w ha hn
set_option maxRecDepth 100000 in
set_option maxHeartbeats 4000000 in
theorem splitAdds_yes_walk (b : Nat) (a : Nat) (w : World) (hm : a ≤ MOST) :
    Calls Try.prog 12 #[.int .u16 (b : Nat), U a] w fun e w' => e = .returned (.bool true) ∧ Below w.heap.size w w' := by
  have ha : a < 2 ^ 256 := Nat.lt_of_le_of_lt hm MOST_lt
  obtain ⟨n, hn⟩ : ∃ n, n = b % 10001 := ⟨_, rfl⟩
  have hn1 : n ≤ 10000 := by omega
  have Hn' := Lib.hid (show (b : Int) % 10001 = (n : Int) by omega)
  obtain ⟨x, hx⟩ : ∃ x, x = a * n / 10000 := ⟨_, rfl⟩
  obtain ⟨y, hy⟩ : ∃ y, y = a - x := ⟨_, rfl⟩
  have hxa : x ≤ a := by rw [hx]; exact Nat.div_le_of_le_mul (by rw [Nat.mul_comm]; exact Nat.mul_le_mul_right a hn1)
  have H1 := Lib.hid (fun w => parts_yes_walk n a w hm hn1)
  have H0 := Lib.hid (fun w => parts_0_c a w hm)
  have HA := Lib.hid (fun w => parts_all_c a w hm)
  have hsum : x + y = a := by omega
  have HS := Lib.hid (show addv x y = a ∧ addk x y = true by unfold addv addk; rw [hsum, if_pos ha, decide_eq_true ha]; exact ⟨rfl, rfl⟩)
  have Hl := Lib.hid (show x < 2 ^ 256 ∧ y < 2 ^ 256 by omega)
  have heq := eqU
  have K0 := Lib.hid (Bk.push (t := 24) a (Bk.nil (w := w)))
  have Hx := Lib.hid hx.symm
  have Hy := Lib.hid hy.symm
  by_cases hlt : n < 10000
  · have q1 : (n : Int) < 10000 := by omega
    have q2 : IntKind.i64.wrap ((n : Int) + 1) = (n : Int) + 1 := IntWalk.i64_in _ (by omega)
    have H2 := Lib.hid (fun w => parts_more_c n a w hm hlt)
    obtain ⟨x', hx'⟩ : ∃ x, x = a * (n + 1) / 10000 := ⟨_, rfl⟩
    obtain ⟨y', hy'⟩ : ∃ y, y = a - x' := ⟨_, rfl⟩
    have hx'a : x' ≤ a := by rw [hx']; exact Nat.div_le_of_le_mul (by rw [Nat.mul_comm]; exact Nat.mul_le_mul_right a hlt)
    have Hx' := Lib.hid hx'.symm
    have Hy' := Lib.hid hy'.symm
    have Hl' := Lib.hid (show x' < 2 ^ 256 by omega)
    obtain ⟨c, hc⟩ : ∃ c, c = cmpU x x' := ⟨_, rfl⟩
    have hc0 : c ≤ 0 := by
      rw [hc, cmpU_le, hx, hx']
      exact Nat.div_le_div_right (Nat.mul_le_mul_left a (by omega))
    have Hc := Lib.hid hc.symm
    clear hc hx' hy' hx hy hxa hx'a hsum ha hm hn hn1 hlt
    unfold U
    go_enter Try.func12, Try.ntmps12
    go_upto_region 2 with (fail)
    rw [Hn'.out]
    go_wp2_with (first
      | (go_at_call 78; refine (lives34_walk _).mono ?_; rintro e w7 ⟨rfl, hb7⟩)
      | (go_at_call 23; refine (rcmp_walk x x' _ Hl.out.1 Hl'.out).mono ?_; rintro e w6 ⟨rfl, hb6⟩; rw [Hc.out]; have k6 := k5.call hb6)
      | (go_at_call 76; have g5 := k4; clear g5; refine (H2.out _).mono ?_; rintro e w5 ⟨rfl, hb5⟩; rw [Hx'.out, Hy'.out]; have j5 := k4.call hb5; have k5 := j5.push2 (t := 24) (t' := 24) x' y'; obtain ⟨⟨p0, p1, p2, p3⟩, p4⟩ := j5.cells w1.heap.size x (by simp); unfold U)
      | (go_at_call 76; have g5 := k3; clear g5; refine (HA.out _).mono ?_; rintro e w4 ⟨rfl, hb4⟩; have j4 := k3.call hb4; have k4 := ((j4.push (t := 24) a).pushz (t := 24)); obtain ⟨⟨a0, a1, a2, a3⟩, a4⟩ := j4.cells w.heap.size a (by simp); obtain ⟨⟨b0, b1, b2, b3⟩, b4⟩ := j4.cells w2.heap.size a (by simp); obtain ⟨⟨c0, c1, c2, c3⟩, c4⟩ := j4.cellsz w3.heap.size (by simp); obtain ⟨⟨d0, d1, d2, d3⟩, d4⟩ := j4.cells (w3.heap.size + 1) a (by simp); unfold U)
      | (go_at_call 76; have g5 := k2; clear g5; refine (H0.out _).mono ?_; rintro e w3 ⟨rfl, hb3⟩; have j3 := k2.call hb3; have k3 : Bk w _ _ := ((j3.pushz (t := 24)).push (t := 24) a); rw [World.size_alloc] at k3; obtain ⟨⟨a0, a1, a2, a3⟩, a4⟩ := j3.cells w.heap.size a (by simp); unfold U)
      | (go_at_call 16; refine (radd_walk x y _ Hl.out.1 Hl.out.2).mono ?_; rintro e w2 ⟨rfl, hb2⟩; rw [HS.out.1, HS.out.2]; have j2 := k1.call hb2; have k2 := j2.push (t := 24) a; obtain ⟨⟨a0, a1, a2, a3⟩, a4⟩ := j2.cells w.heap.size a (by simp); unfold U)
      | (go_at_call 76; refine (H1.out _).mono ?_; rintro e w1 ⟨rfl, hb1⟩; rw [Hx.out, Hy.out]; have j1 := K0.out.call hb1; have k1 := j1.push2 (t := 24) (t' := 24) x y; unfold U))
    go_ret
    exact ⟨rfl, (k6.call hb7).l⟩
  · have q1 : ¬ (n : Int) < 10000 := by omega
    clear hx hy hxa hsum ha hm hn hn1 hlt
    unfold U
    go_enter Try.func12, Try.ntmps12
    go_upto_region 2 with (fail)
    rw [Hn'.out]
    go_wp2_with (first
      | (go_at_call 78; refine (lives34_walk _).mono ?_; rintro e w7 ⟨rfl, hb7⟩)
      | (go_at_call 76; have g5 := k3; clear g5; refine (HA.out _).mono ?_; rintro e w4 ⟨rfl, hb4⟩; have j4 := k3.call hb4; have k4 := ((j4.push (t := 24) a).pushz (t := 24)); obtain ⟨⟨a0, a1, a2, a3⟩, a4⟩ := j4.cells w.heap.size a (by simp); obtain ⟨⟨b0, b1, b2, b3⟩, b4⟩ := j4.cells w2.heap.size a (by simp); obtain ⟨⟨c0, c1, c2, c3⟩, c4⟩ := j4.cellsz w3.heap.size (by simp); obtain ⟨⟨d0, d1, d2, d3⟩, d4⟩ := j4.cells (w3.heap.size + 1) a (by simp); unfold U)
      | (go_at_call 76; have g5 := k2; clear g5; refine (H0.out _).mono ?_; rintro e w3 ⟨rfl, hb3⟩; have j3 := k2.call hb3; have k3 : Bk w _ _ := ((j3.pushz (t := 24)).push (t := 24) a); rw [World.size_alloc] at k3; obtain ⟨⟨a0, a1, a2, a3⟩, a4⟩ := j3.cells w.heap.size a (by simp); unfold U)
      | (go_at_call 16; refine (radd_walk x y _ Hl.out.1 Hl.out.2).mono ?_; rintro e w2 ⟨rfl, hb2⟩; rw [HS.out.1, HS.out.2]; have j2 := k1.call hb2; have k2 := j2.push (t := 24) a; obtain ⟨⟨a0, a1, a2, a3⟩, a4⟩ := j2.cells w.heap.size a (by simp); unfold U)
      | (go_at_call 76; refine (H1.out _).mono ?_; rintro e w1 ⟨rfl, hb1⟩; rw [Hx.out, Hy.out]; have j1 := K0.out.call hb1; have k1 := j1.push2 (t := 24) (t' := 24) x y; unfold U))
    go_ret
    exact ⟨rfl, (k4.call hb7).l⟩
theorem splitAdds_walk (b : Int) (a : Nat) (w : World) (hb : (Lit.int IntKind.u16 b).wf = true) (ha : a < 2 ^ 256) :
    Calls Try.prog 12 #[.int .u16 b, U a] w fun e w' => e = .returned (.bool true) ∧ Below w.heap.size w w' := by
  have hb2 := bounds_u16 hb
  obtain ⟨m, rfl⟩ : ∃ m : Nat, b = (m : Int) := ⟨b.toNat, by omega⟩
  by_cases h : a ≤ MOST
  · exact splitAdds_yes_walk m a w h
  · exact splitAdds_no_walk m a w ha (by omega) h
end Go.Proofs.Ythglnedlbiembaa
