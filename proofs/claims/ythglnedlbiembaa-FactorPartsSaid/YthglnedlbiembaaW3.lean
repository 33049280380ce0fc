/- wad.scaled, Scale, ScaleUp (where the divisor is not nought), and the examples of layer 3, walked. -/
import Derived.Test.YthglnedlbiembaaW2
namespace Go.Proofs.Ythglnedlbiembaa
open Go.RowKit Go.Sort

theorem Three.drew {w wr : World} {a b c : Nat} (h : Three w wr a b c) : Three w wr.drew a b c := h.drewN 1
theorem Three.put4 {w wr : World} {a b d L : Nat} {x0 x1 x2 x3 : Value} (h : Three w wr a b d) (hL : w.heap.size + 1 + 1 < L) :
    Three w ((((wr.setCell ⟨L, 0, none⟩ x0).setCell ⟨L, 1, none⟩ x1).setCell ⟨L, 2, none⟩ x2).setCell ⟨L, 3, none⟩ x3) a b d :=
  ⟨h.a.put4_far (by omega), h.b.put4_far (by omega), h.c.put4_far (by omega), below_set4 h.l (by omega), by simp only [World.size_setCell]; exact h.s⟩
theorem heldT {w w' : World} {a b d : Nat} (h : Three w w' a b d) : w'.cell? ⟨w.heap.size, 0, none⟩ = some (.int .u64 (limb a 0 : Nat)) ∧ w'.cell? ⟨w.heap.size, 1, none⟩ = some (.int .u64 (limb a 1 : Nat)) ∧ w'.cell? ⟨w.heap.size, 2, none⟩ = some (.int .u64 (limb a 2 : Nat)) ∧ w'.cell? ⟨w.heap.size, 3, none⟩ = some (.int .u64 (limb a 3 : Nat)) ∧ w'.cell? ⟨w.heap.size + 1, 0, none⟩ = some (.int .u64 (limb b 0 : Nat)) ∧ w'.cell? ⟨w.heap.size + 1, 1, none⟩ = some (.int .u64 (limb b 1 : Nat)) ∧ w'.cell? ⟨w.heap.size + 1, 2, none⟩ = some (.int .u64 (limb b 2 : Nat)) ∧ w'.cell? ⟨w.heap.size + 1, 3, none⟩ = some (.int .u64 (limb b 3 : Nat)) ∧ w'.cell? ⟨w.heap.size + 1 + 1, 0, none⟩ = some (.int .u64 (limb d 0 : Nat)) ∧ w'.cell? ⟨w.heap.size + 1 + 1, 1, none⟩ = some (.int .u64 (limb d 1 : Nat)) ∧ w'.cell? ⟨w.heap.size + 1 + 1, 2, none⟩ = some (.int .u64 (limb d 2 : Nat)) ∧ w'.cell? ⟨w.heap.size + 1 + 1, 3, none⟩ = some (.int .u64 (limb d 3 : Nat)) ∧ Three w w' a b d := by
  obtain ⟨a0, a1, a2, a3⟩ := h.a.cells4
  obtain ⟨b0, b1, b2, b3⟩ := h.b.cells4
  obtain ⟨c0, c1, c2, c3⟩ := h.c.cells4
  exact ⟨a0, a1, a2, a3, b0, b1, b2, b3, c0, c1, c2, c3, h⟩
theorem un_heldT {w w' : World} {a b d : Nat} (h : w'.cell? ⟨w.heap.size, 0, none⟩ = some (.int .u64 (limb a 0 : Nat)) ∧ w'.cell? ⟨w.heap.size, 1, none⟩ = some (.int .u64 (limb a 1 : Nat)) ∧ w'.cell? ⟨w.heap.size, 2, none⟩ = some (.int .u64 (limb a 2 : Nat)) ∧ w'.cell? ⟨w.heap.size, 3, none⟩ = some (.int .u64 (limb a 3 : Nat)) ∧ w'.cell? ⟨w.heap.size + 1, 0, none⟩ = some (.int .u64 (limb b 0 : Nat)) ∧ w'.cell? ⟨w.heap.size + 1, 1, none⟩ = some (.int .u64 (limb b 1 : Nat)) ∧ w'.cell? ⟨w.heap.size + 1, 2, none⟩ = some (.int .u64 (limb b 2 : Nat)) ∧ w'.cell? ⟨w.heap.size + 1, 3, none⟩ = some (.int .u64 (limb b 3 : Nat)) ∧ w'.cell? ⟨w.heap.size + 1 + 1, 0, none⟩ = some (.int .u64 (limb d 0 : Nat)) ∧ w'.cell? ⟨w.heap.size + 1 + 1, 1, none⟩ = some (.int .u64 (limb d 1 : Nat)) ∧ w'.cell? ⟨w.heap.size + 1 + 1, 2, none⟩ = some (.int .u64 (limb d 2 : Nat)) ∧ w'.cell? ⟨w.heap.size + 1 + 1, 3, none⟩ = some (.int .u64 (limb d 3 : Nat)) ∧ Three w w' a b d) : Three w w' a b d := h.2.2.2.2.2.2.2.2.2.2.2.2
set_option maxRecDepth 100000 in
set_option maxHeartbeats 4000000 in
theorem scaledD_walk (a b d L : Nat) (w : World) (ha : a < 2 ^ 256) (hb : b < 2 ^ 256) (hd : d < 2 ^ 256) (hd0 : d ≠ 0) (hc : w.cell? ⟨L, 0, none⟩ = some (.bool false)) :
    Calls Try.prog 117 #[U a, U b, U d, .func (Fn.func 126) #[] #[.pointer (some ⟨L, 0, none⟩)]] w fun e w' => e = .returned (.tuple #[U (qv a b d), .bool (qok a b d)]) ∧ Below w.heap.size w w' := by
  have hL : L < w.heap.size := World.block_lt_of_cell? w _ hc
  have hc' : ∀ o1 o2 o3 o4 : Obj, ((((w.alloc o1).alloc o2).alloc o3).alloc o4).cell? ⟨L, 0, none⟩ = w.cell? ⟨L, 0, none⟩ := fun o1 o2 o3 o4 => by
    rw [World.cell?_alloc_lt _ _ _ (by simp; omega), World.cell?_alloc_lt _ _ _ (by simp; omega), World.cell?_alloc_lt _ _ _ (by simp; omega), World.cell?_alloc_lt _ _ _ (by simp; omega)]
  have Hq := Lib.hid (show ∀ o1 o2 o3 o4 : Obj, ((((w.alloc o1).alloc o2).alloc o3).alloc o4).cell? ⟨L, 0, none⟩ = some (.bool false) from fun o1 o2 o3 o4 => by rw [hc', hc])
  clear hc hc' hL
  have heqa := fun w => eq0_run ha w
  have heqd := fun w => eq0_run hd w
  have dd : decide (d = 0) = false := decide_eq_false hd0
  have Ha := Lib.hid ha
  have Hb := Lib.hid hb
  have Hd := Lib.hid hd
  obtain ⟨x, hx⟩ : ∃ x, x = qv a b d := ⟨_, rfl⟩
  obtain ⟨ok, hok⟩ : ∃ x, x = qok a b d := ⟨_, rfl⟩
  rw [← hx, ← hok]
  have Hx := Lib.hid hx
  have Hok := Lib.hid hok
  clear ha hb hd hx hok hd0
  have T0 := Lib.hid (three0_first (a := a) (b := b) (d := d) (w := w) (t1 := 24) (t2 := 24) (t3 := 24) (t4 := 24))
  have da : decide (a = 0) = true ∨ decide (a = 0) = false := by by_cases h : a = 0 <;> simp [h]
  unfold U
  rcases da with da | da
  all_goals
    go_enter Try.func117, Try.ntmps117
    go_wp2_with (go_at_call 126; refine (quotF_down a b d _ _ Ha.out Hb.out Hd.out (Hq.out _ _ _ _)).mono ?_; rintro e w1 ⟨rfl, hb1⟩; rw [← Hx.out, ← Hok.out]; have u1 := T0.out.below hb1; obtain ⟨z0, z1, z2, z3⟩ := u1.z.cells4; obtain ⟨y0, y1, y2, y3⟩ := u1.z.frees4; unfold U)
    refine bodyPost_ret (v := .tuple #[.agg #[.int .u64 (limb x 0 : Nat), .int .u64 (limb x 1 : Nat), .int .u64 (limb x 2 : Nat), .int .u64 (limb x 3 : Nat)], .bool ok]) (by simp [results, Try.results117, go_sem, z0, z1, z2, z3]) rfl ⟨rfl, below_set4 u1.t.l (by omega)⟩
set_option maxRecDepth 100000 in
set_option maxHeartbeats 4000000 in
theorem scaledU_walk (a b d L : Nat) (w : World) (ha : a < 2 ^ 256) (hb : b < 2 ^ 256) (hd : d < 2 ^ 256) (hd0 : d ≠ 0) (hc : w.cell? ⟨L, 0, none⟩ = some (.bool true)) :
    Calls Try.prog 117 #[U a, U b, U d, .func (Fn.func 126) #[] #[.pointer (some ⟨L, 0, none⟩)]] w fun e w' => e = .returned (.tuple #[U (uv a b d), .bool (uok a b d)]) ∧ Below w.heap.size w w' := by
  have hL : L < w.heap.size := World.block_lt_of_cell? w _ hc
  have hc' : ∀ o1 o2 o3 o4 : Obj, ((((w.alloc o1).alloc o2).alloc o3).alloc o4).cell? ⟨L, 0, none⟩ = w.cell? ⟨L, 0, none⟩ := fun o1 o2 o3 o4 => by
    rw [World.cell?_alloc_lt _ _ _ (by simp; omega), World.cell?_alloc_lt _ _ _ (by simp; omega), World.cell?_alloc_lt _ _ _ (by simp; omega), World.cell?_alloc_lt _ _ _ (by simp; omega)]
  have Hq := Lib.hid (show ∀ o1 o2 o3 o4 : Obj, ((((w.alloc o1).alloc o2).alloc o3).alloc o4).cell? ⟨L, 0, none⟩ = some (.bool true) from fun o1 o2 o3 o4 => by rw [hc', hc])
  clear hc hc' hL
  have heqa := fun w => eq0_run ha w
  have heqd := fun w => eq0_run hd w
  have dd : decide (d = 0) = false := decide_eq_false hd0
  have Ha := Lib.hid ha
  have Hb := Lib.hid hb
  have Hd := Lib.hid hd
  obtain ⟨x, hx⟩ : ∃ x, x = uv a b d := ⟨_, rfl⟩
  obtain ⟨ok, hok⟩ : ∃ x, x = uok a b d := ⟨_, rfl⟩
  rw [← hx, ← hok]
  have Hx := Lib.hid hx
  have Hok := Lib.hid hok
  clear ha hb hd hx hok hd0
  have T0 := Lib.hid (three0_first (a := a) (b := b) (d := d) (w := w) (t1 := 24) (t2 := 24) (t3 := 24) (t4 := 24))
  have da : decide (a = 0) = true ∨ decide (a = 0) = false := by by_cases h : a = 0 <;> simp [h]
  unfold U
  rcases da with da | da
  all_goals
    go_enter Try.func117, Try.ntmps117
    go_wp2_with (go_at_call 126; refine (quotF_up a b d _ _ Ha.out Hb.out Hd.out (Hq.out _ _ _ _)).mono ?_; rintro e w1 ⟨rfl, hb1⟩; rw [← Hx.out, ← Hok.out]; have u1 := T0.out.below hb1; obtain ⟨z0, z1, z2, z3⟩ := u1.z.cells4; obtain ⟨y0, y1, y2, y3⟩ := u1.z.frees4; unfold U)
    refine bodyPost_ret (v := .tuple #[.agg #[.int .u64 (limb x 0 : Nat), .int .u64 (limb x 1 : Nat), .int .u64 (limb x 2 : Nat), .int .u64 (limb x 3 : Nat)], .bool ok]) (by simp [results, Try.results117, go_sem, z0, z1, z2, z3]) rfl ⟨rfl, below_set4 u1.t.l (by omega)⟩
set_option maxRecDepth 100000 in
set_option maxHeartbeats 4000000 in
theorem scale_walk (a b d : Nat) (w : World) (ha : a < 2 ^ 256) (hb : b < 2 ^ 256) (hd : d < 2 ^ 256) (hd0 : d ≠ 0) :
    Calls Try.prog 55 #[U a, U b, U d] w fun e w' => e = .returned (.tuple #[U (qv a b d), .bool (qok a b d)]) ∧ Below w.heap.size w w' := by
  have Ha := Lib.hid ha
  have Hb := Lib.hid hb
  have Hd := Lib.hid hd
  have Hd0 := Lib.hid hd0
  obtain ⟨x, hx⟩ : ∃ x, x = qv a b d := ⟨_, rfl⟩
  obtain ⟨ok, hok⟩ : ∃ x, x = qok a b d := ⟨_, rfl⟩
  rw [← hx, ← hok]
  have Hx := Lib.hid hx
  have Hok := Lib.hid hok
  clear ha hb hd hx hok hd0
  unfold U
  go_enter Try.func55, Try.ntmps55
  go_upto_region 1 with (fail)
  have T0 := Lib.hid (three0_first (a := a) (b := b) (d := d) (w := w) (t1 := 24) (t2 := 24) (t3 := 24) (t4 := 24))
  go_region_held3 (fun w' => w'.cell? ⟨w.heap.size, 0, none⟩ = some (.int .u64 (limb a 0 : Nat)) ∧ w'.cell? ⟨w.heap.size, 1, none⟩ = some (.int .u64 (limb a 1 : Nat)) ∧ w'.cell? ⟨w.heap.size, 2, none⟩ = some (.int .u64 (limb a 2 : Nat)) ∧ w'.cell? ⟨w.heap.size, 3, none⟩ = some (.int .u64 (limb a 3 : Nat)) ∧ w'.cell? ⟨w.heap.size + 1, 0, none⟩ = some (.int .u64 (limb b 0 : Nat)) ∧ w'.cell? ⟨w.heap.size + 1, 1, none⟩ = some (.int .u64 (limb b 1 : Nat)) ∧ w'.cell? ⟨w.heap.size + 1, 2, none⟩ = some (.int .u64 (limb b 2 : Nat)) ∧ w'.cell? ⟨w.heap.size + 1, 3, none⟩ = some (.int .u64 (limb b 3 : Nat)) ∧ w'.cell? ⟨w.heap.size + 1 + 1, 0, none⟩ = some (.int .u64 (limb d 0 : Nat)) ∧ w'.cell? ⟨w.heap.size + 1 + 1, 1, none⟩ = some (.int .u64 (limb d 1 : Nat)) ∧ w'.cell? ⟨w.heap.size + 1 + 1, 2, none⟩ = some (.int .u64 (limb d 2 : Nat)) ∧ w'.cell? ⟨w.heap.size + 1 + 1, 3, none⟩ = some (.int .u64 (limb d 3 : Nat)) ∧ Three w w' a b d)
    ((refine heldT ?_; repeat (first | with_reducible exact u2.t | with_reducible exact u1.t | with_reducible exact T0.out.t | with_reducible refine Three.drew ?_ | with_reducible refine Three.put4 ?_ (by omega) | with_reducible exact un_heldT (by with_reducible assumption))))
    (first
      | (go_at_call 117; refine (scaledD_walk a b d _ _ Ha.out Hb.out Hd.out Hd0.out hq1).mono ?_; rintro e w2 ⟨rfl, hb2⟩; rw [← Hx.out, ← Hok.out]; have u2 := u1.below hb2; obtain ⟨z0, z1, z2, z3⟩ := u2.z.cells4; obtain ⟨y0, y1, y2, y3⟩ := u2.z.frees4; unfold U)
      | (go_at_call 116; refine (quot_walk false _).mono ?_; rintro e w1 ⟨⟨v1, rfl, Lq, rfl, hq1, hq2⟩, hb1⟩; have u1 : Three0 w w1 a b d := T0.out.drew.below hb1))
  go_wp2
  refine bodyPost_ret (v := .tuple #[.agg #[.int .u64 (limb x 0 : Nat), .int .u64 (limb x 1 : Nat), .int .u64 (limb x 2 : Nat), .int .u64 (limb x 3 : Nat)], .bool ok]) (by simp [results, Try.results55, go_sem, z0, z1, z2, z3]) rfl ⟨rfl, below_set4 u2.t.l (by omega)⟩
set_option maxRecDepth 100000 in
set_option maxHeartbeats 4000000 in
theorem scaleUp_walk (a b d : Nat) (w : World) (ha : a < 2 ^ 256) (hb : b < 2 ^ 256) (hd : d < 2 ^ 256) (hd0 : d ≠ 0) :
    Calls Try.prog 57 #[U a, U b, U d] w fun e w' => e = .returned (.tuple #[U (uv a b d), .bool (uok a b d)]) ∧ Below w.heap.size w w' := by
  have Ha := Lib.hid ha
  have Hb := Lib.hid hb
  have Hd := Lib.hid hd
  have Hd0 := Lib.hid hd0
  obtain ⟨x, hx⟩ : ∃ x, x = uv a b d := ⟨_, rfl⟩
  obtain ⟨ok, hok⟩ : ∃ x, x = uok a b d := ⟨_, rfl⟩
  rw [← hx, ← hok]
  have Hx := Lib.hid hx
  have Hok := Lib.hid hok
  clear ha hb hd hx hok hd0
  unfold U
  go_enter Try.func57, Try.ntmps57
  go_upto_region 1 with (fail)
  have T0 := Lib.hid (three0_first (a := a) (b := b) (d := d) (w := w) (t1 := 24) (t2 := 24) (t3 := 24) (t4 := 24))
  go_region_held3 (fun w' => w'.cell? ⟨w.heap.size, 0, none⟩ = some (.int .u64 (limb a 0 : Nat)) ∧ w'.cell? ⟨w.heap.size, 1, none⟩ = some (.int .u64 (limb a 1 : Nat)) ∧ w'.cell? ⟨w.heap.size, 2, none⟩ = some (.int .u64 (limb a 2 : Nat)) ∧ w'.cell? ⟨w.heap.size, 3, none⟩ = some (.int .u64 (limb a 3 : Nat)) ∧ w'.cell? ⟨w.heap.size + 1, 0, none⟩ = some (.int .u64 (limb b 0 : Nat)) ∧ w'.cell? ⟨w.heap.size + 1, 1, none⟩ = some (.int .u64 (limb b 1 : Nat)) ∧ w'.cell? ⟨w.heap.size + 1, 2, none⟩ = some (.int .u64 (limb b 2 : Nat)) ∧ w'.cell? ⟨w.heap.size + 1, 3, none⟩ = some (.int .u64 (limb b 3 : Nat)) ∧ w'.cell? ⟨w.heap.size + 1 + 1, 0, none⟩ = some (.int .u64 (limb d 0 : Nat)) ∧ w'.cell? ⟨w.heap.size + 1 + 1, 1, none⟩ = some (.int .u64 (limb d 1 : Nat)) ∧ w'.cell? ⟨w.heap.size + 1 + 1, 2, none⟩ = some (.int .u64 (limb d 2 : Nat)) ∧ w'.cell? ⟨w.heap.size + 1 + 1, 3, none⟩ = some (.int .u64 (limb d 3 : Nat)) ∧ Three w w' a b d)
    ((refine heldT ?_; repeat (first | with_reducible exact u2.t | with_reducible exact u1.t | with_reducible exact T0.out.t | with_reducible refine Three.drew ?_ | with_reducible refine Three.put4 ?_ (by omega) | with_reducible exact un_heldT (by with_reducible assumption))))
    (first
      | (go_at_call 117; refine (scaledU_walk a b d _ _ Ha.out Hb.out Hd.out Hd0.out hq1).mono ?_; rintro e w2 ⟨rfl, hb2⟩; rw [← Hx.out, ← Hok.out]; have u2 := u1.below hb2; obtain ⟨z0, z1, z2, z3⟩ := u2.z.cells4; obtain ⟨y0, y1, y2, y3⟩ := u2.z.frees4; unfold U)
      | (go_at_call 116; refine (quot_walk true _).mono ?_; rintro e w1 ⟨⟨v1, rfl, Lq, rfl, hq1, hq2⟩, hb1⟩; have u1 : Three0 w w1 a b d := T0.out.drew.below hb1))
  go_wp2
  refine bodyPost_ret (v := .tuple #[.agg #[.int .u64 (limb x 0 : Nat), .int .u64 (limb x 1 : Nat), .int .u64 (limb x 2 : Nat), .int .u64 (limb x 3 : Nat)], .bool ok]) (by simp [results, Try.results57, go_sem, z0, z1, z2, z3]) rfl ⟨rfl, below_set4 u2.t.l (by omega)⟩
end Go.Proofs.Ythglnedlbiembaa
