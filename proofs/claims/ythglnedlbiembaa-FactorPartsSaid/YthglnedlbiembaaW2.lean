/- wad.Good, Amount, Part, PartUp, walked. -/
import Derived.Test.YthglnedlbiembaaW1
namespace Go.Proofs.Ythglnedlbiembaa
open Go.RowKit Go.Sort

theorem cmpU_le (a b : Nat) : cmpU a b ≤ 0 ↔ a ≤ b := by
  unfold cmpU
  by_cases h : a = b
  · rw [if_pos h]; omega
  · rw [if_neg h]
    by_cases h2 : b ≤ a
    · rw [if_pos h2]; omega
    · rw [if_neg h2]; omega
theorem heldP {w w' : World} {a b : Nat} (h : Two' w w' a b) : w'.cell? ⟨w.heap.size, 0, none⟩ = some (.int .u64 (limb a 0 : Nat)) ∧ w'.cell? ⟨w.heap.size, 1, none⟩ = some (.int .u64 (limb a 1 : Nat)) ∧ w'.cell? ⟨w.heap.size, 2, none⟩ = some (.int .u64 (limb a 2 : Nat)) ∧ w'.cell? ⟨w.heap.size, 3, none⟩ = some (.int .u64 (limb a 3 : Nat)) ∧ w'.cell? ⟨w.heap.size + 1, 0, none⟩ = some (.int .u64 (limb b 0 : Nat)) ∧ w'.cell? ⟨w.heap.size + 1, 1, none⟩ = some (.int .u64 (limb b 1 : Nat)) ∧ w'.cell? ⟨w.heap.size + 1, 2, none⟩ = some (.int .u64 (limb b 2 : Nat)) ∧ w'.cell? ⟨w.heap.size + 1, 3, none⟩ = some (.int .u64 (limb b 3 : Nat)) ∧ Two' w w' a b := by
  obtain ⟨a0, a1, a2, a3⟩ := h.a.cells4
  obtain ⟨b0, b1, b2, b3⟩ := h.b.cells4
  exact ⟨a0, a1, a2, a3, b0, b1, b2, b3, h⟩
theorem un_heldP {w w' : World} {a b : Nat} (h : w'.cell? ⟨w.heap.size, 0, none⟩ = some (.int .u64 (limb a 0 : Nat)) ∧ w'.cell? ⟨w.heap.size, 1, none⟩ = some (.int .u64 (limb a 1 : Nat)) ∧ w'.cell? ⟨w.heap.size, 2, none⟩ = some (.int .u64 (limb a 2 : Nat)) ∧ w'.cell? ⟨w.heap.size, 3, none⟩ = some (.int .u64 (limb a 3 : Nat)) ∧ w'.cell? ⟨w.heap.size + 1, 0, none⟩ = some (.int .u64 (limb b 0 : Nat)) ∧ w'.cell? ⟨w.heap.size + 1, 1, none⟩ = some (.int .u64 (limb b 1 : Nat)) ∧ w'.cell? ⟨w.heap.size + 1, 2, none⟩ = some (.int .u64 (limb b 2 : Nat)) ∧ w'.cell? ⟨w.heap.size + 1, 3, none⟩ = some (.int .u64 (limb b 3 : Nat)) ∧ Two' w w' a b) : Two' w w' a b := h.2.2.2.2.2.2.2.2
/-- a number in a box -/
structure One' (w wr : World) (a : Nat) : Prop where
  a : Arr .u64 wr w.heap.size 4 (limb a)
  l : Below w.heap.size w wr
  s : w.heap.size < wr.heap.size
theorem One'.below {w wr w' : World} {a : Nat} (h : One' w wr a) (hb : Below wr.heap.size wr w') : One' w w' a := by
  have := h.s; have := hb.size
  exact ⟨h.a.below hb h.s, h.l.trans (hb.mono (by omega)), by omega⟩
theorem One'.drew {w wr : World} {a : Nat} (h : One' w wr a) : One' w wr.drew a := ⟨h.a.drew, below_drewN h.l 1, h.s⟩
theorem one_first {a : Nat} {w : World} {t : TypeId} : One' w (w.alloc (.cells #[.int .u64 (limb a 0 : Nat), .int .u64 (limb a 1 : Nat), .int .u64 (limb a 2 : Nat), .int .u64 (limb a 3 : Nat)] t)) a :=
  ⟨Arr.new4 (f := limb a) rfl, (Below.refl _ _).alloc (Nat.le_refl _) _, by simp⟩
theorem held1 {w w' : World} {a : Nat} (h : One' w w' a) : w'.cell? ⟨w.heap.size, 0, none⟩ = some (.int .u64 (limb a 0 : Nat)) ∧ w'.cell? ⟨w.heap.size, 1, none⟩ = some (.int .u64 (limb a 1 : Nat)) ∧ w'.cell? ⟨w.heap.size, 2, none⟩ = some (.int .u64 (limb a 2 : Nat)) ∧ w'.cell? ⟨w.heap.size, 3, none⟩ = some (.int .u64 (limb a 3 : Nat)) ∧ One' w w' a := by
  obtain ⟨a0, a1, a2, a3⟩ := h.a.cells4
  exact ⟨a0, a1, a2, a3, h⟩
theorem un_held1 {w w' : World} {a : Nat} (h : w'.cell? ⟨w.heap.size, 0, none⟩ = some (.int .u64 (limb a 0 : Nat)) ∧ w'.cell? ⟨w.heap.size, 1, none⟩ = some (.int .u64 (limb a 1 : Nat)) ∧ w'.cell? ⟨w.heap.size, 2, none⟩ = some (.int .u64 (limb a 2 : Nat)) ∧ w'.cell? ⟨w.heap.size, 3, none⟩ = some (.int .u64 (limb a 3 : Nat)) ∧ One' w w' a) : One' w w' a := h.2.2.2.2

set_option maxRecDepth 100000 in
set_option maxHeartbeats 2000000 in
theorem good_walk (a : Nat) (w : World) (ha : a < 2 ^ 256) : Calls Try.prog 59 #[U a] w fun e w' => e = .returned (.bool (decide (a ≤ WAD))) ∧ Below w.heap.size w w' := by
  have Ha := Lib.hid ha
  obtain ⟨c, hc⟩ : ∃ c, c = cmpU a WAD := ⟨_, rfl⟩
  obtain ⟨ok, hok⟩ : ∃ x, x = decide (a ≤ WAD) := ⟨_, rfl⟩
  rw [← hok]
  have hdec : decide (c ≤ 0) = ok := by rw [hok, hc]; exact decide_eq_decide.2 (cmpU_le a WAD)
  have Hc := Lib.hid hc
  have Hok := Lib.hid hok
  clear ha hc hok
  unfold U
  go_enter Try.func59, Try.ntmps59
  go_upto_region 1 with (fail)
  have T0 := Lib.hid (one_first (a := a) (w := w) (t := 24))
  go_region_held3 (fun w' => w'.cell? ⟨w.heap.size, 0, none⟩ = some (.int .u64 (limb a 0 : Nat)) ∧ w'.cell? ⟨w.heap.size, 1, none⟩ = some (.int .u64 (limb a 1 : Nat)) ∧ w'.cell? ⟨w.heap.size, 2, none⟩ = some (.int .u64 (limb a 2 : Nat)) ∧ w'.cell? ⟨w.heap.size, 3, none⟩ = some (.int .u64 (limb a 3 : Nat)) ∧ One' w w' a)
    ((refine held1 ?_; repeat (first | with_reducible exact u2 | with_reducible exact u1 | with_reducible exact T0.out | with_reducible refine One'.drew ?_ | with_reducible exact un_held1 (by with_reducible assumption))))
    (first
      | (go_at_call 24; refine (cmp_walk a WAD _ Ha.out WAD_lt).mono ?_; rintro e w2 ⟨rfl, hb2⟩; have u2 := u1.below hb2; rw [← Hc.out])
      | (go_at_call 72; refine (one_walk _).mono ?_; rintro e w1 ⟨rfl, hb1⟩; have u1 : One' w w1 a := One'.below (un_held1 (by with_reducible assumption)) hb1; unfold U))
  go_wp2
  refine bodyPost_ret (v := .bool ok) (by simp [results, Try.results59, go_sem]) rfl ⟨rfl, u2.l⟩
set_option maxRecDepth 100000 in
set_option maxHeartbeats 2000000 in
theorem amount_walk (a : Nat) (w : World) (ha : a < 2 ^ 256) : Calls Try.prog 61 #[U a] w fun e w' => e = .returned (.bool (decide (a ≤ MOST))) ∧ Below w.heap.size w w' := by
  have Ha := Lib.hid ha
  obtain ⟨c, hc⟩ : ∃ c, c = cmpU a MOST := ⟨_, rfl⟩
  obtain ⟨ok, hok⟩ : ∃ x, x = decide (a ≤ MOST) := ⟨_, rfl⟩
  rw [← hok]
  have hdec : decide (c ≤ 0) = ok := by rw [hok, hc]; exact decide_eq_decide.2 (cmpU_le a MOST)
  have Hc := Lib.hid hc
  have Hok := Lib.hid hok
  clear ha hc hok
  unfold U
  go_enter Try.func61, Try.ntmps61
  go_upto_region 1 with (fail)
  have T0 := Lib.hid (one_first (a := a) (w := w) (t := 24))
  go_region_held3 (fun w' => w'.cell? ⟨w.heap.size, 0, none⟩ = some (.int .u64 (limb a 0 : Nat)) ∧ w'.cell? ⟨w.heap.size, 1, none⟩ = some (.int .u64 (limb a 1 : Nat)) ∧ w'.cell? ⟨w.heap.size, 2, none⟩ = some (.int .u64 (limb a 2 : Nat)) ∧ w'.cell? ⟨w.heap.size, 3, none⟩ = some (.int .u64 (limb a 3 : Nat)) ∧ One' w w' a)
    ((refine held1 ?_; repeat (first | with_reducible exact u2 | with_reducible exact u1 | with_reducible exact T0.out | with_reducible refine One'.drew ?_ | with_reducible exact un_held1 (by with_reducible assumption))))
    (first
      | (go_at_call 24; refine (cmp_walk a MOST _ Ha.out MOST_lt).mono ?_; rintro e w2 ⟨rfl, hb2⟩; have u2 := u1.below hb2; rw [← Hc.out])
      | (go_at_call 65; refine (most_walk _).mono ?_; rintro e w1 ⟨rfl, hb1⟩; have u1 : One' w w1 a := One'.below (un_held1 (by with_reducible assumption)) hb1; unfold U))
  go_wp2
  refine bodyPost_ret (v := .bool ok) (by simp [results, Try.results61, go_sem]) rfl ⟨rfl, u2.l⟩
set_option maxRecDepth 100000 in
set_option maxHeartbeats 4000000 in
theorem part_walk (a b : Nat) (w : World) (ha : a < 2 ^ 256) (hb : b < 2 ^ 256) :
    Calls Try.prog 49 #[U a, U b] w fun e w' => e = .returned (.tuple #[U (qv a b WAD), .bool (qok a b WAD)]) ∧ Below w.heap.size w w' := by
  have Ha := Lib.hid ha
  have Hb := Lib.hid hb
  obtain ⟨x, hx⟩ : ∃ x, x = qv a b WAD := ⟨_, rfl⟩
  obtain ⟨ok, hok⟩ : ∃ x, x = qok a b WAD := ⟨_, rfl⟩
  rw [← hx, ← hok]
  have Hx := Lib.hid hx
  have Hok := Lib.hid hok
  clear ha hb hx hok
  unfold U
  go_enter Try.func49, Try.ntmps49
  go_upto_region 1 with (fail)
  have T0 := Lib.hid ((two_first (a := a) (b := b) (w := w) (t1 := 24) (t2 := 24)).alloc (.cells #[.int .u64 0, .int .u64 0, .int .u64 0, .int .u64 0] 24))
  have Z0 := Lib.hid (Arr.new4 (κ := .u64) (w := (w.alloc (.cells #[.int .u64 (limb a 0 : Nat), .int .u64 (limb a 1 : Nat), .int .u64 (limb a 2 : Nat), .int .u64 (limb a 3 : Nat)] 24)).alloc (.cells #[.int .u64 (limb b 0 : Nat), .int .u64 (limb b 1 : Nat), .int .u64 (limb b 2 : Nat), .int .u64 (limb b 3 : Nat)] 24)) (t := 24) (f := fun _ => 0) (b := w.heap.size + 1 + 1) (by simp))
  go_region_held3 (fun w' => w'.cell? ⟨w.heap.size, 0, none⟩ = some (.int .u64 (limb a 0 : Nat)) ∧ w'.cell? ⟨w.heap.size, 1, none⟩ = some (.int .u64 (limb a 1 : Nat)) ∧ w'.cell? ⟨w.heap.size, 2, none⟩ = some (.int .u64 (limb a 2 : Nat)) ∧ w'.cell? ⟨w.heap.size, 3, none⟩ = some (.int .u64 (limb a 3 : Nat)) ∧ w'.cell? ⟨w.heap.size + 1, 0, none⟩ = some (.int .u64 (limb b 0 : Nat)) ∧ w'.cell? ⟨w.heap.size + 1, 1, none⟩ = some (.int .u64 (limb b 1 : Nat)) ∧ w'.cell? ⟨w.heap.size + 1, 2, none⟩ = some (.int .u64 (limb b 2 : Nat)) ∧ w'.cell? ⟨w.heap.size + 1, 3, none⟩ = some (.int .u64 (limb b 3 : Nat)) ∧ Two' w w' a b)
    ((refine heldP ?_; repeat (first | with_reducible exact u3 | with_reducible exact u2 | with_reducible exact u1 | with_reducible exact T0.out | with_reducible refine Two'.drew ?_ | with_reducible refine Two'.put4 ?_ (by omega) | with_reducible exact un_heldP (by with_reducible assumption))))
    (first
      | (go_at_call 126; refine (quotF_down a b WAD _ _ Ha.out Hb.out WAD_lt qc).mono ?_; rintro e w3 ⟨rfl, hb3⟩; rw [← Hx.out, ← Hok.out]; have u3 := u2.below hb3; have zz3 := zz2.below hb3 zz2.lt4; obtain ⟨y0, y1, y2, y3⟩ := zz3.frees4; obtain ⟨z0, z1, z2, z3⟩ := zz3.cells4; unfold U)
      | (go_at_call 72; refine (one_walk _).mono ?_; rintro e w2 ⟨rfl, hb2⟩; have u2 := u1.below hb2; have zz2 := zz1.below hb2 zz1.lt4; have qc : w2.cell? ⟨Lq, 0, none⟩ = some (.bool false) := (by rw [hb2.cell (p := ⟨Lq, 0, none⟩) hq2]; exact hq1); unfold U)
      | (go_at_call 116; refine (quot_walk false _).mono ?_; rintro e w1 ⟨⟨v1, rfl, Lq, rfl, hq1, hq2⟩, hb1⟩; have u1 : Two' w w1 a b := Two'.below (un_heldP (by with_reducible assumption)) hb1; have zz1 := Z0.out.drew.below hb1 Z0.out.drew.lt4))
  go_wp2
  refine bodyPost_ret (v := .tuple #[.agg #[.int .u64 (limb x 0 : Nat), .int .u64 (limb x 1 : Nat), .int .u64 (limb x 2 : Nat), .int .u64 (limb x 3 : Nat)], .bool ok]) (by simp [results, Try.results49, go_sem, z0, z1, z2, z3]) rfl ⟨rfl, below_set4 u3.l (by omega)⟩
set_option maxRecDepth 100000 in
set_option maxHeartbeats 4000000 in
theorem partUp_walk (a b : Nat) (w : World) (ha : a < 2 ^ 256) (hb : b < 2 ^ 256) :
    Calls Try.prog 51 #[U a, U b] w fun e w' => e = .returned (.tuple #[U (uv a b WAD), .bool (uok a b WAD)]) ∧ Below w.heap.size w w' := by
  have Ha := Lib.hid ha
  have Hb := Lib.hid hb
  obtain ⟨x, hx⟩ : ∃ x, x = uv a b WAD := ⟨_, rfl⟩
  obtain ⟨ok, hok⟩ : ∃ x, x = uok a b WAD := ⟨_, rfl⟩
  rw [← hx, ← hok]
  have Hx := Lib.hid hx
  have Hok := Lib.hid hok
  clear ha hb hx hok
  unfold U
  go_enter Try.func51, Try.ntmps51
  go_upto_region 1 with (fail)
  have T0 := Lib.hid ((two_first (a := a) (b := b) (w := w) (t1 := 24) (t2 := 24)).alloc (.cells #[.int .u64 0, .int .u64 0, .int .u64 0, .int .u64 0] 24))
  have Z0 := Lib.hid (Arr.new4 (κ := .u64) (w := (w.alloc (.cells #[.int .u64 (limb a 0 : Nat), .int .u64 (limb a 1 : Nat), .int .u64 (limb a 2 : Nat), .int .u64 (limb a 3 : Nat)] 24)).alloc (.cells #[.int .u64 (limb b 0 : Nat), .int .u64 (limb b 1 : Nat), .int .u64 (limb b 2 : Nat), .int .u64 (limb b 3 : Nat)] 24)) (t := 24) (f := fun _ => 0) (b := w.heap.size + 1 + 1) (by simp))
  go_region_held3 (fun w' => w'.cell? ⟨w.heap.size, 0, none⟩ = some (.int .u64 (limb a 0 : Nat)) ∧ w'.cell? ⟨w.heap.size, 1, none⟩ = some (.int .u64 (limb a 1 : Nat)) ∧ w'.cell? ⟨w.heap.size, 2, none⟩ = some (.int .u64 (limb a 2 : Nat)) ∧ w'.cell? ⟨w.heap.size, 3, none⟩ = some (.int .u64 (limb a 3 : Nat)) ∧ w'.cell? ⟨w.heap.size + 1, 0, none⟩ = some (.int .u64 (limb b 0 : Nat)) ∧ w'.cell? ⟨w.heap.size + 1, 1, none⟩ = some (.int .u64 (limb b 1 : Nat)) ∧ w'.cell? ⟨w.heap.size + 1, 2, none⟩ = some (.int .u64 (limb b 2 : Nat)) ∧ w'.cell? ⟨w.heap.size + 1, 3, none⟩ = some (.int .u64 (limb b 3 : Nat)) ∧ Two' w w' a b)
    ((refine heldP ?_; repeat (first | with_reducible exact u3 | with_reducible exact u2 | with_reducible exact u1 | with_reducible exact T0.out | with_reducible refine Two'.drew ?_ | with_reducible refine Two'.put4 ?_ (by omega) | with_reducible exact un_heldP (by with_reducible assumption))))
    (first
      | (go_at_call 126; refine (quotF_up a b WAD _ _ Ha.out Hb.out WAD_lt qc).mono ?_; rintro e w3 ⟨rfl, hb3⟩; rw [← Hx.out, ← Hok.out]; have u3 := u2.below hb3; have zz3 := zz2.below hb3 zz2.lt4; obtain ⟨y0, y1, y2, y3⟩ := zz3.frees4; obtain ⟨z0, z1, z2, z3⟩ := zz3.cells4; unfold U)
      | (go_at_call 72; refine (one_walk _).mono ?_; rintro e w2 ⟨rfl, hb2⟩; have u2 := u1.below hb2; have zz2 := zz1.below hb2 zz1.lt4; have qc : w2.cell? ⟨Lq, 0, none⟩ = some (.bool true) := (by rw [hb2.cell (p := ⟨Lq, 0, none⟩) hq2]; exact hq1); unfold U)
      | (go_at_call 116; refine (quot_walk true _).mono ?_; rintro e w1 ⟨⟨v1, rfl, Lq, rfl, hq1, hq2⟩, hb1⟩; have u1 : Two' w w1 a b := Two'.below (un_heldP (by with_reducible assumption)) hb1; have zz1 := Z0.out.drew.below hb1 Z0.out.drew.lt4))
  go_wp2
  refine bodyPost_ret (v := .tuple #[.agg #[.int .u64 (limb x 0 : Nat), .int .u64 (limb x 1 : Nat), .int .u64 (limb x 2 : Nat), .int .u64 (limb x 3 : Nat)], .bool ok]) (by simp [results, Try.results51, go_sem, z0, z1, z2, z3]) rfl ⟨rfl, below_set4 u3.l (by omega)⟩
end Go.Proofs.Ythglnedlbiembaa
