/- wad.Ratio, Square, and the document's answers of layer 3, walked. -/
import Derived.Test.YthglnedlbiembaaW5
namespace Go.Proofs.Ythglnedlbiembaa
open Go.RowKit Go.Sort

def SQ : Nat := 1000000000000000000000000000000000000
theorem SQ_lt : SQ < 2 ^ 256 := by decide
theorem wad_hi : 0 = WAD * WAD / 2 ^ 256 := by decide
theorem wad_lo : SQ = WAD * WAD % 2 ^ 256 := by decide
theorem wad_mulv : mulv WAD WAD = SQ := by decide
set_option maxRecDepth 100000 in
set_option maxHeartbeats 4000000 in
theorem ratio_walk (a b : Nat) (w : World) (ha : a < 2 ^ 256) (hb : b < 2 ^ 256) :
    Calls Try.prog 53 #[U a, U b] w fun e w' => e = .returned (.tuple #[U (qv a WAD b), .bool (qok a WAD b)]) ∧ Below w.heap.size w w' := by
  have Ha := Lib.hid ha
  have Hb := Lib.hid hb
  obtain ⟨x, hx⟩ : ∃ x, x = qv a WAD b := ⟨_, rfl⟩
  obtain ⟨ok, hok⟩ : ∃ x, x = qok a WAD b := ⟨_, rfl⟩
  rw [← hx, ← hok]
  have Hx := Lib.hid hx
  have Hok := Lib.hid hok
  clear ha hb hx hok
  unfold U
  go_enter Try.func53, Try.ntmps53
  go_upto_region 1 with (fail)
  have T0 := Lib.hid ((two_first (a := a) (b := b) (w := w) (t1 := 24) (t2 := 24)).alloc (.cells #[.int .u64 0, .int .u64 0, .int .u64 0, .int .u64 0] 24))
  have Z0 := Lib.hid (Arr.new4 (κ := .u64) (w := (w.alloc (.cells #[.int .u64 (limb a 0 : Nat), .int .u64 (limb a 1 : Nat), .int .u64 (limb a 2 : Nat), .int .u64 (limb a 3 : Nat)] 24)).alloc (.cells #[.int .u64 (limb b 0 : Nat), .int .u64 (limb b 1 : Nat), .int .u64 (limb b 2 : Nat), .int .u64 (limb b 3 : Nat)] 24)) (t := 24) (f := fun _ => 0) (b := w.heap.size + 1 + 1) (by simp))
  go_region_held3 (fun w' => w'.cell? ⟨w.heap.size, 0, none⟩ = some (.int .u64 (limb a 0 : Nat)) ∧ w'.cell? ⟨w.heap.size, 1, none⟩ = some (.int .u64 (limb a 1 : Nat)) ∧ w'.cell? ⟨w.heap.size, 2, none⟩ = some (.int .u64 (limb a 2 : Nat)) ∧ w'.cell? ⟨w.heap.size, 3, none⟩ = some (.int .u64 (limb a 3 : Nat)) ∧ w'.cell? ⟨w.heap.size + 1, 0, none⟩ = some (.int .u64 (limb b 0 : Nat)) ∧ w'.cell? ⟨w.heap.size + 1, 1, none⟩ = some (.int .u64 (limb b 1 : Nat)) ∧ w'.cell? ⟨w.heap.size + 1, 2, none⟩ = some (.int .u64 (limb b 2 : Nat)) ∧ w'.cell? ⟨w.heap.size + 1, 3, none⟩ = some (.int .u64 (limb b 3 : Nat)) ∧ Two' w w' a b)
    ((refine heldP ?_; repeat (first | with_reducible exact u3 | with_reducible exact u2 | with_reducible exact u1 | with_reducible exact T0.out | with_reducible refine Two'.drew ?_ | with_reducible refine Two'.put4 ?_ (by omega) | with_reducible exact un_heldP (by with_reducible assumption))))
    (first
      | (go_at_call 126; refine (quotF_down a WAD b _ _ Ha.out WAD_lt Hb.out qc).mono ?_; rintro e w3 ⟨rfl, hb3⟩; rw [← Hx.out, ← Hok.out]; have u3 := u2.below hb3; have zz3 := zz2.below hb3 zz2.lt4; obtain ⟨y0, y1, y2, y3⟩ := zz3.frees4; obtain ⟨z0, z1, z2, z3⟩ := zz3.cells4; unfold U)
      | (go_at_call 72; refine (one_walk _).mono ?_; rintro e w2 ⟨rfl, hb2⟩; have u2 := u1.below hb2; have zz2 := zz1.below hb2 zz1.lt4; have qc : w2.cell? ⟨Lq, 0, none⟩ = some (.bool false) := (by rw [hb2.cell (p := ⟨Lq, 0, none⟩) hq2]; exact hq1); unfold U)
      | (go_at_call 116; refine (quot_walk false _).mono ?_; rintro e w1 ⟨⟨v1, rfl, Lq, rfl, hq1, hq2⟩, hb1⟩; have u1 : Two' w w1 a b := Two'.below (un_heldP (by with_reducible assumption)) hb1; have zz1 := Z0.out.drew.below hb1 Z0.out.drew.lt4))
  go_wp2
  refine bodyPost_ret (v := .tuple #[.agg #[.int .u64 (limb x 0 : Nat), .int .u64 (limb x 1 : Nat), .int .u64 (limb x 2 : Nat), .int .u64 (limb x 3 : Nat)], .bool ok]) (by simp [results, Try.results53, go_sem, z0, z1, z2, z3]) rfl ⟨rfl, below_set4 u3.l (by omega)⟩
set_option maxRecDepth 100000 in
set_option maxHeartbeats 4000000 in
theorem rmost_walk (w : World) : Calls Try.prog 66 #[] w fun e w' => e = .returned (U MOST) ∧ Below w.heap.size w w' := by
  rw [U_MOST]
  go_enter Try.func66, Try.ntmps66
  go_wp2
  refine bodyPost_ret (v := .agg #[.int .u64 18446744073709551615, .int .u64 18446744073709551615, .int .u64 0, .int .u64 0]) (by simp [results, Try.results66, go_sem]) rfl ⟨rfl, (Below.refl _ _).alloc (Nat.le_refl _) _⟩
set_option maxRecDepth 100000 in
set_option maxHeartbeats 4000000 in
theorem rone_walk (w : World) : Calls Try.prog 75 #[] w fun e w' => e = .returned (U WAD) ∧ Below w.heap.size w w' := by
  rw [U_WAD]
  go_enter Try.func75, Try.ntmps75
  go_wp2
  refine bodyPost_ret (v := .agg #[.int .u64 1000000000000000000, .int .u64 0, .int .u64 0, .int .u64 0]) (by simp [results, Try.results75, go_sem]) rfl ⟨rfl, (Below.refl _ _).alloc (Nat.le_refl _) _⟩
set_option maxRecDepth 100000 in
set_option maxHeartbeats 4000000 in
theorem rgood_walk (a : Nat) (w : World) (ha : a < 2 ^ 256) : Calls Try.prog 60 #[U a] w fun e w' => e = .returned (.bool (decide (a ≤ WAD))) ∧ Below w.heap.size w w' := by
  have Ha := Lib.hid ha
  obtain ⟨c, hc⟩ : ∃ c, c = cmpU a WAD := ⟨_, rfl⟩
  obtain ⟨ok, hok⟩ : ∃ x, x = decide (a ≤ WAD) := ⟨_, rfl⟩
  rw [← hok]
  have hdec : decide (c ≤ 0) = ok := by rw [hok, hc]; exact decide_eq_decide.2 (cmpU_le a WAD)
  have Hc := Lib.hid hc
  have Hok := Lib.hid hok
  clear ha hc hok
  unfold U
  go_enter Try.func60, Try.ntmps60
  go_upto_region 1 with (fail)
  have T0 := Lib.hid (one_first (a := a) (w := w) (t := 24))
  go_region_held3 (fun w' => w'.cell? ⟨w.heap.size, 0, none⟩ = some (.int .u64 (limb a 0 : Nat)) ∧ w'.cell? ⟨w.heap.size, 1, none⟩ = some (.int .u64 (limb a 1 : Nat)) ∧ w'.cell? ⟨w.heap.size, 2, none⟩ = some (.int .u64 (limb a 2 : Nat)) ∧ w'.cell? ⟨w.heap.size, 3, none⟩ = some (.int .u64 (limb a 3 : Nat)) ∧ One' w w' a)
    ((refine held1 ?_; repeat (first | with_reducible exact u2 | with_reducible exact u1 | with_reducible exact T0.out | with_reducible refine One'.drew ?_ | with_reducible exact un_held1 (by with_reducible assumption))))
    (first
      | (go_at_call 23; refine (rcmp_walk a WAD _ Ha.out WAD_lt).mono ?_; rintro e w2 ⟨rfl, hb2⟩; have u2 := u1.below hb2; rw [← Hc.out])
      | (go_at_call 75; refine (rone_walk _).mono ?_; rintro e w1 ⟨rfl, hb1⟩; have u1 : One' w w1 a := One'.below (un_held1 (by with_reducible assumption)) hb1; unfold U))
  go_wp2
  refine bodyPost_ret (v := .bool ok) (by simp [results, Try.results60, go_sem]) rfl ⟨rfl, u2.l⟩
set_option maxRecDepth 100000 in
set_option maxHeartbeats 4000000 in
theorem ramount_walk (a : Nat) (w : World) (ha : a < 2 ^ 256) : Calls Try.prog 62 #[U a] w fun e w' => e = .returned (.bool (decide (a ≤ MOST))) ∧ Below w.heap.size w w' := by
  have Ha := Lib.hid ha
  obtain ⟨c, hc⟩ : ∃ c, c = cmpU a MOST := ⟨_, rfl⟩
  obtain ⟨ok, hok⟩ : ∃ x, x = decide (a ≤ MOST) := ⟨_, rfl⟩
  rw [← hok]
  have hdec : decide (c ≤ 0) = ok := by rw [hok, hc]; exact decide_eq_decide.2 (cmpU_le a MOST)
  have Hc := Lib.hid hc
  have Hok := Lib.hid hok
  clear ha hc hok
  unfold U
  go_enter Try.func62, Try.ntmps62
  go_upto_region 1 with (fail)
  have T0 := Lib.hid (one_first (a := a) (w := w) (t := 24))
  go_region_held3 (fun w' => w'.cell? ⟨w.heap.size, 0, none⟩ = some (.int .u64 (limb a 0 : Nat)) ∧ w'.cell? ⟨w.heap.size, 1, none⟩ = some (.int .u64 (limb a 1 : Nat)) ∧ w'.cell? ⟨w.heap.size, 2, none⟩ = some (.int .u64 (limb a 2 : Nat)) ∧ w'.cell? ⟨w.heap.size, 3, none⟩ = some (.int .u64 (limb a 3 : Nat)) ∧ One' w w' a)
    ((refine held1 ?_; repeat (first | with_reducible exact u2 | with_reducible exact u1 | with_reducible exact T0.out | with_reducible refine One'.drew ?_ | with_reducible exact un_held1 (by with_reducible assumption))))
    (first
      | (go_at_call 23; refine (rcmp_walk a MOST _ Ha.out MOST_lt).mono ?_; rintro e w2 ⟨rfl, hb2⟩; have u2 := u1.below hb2; rw [← Hc.out])
      | (go_at_call 66; refine (rmost_walk _).mono ?_; rintro e w1 ⟨rfl, hb1⟩; have u1 : One' w w1 a := One'.below (un_held1 (by with_reducible assumption)) hb1; unfold U))
  go_wp2
  refine bodyPost_ret (v := .bool ok) (by simp [results, Try.results62, go_sem]) rfl ⟨rfl, u2.l⟩
set_option maxRecDepth 100000 in
set_option maxHeartbeats 4000000 in
theorem rpart_walk (a b : Nat) (w : World) (ha : a < 2 ^ 256) (hb : b < 2 ^ 256) :
    Calls Try.prog 50 #[U a, U b] w fun e w' => e = .returned (.tuple #[U (qv a b WAD), .bool (qok a b WAD)]) ∧ Below w.heap.size w w' := by
  have Ha := Lib.hid ha
  have Hb := Lib.hid hb
  obtain ⟨x, hx⟩ : ∃ x, x = qv a b WAD := ⟨_, rfl⟩
  obtain ⟨ok, hok⟩ : ∃ x, x = qok a b WAD := ⟨_, rfl⟩
  rw [← hx, ← hok]
  have Hx := Lib.hid hx
  have Hok := Lib.hid hok
  clear ha hb hx hok
  unfold U
  go_enter Try.func50, Try.ntmps50
  go_upto_region 1 with (fail)
  have T0 := Lib.hid ((two_first (a := a) (b := b) (w := w) (t1 := 24) (t2 := 24)).alloc (.cells #[.int .u64 0, .int .u64 0, .int .u64 0, .int .u64 0] 24))
  have Z0 := Lib.hid (Arr.new4 (κ := .u64) (w := (w.alloc (.cells #[.int .u64 (limb a 0 : Nat), .int .u64 (limb a 1 : Nat), .int .u64 (limb a 2 : Nat), .int .u64 (limb a 3 : Nat)] 24)).alloc (.cells #[.int .u64 (limb b 0 : Nat), .int .u64 (limb b 1 : Nat), .int .u64 (limb b 2 : Nat), .int .u64 (limb b 3 : Nat)] 24)) (t := 24) (f := fun _ => 0) (b := w.heap.size + 1 + 1) (by simp))
  go_region_held3 (fun w' => w'.cell? ⟨w.heap.size, 0, none⟩ = some (.int .u64 (limb a 0 : Nat)) ∧ w'.cell? ⟨w.heap.size, 1, none⟩ = some (.int .u64 (limb a 1 : Nat)) ∧ w'.cell? ⟨w.heap.size, 2, none⟩ = some (.int .u64 (limb a 2 : Nat)) ∧ w'.cell? ⟨w.heap.size, 3, none⟩ = some (.int .u64 (limb a 3 : Nat)) ∧ w'.cell? ⟨w.heap.size + 1, 0, none⟩ = some (.int .u64 (limb b 0 : Nat)) ∧ w'.cell? ⟨w.heap.size + 1, 1, none⟩ = some (.int .u64 (limb b 1 : Nat)) ∧ w'.cell? ⟨w.heap.size + 1, 2, none⟩ = some (.int .u64 (limb b 2 : Nat)) ∧ w'.cell? ⟨w.heap.size + 1, 3, none⟩ = some (.int .u64 (limb b 3 : Nat)) ∧ Two' w w' a b)
    ((refine heldP ?_; repeat (first | with_reducible exact u2 | with_reducible exact u1 | with_reducible exact T0.out | with_reducible refine Two'.drew ?_ | with_reducible refine Two'.put4 ?_ (by omega) | with_reducible exact un_heldP (by with_reducible assumption))))
    (first
      | (go_at_call 41; refine (rdown_walk a b WAD _ Ha.out Hb.out WAD_lt).mono ?_; rintro e w2 ⟨rfl, hb2⟩; rw [← Hx.out, ← Hok.out]; have u2 := u1.below hb2; have zz2 := zz1.below hb2 zz1.lt4; obtain ⟨y0, y1, y2, y3⟩ := zz2.frees4; obtain ⟨z0, z1, z2, z3⟩ := zz2.cells4; unfold U)
      | (go_at_call 75; refine (rone_walk _).mono ?_; rintro e w1 ⟨rfl, hb1⟩; have u1 : Two' w w1 a b := Two'.below (un_heldP (by with_reducible assumption)) hb1; have zz1 := Z0.out.drew.below hb1 Z0.out.drew.lt4; unfold U))
  go_wp2
  refine bodyPost_ret (v := .tuple #[.agg #[.int .u64 (limb x 0 : Nat), .int .u64 (limb x 1 : Nat), .int .u64 (limb x 2 : Nat), .int .u64 (limb x 3 : Nat)], .bool ok]) (by simp [results, Try.results50, go_sem, z0, z1, z2, z3]) rfl ⟨rfl, below_set4 u2.l (by omega)⟩
set_option maxRecDepth 100000 in
set_option maxHeartbeats 4000000 in
theorem rpartUp_walk (a b : Nat) (w : World) (ha : a < 2 ^ 256) (hb : b < 2 ^ 256) :
    Calls Try.prog 52 #[U a, U b] w fun e w' => e = .returned (.tuple #[U (uv a b WAD), .bool (uok a b WAD)]) ∧ Below w.heap.size w w' := by
  have Ha := Lib.hid ha
  have Hb := Lib.hid hb
  obtain ⟨x, hx⟩ : ∃ x, x = uv a b WAD := ⟨_, rfl⟩
  obtain ⟨ok, hok⟩ : ∃ x, x = uok a b WAD := ⟨_, rfl⟩
  rw [← hx, ← hok]
  have Hx := Lib.hid hx
  have Hok := Lib.hid hok
  clear ha hb hx hok
  unfold U
  go_enter Try.func52, Try.ntmps52
  go_upto_region 1 with (fail)
  have T0 := Lib.hid ((two_first (a := a) (b := b) (w := w) (t1 := 24) (t2 := 24)).alloc (.cells #[.int .u64 0, .int .u64 0, .int .u64 0, .int .u64 0] 24))
  have Z0 := Lib.hid (Arr.new4 (κ := .u64) (w := (w.alloc (.cells #[.int .u64 (limb a 0 : Nat), .int .u64 (limb a 1 : Nat), .int .u64 (limb a 2 : Nat), .int .u64 (limb a 3 : Nat)] 24)).alloc (.cells #[.int .u64 (limb b 0 : Nat), .int .u64 (limb b 1 : Nat), .int .u64 (limb b 2 : Nat), .int .u64 (limb b 3 : Nat)] 24)) (t := 24) (f := fun _ => 0) (b := w.heap.size + 1 + 1) (by simp))
  go_region_held3 (fun w' => w'.cell? ⟨w.heap.size, 0, none⟩ = some (.int .u64 (limb a 0 : Nat)) ∧ w'.cell? ⟨w.heap.size, 1, none⟩ = some (.int .u64 (limb a 1 : Nat)) ∧ w'.cell? ⟨w.heap.size, 2, none⟩ = some (.int .u64 (limb a 2 : Nat)) ∧ w'.cell? ⟨w.heap.size, 3, none⟩ = some (.int .u64 (limb a 3 : Nat)) ∧ w'.cell? ⟨w.heap.size + 1, 0, none⟩ = some (.int .u64 (limb b 0 : Nat)) ∧ w'.cell? ⟨w.heap.size + 1, 1, none⟩ = some (.int .u64 (limb b 1 : Nat)) ∧ w'.cell? ⟨w.heap.size + 1, 2, none⟩ = some (.int .u64 (limb b 2 : Nat)) ∧ w'.cell? ⟨w.heap.size + 1, 3, none⟩ = some (.int .u64 (limb b 3 : Nat)) ∧ Two' w w' a b)
    ((refine heldP ?_; repeat (first | with_reducible exact u2 | with_reducible exact u1 | with_reducible exact T0.out | with_reducible refine Two'.drew ?_ | with_reducible refine Two'.put4 ?_ (by omega) | with_reducible exact un_heldP (by with_reducible assumption))))
    (first
      | (go_at_call 43; refine (rup_walk a b WAD _ Ha.out Hb.out WAD_lt).mono ?_; rintro e w2 ⟨rfl, hb2⟩; rw [← Hx.out, ← Hok.out]; have u2 := u1.below hb2; have zz2 := zz1.below hb2 zz1.lt4; obtain ⟨y0, y1, y2, y3⟩ := zz2.frees4; obtain ⟨z0, z1, z2, z3⟩ := zz2.cells4; unfold U)
      | (go_at_call 75; refine (rone_walk _).mono ?_; rintro e w1 ⟨rfl, hb1⟩; have u1 : Two' w w1 a b := Two'.below (un_heldP (by with_reducible assumption)) hb1; have zz1 := Z0.out.drew.below hb1 Z0.out.drew.lt4; unfold U))
  go_wp2
  refine bodyPost_ret (v := .tuple #[.agg #[.int .u64 (limb x 0 : Nat), .int .u64 (limb x 1 : Nat), .int .u64 (limb x 2 : Nat), .int .u64 (limb x 3 : Nat)], .bool ok]) (by simp [results, Try.results52, go_sem, z0, z1, z2, z3]) rfl ⟨rfl, below_set4 u2.l (by omega)⟩
set_option maxRecDepth 100000 in
set_option maxHeartbeats 4000000 in
theorem rratio_walk (a b : Nat) (w : World) (ha : a < 2 ^ 256) (hb : b < 2 ^ 256) :
    Calls Try.prog 54 #[U a, U b] w fun e w' => e = .returned (.tuple #[U (qv a WAD b), .bool (qok a WAD b)]) ∧ Below w.heap.size w w' := by
  have Ha := Lib.hid ha
  have Hb := Lib.hid hb
  obtain ⟨x, hx⟩ : ∃ x, x = qv a WAD b := ⟨_, rfl⟩
  obtain ⟨ok, hok⟩ : ∃ x, x = qok a WAD b := ⟨_, rfl⟩
  rw [← hx, ← hok]
  have Hx := Lib.hid hx
  have Hok := Lib.hid hok
  clear ha hb hx hok
  unfold U
  go_enter Try.func54, Try.ntmps54
  go_upto_region 1 with (fail)
  have T0 := Lib.hid ((two_first (a := a) (b := b) (w := w) (t1 := 24) (t2 := 24)).alloc (.cells #[.int .u64 0, .int .u64 0, .int .u64 0, .int .u64 0] 24))
  have Z0 := Lib.hid (Arr.new4 (κ := .u64) (w := (w.alloc (.cells #[.int .u64 (limb a 0 : Nat), .int .u64 (limb a 1 : Nat), .int .u64 (limb a 2 : Nat), .int .u64 (limb a 3 : Nat)] 24)).alloc (.cells #[.int .u64 (limb b 0 : Nat), .int .u64 (limb b 1 : Nat), .int .u64 (limb b 2 : Nat), .int .u64 (limb b 3 : Nat)] 24)) (t := 24) (f := fun _ => 0) (b := w.heap.size + 1 + 1) (by simp))
  go_region_held3 (fun w' => w'.cell? ⟨w.heap.size, 0, none⟩ = some (.int .u64 (limb a 0 : Nat)) ∧ w'.cell? ⟨w.heap.size, 1, none⟩ = some (.int .u64 (limb a 1 : Nat)) ∧ w'.cell? ⟨w.heap.size, 2, none⟩ = some (.int .u64 (limb a 2 : Nat)) ∧ w'.cell? ⟨w.heap.size, 3, none⟩ = some (.int .u64 (limb a 3 : Nat)) ∧ w'.cell? ⟨w.heap.size + 1, 0, none⟩ = some (.int .u64 (limb b 0 : Nat)) ∧ w'.cell? ⟨w.heap.size + 1, 1, none⟩ = some (.int .u64 (limb b 1 : Nat)) ∧ w'.cell? ⟨w.heap.size + 1, 2, none⟩ = some (.int .u64 (limb b 2 : Nat)) ∧ w'.cell? ⟨w.heap.size + 1, 3, none⟩ = some (.int .u64 (limb b 3 : Nat)) ∧ Two' w w' a b)
    ((refine heldP ?_; repeat (first | with_reducible exact u2 | with_reducible exact u1 | with_reducible exact T0.out | with_reducible refine Two'.drew ?_ | with_reducible refine Two'.put4 ?_ (by omega) | with_reducible exact un_heldP (by with_reducible assumption))))
    (first
      | (go_at_call 41; refine (rdown_walk a WAD b _ Ha.out WAD_lt Hb.out).mono ?_; rintro e w2 ⟨rfl, hb2⟩; rw [← Hx.out, ← Hok.out]; have u2 := u1.below hb2; have zz2 := zz1.below hb2 zz1.lt4; obtain ⟨y0, y1, y2, y3⟩ := zz2.frees4; obtain ⟨z0, z1, z2, z3⟩ := zz2.cells4; unfold U)
      | (go_at_call 75; refine (rone_walk _).mono ?_; rintro e w1 ⟨rfl, hb1⟩; have u1 : Two' w w1 a b := Two'.below (un_heldP (by with_reducible assumption)) hb1; have zz1 := Z0.out.drew.below hb1 Z0.out.drew.lt4; unfold U))
  go_wp2
  refine bodyPost_ret (v := .tuple #[.agg #[.int .u64 (limb x 0 : Nat), .int .u64 (limb x 1 : Nat), .int .u64 (limb x 2 : Nat), .int .u64 (limb x 3 : Nat)], .bool ok]) (by simp [results, Try.results54, go_sem, z0, z1, z2, z3]) rfl ⟨rfl, below_set4 u2.l (by omega)⟩
set_option maxRecDepth 100000 in
set_option maxHeartbeats 4000000 in
theorem rscale_walk (a b d : Nat) (w : World) (ha : a < 2 ^ 256) (hb : b < 2 ^ 256) (hd : d < 2 ^ 256) :
    Calls Try.prog 56 #[U a, U b, U d] w fun e w' => e = .returned (.tuple #[U (qv a b d), .bool (sok a b d)]) ∧ Below w.heap.size w w' := by
  have heqa := fun w => eq0_run ha w
  have heqd := fun w => eq0_run hd w
  obtain ⟨x, hx⟩ : ∃ x, x = qv a b d := ⟨_, rfl⟩
  obtain ⟨ok, hok⟩ : ∃ x, x = sok a b d := ⟨_, rfl⟩
  obtain ⟨a0, ha0⟩ : ∃ x, x = decide (a = 0) := ⟨_, rfl⟩
  rw [← hx, ← hok]
  have Ha := Lib.hid ha
  have Hb := Lib.hid hb
  have Hd := Lib.hid hd
  have Hx := Lib.hid hx
  have Hok := Lib.hid hok
  rw [← ha0] at heqa
  have Ha0 := Lib.hid ha0
  clear ha hb hd hx hok ha0
  have T0 := Lib.hid (three0_first (a := a) (b := b) (d := d) (w := w) (t1 := 24) (t2 := 24) (t3 := 24) (t4 := 24))
  unfold U
  by_cases hd0 : d = 0
  · have dd : decide (d = 0) = true := decide_eq_true hd0
    have hs : sok a b d = a0 := by
      unfold sok
      rw [hd0, (Down0 a b).2, Bool.or_false, Ha0.out]
      exact decide_eq_decide.2 ⟨fun h => h.1, fun h => ⟨h, rfl⟩⟩
    have h0 := Lib.hid (show x = 0 ∧ ok = a0 from ⟨by rw [Hx.out, hd0]; exact (Down0 a b).1, by rw [Hok.out, hs]⟩)
    clear hd0 hs
    rw [h0.out.1, h0.out.2, show limb 0 0 = 0 from rfl, show limb 0 1 = 0 from rfl, show limb 0 2 = 0 from rfl, show limb 0 3 = 0 from rfl]
    go_enter Try.func56, Try.ntmps56
    go_upto_region 2 with (fail)
    obtain ⟨a00, a01, a02, a03⟩ := T0.out.t.a.cells4
    obtain ⟨z0', z1', z2', z3'⟩ := T0.out.z.cells4
    obtain ⟨y0', y1', y2', y3'⟩ := T0.out.z.frees4
    have lz := T0.out.s
    have L0 := Lib.hid T0.out.t.l
    clear T0
    go_region
    all_goals
      go_wp2
      refine bodyPost_ret (v := .tuple #[.agg #[.int .u64 0, .int .u64 0, .int .u64 0, .int .u64 0], .bool a0]) (by simp [results, Try.results56, go_sem]) rfl ⟨rfl, ?_⟩
      refine below_drewN ?_ 1
      repeat (first | with_reducible exact L0.out | with_reducible refine below_set4 ?_ (by omega) | with_reducible refine RowKit.Below.alloc ?_ (by simp only [World.size_setCell]; omega) _)
  · have dd : decide (d = 0) = false := decide_eq_false hd0
    have hs : qok a b d = ok := by rw [Hok.out, sok_no (fun h => hd0 h.2)]
    have Hs := Lib.hid hs
    clear hd0 hs
    go_enter Try.func56, Try.ntmps56
    go_wp2_with (go_at_call 41; refine (rdown_walk a b d _ Ha.out Hb.out Hd.out).mono ?_; rintro e w1 ⟨rfl, hb1⟩; rw [← Hx.out, Hs.out]; have u1 := T0.out.below hb1; obtain ⟨z0, z1, z2, z3⟩ := u1.z.cells4; obtain ⟨y0, y1, y2, y3⟩ := u1.z.frees4; unfold U)
    refine bodyPost_ret (v := .tuple #[.agg #[.int .u64 (limb x 0 : Nat), .int .u64 (limb x 1 : Nat), .int .u64 (limb x 2 : Nat), .int .u64 (limb x 3 : Nat)], .bool ok]) (by simp [results, Try.results56, go_sem, z0, z1, z2, z3]) rfl ⟨rfl, below_set4 u1.t.l (by omega)⟩
set_option maxRecDepth 100000 in
set_option maxHeartbeats 4000000 in
theorem rscaleUp_walk (a b d : Nat) (w : World) (ha : a < 2 ^ 256) (hb : b < 2 ^ 256) (hd : d < 2 ^ 256) :
    Calls Try.prog 58 #[U a, U b, U d] w fun e w' => e = .returned (.tuple #[U (uv a b d), .bool (suok a b d)]) ∧ Below w.heap.size w w' := by
  have heqa := fun w => eq0_run ha w
  have heqd := fun w => eq0_run hd w
  obtain ⟨x, hx⟩ : ∃ x, x = uv a b d := ⟨_, rfl⟩
  obtain ⟨ok, hok⟩ : ∃ x, x = suok a b d := ⟨_, rfl⟩
  obtain ⟨a0, ha0⟩ : ∃ x, x = decide (a = 0) := ⟨_, rfl⟩
  rw [← hx, ← hok]
  have Ha := Lib.hid ha
  have Hb := Lib.hid hb
  have Hd := Lib.hid hd
  have Hx := Lib.hid hx
  have Hok := Lib.hid hok
  rw [← ha0] at heqa
  have Ha0 := Lib.hid ha0
  clear ha hb hd hx hok ha0
  have T0 := Lib.hid (three0_first (a := a) (b := b) (d := d) (w := w) (t1 := 24) (t2 := 24) (t3 := 24) (t4 := 24))
  unfold U
  by_cases hd0 : d = 0
  · have dd : decide (d = 0) = true := decide_eq_true hd0
    have hs : suok a b d = a0 := by
      unfold suok
      rw [hd0, (Up0 a b).2, Bool.or_false, Ha0.out]
      exact decide_eq_decide.2 ⟨fun h => h.1, fun h => ⟨h, rfl⟩⟩
    have h0 := Lib.hid (show x = 0 ∧ ok = a0 from ⟨by rw [Hx.out, hd0]; exact (Up0 a b).1, by rw [Hok.out, hs]⟩)
    clear hd0 hs
    rw [h0.out.1, h0.out.2, show limb 0 0 = 0 from rfl, show limb 0 1 = 0 from rfl, show limb 0 2 = 0 from rfl, show limb 0 3 = 0 from rfl]
    go_enter Try.func58, Try.ntmps58
    go_upto_region 2 with (fail)
    obtain ⟨a00, a01, a02, a03⟩ := T0.out.t.a.cells4
    obtain ⟨z0', z1', z2', z3'⟩ := T0.out.z.cells4
    obtain ⟨y0', y1', y2', y3'⟩ := T0.out.z.frees4
    have lz := T0.out.s
    have L0 := Lib.hid T0.out.t.l
    clear T0
    go_region
    all_goals
      go_wp2
      refine bodyPost_ret (v := .tuple #[.agg #[.int .u64 0, .int .u64 0, .int .u64 0, .int .u64 0], .bool a0]) (by simp [results, Try.results58, go_sem]) rfl ⟨rfl, ?_⟩
      refine below_drewN ?_ 1
      repeat (first | with_reducible exact L0.out | with_reducible refine below_set4 ?_ (by omega) | with_reducible refine RowKit.Below.alloc ?_ (by simp only [World.size_setCell]; omega) _)
  · have dd : decide (d = 0) = false := decide_eq_false hd0
    have hs : uok a b d = ok := by rw [Hok.out, suok_no (fun h => hd0 h.2)]
    have Hs := Lib.hid hs
    clear hd0 hs
    go_enter Try.func58, Try.ntmps58
    go_wp2_with (go_at_call 43; refine (rup_walk a b d _ Ha.out Hb.out Hd.out).mono ?_; rintro e w1 ⟨rfl, hb1⟩; rw [← Hx.out, Hs.out]; have u1 := T0.out.below hb1; obtain ⟨z0, z1, z2, z3⟩ := u1.z.cells4; obtain ⟨y0, y1, y2, y3⟩ := u1.z.frees4; unfold U)
    refine bodyPost_ret (v := .tuple #[.agg #[.int .u64 (limb x 0 : Nat), .int .u64 (limb x 1 : Nat), .int .u64 (limb x 2 : Nat), .int .u64 (limb x 3 : Nat)], .bool ok]) (by simp [results, Try.results58, go_sem, z0, z1, z2, z3]) rfl ⟨rfl, below_set4 u1.t.l (by omega)⟩
set_option maxRecDepth 100000 in
set_option maxHeartbeats 4000000 in
theorem square_walk (w : World) : Calls Try.prog 63 #[] w fun e w' => e = .returned (U SQ) ∧ Below w.heap.size w w' := by
  have hfl := field_low
  obtain ⟨q, hq⟩ : ∃ q, q = SQ := ⟨_, rfl⟩
  rw [← hq]
  have Hq := Lib.hid hq
  clear hq
  unfold U
  go_enter Try.func63, Try.ntmps63
  have Z0 := Lib.hid (Arr.new4 (κ := .u64) (w := w) (t := 24) (f := fun _ => 0) (b := w.heap.size) rfl)
  have L0 := Lib.hid ((Below.refl w.heap.size w).alloc (Nat.le_refl _) (.cells #[.int .u64 0, .int .u64 0, .int .u64 0, .int .u64 0] 24))
  go_wp2_with (first
    | (go_at_call 44; refine (wmulH_walk WAD WAD 0 SQ _ WAD_lt WAD_lt wad_hi wad_lo).mono ?_; rintro e w3 ⟨rfl, hb3⟩; rw [← Hq.out]; have zz3 := zz2.below hb3 zz2.lt4; have l3 := l2.trans (hb3.mono l2.size); obtain ⟨y0, y1, y2, y3⟩ := zz3.frees4; obtain ⟨z0, z1, z2, z3⟩ := zz3.cells4; unfold WW)
    | (go_at_call 72; with_reducible refine (one_walk w1).mono ?_; rintro e w2 ⟨rfl, hb2⟩; have zz2 := zz1.below hb2 zz1.lt4; have l2 := l1.trans (hb2.mono l1.size); unfold U)
    | (go_at_call 72; refine (one_walk _).mono ?_; rintro e w1 ⟨rfl, hb1⟩; have zz1 := Z0.out.below hb1 Z0.out.lt4; have l1 := L0.out.trans (hb1.mono L0.out.size); unfold U))
  refine bodyPost_ret (v := .agg #[.int .u64 (limb q 0 : Nat), .int .u64 (limb q 1 : Nat), .int .u64 (limb q 2 : Nat), .int .u64 (limb q 3 : Nat)]) (by simp [results, Try.results63, go_sem, z0, z1, z2, z3]) rfl ⟨rfl, below_set4 l3 (by omega)⟩
set_option maxRecDepth 100000 in
set_option maxHeartbeats 4000000 in
theorem rsquare_walk (w : World) : Calls Try.prog 64 #[] w fun e w' => e = .returned (U SQ) ∧ Below w.heap.size w w' := by
  obtain ⟨q, hq⟩ : ∃ q, q = SQ := ⟨_, rfl⟩
  rw [← hq]
  have Hq := Lib.hid hq
  clear hq
  unfold U
  go_enter Try.func64, Try.ntmps64
  have Z0 := Lib.hid (Arr.new4 (κ := .u64) (w := w) (t := 24) (f := fun _ => 0) (b := w.heap.size) rfl)
  have L0 := Lib.hid ((Below.refl w.heap.size w).alloc (Nat.le_refl _) (.cells #[.int .u64 0, .int .u64 0, .int .u64 0, .int .u64 0] 24))
  go_wp2_with (first
    | (go_at_call 20; refine (rmul_walk WAD WAD _ WAD_lt WAD_lt).mono ?_; rintro e w3 ⟨rfl, hb3⟩; rw [wad_mulv, ← Hq.out]; have zz3 := zz2.below hb3 zz2.lt4; have l3 := l2.trans (hb3.mono l2.size); obtain ⟨y0, y1, y2, y3⟩ := zz3.frees4; obtain ⟨z0, z1, z2, z3⟩ := zz3.cells4; have lz := zz3.lt4; unfold U)
    | (go_at_call 75; with_reducible refine (rone_walk w1).mono ?_; rintro e w2 ⟨rfl, hb2⟩; have zz2 := zz1.below hb2 zz1.lt4; have l2 := l1.trans (hb2.mono l1.size); unfold U)
    | (go_at_call 75; refine (rone_walk _).mono ?_; rintro e w1 ⟨rfl, hb1⟩; have zz1 := Z0.out.below hb1 Z0.out.lt4; have l1 := L0.out.trans (hb1.mono L0.out.size); unfold U))
  refine bodyPost_ret (v := .agg #[.int .u64 (limb q 0 : Nat), .int .u64 (limb q 1 : Nat), .int .u64 (limb q 2 : Nat), .int .u64 (limb q 3 : Nat)]) (by simp [results, Try.results64, go_sem, z0, z1, z2, z3, lz]) rfl ⟨rfl, (below_set4 l3 (by omega)).alloc (by simp only [World.size_setCell]; exact l3.size) _⟩
end Go.Proofs.Ythglnedlbiembaa
