/- tallageref01.Mul, Div, walked. -/
import Derived.Test.YthglnedlbiembaaRC
import Derived.Test.YthglnedlbiembaaUA
namespace Go.Proofs.Ythglnedlbiembaa
open Go.RowKit Go.Sort

theorem times_c (va vb : Value) (N M : Nat) (w : World) (ha : NatV w va N 8) (hb : NatV w vb M 8) :
    Calls Try.prog 102 #[va, vb] w fun e w' => (∃ v, e = .returned v ∧ NatV w' v (N * M) 16) ∧ Below w.heap.size w w' := by
  obtain ⟨n, f, h1, h2, h3, _⟩ := ha
  obtain ⟨m, g, k1, k2, k3, _⟩ := hb
  rw [← h3, ← k3]
  refine (times_walk va vb n m f g w h2 k2 (by omega) (by omega)).mono fun e w' ⟨⟨v, he, n', f', p1, p2, p3, p4⟩, hw⟩ => ⟨⟨v, he, n', f', by omega, p2, p3, p4⟩, hw⟩
theorem quoRem_c (va vb : Value) (N M k : Nat) (w : World) (ha : NatV w va N k) (hb : NatV w vb M 8) (hk : k ≤ 20) (hM : M ≠ 0) :
    Calls Try.prog 106 #[va, vb] w fun e w' => (∃ q r, e = .returned (.tuple #[q, r]) ∧ NatV w' q (N / M) 20 ∧ NatV w' r (N % M) 20) ∧ Below w.heap.size w w' := by
  obtain ⟨n, f, h1, h2, h3, _⟩ := ha
  obtain ⟨m, g, k1, k2, k3, _⟩ := hb
  rw [← h3, ← k3]
  refine (quoRem_walk va vb n m f g w h2 k2 (by omega) (by omega)).mono fun e w' ⟨hr, hw⟩ => ⟨?_, hw⟩
  rcases hr with ⟨h5, _⟩ | ⟨_, q, r, he, ⟨n1, f1, p1, p2, p3, p4⟩, ⟨n2, f2, s1, s2, s3, s4⟩⟩
  · exact absurd (k3.symm.trans h5) hM
  · exact ⟨q, r, he, ⟨n1, f1, by omega, p2, p3, p4⟩, ⟨n2, f2, by omega, s2, s3, s4⟩⟩
theorem toU_c (v : Value) (N m : Nat) (w : World) (h : NatV w v N m) (hm : m ≤ 100) (hN : N < 2 ^ 256) : Calls Try.prog 107 #[v] w fun e w' => e = .returned (.tuple #[U N, .bool true]) ∧ Below w.heap.size w w' := by
  obtain ⟨n, f, h1, h2, h3, h4⟩ := h
  have hw := toU_walk v n f w h2 (by omega)
  rw [h3] at hw
  refine hw.mono fun e w' ⟨he, hb⟩ => ⟨?_, hb⟩
  rw [he, if_pos hN, decide_eq_true hN]

set_option maxRecDepth 100000 in
set_option maxHeartbeats 4000000 in
theorem rmul_walk (a b : Nat) (w : World) (ha : a < 2 ^ 256) (hb : b < 2 ^ 256) :
    Calls Try.prog 20 #[U a, U b] w fun e w' => e = .returned (.tuple #[U (mulv a b), .bool (mulk a b)]) ∧ Below w.heap.size w w' := by
  have Ha := Lib.hid ha
  have Hb := Lib.hid hb
  obtain ⟨x, hx⟩ : ∃ x, x = mulv a b := ⟨_, rfl⟩
  obtain ⟨ok, hok⟩ : ∃ x, x = mulk a b := ⟨_, rfl⟩
  rw [← hx, ← hok]
  have Hx := Lib.hid hx
  have Hok := Lib.hid hok
  clear ha hb hx hok
  unfold U
  go_enter Try.func20, Try.ntmps20
  go_upto_region 1 with (fail)
  have T0 := Lib.hid ((two_first (a := a) (b := b) (w := w) (t1 := 24) (t2 := 24)).alloc (.cells #[.int .u64 0, .int .u64 0, .int .u64 0, .int .u64 0] 24))
  have Z0 := Lib.hid (Arr.new4 (κ := .u64) (w := (w.alloc (.cells #[.int .u64 (limb a 0 : Nat), .int .u64 (limb a 1 : Nat), .int .u64 (limb a 2 : Nat), .int .u64 (limb a 3 : Nat)] 24)).alloc (.cells #[.int .u64 (limb b 0 : Nat), .int .u64 (limb b 1 : Nat), .int .u64 (limb b 2 : Nat), .int .u64 (limb b 3 : Nat)] 24)) (t := 24) (f := fun _ => 0) (b := w.heap.size + 1 + 1) (by simp))
  go_region_held3 (fun w' => w'.cell? ⟨w.heap.size, 0, none⟩ = some (.int .u64 (limb a 0 : Nat)) ∧ w'.cell? ⟨w.heap.size, 1, none⟩ = some (.int .u64 (limb a 1 : Nat)) ∧ w'.cell? ⟨w.heap.size, 2, none⟩ = some (.int .u64 (limb a 2 : Nat)) ∧ w'.cell? ⟨w.heap.size, 3, none⟩ = some (.int .u64 (limb a 3 : Nat)) ∧ w'.cell? ⟨w.heap.size + 1, 0, none⟩ = some (.int .u64 (limb b 0 : Nat)) ∧ w'.cell? ⟨w.heap.size + 1, 1, none⟩ = some (.int .u64 (limb b 1 : Nat)) ∧ w'.cell? ⟨w.heap.size + 1, 2, none⟩ = some (.int .u64 (limb b 2 : Nat)) ∧ w'.cell? ⟨w.heap.size + 1, 3, none⟩ = some (.int .u64 (limb b 3 : Nat)) ∧ Two' w w' a b)
    ((refine held2 ?_; repeat (first | with_reducible exact u4 | with_reducible exact u3 | with_reducible exact u2 | with_reducible exact u1 | with_reducible exact T0.out | with_reducible refine Two'.drew ?_ | with_reducible refine Two'.put4 ?_ (by omega) | with_reducible exact un_held2 (by with_reducible assumption))))
    (first
      | (go_at_call 94; refine (told_c v3 (a * b) 16 _ hv3 (by omega)).mono ?_; rintro e w4 ⟨rfl, hb4⟩; rw [show (if a * b < 2 ^ 256 then a * b else 0) = x from Hx.out.symm, show decide (a * b < 2 ^ 256) = ok from Hok.out.symm]; have u4 := u3.below hb4; have zz4 := zz3.below hb4 zz3.lt4; obtain ⟨y0, y1, y2, y3⟩ := zz4.frees4; obtain ⟨z0, z1, z2, z3⟩ := zz4.cells4; unfold U)
      | (go_at_call 102; refine (times_c v1 v2 a b _ (hv1.below hb2) hv2).mono ?_; rintro e w3 ⟨⟨v3, rfl, hv3⟩, hb3⟩; have u3 := u2.below hb3; have zz3 := zz2.below hb3 zz2.lt4)
      | (go_at_call 96; with_reducible refine (ofn_c b _ Hb.out).mono ?_; rintro e w2 ⟨⟨v2, rfl, hv2⟩, hb2⟩; have u2 := u1.below hb2; have zz2 := zz1.below hb2 zz1.lt4)
      | (go_at_call 96; with_reducible refine (ofn_c a _ Ha.out).mono ?_; rintro e w1 ⟨⟨v1, rfl, hv1⟩, hb1⟩; have u1 : Two' w w1 a b := Two'.below (un_held2 (by with_reducible assumption)) hb1; have zz1 := Z0.out.drew.below hb1 Z0.out.drew.lt4))
  go_wp2
  refine bodyPost_ret (v := .tuple #[.agg #[.int .u64 (limb x 0 : Nat), .int .u64 (limb x 1 : Nat), .int .u64 (limb x 2 : Nat), .int .u64 (limb x 3 : Nat)], .bool ok]) (by simp [results, Try.results20, go_sem, z0, z1, z2, z3]) rfl ⟨rfl, below_set4 u4.l (by omega)⟩


set_option maxRecDepth 100000 in
set_option maxHeartbeats 4000000 in
theorem rdiv_walk (a b : Nat) (w : World) (ha : a < 2 ^ 256) (hb : b < 2 ^ 256) :
    Calls Try.prog 22 #[U a, U b] w (DivPost a b w) := by
  have heq := fun w => eq0_run hb w
  have Ha := Lib.hid ha
  have Hb := Lib.hid hb
  clear ha hb
  unfold U
  by_cases hb0 : b = 0
  · have hd : decide (b = 0) = true := decide_eq_true hb0
    have Hb0 := Lib.hid hb0
    clear hb0
    go_enter Try.func22, Try.ntmps22
    go_wp2
    refine bodyPost_ret (v := .tuple #[.agg #[.int .u64 0, .int .u64 0, .int .u64 0, .int .u64 0], .agg #[.int .u64 0, .int .u64 0, .int .u64 0, .int .u64 0], .bool false]) (by simp [results, Try.results22, go_sem]) rfl (divPost_no Hb0.out (by rw [U_zero]) ?_)
    exact ((((Below.refl _ _).alloc (Nat.le_refl _) _).alloc (by simp only [World.size_alloc]; omega) _).alloc (by simp only [World.size_alloc]; omega) _).alloc (by simp only [World.size_alloc]; omega) _
  · have hd : decide (b = 0) = false := decide_eq_false hb0
    obtain ⟨q, hq⟩ : ∃ x, x = a / b := ⟨_, rfl⟩
    obtain ⟨r, hr⟩ : ∃ x, x = a % b := ⟨_, rfl⟩
    have Hb0 := Lib.hid hb0
    have HQ := Lib.hid (show q < 2 ^ 256 by rw [hq]; exact Nat.lt_of_le_of_lt (Nat.div_le_self _ _) Ha.out)
    have HR := Lib.hid (show r < 2 ^ 256 by rw [hr]; exact Nat.lt_of_le_of_lt (Nat.mod_le _ _) Ha.out)
    have Hq := Lib.hid hq
    have Hr := Lib.hid hr
    clear hb0 hq hr
    go_enter Try.func22, Try.ntmps22
    go_upto_region 3 with (fail)
    have T0 := Lib.hid (((two_first (a := a) (b := b) (w := w) (t1 := 24) (t2 := 24)).alloc (.cells #[.int .u64 0, .int .u64 0, .int .u64 0, .int .u64 0] 24)).alloc (.cells #[.int .u64 0, .int .u64 0, .int .u64 0, .int .u64 0] 24))
    have Z0 := Lib.hid ((Arr.new4 (κ := .u64) (w := (w.alloc (.cells #[.int .u64 (limb a 0 : Nat), .int .u64 (limb a 1 : Nat), .int .u64 (limb a 2 : Nat), .int .u64 (limb a 3 : Nat)] 24)).alloc (.cells #[.int .u64 (limb b 0 : Nat), .int .u64 (limb b 1 : Nat), .int .u64 (limb b 2 : Nat), .int .u64 (limb b 3 : Nat)] 24)) (t := 24) (f := fun _ => 0) (b := w.heap.size + 1 + 1) (by simp)).alloc (.cells #[.int .u64 0, .int .u64 0, .int .u64 0, .int .u64 0] 24))
    have Y0 := Lib.hid (Arr.new4 (κ := .u64) (w := ((w.alloc (.cells #[.int .u64 (limb a 0 : Nat), .int .u64 (limb a 1 : Nat), .int .u64 (limb a 2 : Nat), .int .u64 (limb a 3 : Nat)] 24)).alloc (.cells #[.int .u64 (limb b 0 : Nat), .int .u64 (limb b 1 : Nat), .int .u64 (limb b 2 : Nat), .int .u64 (limb b 3 : Nat)] 24)).alloc (.cells #[.int .u64 0, .int .u64 0, .int .u64 0, .int .u64 0] 24)) (t := 24) (f := fun _ => 0) (b := w.heap.size + 1 + 1 + 1) (by simp))
    go_region_held3 (fun w' => w'.cell? ⟨w.heap.size, 0, none⟩ = some (.int .u64 (limb a 0 : Nat)) ∧ w'.cell? ⟨w.heap.size, 1, none⟩ = some (.int .u64 (limb a 1 : Nat)) ∧ w'.cell? ⟨w.heap.size, 2, none⟩ = some (.int .u64 (limb a 2 : Nat)) ∧ w'.cell? ⟨w.heap.size, 3, none⟩ = some (.int .u64 (limb a 3 : Nat)) ∧ w'.cell? ⟨w.heap.size + 1, 0, none⟩ = some (.int .u64 (limb b 0 : Nat)) ∧ w'.cell? ⟨w.heap.size + 1, 1, none⟩ = some (.int .u64 (limb b 1 : Nat)) ∧ w'.cell? ⟨w.heap.size + 1, 2, none⟩ = some (.int .u64 (limb b 2 : Nat)) ∧ w'.cell? ⟨w.heap.size + 1, 3, none⟩ = some (.int .u64 (limb b 3 : Nat)) ∧ Two' w w' a b)
      ((refine held2 ?_; repeat (first | with_reducible exact u3 | with_reducible exact u2 | with_reducible exact u1 | with_reducible exact T0.out | with_reducible refine Two'.drew ?_ | with_reducible exact un_held2 (by with_reducible assumption))))
      (first
        | (go_at_call 106; refine (quoRem_c v1 v2 a b 8 _ (hv1.below hb2) hv2 (by omega) Hb0.out).mono ?_; rintro e w3 ⟨⟨v3, v4, rfl, hv3, hv4⟩, hb3⟩; rw [← Hq.out] at hv3; rw [← Hr.out] at hv4; have u3 := u2.below hb3; have zz3 := zz2.below hb3 zz2.lt4; have yy3 := yy2.below hb3 yy2.lt4)
        | (go_at_call 96; with_reducible refine (ofn_c b _ Hb.out).mono ?_; rintro e w2 ⟨⟨v2, rfl, hv2⟩, hb2⟩; have u2 := u1.below hb2; have zz2 := zz1.below hb2 zz1.lt4; have yy2 := yy1.below hb2 yy1.lt4)
        | (go_at_call 96; with_reducible refine (ofn_c a _ Ha.out).mono ?_; rintro e w1 ⟨⟨v1, rfl, hv1⟩, hb1⟩; have u1 : Two' w w1 a b := Two'.below (un_held2 (by with_reducible assumption)) hb1; have zz1 := Z0.out.drew.below hb1 Z0.out.drew.lt4; have yy1 := Y0.out.drew.below hb1 Y0.out.drew.lt4))
    go_wp2_with fail
    refine (toU_c v3 q 20 _ hv3 (by omega) HQ.out).mono ?_
    rintro e w4 ⟨rfl, hb4⟩
    have u4 := u3.below hb4
    have zz4 := zz3.below hb4 zz3.lt4
    have yy4 := yy3.below hb4 yy3.lt4
    unfold U
    go_wp2_with fail
    refine (toU_c v4 r 20 _ (hv4.below hb4 |>.below ((Below.refl _ _).alloc (Nat.le_refl _) _)) (by omega) HR.out).mono ?_
    rintro e w5 ⟨rfl, hb5⟩
    have u5 := (u4.alloc _).below hb5
    have zz5 := (zz4.alloc _).below hb5 (zz4.alloc _).lt4
    have yy5 := (yy4.alloc _).below hb5 (yy4.alloc _).lt4
    have bq5 := (Box.new (n := q) rfl).below hb5
    unfold U
    have lq := bq5.s
    obtain ⟨q0, q1, q2, q3⟩ := bq5.a.cells4
    obtain ⟨z0, z1, z2, z3⟩ := zz5.frees4
    obtain ⟨z0', z1', z2', z3'⟩ := zz5.cells4
    obtain ⟨y0, y1, y2, y3⟩ := yy5.frees4
    obtain ⟨y0', y1', y2', y3'⟩ := yy5.cells4
    have lz := zz5.lt4
    have ly := yy5.lt4
    go_upto_region 6 with (fail)
    go_region
    all_goals
      go_wp2
      refine bodyPost_ret (v := .tuple #[.agg #[.int .u64 (limb q 0 : Nat), .int .u64 (limb q 1 : Nat), .int .u64 (limb q 2 : Nat), .int .u64 (limb q 3 : Nat)], .agg #[.int .u64 (limb r 0 : Nat), .int .u64 (limb r 1 : Nat), .int .u64 (limb r 2 : Nat), .int .u64 (limb r 3 : Nat)], .bool true]) (by simp [results, Try.results22, go_sem, z0', z1', z2', z3', y0', y1', y2', y3', lz, ly]) rfl (divPost_yes Hb0.out Hq.out Hr.out rfl ?_)
      exact below_drewN ((below_set4 (below_set4 u5.l (by omega)) (by omega)).alloc (by simp only [World.size_setCell]; omega) _) 1
end Go.Proofs.Ythglnedlbiembaa
