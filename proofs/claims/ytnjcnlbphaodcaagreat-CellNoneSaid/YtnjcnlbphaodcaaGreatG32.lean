/- tallageref01.told, Add, Sub, Cmp, walked. -/
import Derived.Test.YtnjcnlbphaodcaaGreatG31
import Derived.OwnWalk
namespace Go.Proofs.YtnjcnlbphaodcaaGreat
open Go.RowKit Go.Sort

set_option maxRecDepth 100000 in
theorem told_walk (v : Value) (n : Nat) (f : Nat → Nat) (w : World) (h : Ws w v n f) (hn : n ≤ 100) :
    Calls Tryz.prog 65 #[v] w (ToUPost (nval f n) w) := by
  have Hh := Lib.hid h
  clear h
  obtain ⟨x, hx⟩ : ∃ x, x = if nval f n < 2 ^ 256 then nval f n else 0 := ⟨_, rfl⟩
  obtain ⟨ok, hok⟩ : ∃ x, x = decide (nval f n < 2 ^ 256) := ⟨_, rfl⟩
  unfold ToUPost
  rw [← hx, ← hok]
  have Hx := Lib.hid hx
  have Hok := Lib.hid hok
  clear hx hok
  unfold U
  go_enter Tryz.func65, Tryz.ntmps65
  go_wp2_with (go_at_call 82; refine (toU_walk _ n f _ (Hh.out.below ((Below.refl _ _).alloc (Nat.le_refl _) _)) hn).mono ?_; rintro e w1 ⟨rfl, hb1⟩; rw [← Hx.out, ← Hok.out]; have hz : Arr .u64 w1 w.heap.size 4 (fun _ => 0) := Arr.below (Arr.new4 (f := fun _ => 0) rfl) hb1 (by rw [World.size_alloc]; omega); obtain ⟨y0, y1, y2, y3⟩ := hz.frees4; obtain ⟨z0, z1, z2, z3⟩ := hz.cells4; unfold U)
  refine bodyPost_ret (v := .tuple #[.agg #[.int .u64 (limb x 0 : Nat), .int .u64 (limb x 1 : Nat), .int .u64 (limb x 2 : Nat), .int .u64 (limb x 3 : Nat)], .bool ok]) (by simp [results, Tryz.results65, go_sem, z0, z1, z2, z3]) rfl ⟨rfl, below_set4 (((Below.refl _ _).alloc (Nat.le_refl _) _).trans (hb1.mono (by rw [World.size_alloc]; omega))) (by omega)⟩

theorem told_c (v : Value) (N m : Nat) (w : World) (h : NatV w v N m) (hm : m ≤ 100) : Calls Tryz.prog 65 #[v] w (ToUPost N w) := by
  obtain ⟨n, f, h1, h2, h3, h4⟩ := h
  rw [← h3]; exact told_walk v n f w h2 (by omega)
theorem plus_c (va vb : Value) (N M : Nat) (w : World) (ha : NatV w va N 8) (hb : NatV w vb M 8) :
    Calls Tryz.prog 66 #[va, vb] w fun e w' => (∃ v, e = .returned v ∧ NatV w' v (N + M) 9) ∧ Below w.heap.size w w' := by
  obtain ⟨n, f, h1, h2, h3, _⟩ := ha
  obtain ⟨m, g, k1, k2, k3, _⟩ := hb
  rw [← h3, ← k3]
  refine (plus_walk va vb n m f g w h2 k2 (by omega) (by omega)).mono fun e w' ⟨⟨v, he, n', f', p1, p2, p3, p4⟩, hw⟩ => ⟨⟨v, he, n', f', by omega, p2, p3, p4⟩, hw⟩
theorem minus_yes_c (va vb : Value) (N M : Nat) (w : World) (ha : NatV w va N 8) (hb : NatV w vb M 8) (h : M ≤ N) :
    Calls Tryz.prog 71 #[va, vb] w fun e w' => (∃ v, e = .returned (.tuple #[v, .bool true]) ∧ NatV w' v (N - M) 8) ∧ Below w.heap.size w w' := by
  obtain ⟨n, f, h1, h2, h3, _⟩ := ha
  obtain ⟨m, g, k1, k2, k3, _⟩ := hb
  rw [← h3, ← k3]
  refine (minus_walk va vb n m f g w h2 k2 (by omega) (by omega)).mono fun e w' ⟨hr, hw⟩ => ⟨?_, hw⟩
  rcases hr with ⟨h5, _⟩ | ⟨_, v, he, n', f', p1, p2, p3, p4⟩
  · omega
  · exact ⟨v, he, n', f', by omega, p2, p3, p4⟩
theorem minus_no_c (va vb : Value) (N M : Nat) (w : World) (ha : NatV w va N 8) (hb : NatV w vb M 8) (h : N < M) :
    Calls Tryz.prog 71 #[va, vb] w fun e w' => e = .returned (.tuple #[.slice none 0 0, .bool false]) ∧ Below w.heap.size w w' := by
  obtain ⟨n, f, h1, h2, h3, _⟩ := ha
  obtain ⟨m, g, k1, k2, k3, _⟩ := hb
  refine (minus_walk va vb n m f g w h2 k2 (by omega) (by omega)).mono fun e w' ⟨hr, hw⟩ => ⟨?_, hw⟩
  rcases hr with ⟨_, h5⟩ | ⟨h5, _⟩
  · exact h5
  · omega
theorem ncmp_c (va vb : Value) (N M : Nat) (w : World) (ha : NatV w va N 8) (hb : NatV w vb M 8) :
    Calls Tryz.prog 85 #[va, vb] w fun e w' => e = .returned (.int .i64 (cmpU N M)) ∧ Below w.heap.size w w' := by
  obtain ⟨n, f, h1, h2, h3, _⟩ := ha
  obtain ⟨m, g, k1, k2, k3, _⟩ := hb
  rw [← h3, ← k3]
  exact ncmp_walk va vb n m f g w h2 k2 (by omega) (by omega)
theorem ofn_c (a : Nat) (w : World) (ha : a < 2 ^ 256) : Calls Tryz.prog 67 #[.agg #[.int .u64 (limb a 0 : Nat), .int .u64 (limb a 1 : Nat), .int .u64 (limb a 2 : Nat), .int .u64 (limb a 3 : Nat)]] w fun e w' => (∃ v, e = .returned v ∧ NatV w' v a 8) ∧ Below w.heap.size w w' := ofn_walk a w ha

theorem held2 {w w' : World} {a b : Nat} (h : Two' w w' a b) : w'.cell? ⟨w.heap.size, 0, none⟩ = some (.int .u64 (limb a 0 : Nat)) ∧ w'.cell? ⟨w.heap.size, 1, none⟩ = some (.int .u64 (limb a 1 : Nat)) ∧ w'.cell? ⟨w.heap.size, 2, none⟩ = some (.int .u64 (limb a 2 : Nat)) ∧ w'.cell? ⟨w.heap.size, 3, none⟩ = some (.int .u64 (limb a 3 : Nat)) ∧ w'.cell? ⟨w.heap.size + 1, 0, none⟩ = some (.int .u64 (limb b 0 : Nat)) ∧ w'.cell? ⟨w.heap.size + 1, 1, none⟩ = some (.int .u64 (limb b 1 : Nat)) ∧ w'.cell? ⟨w.heap.size + 1, 2, none⟩ = some (.int .u64 (limb b 2 : Nat)) ∧ w'.cell? ⟨w.heap.size + 1, 3, none⟩ = some (.int .u64 (limb b 3 : Nat)) ∧ Two' w w' a b := by
  obtain ⟨a0, a1, a2, a3⟩ := h.a.cells4
  obtain ⟨b0, b1, b2, b3⟩ := h.b.cells4
  exact ⟨a0, a1, a2, a3, b0, b1, b2, b3, h⟩
theorem un_held2 {w w' : World} {a b : Nat} (h : w'.cell? ⟨w.heap.size, 0, none⟩ = some (.int .u64 (limb a 0 : Nat)) ∧ w'.cell? ⟨w.heap.size, 1, none⟩ = some (.int .u64 (limb a 1 : Nat)) ∧ w'.cell? ⟨w.heap.size, 2, none⟩ = some (.int .u64 (limb a 2 : Nat)) ∧ w'.cell? ⟨w.heap.size, 3, none⟩ = some (.int .u64 (limb a 3 : Nat)) ∧ w'.cell? ⟨w.heap.size + 1, 0, none⟩ = some (.int .u64 (limb b 0 : Nat)) ∧ w'.cell? ⟨w.heap.size + 1, 1, none⟩ = some (.int .u64 (limb b 1 : Nat)) ∧ w'.cell? ⟨w.heap.size + 1, 2, none⟩ = some (.int .u64 (limb b 2 : Nat)) ∧ w'.cell? ⟨w.heap.size + 1, 3, none⟩ = some (.int .u64 (limb b 3 : Nat)) ∧ Two' w w' a b) : Two' w w' a b := h.2.2.2.2.2.2.2.2

set_option maxRecDepth 100000 in
set_option maxHeartbeats 4000000 in
theorem radd_walk (a b : Nat) (w : World) (ha : a < 2 ^ 256) (hb : b < 2 ^ 256) :
    Calls Tryz.prog 44 #[U a, U b] w fun e w' => e = .returned (.tuple #[U (addv a b), .bool (addk a b)]) ∧ Below w.heap.size w w' := by
  have Ha := Lib.hid ha
  have Hb := Lib.hid hb
  obtain ⟨x, hx⟩ : ∃ x, x = addv a b := ⟨_, rfl⟩
  obtain ⟨ok, hok⟩ : ∃ x, x = addk a b := ⟨_, rfl⟩
  rw [← hx, ← hok]
  have Hx := Lib.hid hx
  have Hok := Lib.hid hok
  clear ha hb hx hok
  unfold U
  go_enter Tryz.func44, Tryz.ntmps44
  go_upto_region 1 with (fail)
  have T0 := Lib.hid ((two_first (a := a) (b := b) (w := w) (t1 := 24) (t2 := 24)).alloc (.cells #[.int .u64 0, .int .u64 0, .int .u64 0, .int .u64 0] 24))
  have Z0 := Lib.hid (Arr.new4 (κ := .u64) (w := (w.alloc (.cells #[.int .u64 (limb a 0 : Nat), .int .u64 (limb a 1 : Nat), .int .u64 (limb a 2 : Nat), .int .u64 (limb a 3 : Nat)] 24)).alloc (.cells #[.int .u64 (limb b 0 : Nat), .int .u64 (limb b 1 : Nat), .int .u64 (limb b 2 : Nat), .int .u64 (limb b 3 : Nat)] 24)) (t := 24) (f := fun _ => 0) (b := w.heap.size + 1 + 1) (by simp))
  go_region_held3 (fun w' => w'.cell? ⟨w.heap.size, 0, none⟩ = some (.int .u64 (limb a 0 : Nat)) ∧ w'.cell? ⟨w.heap.size, 1, none⟩ = some (.int .u64 (limb a 1 : Nat)) ∧ w'.cell? ⟨w.heap.size, 2, none⟩ = some (.int .u64 (limb a 2 : Nat)) ∧ w'.cell? ⟨w.heap.size, 3, none⟩ = some (.int .u64 (limb a 3 : Nat)) ∧ w'.cell? ⟨w.heap.size + 1, 0, none⟩ = some (.int .u64 (limb b 0 : Nat)) ∧ w'.cell? ⟨w.heap.size + 1, 1, none⟩ = some (.int .u64 (limb b 1 : Nat)) ∧ w'.cell? ⟨w.heap.size + 1, 2, none⟩ = some (.int .u64 (limb b 2 : Nat)) ∧ w'.cell? ⟨w.heap.size + 1, 3, none⟩ = some (.int .u64 (limb b 3 : Nat)) ∧ Two' w w' a b)
    ((refine held2 ?_; repeat (first | with_reducible exact u4 | with_reducible exact u3 | with_reducible exact u2 | with_reducible exact u1 | with_reducible exact T0.out | with_reducible refine Two'.drew ?_ | with_reducible refine Two'.put4 ?_ (by omega) | with_reducible exact un_held2 (by with_reducible assumption))))
    (first
      | (go_at_call 65; refine (told_c v3 (a + b) 9 _ hv3 (by omega)).mono ?_; rintro e w4 ⟨rfl, hb4⟩; rw [show (if a + b < 2 ^ 256 then a + b else 0) = x from Hx.out.symm, show decide (a + b < 2 ^ 256) = ok from Hok.out.symm]; have u4 := u3.below hb4; have zz4 := zz3.below hb4 zz3.lt4; obtain ⟨y0, y1, y2, y3⟩ := zz4.frees4; obtain ⟨z0, z1, z2, z3⟩ := zz4.cells4; unfold U)
      | (go_at_call 66; refine (plus_c v1 v2 a b _ (hv1.below hb2) hv2).mono ?_; rintro e w3 ⟨⟨v3, rfl, hv3⟩, hb3⟩; have u3 := u2.below hb3; have zz3 := zz2.below hb3 zz2.lt4)
      | (go_at_call 67; with_reducible refine (ofn_c b _ Hb.out).mono ?_; rintro e w2 ⟨⟨v2, rfl, hv2⟩, hb2⟩; have u2 := u1.below hb2; have zz2 := zz1.below hb2 zz1.lt4)
      | (go_at_call 67; with_reducible refine (ofn_c a _ Ha.out).mono ?_; rintro e w1 ⟨⟨v1, rfl, hv1⟩, hb1⟩; have u1 : Two' w w1 a b := Two'.below (un_held2 (by with_reducible assumption)) hb1; have zz1 := Z0.out.drew.below hb1 Z0.out.drew.lt4))
  go_wp2
  refine bodyPost_ret (v := .tuple #[.agg #[.int .u64 (limb x 0 : Nat), .int .u64 (limb x 1 : Nat), .int .u64 (limb x 2 : Nat), .int .u64 (limb x 3 : Nat)], .bool ok]) (by simp [results, Tryz.results44, go_sem, z0, z1, z2, z3]) rfl ⟨rfl, below_set4 u4.l (by omega)⟩

def subv (a b : Nat) : Nat := if b ≤ a then a - b else 0
def subk (a b : Nat) : Bool := decide (b ≤ a)
theorem subv_lt {a : Nat} (b : Nat) (h : a < 2 ^ 256) : subv a b < 2 ^ 256 := by unfold subv; split <;> omega
set_option maxRecDepth 100000 in
set_option maxHeartbeats 4000000 in
theorem rsub_walk (a b : Nat) (w : World) (ha : a < 2 ^ 256) (hb : b < 2 ^ 256) :
    Calls Tryz.prog 47 #[U a, U b] w fun e w' => e = .returned (.tuple #[U (subv a b), .bool (subk a b)]) ∧ Below w.heap.size w w' := by
  have Ha := Lib.hid ha
  have Hb := Lib.hid hb
  by_cases hle : b ≤ a
  · have hx : subv a b = a - b := if_pos hle
    have hok : subk a b = true := decide_eq_true hle
    rw [hx, hok]
    obtain ⟨x, hx'⟩ : ∃ x, x = a - b := ⟨_, rfl⟩
    have hxl : x < 2 ^ 256 := by omega
    rw [← hx']
    have Hx := Lib.hid hx'
    have Hxl := Lib.hid hxl
    have Hle := Lib.hid hle
    clear ha hb hx hok hx' hxl hle
    unfold U
    go_enter Tryz.func47, Tryz.ntmps47
    go_upto_region 1 with (fail)
    have T0 := Lib.hid ((two_first (a := a) (b := b) (w := w) (t1 := 24) (t2 := 24)).alloc (.cells #[.int .u64 0, .int .u64 0, .int .u64 0, .int .u64 0] 24))
    have Z0 := Lib.hid (Arr.new4 (κ := .u64) (w := (w.alloc (.cells #[.int .u64 (limb a 0 : Nat), .int .u64 (limb a 1 : Nat), .int .u64 (limb a 2 : Nat), .int .u64 (limb a 3 : Nat)] 24)).alloc (.cells #[.int .u64 (limb b 0 : Nat), .int .u64 (limb b 1 : Nat), .int .u64 (limb b 2 : Nat), .int .u64 (limb b 3 : Nat)] 24)) (t := 24) (f := fun _ => 0) (b := w.heap.size + 1 + 1) (by simp))
    go_region_held3 (fun w' => w'.cell? ⟨w.heap.size, 0, none⟩ = some (.int .u64 (limb a 0 : Nat)) ∧ w'.cell? ⟨w.heap.size, 1, none⟩ = some (.int .u64 (limb a 1 : Nat)) ∧ w'.cell? ⟨w.heap.size, 2, none⟩ = some (.int .u64 (limb a 2 : Nat)) ∧ w'.cell? ⟨w.heap.size, 3, none⟩ = some (.int .u64 (limb a 3 : Nat)) ∧ w'.cell? ⟨w.heap.size + 1, 0, none⟩ = some (.int .u64 (limb b 0 : Nat)) ∧ w'.cell? ⟨w.heap.size + 1, 1, none⟩ = some (.int .u64 (limb b 1 : Nat)) ∧ w'.cell? ⟨w.heap.size + 1, 2, none⟩ = some (.int .u64 (limb b 2 : Nat)) ∧ w'.cell? ⟨w.heap.size + 1, 3, none⟩ = some (.int .u64 (limb b 3 : Nat)) ∧ Two' w w' a b)
      ((refine held2 ?_; repeat (first | with_reducible exact u3 | with_reducible exact u2 | with_reducible exact u1 | with_reducible exact T0.out | with_reducible refine Two'.drew ?_ | with_reducible exact un_held2 (by with_reducible assumption))))
      (first
        | (go_at_call 71; refine (minus_yes_c v1 v2 a b _ (hv1.below hb2) hv2 Hle.out).mono ?_; rintro e w3 ⟨⟨v3, rfl, hv3⟩, hb3⟩; have u3 := u2.below hb3; have zz3 := zz2.below hb3 zz2.lt4)
        | (go_at_call 67; with_reducible refine (ofn_c b _ Hb.out).mono ?_; rintro e w2 ⟨⟨v2, rfl, hv2⟩, hb2⟩; have u2 := u1.below hb2; have zz2 := zz1.below hb2 zz1.lt4)
        | (go_at_call 67; with_reducible refine (ofn_c a _ Ha.out).mono ?_; rintro e w1 ⟨⟨v1, rfl, hv1⟩, hb1⟩; have u1 : Two' w w1 a b := Two'.below (un_held2 (by with_reducible assumption)) hb1; have zz1 := Z0.out.drew.below hb1 Z0.out.drew.lt4))
    go_wp2_with (go_at_call 65; refine (told_c v3 (a - b) 8 _ hv3 (by omega)).mono ?_; rintro e w4 ⟨rfl, hb4⟩; rw [← Hx.out, if_pos Hxl.out, decide_eq_true Hxl.out]; have u4 := u3.below hb4; have zz4 := zz3.below hb4 zz3.lt4; obtain ⟨y0, y1, y2, y3⟩ := zz4.frees4; obtain ⟨z0, z1, z2, z3⟩ := zz4.cells4; unfold U)
    refine bodyPost_ret (v := .tuple #[.agg #[.int .u64 (limb x 0 : Nat), .int .u64 (limb x 1 : Nat), .int .u64 (limb x 2 : Nat), .int .u64 (limb x 3 : Nat)], .bool true]) (by simp [results, Tryz.results47, go_sem, z0, z1, z2, z3]) rfl ⟨rfl, below_set4 u4.l (by omega)⟩
  · have hx : subv a b = 0 := if_neg hle
    have hok : subk a b = false := decide_eq_false hle
    rw [hx, hok, U_zero]
    have Hlt := Lib.hid (show a < b by omega)
    clear ha hb hx hok hle
    unfold U
    go_enter Tryz.func47, Tryz.ntmps47
    go_upto_region 1 with (fail)
    have T0 := Lib.hid ((two_first (a := a) (b := b) (w := w) (t1 := 24) (t2 := 24)).alloc (.cells #[.int .u64 0, .int .u64 0, .int .u64 0, .int .u64 0] 24))
    have Z0 := Lib.hid (Arr.new4 (κ := .u64) (w := (w.alloc (.cells #[.int .u64 (limb a 0 : Nat), .int .u64 (limb a 1 : Nat), .int .u64 (limb a 2 : Nat), .int .u64 (limb a 3 : Nat)] 24)).alloc (.cells #[.int .u64 (limb b 0 : Nat), .int .u64 (limb b 1 : Nat), .int .u64 (limb b 2 : Nat), .int .u64 (limb b 3 : Nat)] 24)) (t := 24) (f := fun _ => 0) (b := w.heap.size + 1 + 1) (by simp))
    go_region_held3 (fun w' => w'.cell? ⟨w.heap.size, 0, none⟩ = some (.int .u64 (limb a 0 : Nat)) ∧ w'.cell? ⟨w.heap.size, 1, none⟩ = some (.int .u64 (limb a 1 : Nat)) ∧ w'.cell? ⟨w.heap.size, 2, none⟩ = some (.int .u64 (limb a 2 : Nat)) ∧ w'.cell? ⟨w.heap.size, 3, none⟩ = some (.int .u64 (limb a 3 : Nat)) ∧ w'.cell? ⟨w.heap.size + 1, 0, none⟩ = some (.int .u64 (limb b 0 : Nat)) ∧ w'.cell? ⟨w.heap.size + 1, 1, none⟩ = some (.int .u64 (limb b 1 : Nat)) ∧ w'.cell? ⟨w.heap.size + 1, 2, none⟩ = some (.int .u64 (limb b 2 : Nat)) ∧ w'.cell? ⟨w.heap.size + 1, 3, none⟩ = some (.int .u64 (limb b 3 : Nat)) ∧ Two' w w' a b)
      ((refine held2 ?_; repeat (first | with_reducible exact u3 | with_reducible exact u2 | with_reducible exact u1 | with_reducible exact T0.out | with_reducible refine Two'.drew ?_ | with_reducible exact un_held2 (by with_reducible assumption))))
      (first
        | (go_at_call 71; refine (minus_no_c v1 v2 a b _ (hv1.below hb2) hv2 Hlt.out).mono ?_; rintro e w3 ⟨rfl, hb3⟩; have u3 := u2.below hb3; have zz3 := zz2.below hb3 zz2.lt4)
        | (go_at_call 67; with_reducible refine (ofn_c b _ Hb.out).mono ?_; rintro e w2 ⟨⟨v2, rfl, hv2⟩, hb2⟩; have u2 := u1.below hb2; have zz2 := zz1.below hb2 zz1.lt4)
        | (go_at_call 67; with_reducible refine (ofn_c a _ Ha.out).mono ?_; rintro e w1 ⟨⟨v1, rfl, hv1⟩, hb1⟩; have u1 : Two' w w1 a b := Two'.below (un_held2 (by with_reducible assumption)) hb1; have zz1 := Z0.out.drew.below hb1 Z0.out.drew.lt4))
    obtain ⟨y0, y1, y2, y3⟩ := zz3.frees4
    obtain ⟨z0, z1, z2, z3⟩ := zz3.cells4
    go_wp2
    refine bodyPost_ret (v := .tuple #[.agg #[.int .u64 0, .int .u64 0, .int .u64 0, .int .u64 0], .bool false]) (by simp [results, Tryz.results47, go_sem, z0, z1, z2, z3]) rfl ⟨rfl, below_set4 u3.l (by omega)⟩

set_option maxRecDepth 100000 in
set_option maxHeartbeats 4000000 in
theorem rcmp_walk (a b : Nat) (w : World) (ha : a < 2 ^ 256) (hb : b < 2 ^ 256) :
    Calls Tryz.prog 69 #[U a, U b] w fun e w' => e = .returned (.int .i64 (cmpU a b)) ∧ Below w.heap.size w w' := by
  have Ha := Lib.hid ha
  have Hb := Lib.hid hb
  obtain ⟨c, hc⟩ : ∃ x, x = cmpU a b := ⟨_, rfl⟩
  rw [← hc]
  have Hc := Lib.hid hc
  clear ha hb hc
  unfold U
  go_enter Tryz.func69, Tryz.ntmps69
  go_upto_region 1 with (fail)
  have T0 := Lib.hid (two_first (a := a) (b := b) (w := w) (t1 := 24) (t2 := 24))
  go_region_held3 (fun w' => w'.cell? ⟨w.heap.size, 0, none⟩ = some (.int .u64 (limb a 0 : Nat)) ∧ w'.cell? ⟨w.heap.size, 1, none⟩ = some (.int .u64 (limb a 1 : Nat)) ∧ w'.cell? ⟨w.heap.size, 2, none⟩ = some (.int .u64 (limb a 2 : Nat)) ∧ w'.cell? ⟨w.heap.size, 3, none⟩ = some (.int .u64 (limb a 3 : Nat)) ∧ w'.cell? ⟨w.heap.size + 1, 0, none⟩ = some (.int .u64 (limb b 0 : Nat)) ∧ w'.cell? ⟨w.heap.size + 1, 1, none⟩ = some (.int .u64 (limb b 1 : Nat)) ∧ w'.cell? ⟨w.heap.size + 1, 2, none⟩ = some (.int .u64 (limb b 2 : Nat)) ∧ w'.cell? ⟨w.heap.size + 1, 3, none⟩ = some (.int .u64 (limb b 3 : Nat)) ∧ Two' w w' a b)
    ((refine held2 ?_; repeat (first | with_reducible exact u3 | with_reducible exact u2 | with_reducible exact u1 | with_reducible exact T0.out | with_reducible refine Two'.drew ?_ | with_reducible exact un_held2 (by with_reducible assumption))))
    (first
      | (go_at_call 85; refine (ncmp_c v1 v2 a b _ (hv1.below hb2) hv2).mono ?_; rintro e w3 ⟨rfl, hb3⟩; have u3 := u2.below hb3; rw [← Hc.out])
      | (go_at_call 67; with_reducible refine (ofn_c b _ Hb.out).mono ?_; rintro e w2 ⟨⟨v2, rfl, hv2⟩, hb2⟩; have u2 := u1.below hb2)
      | (go_at_call 67; with_reducible refine (ofn_c a _ Ha.out).mono ?_; rintro e w1 ⟨⟨v1, rfl, hv1⟩, hb1⟩; have u1 : Two' w w1 a b := Two'.below (un_held2 (by with_reducible assumption)) hb1))
  go_wp2
  go_ret
  exact ⟨rfl, u3.l⟩
end Go.Proofs.YtnjcnlbphaodcaaGreat

namespace Go.Proofs.YtnjcnlbphaodcaaGreat
open Go.RowKit Go.Sort

theorem wpList_make_arr {P : Program} (w : World) {ops : Array Oper} {rest : List Oper} {o : Oper} {a : Act} {Q : Exit → Act → World → Prop}
    (hg : o.guard = none) (l c : Operand) (t : TypeId) (hop : o.op = Op.makeSlice t l c)
    (e : TypeId) (i : TypeInfo) (z : Value) (size : Nat) (h1 : P.underlying t = some (.slice e)) (h2 : P.info? e = some i) (h3 : i.zero = some z) (h4 : i.size = size)
    (kl kc : IntKind) (L C : Int) (n m : Nat) (hl : a.eval l = .int kl L) (hc : a.eval c = .int kc C) (hL : L = (n : Int)) (hC : C = (m : Int)) (hnm : n ≤ m) (b2 : i.bytes * m ≤ 281474976710656) (b3 : m ≤ maxLen)
    (hK : wpList P ops Q rest (a.put o.dst (.slice (some ⟨w.heap.size, 0, none⟩) n m)) (w.alloc (.cells (madeCells z.cells (m * size)) e))) :
    wpList P ops Q (o :: rest) a w := by
  subst h4
  have h63' : (m : Int) ≤ 9223372036854775807 := by
    have h := b3
    simp [maxLen] at h
    omega
  have hb' : (i.bytes : Int) * (m : Int) ≤ 281474976710656 := by
    have h : ((i.bytes * m : Nat) : Int) ≤ 281474976710656 := by omega
    rwa [Int.natCast_mul] at h
  have hr := run_make (P := P) w t e i z h1 h2 h3 kl kc n m (by omega) (by omega) hb' h63'
  simp only [Int.toNat_natCast] at hr
  refine wpList_plain hg fun K hK' => ?_
  subst hL
  subst hC
  unfold Oper.wp
  simp [execOp, hop, hl, hc, hr, Result.andThen]
  exact hK' _ _ hK
theorem Arr.Ws {w : World} {g N : Nat} {F : Nat → Nat} (h : Arr .u32 w g N F) (hF : ∀ i, F i < 2 ^ 32) (hg : g < w.heap.size) : Ws w (.slice (some ⟨g, 0, none⟩) N N) N F :=
  ⟨hF, .inr ⟨g, 0, N, rfl, Nat.le_refl _, hg, fun i hi => by rw [Nat.zero_add]; exact h.cell i hi⟩⟩
theorem nval_upd_at (f : Nat → Nat) (v : Nat) {i : Nat} : ∀ {n : Nat}, i < n → nval (upd f i v) n + f i * 2 ^ (32 * i) = nval f n + v * 2 ^ (32 * i)
  | 0, h => by omega
  | n + 1, h => by
    simp only [nval]
    by_cases hi : i = n
    · subst hi
      have e := nval_congr (f := upd f i v) (g := f) i (fun j hj => upd_ne f (by omega))
      rw [e, upd_same]; omega
    · have := nval_upd_at f v (show i < n by omega)
      rw [upd_ne f (fun e => hi e.symm)]; omega

def TimOut (n m : Nat) (f g : Nat → Nat) (B : Nat) (w : World) (x : Value) (wr : World) : Prop :=
  ∃ (i : Nat) (F : Nat → Nat), i ≤ n ∧ x = .int .i64 (i : Nat) ∧ (∀ t, F t < 2 ^ 32) ∧ (∀ t, i + m ≤ t → F t = 0) ∧ nval F (n + m) = nval f i * nval g m ∧
    Arr .u32 wr B (n + m) F ∧ Below w.heap.size w wr ∧ w.heap.size ≤ B ∧ B < wr.heap.size
def TimIn (n m i V0 : Nat) (f g : Nat → Nat) (B : Nat) (w : World) (y z : Value) (wr : World) : Prop :=
  ∃ (j c : Nat) (F : Nat → Nat), j ≤ m + 1 ∧ z = .int .i64 (j : Nat) ∧ y = .int .u64 (c : Nat) ∧ c < 2 ^ 32 ∧ (j = m + 1 → c = 0) ∧ (∀ t, F t < 2 ^ 32) ∧ (∀ t, i + m + 1 ≤ t → F t = 0) ∧ (j ≤ m → F (i + m) = 0) ∧
    nval F (n + m) + c * 2 ^ (32 * (i + j)) = V0 + f i * nval (padw g m) j * 2 ^ (32 * i) ∧
    Arr .u32 wr B (n + m) F ∧ Below w.heap.size w wr ∧ w.heap.size ≤ B ∧ B < wr.heap.size
theorem tim_math {Fk x gj lo hi c v v' V0 vb P Q R M X : Nat} (hv : v' + Fk * P = v + lo * P) (h : v + c * P = V0 + x * vb * Q) (hs : lo + hi * M = X) (hX : X = Fk + c + x * gj) (hP : P = R * Q) :
    v' + hi * (M * P) = V0 + x * (vb + gj * R) * Q := by
  have h1 := congrArg (· * P) hs
  simp only [Nat.add_mul, Nat.mul_assoc, hX] at h1
  have e : x * (vb + gj * R) * Q = x * vb * Q + x * (gj * P) := by rw [hP, Nat.mul_add, Nat.add_mul, Nat.mul_assoc, Nat.mul_assoc, Nat.mul_assoc]
  rw [e]
  omega

end Go.Proofs.YtnjcnlbphaodcaaGreat

namespace Go.Proofs.YtnjcnlbphaodcaaGreat
open Go.RowKit Go.Sort

theorem w32_val {f : Nat → Nat} : ∀ n, (∀ i, f i < 2 ^ 32) → ∀ j, j < n → w32 (nval f n) j = f j
  | 0, _, j, hj => by omega
  | n + 1, h, j, hj => by
    have hv := nval_lt n (fun i _ => h i)
    have hp : 0 < 2 ^ (32 * n) := Nat.pow_pos (by decide)
    by_cases hjn : j = n
    · subst hjn
      simp only [nval, w32]
      rw [Nat.add_mul_div_right _ _ hp, Nat.div_eq_of_lt hv, Nat.zero_add, Nat.mod_eq_of_lt (h j)]
    · have hj' : j < n := by omega
      rw [← w32_val n h j hj']
      simp only [nval, w32]
      have e : 2 ^ (32 * n) = 2 ^ (32 * j) * (2 ^ 32 * 2 ^ (32 * (n - 1 - j))) := by
        rw [← Nat.pow_add, ← Nat.pow_add]; congr 1; omega
      rw [e, Nat.mul_left_comm (f n), Nat.add_mul_div_left _ _ (Nat.pow_pos (by decide)), Nat.mul_left_comm (f n), Nat.add_mul_mod_self_left]
/-- a bit of a number out of its word -/
theorem bit_word (N w r : Nat) (hr : r < 32) : w32 N w / 2 ^ r % 2 = N / 2 ^ (32 * w + r) % 2 := by
  unfold w32
  have e : N / 2 ^ (32 * w + r) = N / 2 ^ (32 * w) / 2 ^ r := by rw [Nat.div_div_eq_div_mul, ← Nat.pow_add]
  rw [e]
  generalize N / 2 ^ (32 * w) = X
  have h : (2 : Nat) ^ 32 = 2 ^ r * (2 * 2 ^ (31 - r)) := by
    rw [← Nat.pow_succ', ← Nat.pow_add]; congr 1; omega
  rw [h, Nat.mod_mul_right_div_self, Nat.mod_mul_right_mod]
theorem and_bit {x r : Nat} (hx : x < 2 ^ 32) : bits BinOp.and IntKind.u32 ((x : Int) / 2 ^ r) 1 = ((x / 2 ^ r % 2 : Nat) : Int) := by
  have e : (x : Int) / 2 ^ r = ((x / 2 ^ r : Nat) : Int) := by rw [Int.natCast_ediv, Int.natCast_pow]; rfl
  have h := u32_and_nat (x / 2 ^ r) 1 (Nat.lt_of_le_of_lt (Nat.div_le_self _ _) hx) (by decide)
  rw [e]
  rw [nat_mask1] at h
  exact h
theorem or_low (x : Nat) {c : Nat} (hc : c ≤ 1) : bits BinOp.or IntKind.u32 ((2 * x % 4294967296 : Nat) : Int) (c : Int) = ((2 * x % 4294967296 + c : Nat) : Int) := by
  rw [u32_or_nat _ _ (by omega) (by omega), nat_join 1 _ _ (by omega) (by omega)]
theorem or_top {x r : Nat} (hx : x % 2 ^ (r + 1) = 0) (hr : r < 32) (hl : x < 2 ^ 32) : bits BinOp.or IntKind.u32 (x : Int) (IntKind.u32.wrap (2 ^ r)) = ((x + 2 ^ r : Nat) : Int) ∧ x + 2 ^ r < 2 ^ 32 := by
  have h2 : 2 ^ r < 2 ^ 32 := Nat.pow_lt_pow_right (by decide) hr
  have e : IntKind.u32.wrap (2 ^ r : Int) = ((2 ^ r : Nat) : Int) := by
    rw [IntKind.wrap_u32, Int.natCast_pow]
    have : ((2 ^ r : Nat) : Int) < 4294967296 := by omega
    rw [Int.natCast_pow] at this
    exact Int.emod_eq_of_lt (by rw [show ((2 : Int) ^ r) = ((2 ^ r : Nat) : Int) by rw [Int.natCast_pow]; rfl]; omega) this
  have hj : x ||| 2 ^ r = x + 2 ^ r := nat_join (r + 1) _ _ hx (Nat.pow_lt_pow_right (by decide) (by omega))
  rw [e, u32_or_nat _ _ (by omega) (by omega), hj]
  refine ⟨rfl, ?_⟩
  rw [← hj]
  exact Nat.or_lt_two_pow hl h2
theorem word_low {Q : Nat → Nat} {n w r q : Nat} (hQ : ∀ i, Q i < 2 ^ 32) (hw : w < n) (hr : r < 32) (h : nval Q n = q * 2 ^ (32 * w + r + 1)) : Q w % 2 ^ (r + 1) = 0 := by
  rw [← w32_val n hQ w hw, h]
  unfold w32
  have e : q * 2 ^ (32 * w + r + 1) / 2 ^ (32 * w) = q * 2 ^ (r + 1) := by
    rw [show 32 * w + r + 1 = (r + 1) + 32 * w by omega, Nat.pow_add, ← Nat.mul_assoc, Nat.mul_div_cancel _ (Nat.pow_pos (by decide))]
  have e2 : (2 : Nat) ^ 32 = 2 ^ (r + 1) * 2 ^ (31 - r) := by rw [← Nat.pow_add]; congr 1; omega
  rw [e, e2, Nat.mod_mul_right_mod]
  exact Nat.mul_mod_left _ _
/-- one bit more of a division -/
theorem qr_step {A B k : Nat} (hB : 0 < B) :
    let X := 2 * (A / 2 ^ (k + 1) % B) + A / 2 ^ k % 2
    (B ≤ X → A / 2 ^ k % B = X - B ∧ A / 2 ^ k / B = 2 * (A / 2 ^ (k + 1) / B) + 1) ∧ (X < B → A / 2 ^ k % B = X ∧ A / 2 ^ k / B = 2 * (A / 2 ^ (k + 1) / B)) := by
  intro X
  have e : A / 2 ^ (k + 1) = A / 2 ^ k / 2 := by rw [Nat.pow_succ, Nat.div_div_eq_div_mul]
  have hXd : X = 2 * (A / 2 ^ (k + 1) % B) + A / 2 ^ k % 2 := rfl
  rw [e] at hXd ⊢
  clear_value X
  generalize A / 2 ^ k = Y at *
  have h1 := Nat.div_add_mod (Y / 2) B
  have h2 := Nat.mod_lt (Y / 2) hB
  have h3 := Nat.div_add_mod Y 2
  generalize Y / 2 / B = q at *
  generalize Y / 2 % B = r at *
  have h4 : Y = B * (2 * q) + X := by rw [Nat.mul_left_comm]; omega
  constructor
  · intro h
    have h5 : Y = B * (2 * q + 1) + (X - B) := by rw [Nat.mul_add]; omega
    have h6 : X - B < B := by omega
    rw [h5]
    exact ⟨by rw [Nat.mul_add_mod, Nat.mod_eq_of_lt h6], by rw [Nat.mul_add_div hB, Nat.div_eq_of_lt h6, Nat.add_zero]⟩
  · intro h
    rw [h4]
    exact ⟨by rw [Nat.mul_add_mod, Nat.mod_eq_of_lt h], by rw [Nat.mul_add_div hB, Nat.div_eq_of_lt h, Nat.add_zero]⟩
end Go.Proofs.YtnjcnlbphaodcaaGreat
