/- tallageref01.told, Add, Sub, Cmp, walked. -/
import Derived.Test.YtomhbggfdjooaaaDoorR6
namespace Go.Proofs.YtomhbggfdjooaaaDoor
open Go.RowKit Go.Sort

set_option maxRecDepth 100000 in
theorem told_walk (v : Value) (n : Nat) (f : Nat → Nat) (w : World) (h : Ws w v n f) (hn : n ≤ 100) :
    Calls Tryd.prog 27 #[v] w (ToUPost (nval f n) w) := by
  have Hh := Lib.hid h
  clear h
  obtain ⟨x, hx⟩ : ∃ x, x = if nval f n < 2 ^ 256 then nval f n else 0 := ⟨_, rfl⟩
  obtain ⟨ok, hok⟩ : ∃ x, x = decide (nval f n < 2 ^ 256) := ⟨_, rfl⟩
  unfold ToUPost
  rw [← hx, ← hok]
  have Hx := Lib.hid hx
  have Hok := Lib.hid hok
  clear hx hok
  unfold U
  go_enter Tryd.func27, Tryd.ntmps27
  go_wp2_with (go_at_call 35; refine (toU_walk _ n f _ (Hh.out.below ((Below.refl _ _).alloc (Nat.le_refl _) _)) hn).mono ?_; rintro e w1 ⟨rfl, hb1⟩; rw [← Hx.out, ← Hok.out]; have hz : Arr .u64 w1 w.heap.size 4 (fun _ => 0) := Arr.below (Arr.new4 (f := fun _ => 0) rfl) hb1 (by rw [World.size_alloc]; omega); obtain ⟨y0, y1, y2, y3⟩ := hz.frees4; obtain ⟨z0, z1, z2, z3⟩ := hz.cells4; unfold U)
  refine bodyPost_ret (v := .tuple #[.agg #[.int .u64 (limb x 0 : Nat), .int .u64 (limb x 1 : Nat), .int .u64 (limb x 2 : Nat), .int .u64 (limb x 3 : Nat)], .bool ok]) (by simp [results, Tryd.results27, go_sem, z0, z1, z2, z3]) rfl ⟨rfl, below_set4 (((Below.refl _ _).alloc (Nat.le_refl _) _).trans (hb1.mono (by rw [World.size_alloc]; omega))) (by omega)⟩

theorem told_c (v : Value) (N m : Nat) (w : World) (h : NatV w v N m) (hm : m ≤ 100) : Calls Tryd.prog 27 #[v] w (ToUPost N w) := by
  obtain ⟨n, f, h1, h2, h3, h4⟩ := h
  rw [← h3]; exact told_walk v n f w h2 (by omega)
theorem plus_c (va vb : Value) (N M : Nat) (w : World) (ha : NatV w va N 8) (hb : NatV w vb M 8) :
    Calls Tryd.prog 28 #[va, vb] w fun e w' => (∃ v, e = .returned v ∧ NatV w' v (N + M) 9) ∧ Below w.heap.size w w' := by
  obtain ⟨n, f, h1, h2, h3, _⟩ := ha
  obtain ⟨m, g, k1, k2, k3, _⟩ := hb
  rw [← h3, ← k3]
  refine (plus_walk va vb n m f g w h2 k2 (by omega) (by omega)).mono fun e w' ⟨⟨v, he, n', f', p1, p2, p3, p4⟩, hw⟩ => ⟨⟨v, he, n', f', by omega, p2, p3, p4⟩, hw⟩
theorem minus_yes_c (va vb : Value) (N M : Nat) (w : World) (ha : NatV w va N 8) (hb : NatV w vb M 8) (h : M ≤ N) :
    Calls Tryd.prog 29 #[va, vb] w fun e w' => (∃ v, e = .returned (.tuple #[v, .bool true]) ∧ NatV w' v (N - M) 8) ∧ Below w.heap.size w w' := by
  obtain ⟨n, f, h1, h2, h3, _⟩ := ha
  obtain ⟨m, g, k1, k2, k3, _⟩ := hb
  rw [← h3, ← k3]
  refine (minus_walk va vb n m f g w h2 k2 (by omega) (by omega)).mono fun e w' ⟨hr, hw⟩ => ⟨?_, hw⟩
  rcases hr with ⟨h5, _⟩ | ⟨_, v, he, n', f', p1, p2, p3, p4⟩
  · omega
  · exact ⟨v, he, n', f', by omega, p2, p3, p4⟩
theorem minus_no_c (va vb : Value) (N M : Nat) (w : World) (ha : NatV w va N 8) (hb : NatV w vb M 8) (h : N < M) :
    Calls Tryd.prog 29 #[va, vb] w fun e w' => e = .returned (.tuple #[.slice none 0 0, .bool false]) ∧ Below w.heap.size w w' := by
  obtain ⟨n, f, h1, h2, h3, _⟩ := ha
  obtain ⟨m, g, k1, k2, k3, _⟩ := hb
  refine (minus_walk va vb n m f g w h2 k2 (by omega) (by omega)).mono fun e w' ⟨hr, hw⟩ => ⟨?_, hw⟩
  rcases hr with ⟨_, h5⟩ | ⟨h5, _⟩
  · exact h5
  · omega
theorem ncmp_c (va vb : Value) (N M : Nat) (w : World) (ha : NatV w va N 8) (hb : NatV w vb M 8) :
    Calls Tryd.prog 25 #[va, vb] w fun e w' => e = .returned (.int .i64 (cmpU N M)) ∧ Below w.heap.size w w' := by
  obtain ⟨n, f, h1, h2, h3, _⟩ := ha
  obtain ⟨m, g, k1, k2, k3, _⟩ := hb
  rw [← h3, ← k3]
  exact ncmp_walk va vb n m f g w h2 k2 (by omega) (by omega)
theorem ofn_c (a : Nat) (w : World) (ha : a < 2 ^ 256) : Calls Tryd.prog 26 #[.agg #[.int .u64 (limb a 0 : Nat), .int .u64 (limb a 1 : Nat), .int .u64 (limb a 2 : Nat), .int .u64 (limb a 3 : Nat)]] w fun e w' => (∃ v, e = .returned v ∧ NatV w' v a 8) ∧ Below w.heap.size w w' := ofn_walk a w ha

theorem held2 {w w' : World} {a b : Nat} (h : Two' w w' a b) : w'.cell? ⟨w.heap.size, 0, none⟩ = some (.int .u64 (limb a 0 : Nat)) ∧ w'.cell? ⟨w.heap.size, 1, none⟩ = some (.int .u64 (limb a 1 : Nat)) ∧ w'.cell? ⟨w.heap.size, 2, none⟩ = some (.int .u64 (limb a 2 : Nat)) ∧ w'.cell? ⟨w.heap.size, 3, none⟩ = some (.int .u64 (limb a 3 : Nat)) ∧ w'.cell? ⟨w.heap.size + 1, 0, none⟩ = some (.int .u64 (limb b 0 : Nat)) ∧ w'.cell? ⟨w.heap.size + 1, 1, none⟩ = some (.int .u64 (limb b 1 : Nat)) ∧ w'.cell? ⟨w.heap.size + 1, 2, none⟩ = some (.int .u64 (limb b 2 : Nat)) ∧ w'.cell? ⟨w.heap.size + 1, 3, none⟩ = some (.int .u64 (limb b 3 : Nat)) ∧ Two' w w' a b := by
  obtain ⟨a0, a1, a2, a3⟩ := h.a.cells4
  obtain ⟨b0, b1, b2, b3⟩ := h.b.cells4
  exact ⟨a0, a1, a2, a3, b0, b1, b2, b3, h⟩
theorem un_held2 {w w' : World} {a b : Nat} (h : w'.cell? ⟨w.heap.size, 0, none⟩ = some (.int .u64 (limb a 0 : Nat)) ∧ w'.cell? ⟨w.heap.size, 1, none⟩ = some (.int .u64 (limb a 1 : Nat)) ∧ w'.cell? ⟨w.heap.size, 2, none⟩ = some (.int .u64 (limb a 2 : Nat)) ∧ w'.cell? ⟨w.heap.size, 3, none⟩ = some (.int .u64 (limb a 3 : Nat)) ∧ w'.cell? ⟨w.heap.size + 1, 0, none⟩ = some (.int .u64 (limb b 0 : Nat)) ∧ w'.cell? ⟨w.heap.size + 1, 1, none⟩ = some (.int .u64 (limb b 1 : Nat)) ∧ w'.cell? ⟨w.heap.size + 1, 2, none⟩ = some (.int .u64 (limb b 2 : Nat)) ∧ w'.cell? ⟨w.heap.size + 1, 3, none⟩ = some (.int .u64 (limb b 3 : Nat)) ∧ Two' w w' a b) : Two' w w' a b := h.2.2.2.2.2.2.2.2

set_option maxRecDepth 100000 in
set_option maxHeartbeats 4000000 in
theorem radd_walk (a b : Nat) (w : World) (ha : a < 2 ^ 256) (hb : b < 2 ^ 256) :
    Calls Tryd.prog 14 #[U a, U b] w fun e w' => e = .returned (.tuple #[U (addv a b), .bool (addk a b)]) ∧ Below w.heap.size w w' := by
  have Ha := Lib.hid ha
  have Hb := Lib.hid hb
  obtain ⟨x, hx⟩ : ∃ x, x = addv a b := ⟨_, rfl⟩
  obtain ⟨ok, hok⟩ : ∃ x, x = addk a b := ⟨_, rfl⟩
  rw [← hx, ← hok]
  have Hx := Lib.hid hx
  have Hok := Lib.hid hok
  clear ha hb hx hok
  unfold U
  go_enter Tryd.func14, Tryd.ntmps14
  go_upto_region 1 with (fail)
  have T0 := Lib.hid ((two_first (a := a) (b := b) (w := w) (t1 := 24) (t2 := 24)).alloc (.cells #[.int .u64 0, .int .u64 0, .int .u64 0, .int .u64 0] 24))
  have Z0 := Lib.hid (Arr.new4 (κ := .u64) (w := (w.alloc (.cells #[.int .u64 (limb a 0 : Nat), .int .u64 (limb a 1 : Nat), .int .u64 (limb a 2 : Nat), .int .u64 (limb a 3 : Nat)] 24)).alloc (.cells #[.int .u64 (limb b 0 : Nat), .int .u64 (limb b 1 : Nat), .int .u64 (limb b 2 : Nat), .int .u64 (limb b 3 : Nat)] 24)) (t := 24) (f := fun _ => 0) (b := w.heap.size + 1 + 1) (by simp))
  go_region_held3 (fun w' => w'.cell? ⟨w.heap.size, 0, none⟩ = some (.int .u64 (limb a 0 : Nat)) ∧ w'.cell? ⟨w.heap.size, 1, none⟩ = some (.int .u64 (limb a 1 : Nat)) ∧ w'.cell? ⟨w.heap.size, 2, none⟩ = some (.int .u64 (limb a 2 : Nat)) ∧ w'.cell? ⟨w.heap.size, 3, none⟩ = some (.int .u64 (limb a 3 : Nat)) ∧ w'.cell? ⟨w.heap.size + 1, 0, none⟩ = some (.int .u64 (limb b 0 : Nat)) ∧ w'.cell? ⟨w.heap.size + 1, 1, none⟩ = some (.int .u64 (limb b 1 : Nat)) ∧ w'.cell? ⟨w.heap.size + 1, 2, none⟩ = some (.int .u64 (limb b 2 : Nat)) ∧ w'.cell? ⟨w.heap.size + 1, 3, none⟩ = some (.int .u64 (limb b 3 : Nat)) ∧ Two' w w' a b)
    ((refine held2 ?_; repeat (first | with_reducible exact u4 | with_reducible exact u3 | with_reducible exact u2 | with_reducible exact u1 | with_reducible exact T0.out | with_reducible refine Two'.drew ?_ | with_reducible refine Two'.put4 ?_ (by omega) | with_reducible exact un_held2 (by with_reducible assumption))))
    (first
      | (go_at_call 27; refine (told_c v3 (a + b) 9 _ hv3 (by omega)).mono ?_; rintro e w4 ⟨rfl, hb4⟩; rw [show (if a + b < 2 ^ 256 then a + b else 0) = x from Hx.out.symm, show decide (a + b < 2 ^ 256) = ok from Hok.out.symm]; have u4 := u3.below hb4; have zz4 := zz3.below hb4 zz3.lt4; obtain ⟨y0, y1, y2, y3⟩ := zz4.frees4; obtain ⟨z0, z1, z2, z3⟩ := zz4.cells4; unfold U)
      | (go_at_call 28; refine (plus_c v1 v2 a b _ (hv1.below hb2) hv2).mono ?_; rintro e w3 ⟨⟨v3, rfl, hv3⟩, hb3⟩; have u3 := u2.below hb3; have zz3 := zz2.below hb3 zz2.lt4)
      | (go_at_call 26; with_reducible refine (ofn_c b _ Hb.out).mono ?_; rintro e w2 ⟨⟨v2, rfl, hv2⟩, hb2⟩; have u2 := u1.below hb2; have zz2 := zz1.below hb2 zz1.lt4)
      | (go_at_call 26; with_reducible refine (ofn_c a _ Ha.out).mono ?_; rintro e w1 ⟨⟨v1, rfl, hv1⟩, hb1⟩; have u1 : Two' w w1 a b := Two'.below (un_held2 (by with_reducible assumption)) hb1; have zz1 := Z0.out.drew.below hb1 Z0.out.drew.lt4))
  go_wp2
  refine bodyPost_ret (v := .tuple #[.agg #[.int .u64 (limb x 0 : Nat), .int .u64 (limb x 1 : Nat), .int .u64 (limb x 2 : Nat), .int .u64 (limb x 3 : Nat)], .bool ok]) (by simp [results, Tryd.results14, go_sem, z0, z1, z2, z3]) rfl ⟨rfl, below_set4 u4.l (by omega)⟩

def subv (a b : Nat) : Nat := if b ≤ a then a - b else 0
def subk (a b : Nat) : Bool := decide (b ≤ a)
theorem subv_lt {a : Nat} (b : Nat) (h : a < 2 ^ 256) : subv a b < 2 ^ 256 := by unfold subv; split <;> omega
set_option maxRecDepth 100000 in
set_option maxHeartbeats 4000000 in
theorem rsub_walk (a b : Nat) (w : World) (ha : a < 2 ^ 256) (hb : b < 2 ^ 256) :
    Calls Tryd.prog 15 #[U a, U b] w fun e w' => e = .returned (.tuple #[U (subv a b), .bool (subk a b)]) ∧ Below w.heap.size w w' := by
  have Ha := Lib.hid ha
  have Hb := Lib.hid hb
  by_cases hle : b ≤ a
  · have hx : subv a b = a - b := if_pos hle
    have hok : subk a b = true := decide_eq_true hle
    rw [hx, hok]
    obtain ⟨x, hx'⟩ : ∃ x, x = a - b := ⟨_, rfl⟩
    have hxl : x < 2 ^ 256 := by omega
    rw [← hx']
    have Hx := Lib.hid hx'
    have Hxl := Lib.hid hxl
    have Hle := Lib.hid hle
    clear ha hb hx hok hx' hxl hle
    unfold U
    go_enter Tryd.func15, Tryd.ntmps15
    go_upto_region 1 with (fail)
    have T0 := Lib.hid ((two_first (a := a) (b := b) (w := w) (t1 := 24) (t2 := 24)).alloc (.cells #[.int .u64 0, .int .u64 0, .int .u64 0, .int .u64 0] 24))
    have Z0 := Lib.hid (Arr.new4 (κ := .u64) (w := (w.alloc (.cells #[.int .u64 (limb a 0 : Nat), .int .u64 (limb a 1 : Nat), .int .u64 (limb a 2 : Nat), .int .u64 (limb a 3 : Nat)] 24)).alloc (.cells #[.int .u64 (limb b 0 : Nat), .int .u64 (limb b 1 : Nat), .int .u64 (limb b 2 : Nat), .int .u64 (limb b 3 : Nat)] 24)) (t := 24) (f := fun _ => 0) (b := w.heap.size + 1 + 1) (by simp))
    go_region_held3 (fun w' => w'.cell? ⟨w.heap.size, 0, none⟩ = some (.int .u64 (limb a 0 : Nat)) ∧ w'.cell? ⟨w.heap.size, 1, none⟩ = some (.int .u64 (limb a 1 : Nat)) ∧ w'.cell? ⟨w.heap.size, 2, none⟩ = some (.int .u64 (limb a 2 : Nat)) ∧ w'.cell? ⟨w.heap.size, 3, none⟩ = some (.int .u64 (limb a 3 : Nat)) ∧ w'.cell? ⟨w.heap.size + 1, 0, none⟩ = some (.int .u64 (limb b 0 : Nat)) ∧ w'.cell? ⟨w.heap.size + 1, 1, none⟩ = some (.int .u64 (limb b 1 : Nat)) ∧ w'.cell? ⟨w.heap.size + 1, 2, none⟩ = some (.int .u64 (limb b 2 : Nat)) ∧ w'.cell? ⟨w.heap.size + 1, 3, none⟩ = some (.int .u64 (limb b 3 : Nat)) ∧ Two' w w' a b)
      ((refine held2 ?_; repeat (first | with_reducible exact u3 | with_reducible exact u2 | with_reducible exact u1 | with_reducible exact T0.out | with_reducible refine Two'.drew ?_ | with_reducible exact un_held2 (by with_reducible assumption))))
      (first
        | (go_at_call 29; refine (minus_yes_c v1 v2 a b _ (hv1.below hb2) hv2 Hle.out).mono ?_; rintro e w3 ⟨⟨v3, rfl, hv3⟩, hb3⟩; have u3 := u2.below hb3; have zz3 := zz2.below hb3 zz2.lt4)
        | (go_at_call 26; with_reducible refine (ofn_c b _ Hb.out).mono ?_; rintro e w2 ⟨⟨v2, rfl, hv2⟩, hb2⟩; have u2 := u1.below hb2; have zz2 := zz1.below hb2 zz1.lt4)
        | (go_at_call 26; with_reducible refine (ofn_c a _ Ha.out).mono ?_; rintro e w1 ⟨⟨v1, rfl, hv1⟩, hb1⟩; have u1 : Two' w w1 a b := Two'.below (un_held2 (by with_reducible assumption)) hb1; have zz1 := Z0.out.drew.below hb1 Z0.out.drew.lt4))
    go_wp2_with (go_at_call 27; refine (told_c v3 (a - b) 8 _ hv3 (by omega)).mono ?_; rintro e w4 ⟨rfl, hb4⟩; rw [← Hx.out, if_pos Hxl.out, decide_eq_true Hxl.out]; have u4 := u3.below hb4; have zz4 := zz3.below hb4 zz3.lt4; obtain ⟨y0, y1, y2, y3⟩ := zz4.frees4; obtain ⟨z0, z1, z2, z3⟩ := zz4.cells4; unfold U)
    refine bodyPost_ret (v := .tuple #[.agg #[.int .u64 (limb x 0 : Nat), .int .u64 (limb x 1 : Nat), .int .u64 (limb x 2 : Nat), .int .u64 (limb x 3 : Nat)], .bool true]) (by simp [results, Tryd.results15, go_sem, z0, z1, z2, z3]) rfl ⟨rfl, below_set4 u4.l (by omega)⟩
  · have hx : subv a b = 0 := if_neg hle
    have hok : subk a b = false := decide_eq_false hle
    rw [hx, hok, U_zero]
    have Hlt := Lib.hid (show a < b by omega)
    clear ha hb hx hok hle
    unfold U
    go_enter Tryd.func15, Tryd.ntmps15
    go_upto_region 1 with (fail)
    have T0 := Lib.hid ((two_first (a := a) (b := b) (w := w) (t1 := 24) (t2 := 24)).alloc (.cells #[.int .u64 0, .int .u64 0, .int .u64 0, .int .u64 0] 24))
    have Z0 := Lib.hid (Arr.new4 (κ := .u64) (w := (w.alloc (.cells #[.int .u64 (limb a 0 : Nat), .int .u64 (limb a 1 : Nat), .int .u64 (limb a 2 : Nat), .int .u64 (limb a 3 : Nat)] 24)).alloc (.cells #[.int .u64 (limb b 0 : Nat), .int .u64 (limb b 1 : Nat), .int .u64 (limb b 2 : Nat), .int .u64 (limb b 3 : Nat)] 24)) (t := 24) (f := fun _ => 0) (b := w.heap.size + 1 + 1) (by simp))
    go_region_held3 (fun w' => w'.cell? ⟨w.heap.size, 0, none⟩ = some (.int .u64 (limb a 0 : Nat)) ∧ w'.cell? ⟨w.heap.size, 1, none⟩ = some (.int .u64 (limb a 1 : Nat)) ∧ w'.cell? ⟨w.heap.size, 2, none⟩ = some (.int .u64 (limb a 2 : Nat)) ∧ w'.cell? ⟨w.heap.size, 3, none⟩ = some (.int .u64 (limb a 3 : Nat)) ∧ w'.cell? ⟨w.heap.size + 1, 0, none⟩ = some (.int .u64 (limb b 0 : Nat)) ∧ w'.cell? ⟨w.heap.size + 1, 1, none⟩ = some (.int .u64 (limb b 1 : Nat)) ∧ w'.cell? ⟨w.heap.size + 1, 2, none⟩ = some (.int .u64 (limb b 2 : Nat)) ∧ w'.cell? ⟨w.heap.size + 1, 3, none⟩ = some (.int .u64 (limb b 3 : Nat)) ∧ Two' w w' a b)
      ((refine held2 ?_; repeat (first | with_reducible exact u3 | with_reducible exact u2 | with_reducible exact u1 | with_reducible exact T0.out | with_reducible refine Two'.drew ?_ | with_reducible exact un_held2 (by with_reducible assumption))))
      (first
        | (go_at_call 29; refine (minus_no_c v1 v2 a b _ (hv1.below hb2) hv2 Hlt.out).mono ?_; rintro e w3 ⟨rfl, hb3⟩; have u3 := u2.below hb3; have zz3 := zz2.below hb3 zz2.lt4)
        | (go_at_call 26; with_reducible refine (ofn_c b _ Hb.out).mono ?_; rintro e w2 ⟨⟨v2, rfl, hv2⟩, hb2⟩; have u2 := u1.below hb2; have zz2 := zz1.below hb2 zz1.lt4)
        | (go_at_call 26; with_reducible refine (ofn_c a _ Ha.out).mono ?_; rintro e w1 ⟨⟨v1, rfl, hv1⟩, hb1⟩; have u1 : Two' w w1 a b := Two'.below (un_held2 (by with_reducible assumption)) hb1; have zz1 := Z0.out.drew.below hb1 Z0.out.drew.lt4))
    obtain ⟨y0, y1, y2, y3⟩ := zz3.frees4
    obtain ⟨z0, z1, z2, z3⟩ := zz3.cells4
    go_wp2
    refine bodyPost_ret (v := .tuple #[.agg #[.int .u64 0, .int .u64 0, .int .u64 0, .int .u64 0], .bool false]) (by simp [results, Tryd.results15, go_sem, z0, z1, z2, z3]) rfl ⟨rfl, below_set4 u3.l (by omega)⟩

set_option maxRecDepth 100000 in
set_option maxHeartbeats 4000000 in
theorem rcmp_walk (a b : Nat) (w : World) (ha : a < 2 ^ 256) (hb : b < 2 ^ 256) :
    Calls Tryd.prog 13 #[U a, U b] w fun e w' => e = .returned (.int .i64 (cmpU a b)) ∧ Below w.heap.size w w' := by
  have Ha := Lib.hid ha
  have Hb := Lib.hid hb
  obtain ⟨c, hc⟩ : ∃ x, x = cmpU a b := ⟨_, rfl⟩
  rw [← hc]
  have Hc := Lib.hid hc
  clear ha hb hc
  unfold U
  go_enter Tryd.func13, Tryd.ntmps13
  go_upto_region 1 with (fail)
  have T0 := Lib.hid (two_first (a := a) (b := b) (w := w) (t1 := 24) (t2 := 24))
  go_region_held3 (fun w' => w'.cell? ⟨w.heap.size, 0, none⟩ = some (.int .u64 (limb a 0 : Nat)) ∧ w'.cell? ⟨w.heap.size, 1, none⟩ = some (.int .u64 (limb a 1 : Nat)) ∧ w'.cell? ⟨w.heap.size, 2, none⟩ = some (.int .u64 (limb a 2 : Nat)) ∧ w'.cell? ⟨w.heap.size, 3, none⟩ = some (.int .u64 (limb a 3 : Nat)) ∧ w'.cell? ⟨w.heap.size + 1, 0, none⟩ = some (.int .u64 (limb b 0 : Nat)) ∧ w'.cell? ⟨w.heap.size + 1, 1, none⟩ = some (.int .u64 (limb b 1 : Nat)) ∧ w'.cell? ⟨w.heap.size + 1, 2, none⟩ = some (.int .u64 (limb b 2 : Nat)) ∧ w'.cell? ⟨w.heap.size + 1, 3, none⟩ = some (.int .u64 (limb b 3 : Nat)) ∧ Two' w w' a b)
    ((refine held2 ?_; repeat (first | with_reducible exact u3 | with_reducible exact u2 | with_reducible exact u1 | with_reducible exact T0.out | with_reducible refine Two'.drew ?_ | with_reducible exact un_held2 (by with_reducible assumption))))
    (first
      | (go_at_call 25; refine (ncmp_c v1 v2 a b _ (hv1.below hb2) hv2).mono ?_; rintro e w3 ⟨rfl, hb3⟩; have u3 := u2.below hb3; rw [← Hc.out])
      | (go_at_call 26; with_reducible refine (ofn_c b _ Hb.out).mono ?_; rintro e w2 ⟨⟨v2, rfl, hv2⟩, hb2⟩; have u2 := u1.below hb2)
      | (go_at_call 26; with_reducible refine (ofn_c a _ Ha.out).mono ?_; rintro e w1 ⟨⟨v1, rfl, hv1⟩, hb1⟩; have u1 : Two' w w1 a b := Two'.below (un_held2 (by with_reducible assumption)) hb1))
  go_wp2
  go_ret
  exact ⟨rfl, u3.l⟩
end Go.Proofs.YtomhbggfdjooaaaDoor
