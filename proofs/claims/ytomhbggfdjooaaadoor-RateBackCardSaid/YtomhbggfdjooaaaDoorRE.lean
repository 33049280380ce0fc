/- tallageref02.Down, Up, walked. -/
import Derived.Test.YtomhbggfdjooaaaDoorRD
import Derived.Test.YtomhbggfdjooaaaDoorM7
namespace Go.Proofs.YtomhbggfdjooaaaDoor
open Go.RowKit Go.Sort

theorem Three.drewR {w wr : World} {a b c : Nat} (h : Three w wr a b c) : Three w wr.drew a b c := ⟨h.a.drew, h.b.drew, h.c.drew, below_drewN h.l 1, h.s⟩
theorem threeR_first {a b d : Nat} {w : World} {t1 t2 t3 : TypeId} :
    Three w (((w.alloc (.cells #[.int .u64 (limb a 0 : Nat), .int .u64 (limb a 1 : Nat), .int .u64 (limb a 2 : Nat), .int .u64 (limb a 3 : Nat)] t1)).alloc (.cells #[.int .u64 (limb b 0 : Nat), .int .u64 (limb b 1 : Nat), .int .u64 (limb b 2 : Nat), .int .u64 (limb b 3 : Nat)] t2)).alloc (.cells #[.int .u64 (limb d 0 : Nat), .int .u64 (limb d 1 : Nat), .int .u64 (limb d 2 : Nat), .int .u64 (limb d 3 : Nat)] t3)) a b d :=
  ⟨((Arr.new4 (f := limb a) rfl).alloc _).alloc _, (Arr.new4 (f := limb b) (by simp)).alloc _, Arr.new4 (f := limb d) (by simp), (((Below.refl _ _).alloc (Nat.le_refl _) _).alloc (by simp only [World.size_alloc]; omega) _).alloc (by simp only [World.size_alloc]; omega) _, by simp⟩
theorem heldR {w w' : World} {a b d : Nat} (h : Three w w' a b d) : w'.cell? ⟨w.heap.size, 0, none⟩ = some (.int .u64 (limb a 0 : Nat)) ∧ w'.cell? ⟨w.heap.size, 1, none⟩ = some (.int .u64 (limb a 1 : Nat)) ∧ w'.cell? ⟨w.heap.size, 2, none⟩ = some (.int .u64 (limb a 2 : Nat)) ∧ w'.cell? ⟨w.heap.size, 3, none⟩ = some (.int .u64 (limb a 3 : Nat)) ∧ w'.cell? ⟨w.heap.size + 1, 0, none⟩ = some (.int .u64 (limb b 0 : Nat)) ∧ w'.cell? ⟨w.heap.size + 1, 1, none⟩ = some (.int .u64 (limb b 1 : Nat)) ∧ w'.cell? ⟨w.heap.size + 1, 2, none⟩ = some (.int .u64 (limb b 2 : Nat)) ∧ w'.cell? ⟨w.heap.size + 1, 3, none⟩ = some (.int .u64 (limb b 3 : Nat)) ∧ w'.cell? ⟨w.heap.size + 1 + 1, 0, none⟩ = some (.int .u64 (limb d 0 : Nat)) ∧ w'.cell? ⟨w.heap.size + 1 + 1, 1, none⟩ = some (.int .u64 (limb d 1 : Nat)) ∧ w'.cell? ⟨w.heap.size + 1 + 1, 2, none⟩ = some (.int .u64 (limb d 2 : Nat)) ∧ w'.cell? ⟨w.heap.size + 1 + 1, 3, none⟩ = some (.int .u64 (limb d 3 : Nat)) ∧ Three w w' a b d := by
  obtain ⟨a0, a1, a2, a3⟩ := h.a.cells4
  obtain ⟨b0, b1, b2, b3⟩ := h.b.cells4
  obtain ⟨c0, c1, c2, c3⟩ := h.c.cells4
  exact ⟨a0, a1, a2, a3, b0, b1, b2, b3, c0, c1, c2, c3, h⟩
theorem un_heldR {w w' : World} {a b d : Nat} (h : w'.cell? ⟨w.heap.size, 0, none⟩ = some (.int .u64 (limb a 0 : Nat)) ∧ w'.cell? ⟨w.heap.size, 1, none⟩ = some (.int .u64 (limb a 1 : Nat)) ∧ w'.cell? ⟨w.heap.size, 2, none⟩ = some (.int .u64 (limb a 2 : Nat)) ∧ w'.cell? ⟨w.heap.size, 3, none⟩ = some (.int .u64 (limb a 3 : Nat)) ∧ w'.cell? ⟨w.heap.size + 1, 0, none⟩ = some (.int .u64 (limb b 0 : Nat)) ∧ w'.cell? ⟨w.heap.size + 1, 1, none⟩ = some (.int .u64 (limb b 1 : Nat)) ∧ w'.cell? ⟨w.heap.size + 1, 2, none⟩ = some (.int .u64 (limb b 2 : Nat)) ∧ w'.cell? ⟨w.heap.size + 1, 3, none⟩ = some (.int .u64 (limb b 3 : Nat)) ∧ w'.cell? ⟨w.heap.size + 1 + 1, 0, none⟩ = some (.int .u64 (limb d 0 : Nat)) ∧ w'.cell? ⟨w.heap.size + 1 + 1, 1, none⟩ = some (.int .u64 (limb d 1 : Nat)) ∧ w'.cell? ⟨w.heap.size + 1 + 1, 2, none⟩ = some (.int .u64 (limb d 2 : Nat)) ∧ w'.cell? ⟨w.heap.size + 1 + 1, 3, none⟩ = some (.int .u64 (limb d 3 : Nat)) ∧ Three w w' a b d) : Three w w' a b d := h.2.2.2.2.2.2.2.2.2.2.2.2
theorem toUG_c (v : Value) (N m : Nat) (w : World) (h : NatV w v N m) (hm : m ≤ 100) : Calls Tryd.prog 35 #[v] w fun e w' => e = .returned (.tuple #[U (if N < 2 ^ 256 then N else 0), .bool (decide (N < 2 ^ 256))]) ∧ Below w.heap.size w w' := by
  obtain ⟨n, f, h1, h2, h3, h4⟩ := h
  have hw := toU_walk v n f w h2 (by omega)
  rw [h3] at hw
  exact hw
theorem Down0 (a b : Nat) : qv a b 0 = 0 ∧ qok a b 0 = false := ⟨if_neg (fun h => h.1 rfl), decide_eq_false (fun h => h.1 rfl)⟩
theorem Up0 (a b : Nat) : uv a b 0 = 0 ∧ uok a b 0 = false := ⟨if_neg (fun h => h.1 rfl), decide_eq_false (fun h => h.1 rfl)⟩
theorem down_ref {a b d : Nat} (hd : d ≠ 0) : (if a * b / d < 2 ^ 256 then a * b / d else 0) = qv a b d ∧ decide (a * b / d < 2 ^ 256) = qok a b d := by
  have h : quoOk (a * b) d ↔ a * b / d < 2 ^ 256 := ⟨fun h => h.2, fun h => ⟨hd, h⟩⟩
  unfold qv qok
  refine ⟨?_, decide_eq_decide.2 h.symm⟩
  by_cases hk : a * b / d < 2 ^ 256
  · rw [if_pos hk, if_pos (h.2 hk)]
  · rw [if_neg hk, if_neg (fun hc => hk (h.1 hc))]
theorem up_ref {a b d N : Nat} (hd : d ≠ 0) (hN : upVal (a * b) d = N) : (if N < 2 ^ 256 then N else 0) = uv a b d ∧ decide (N < 2 ^ 256) = uok a b d := by
  have h : upOk (a * b) d ↔ N < 2 ^ 256 := by unfold upOk; rw [hN]; exact ⟨fun h => h.2, fun h => ⟨hd, h⟩⟩
  unfold uv uok
  rw [hN]
  refine ⟨?_, decide_eq_decide.2 h.symm⟩
  by_cases hk : N < 2 ^ 256
  · rw [if_pos hk, if_pos (h.2 hk)]
  · rw [if_neg hk, if_neg (fun hc => hk (h.1 hc))]

theorem trimmed_zero' {n : Nat} {f : Nat → Nat} (h : Trimmed n f) : nval f n = 0 ↔ n = 0 := trimmed_zero h
theorem plus1_c (va : Value) (N : Nat) (w : World) (t : TypeId) (ha : NatV w va N 20) :
    Calls Tryd.prog 28 #[va, .slice (some ⟨w.heap.size, 0, none⟩) 1 1] (w.alloc (.cells #[.int .u32 1] t)) fun e w' => (∃ v, e = .returned v ∧ NatV w' v (N + 1) 21) ∧ Below (w.alloc (.cells #[.int .u32 1] t)).heap.size (w.alloc (.cells #[.int .u32 1] t)) w' := by
  obtain ⟨n, f, h1, h2, h3, _⟩ := ha
  have hb : Ws (w.alloc (.cells #[.int .u32 1] t)) (.slice (some ⟨w.heap.size, 0, none⟩) 1 1) 1 (fun _ => 1) :=
    ⟨by simp, .inr ⟨w.heap.size, 0, 1, rfl, by omega, by simp, fun i hi => by obtain rfl : i = 0 := (by omega); simp⟩⟩
  rw [← h3]
  have h := plus_walk va _ n 1 f (fun _ => 1) _ (h2.below ((Below.refl _ _).alloc (Nat.le_refl _) (.cells #[.int .u32 1] t))) hb (by omega) (by omega)
  rw [show nval (fun _ => 1) 1 = 1 from rfl] at h
  refine h.mono fun e w' ⟨⟨v, he, n', f', p1, p2, p3, p4⟩, hw⟩ => ⟨⟨v, he, n', f', by omega, p2, p3, p4⟩, hw⟩

set_option maxRecDepth 100000 in
set_option maxHeartbeats 4000000 in
theorem rdown_walk (a b d : Nat) (w : World) (ha : a < 2 ^ 256) (hb : b < 2 ^ 256) (hd : d < 2 ^ 256) :
    Calls Tryd.prog 19 #[U a, U b, U d] w fun e w' => e = .returned (.tuple #[U (qv a b d), .bool (qok a b d)]) ∧ Below w.heap.size w w' := by
  obtain ⟨x, hx⟩ : ∃ x, x = qv a b d := ⟨_, rfl⟩
  obtain ⟨ok, hok⟩ : ∃ x, x = qok a b d := ⟨_, rfl⟩
  rw [← hx, ← hok]
  have heqd := fun w => eq0_run hd w
  have Hal := Lib.hid ha
  have Hbl := Lib.hid hb
  have Hdl := Lib.hid hd
  have Hx := Lib.hid hx
  have Hok := Lib.hid hok
  clear ha hb hd hx hok
  unfold U
  by_cases hd0 : d = 0
  · have dd : decide (d = 0) = true := decide_eq_true hd0
    have h0 := Lib.hid (show x = 0 ∧ ok = false by rw [Hx.out, Hok.out, hd0]; exact Down0 a b)
    clear hd0
    rw [h0.out.1, h0.out.2, show limb 0 0 = 0 from rfl, show limb 0 1 = 0 from rfl, show limb 0 2 = 0 from rfl, show limb 0 3 = 0 from rfl]
    go_enter Tryd.func19, Tryd.ntmps19
    go_wp2
    refine bodyPost_ret (v := .tuple #[.agg #[.int .u64 0, .int .u64 0, .int .u64 0, .int .u64 0], .bool false]) (by simp [results, Tryd.results19, go_sem]) rfl ⟨rfl, ?_⟩
    exact (((((Below.refl _ _).alloc (Nat.le_refl _) _).alloc (by simp only [World.size_alloc]; omega) _).alloc (by simp only [World.size_alloc]; omega) _).alloc (by simp only [World.size_alloc]; omega) _)
  · have dd : decide (d = 0) = false := decide_eq_false hd0
    have Hd0 := Lib.hid hd0
    clear hd0
    go_enter Tryd.func19, Tryd.ntmps19
    go_upto_region 3 with (fail)
    have T0 := Lib.hid ((threeR_first (a := a) (b := b) (d := d) (w := w) (t1 := 24) (t2 := 24) (t3 := 24)).alloc (.cells #[.int .u64 0, .int .u64 0, .int .u64 0, .int .u64 0] 24))
    have Z0 := Lib.hid (Arr.new4 (κ := .u64) (w := ((w.alloc (.cells #[.int .u64 (limb a 0 : Nat), .int .u64 (limb a 1 : Nat), .int .u64 (limb a 2 : Nat), .int .u64 (limb a 3 : Nat)] 24)).alloc (.cells #[.int .u64 (limb b 0 : Nat), .int .u64 (limb b 1 : Nat), .int .u64 (limb b 2 : Nat), .int .u64 (limb b 3 : Nat)] 24)).alloc (.cells #[.int .u64 (limb d 0 : Nat), .int .u64 (limb d 1 : Nat), .int .u64 (limb d 2 : Nat), .int .u64 (limb d 3 : Nat)] 24)) (t := 24) (f := fun _ => 0) (b := w.heap.size + 1 + 1 + 1) (by simp))
    go_region_held3 (fun w' => w'.cell? ⟨w.heap.size, 0, none⟩ = some (.int .u64 (limb a 0 : Nat)) ∧ w'.cell? ⟨w.heap.size, 1, none⟩ = some (.int .u64 (limb a 1 : Nat)) ∧ w'.cell? ⟨w.heap.size, 2, none⟩ = some (.int .u64 (limb a 2 : Nat)) ∧ w'.cell? ⟨w.heap.size, 3, none⟩ = some (.int .u64 (limb a 3 : Nat)) ∧ w'.cell? ⟨w.heap.size + 1, 0, none⟩ = some (.int .u64 (limb b 0 : Nat)) ∧ w'.cell? ⟨w.heap.size + 1, 1, none⟩ = some (.int .u64 (limb b 1 : Nat)) ∧ w'.cell? ⟨w.heap.size + 1, 2, none⟩ = some (.int .u64 (limb b 2 : Nat)) ∧ w'.cell? ⟨w.heap.size + 1, 3, none⟩ = some (.int .u64 (limb b 3 : Nat)) ∧ w'.cell? ⟨w.heap.size + 1 + 1, 0, none⟩ = some (.int .u64 (limb d 0 : Nat)) ∧ w'.cell? ⟨w.heap.size + 1 + 1, 1, none⟩ = some (.int .u64 (limb d 1 : Nat)) ∧ w'.cell? ⟨w.heap.size + 1 + 1, 2, none⟩ = some (.int .u64 (limb d 2 : Nat)) ∧ w'.cell? ⟨w.heap.size + 1 + 1, 3, none⟩ = some (.int .u64 (limb d 3 : Nat)) ∧ Three w w' a b d)
      ((refine heldR ?_; repeat (first | with_reducible exact u5 | with_reducible exact u4 | with_reducible exact u3 | with_reducible exact u2 | with_reducible exact u1 | with_reducible exact T0.out | with_reducible refine Three.drewR ?_ | with_reducible exact un_heldR (by with_reducible assumption))))
      (first
        | (go_at_call 33; refine (quoRem_c v3 v4 (a * b) d 16 _ (hv3.below hb4) hv4 (by omega) Hd0.out).mono ?_; rintro e w5 ⟨⟨v5, v6, rfl, hv5, hv6⟩, hb5⟩; have u5 := u4.below hb5; have zz5 := zz4.below hb5 zz4.lt4)
        | (go_at_call 26; with_reducible refine (ofn_c d _ Hdl.out).mono ?_; rintro e w4 ⟨⟨v4, rfl, hv4⟩, hb4⟩; have u4 := u3.below hb4; have zz4 := zz3.below hb4 zz3.lt4)
        | (go_at_call 34; refine (times_c v1 v2 a b _ (hv1.below hb2) hv2).mono ?_; rintro e w3 ⟨⟨v3, rfl, hv3⟩, hb3⟩; have u3 := u2.below hb3; have zz3 := zz2.below hb3 zz2.lt4)
        | (go_at_call 26; with_reducible refine (ofn_c b _ Hbl.out).mono ?_; rintro e w2 ⟨⟨v2, rfl, hv2⟩, hb2⟩; have u2 := u1.below hb2; have zz2 := zz1.below hb2 zz1.lt4)
        | (go_at_call 26; with_reducible refine (ofn_c a _ Hal.out).mono ?_; rintro e w1 ⟨⟨v1, rfl, hv1⟩, hb1⟩; have u1 : Three w w1 a b d := Three.below (un_heldR (by with_reducible assumption)) hb1; have zz1 := Z0.out.drew.below hb1 Z0.out.drew.lt4))
    have HT := Lib.hid (down_ref (a := a) (b := b) Hd0.out)
    go_wp2_with (go_at_call 35; refine (toUG_c v5 (a * b / d) 20 _ hv5 (by omega)).mono ?_; rintro e w6 ⟨rfl, hb6⟩; rw [HT.out.1, HT.out.2, ← Hx.out, ← Hok.out]; have u6 := u5.below hb6; have zz6 := zz5.below hb6 zz5.lt4; obtain ⟨y0, y1, y2, y3⟩ := zz6.frees4; obtain ⟨z0, z1, z2, z3⟩ := zz6.cells4; unfold U)
    refine bodyPost_ret (v := .tuple #[.agg #[.int .u64 (limb x 0 : Nat), .int .u64 (limb x 1 : Nat), .int .u64 (limb x 2 : Nat), .int .u64 (limb x 3 : Nat)], .bool ok]) (by simp [results, Tryd.results19, go_sem, z0, z1, z2, z3]) rfl ⟨rfl, below_set4 u6.l (by omega)⟩

end Go.Proofs.YtomhbggfdjooaaaDoor
