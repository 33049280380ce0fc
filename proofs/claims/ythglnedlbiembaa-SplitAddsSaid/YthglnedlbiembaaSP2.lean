/- tallageref01.Num, tallageref34.Parts, walked. -/
import Derived.Test.YthglnedlbiembaaW6
import Derived.Test.YthglnedlbiembaaSP1
namespace Go.Proofs.Ythglnedlbiembaa
open Go.RowKit Go.Sort

theorem num_walk (n : Nat) (w : World) (hn : n ≤ 10000) : Calls Try.prog 122 #[.int .i64 (n : Nat)] w fun e w' => e = .returned (.agg #[.int .u64 (n : Nat), .int .u64 0, .int .u64 0, .int .u64 0]) ∧ Below w.heap.size w w' := by
  have cv : IntKind.u64.wrap (n : Int) = n := IntWalk.u64_in _ (by omega)
  have c0 : ¬ (n : Int) < 0 := by omega
  go_enter Try.func122, Try.ntmps122
  go_wp2
  refine bodyPost_ret (v := .agg #[.int .u64 (n : Nat), .int .u64 0, .int .u64 0, .int .u64 0]) (by simp [results, Try.results122, go_sem]) rfl ⟨rfl, (Below.refl _ _).alloc (Nat.le_refl _) _⟩
theorem num10000_c (w : World) : Calls Try.prog 122 #[.int .i64 10000] w fun e w' => e = .returned (.agg #[.int .u64 10000, .int .u64 0, .int .u64 0, .int .u64 0]) ∧ Below w.heap.size w w' := num_walk 10000 w (Nat.le_refl _)
theorem ramount_cc (a : Nat) (w : World) (g : Bool) (ha : a < 2 ^ 256) (h : decide (a ≤ MOST) = g) : Calls Try.prog 62 #[U a] w fun e w' => e = .returned (.bool g) ∧ Below w.heap.size w w' := by
  rw [← h]; exact ramount_walk a w ha
theorem rbipsDown (a n : Nat) (w : World) (ha : a ≤ MOST) (hn : n ≤ 10000) : Calls Try.prog 41 #[U a, .agg #[.int .u64 (n : Nat), .int .u64 0, .int .u64 0, .int .u64 0], .agg #[.int .u64 10000, .int .u64 0, .int .u64 0, .int .u64 0]] w
    fun e w' => e = .returned (.tuple #[U (a * n / 10000), .bool true]) ∧ Below w.heap.size w w' := by
  have h := rdown_walk a n 10000 w (Nat.lt_of_le_of_lt ha MOST_lt) (by omega) (by omega)
  rw [U_small (show n < 2 ^ 64 by omega), U_small (show 10000 < 2 ^ 64 by decide)] at h
  have hlt : a * n / 10000 < 2 ^ 256 := Nat.lt_of_le_of_lt (Nat.div_le_of_le_mul (by rw [Nat.mul_comm]; exact Nat.mul_le_mul_right a hn)) (Nat.lt_of_le_of_lt ha MOST_lt)
  have hok : quoOk (a * n) 10000 := ⟨by decide, hlt⟩
  exact h.mono fun e w' ⟨he, hw⟩ => ⟨by rw [he]; unfold qv qok; rw [if_pos hok, decide_eq_true hok], hw⟩
theorem sp_first {a : Nat} {w : World} : Sp w (((w.alloc (.cells #[.int .u64 (limb a 0 : Nat), .int .u64 (limb a 1 : Nat), .int .u64 (limb a 2 : Nat), .int .u64 (limb a 3 : Nat)] 24)).alloc (.cells #[.int .u64 0, .int .u64 0, .int .u64 0, .int .u64 0] 24)).alloc (.cells #[.int .u64 0, .int .u64 0, .int .u64 0, .int .u64 0] 24)) a :=
  ⟨((Bk.push (t := 24) a (Bk.nil (w := w))).alloc _).alloc _, ((Zb.new (w := w) (wr := w.alloc (.cells #[.int .u64 (limb a 0 : Nat), .int .u64 (limb a 1 : Nat), .int .u64 (limb a 2 : Nat), .int .u64 (limb a 3 : Nat)] 24)) (t := 24) (by simp) (by simp)).alloc (.cells #[.int .u64 0, .int .u64 0, .int .u64 0, .int .u64 0] 24)).wb, (Zb.new (w := w) (wr := (w.alloc (.cells #[.int .u64 (limb a 0 : Nat), .int .u64 (limb a 1 : Nat), .int .u64 (limb a 2 : Nat), .int .u64 (limb a 3 : Nat)] 24)).alloc (.cells #[.int .u64 0, .int .u64 0, .int .u64 0, .int .u64 0] 24)) (t := 24) (by simp) (by simp; omega)).wb⟩
set_option maxRecDepth 100000 in
set_option maxHeartbeats 4000000 in
theorem rparts_no_walk (n : Int) (a : Nat) (w : World) (ha : a < 2 ^ 256) (hn : ¬ (0 ≤ n ∧ n ≤ 10000 ∧ a ≤ MOST)) :
    Calls Try.prog 77 #[.int .i64 n, U a] w (PartsNo w) := by
  have Ha := Lib.hid ha
  have hno : n < 0 ∨ 0 ≤ n ∧ 10000 < n ∨ (0 ≤ n ∧ n ≤ 10000) ∧ decide (a ≤ MOST) = false := by
    rcases Int.lt_or_le n 0 with h | h
    · exact .inl h
    · rcases Int.lt_or_le 10000 n with h1 | h1
      · exact .inr (.inl ⟨h, h1⟩)
      · exact .inr (.inr ⟨⟨h, h1⟩, decide_eq_false fun hh => hn ⟨h, h1, hh⟩⟩)
  have T0 := Lib.hid (sp_first (a := a) (w := w))
  clear ha hn
  rcases hno with h0 | ⟨h0, h1⟩ | ⟨⟨h0, h1⟩, hm⟩
  · unfold U
    go_enter Try.func77, Try.ntmps77
    go_wp2
    refine bodyPost_ret (v := .tuple #[.agg #[.int .u64 0, .int .u64 0, .int .u64 0, .int .u64 0], .agg #[.int .u64 0, .int .u64 0, .int .u64 0, .int .u64 0], .bool false]) (by simp [results, Try.results77, go_sem]) rfl ⟨by rw [U_zero], ?_⟩
    exact (((Below.refl _ _).alloc (Nat.le_refl _) _).alloc (by simp) _).alloc (by simp; omega) _
  · have h0' : ¬ n < 0 := by omega
    unfold U
    go_enter Try.func77, Try.ntmps77
    go_wp2
    refine bodyPost_ret (v := .tuple #[.agg #[.int .u64 0, .int .u64 0, .int .u64 0, .int .u64 0], .agg #[.int .u64 0, .int .u64 0, .int .u64 0, .int .u64 0], .bool false]) (by simp [results, Try.results77, go_sem]) rfl ⟨by rw [U_zero], ?_⟩
    exact (((Below.refl _ _).alloc (Nat.le_refl _) _).alloc (by simp) _).alloc (by simp; omega) _
  · have Hm := Lib.hid hm
    have h0' : ¬ n < 0 := by omega
    have h1' : ¬ 10000 < n := by omega
    clear hm
    unfold U
    go_enter Try.func77, Try.ntmps77
    go_wp2_with (go_at_call 62; refine (ramount_cc a _ false Ha.out Hm.out).mono ?_; rintro e w2 ⟨rfl, hb2⟩; have u6 := T0.out.below hb2; obtain ⟨f1', hf1⟩ := u6.z1.a; obtain ⟨f2', hf2⟩ := u6.z2.a; obtain ⟨f0, f1, f2, f3⟩ := hf1.frees4; obtain ⟨g0, g1, g2, g3⟩ := hf2.frees4; obtain ⟨c0, c1, c2, c3⟩ := hf1.cells4; obtain ⟨d0, d1, d2, d3⟩ := hf2.cells4)
    refine bodyPost_ret (v := .tuple #[.agg #[.int .u64 0, .int .u64 0, .int .u64 0, .int .u64 0], .agg #[.int .u64 0, .int .u64 0, .int .u64 0, .int .u64 0], .bool false]) (by simp [results, Try.results77, go_sem, c0, c1, c2, c3, d0, d1, d2, d3]) rfl ⟨by rw [U_zero], ?_⟩
    exact below_set4 (below_set4 u6.k.l (by omega)) (by omega)
set_option maxRecDepth 100000 in
set_option maxHeartbeats 4000000 in
theorem rparts_yes_walk (n : Nat) (a : Nat) (w : World) (ha : a ≤ MOST) (hn : n ≤ 10000) :
    Calls Try.prog 77 #[.int .i64 (n : Nat), U a] w (PartsYes n a w) := by
  have ha2 : a < 2 ^ 256 := Nat.lt_of_le_of_lt ha MOST_lt
  have h0' : ¬ (n : Int) < 0 := by omega
  have h1' : ¬ (10000 : Int) < (n : Int) := by omega
  have Hm := Lib.hid (show decide (a ≤ MOST) = true from decide_eq_true ha)
  have Ha := Lib.hid ha2
  have Hle := Lib.hid ha
  have Hn := Lib.hid hn
  obtain ⟨p, hp⟩ : ∃ p, p = a * n / 10000 := ⟨_, rfl⟩
  have hpa : p ≤ a := by rw [hp]; exact Nat.div_le_of_le_mul (by rw [Nat.mul_comm]; exact Nat.mul_le_mul_right a hn)
  have Hp := Lib.hid hp
  have Hpl := Lib.hid (show p < 2 ^ 256 by omega)
  have Hs := Lib.hid (show subv a p = a - p from if_pos hpa)
  unfold PartsYes
  rw [← hp]
  obtain ⟨q, hq⟩ : ∃ q, q = a - p := ⟨_, rfl⟩
  rw [← hq]
  have Hq := Lib.hid hq
  have T0 := Lib.hid (sp_first (a := a) (w := w))
  clear hp hpa hq ha ha2 hn
  unfold U
  go_enter Try.func77, Try.ntmps77
  go_upto_region 3 with (go_at_call 62; refine (ramount_cc a _ true Ha.out Hm.out).mono ?_; rintro e w2 ⟨rfl, hb2⟩; have u2 := T0.out.below hb2)
  obtain ⟨W, hW⟩ : ∃ W, W = w2 := ⟨_, rfl⟩
  rw [← hW] at u2
  have U2 := Lib.hid u2
  have HB := Lib.hid (U2.out.k.b _ (List.mem_singleton.2 rfl)).a
  rw [← hW]
  clear hW hb2 u2
  go_cut [7] (fun v wx => ∃ L, v = .pointer (some ⟨L, 0, none⟩) ∧ Box wx L p ∧ W.heap.size ≤ L ∧ Below W.heap.size W wx)
  case first =>
    go_region_held3 (fun w' => w'.cell? ⟨w.heap.size, 0, none⟩ = some (.int .u64 (limb a 0 : Nat)) ∧ w'.cell? ⟨w.heap.size, 1, none⟩ = some (.int .u64 (limb a 1 : Nat)) ∧ w'.cell? ⟨w.heap.size, 2, none⟩ = some (.int .u64 (limb a 2 : Nat)) ∧ w'.cell? ⟨w.heap.size, 3, none⟩ = some (.int .u64 (limb a 3 : Nat)) ∧ Below W.heap.size W w')
      ((refine hldW HB.out ?_; repeat (first | with_reducible exact k3 | with_reducible exact k2 | with_reducible exact k1 | with_reducible exact Below.refl _ _ | with_reducible refine kpD ?_ | with_reducible refine kpA ?_ _ | with_reducible refine kpP ?_ (by omega) | with_reducible exact un_hldW (by with_reducible assumption))))
      (first
        | (go_at_call 41; refine (rbipsDown a n _ Hle.out Hn.out).mono ?_; rintro e v3 ⟨rfl, hv3⟩; rw [← Hp.out]; have k3 := kpB (un_hldW (by with_reducible assumption)) hv3; have y3 := hv3.size; (try simp at y3); (first | (with_reducible have zA3 := carry0 zA2 hv3) | skip); (first | (with_reducible have zB3 := carry0 zB2 hv3) | skip); (first | (with_reducible have zC3 := z_one hv3) | skip); (first | (obtain ⟨_, _, _, _⟩ := zA3.frees4; obtain ⟨_, _, _, _⟩ := zA3.cells4; have lzA3 := zA3.lt4) | skip); (first | (obtain ⟨_, _, _, _⟩ := zB3.frees4; obtain ⟨_, _, _, _⟩ := zB3.cells4; have lzB3 := zB3.lt4) | skip); (first | (obtain ⟨_, _, _, _⟩ := zC3.frees4; obtain ⟨_, _, _, _⟩ := zC3.cells4; have lzC3 := zC3.lt4) | skip); unfold U)
        | (go_at_call 122; refine (num10000_c _).mono ?_; rintro e v2 ⟨rfl, hv2⟩; have k2 := kpB (un_hldW (by with_reducible assumption)) hv2; have y2 := hv2.size; (try simp at y2); (first | (with_reducible have zA2 := carry0 zA hv2) | skip); (first | (with_reducible have zB2 := z_one hv2) | skip))
        | (go_at_call 122; refine (num_walk n _ Hn.out).mono ?_; rintro e v1 ⟨rfl, hv1⟩; have k1 := kpB (un_hldW (by with_reducible assumption)) hv1; have y1 := k1.size; (first | (with_reducible have zA := z_one_d hv1) | skip)))
    all_goals
      go_wp2
      go_meet
      case rel =>
        refine ⟨_, rfl, ⟨?_, ?_⟩, ?_, ?_⟩
        · repeat (first | with_reducible assumption | with_reducible exact Arr.new4 (f := limb p) rfl | with_reducible refine Arr.put4 (f := fun _ => 0) ?_)
        · simp only [World.size_setCell, World.size_alloc]; omega
        · omega
        · repeat (first | with_reducible exact k3 | with_reducible refine kpA ?_ _ | with_reducible refine kpP ?_ (by omega))
  case rest =>
    obtain ⟨L, rfl, bp, hL, hbl⟩ := hcut
    have u3 := U2.out.below hbl
    obtain ⟨⟨a0, a1, a2, a3⟩, _⟩ := u3.k.cells w.heap.size a (by simp)
    obtain ⟨b0, b1, b2, b3⟩ := bp.a.cells4
    have lp := bp.s
    have l2 := U2.out.z2.s
    go_upto_region 5 with (go_at_call 18; refine (rsub_walk a p _ Ha.out Hpl.out).mono ?_; rintro e w4 ⟨rfl, hb4⟩; rw [Hs.out, ← Hq.out]; have u4 := u3.below hb4; have bp4 := bp.below hb4; have lp4 := bp4.s; obtain ⟨e0, e1, e2, e3⟩ := bp4.a.cells4; obtain ⟨f1', hf1⟩ := u4.z1.a; obtain ⟨f2', hf2⟩ := u4.z2.a; obtain ⟨f0, f1, f2, f3⟩ := hf1.frees4; obtain ⟨g0, g1, g2, g3⟩ := hf2.frees4; obtain ⟨c0, c1, c2, c3⟩ := hf1.cells4; obtain ⟨d0, d1, d2, d3⟩ := hf2.cells4; have s1 := u4.z1.s; have s2 := u4.z2.s; unfold U)
    go_region
    all_goals
      go_wp2
      refine bodyPost_ret (v := .tuple #[.agg #[.int .u64 (limb p 0 : Nat), .int .u64 (limb p 1 : Nat), .int .u64 (limb p 2 : Nat), .int .u64 (limb p 3 : Nat)], .agg #[.int .u64 (limb q 0 : Nat), .int .u64 (limb q 1 : Nat), .int .u64 (limb q 2 : Nat), .int .u64 (limb q 3 : Nat)], .bool true]) (by simp [results, Try.results77, go_sem, c0, c1, c2, c3, d0, d1, d2, d3, s1, s2]) rfl ⟨rfl, ?_⟩
      exact below_drewN ((below_set4 (below_set4 u4.k.l (by omega)) (by omega)).alloc (by simp only [World.size_setCell]; omega) _) 1
end Go.Proofs.Ythglnedlbiembaa
