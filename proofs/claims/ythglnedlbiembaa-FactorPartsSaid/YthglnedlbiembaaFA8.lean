/- tallagelaw20.FactorGrows, walked. -/
import Derived.Test.YthglnedlbiembaaFA
namespace Go.Proofs.Ythglnedlbiembaa
open Go.RowKit Go.Sort

theorem Bk.drew {w wr : World} {l : List (Nat × Nat)} (h : Bk w wr l) : Bk w wr.drew l := ⟨fun p hp => ⟨(h.b p hp).a.drew, (h.b p hp).s⟩, below_drewN h.l 1⟩
theorem grow_up (n s m : Nat) : fw s (n * SQ / (s * m)) m ≤ n := by
  unfold fw
  refine Nat.div_le_of_le_mul ?_
  rw [Nat.mul_right_comm, Nat.mul_comm SQ n]
  have := Nat.div_mul_le_self (n * SQ) (s * m)
  rw [Nat.mul_comm (s * m)]
  exact this
theorem grow_near (n s m g : Nat) (h : s * m ≠ 0) (hg : g = n * SQ / (s * m)) (hP : 1000000000 ≤ g) : n ≤ fw s g m + n / 1000000000 + 2 := by
  unfold fw
  rw [Nat.mul_right_comm]
  generalize s * m = k at *
  obtain ⟨v, hv⟩ : ∃ v, v = k * g / SQ := ⟨_, rfl⟩
  rw [← hv]
  have hS : 0 < SQ := by decide
  have h1 : k * g < (v + 1) * SQ := by
    have := Nat.lt_div_mul_add (a := k * g) hS
    rw [← hv] at this
    rw [Nat.add_mul]; omega
  have h2 : n * SQ < k * g + k := by
    have := Nat.lt_mul_div_succ (n * SQ) (Nat.pos_of_ne_zero h)
    rw [← hg] at this
    have e : k * (g + 1) = k * g + k := Nat.mul_succ k g
    omega
  have h3 : k * 1000000000 ≤ k * g := Nat.mul_le_mul_left k hP
  have h4 : n * 1000000000 * SQ < (v + 1) * 1000000001 * SQ := by
    have e1 : n * 1000000000 * SQ = n * SQ * 1000000000 := Nat.mul_right_comm _ _ _
    have e2 : (v + 1) * 1000000001 * SQ = (v + 1) * SQ * 1000000001 := Nat.mul_right_comm _ _ _
    rw [e1, e2]
    generalize (v + 1) * SQ = q at *
    generalize n * SQ = p at *
    generalize k * g = r at *
    omega
  have h5 : n * 1000000000 < (v + 1) * 1000000001 := Nat.lt_of_mul_lt_mul_right h4
  omega
theorem bk_grows {d f m x : Nat} {w : World} : Bk w (((w.alloc (.cells #[.int .u64 (limb d 0 : Nat), .int .u64 (limb d 1 : Nat), .int .u64 (limb d 2 : Nat), .int .u64 (limb d 3 : Nat), .int .u64 (limb f 0 : Nat), .int .u64 (limb f 1 : Nat), .int .u64 (limb f 2 : Nat), .int .u64 (limb f 3 : Nat)] 54)).alloc (.cells #[.int .u64 (limb m 0 : Nat), .int .u64 (limb m 1 : Nat), .int .u64 (limb m 2 : Nat), .int .u64 (limb m 3 : Nat)] 24)).alloc (.cells #[.int .u64 (limb x 0 : Nat), .int .u64 (limb x 1 : Nat), .int .u64 (limb x 2 : Nat), .int .u64 (limb x 3 : Nat)] 24)) [(w.heap.size + 1 + 1, x), (w.heap.size + 1, m)] := by
  have h := Bk.push (t := 24) x (Bk.push (t := 24) m ((Bk.nil (w := w)).alloc (.cells #[.int .u64 (limb d 0 : Nat), .int .u64 (limb d 1 : Nat), .int .u64 (limb d 2 : Nat), .int .u64 (limb d 3 : Nat), .int .u64 (limb f 0 : Nat), .int .u64 (limb f 1 : Nat), .int .u64 (limb f 2 : Nat), .int .u64 (limb f 3 : Nat)] 54)))
  rw [World.size_alloc, World.size_alloc] at h
  exact h
set_option maxRecDepth 100000 in
set_option maxHeartbeats 4000000 in
theorem grows_no (d f m x v g : Nat) (ok is : Bool) (w : World) (hg : g = 0) (hno : (ok && is) = false) (HW0 : ∀ w, Calls Try.prog 68 #[U d, U f, U m] w fun e w' => e = .returned (.tuple #[U v, .bool ok]) ∧ Below w.heap.size w w') (HG0 : ∀ w, Calls Try.prog 69 #[U d, U f, U m, U x] w fun e w' => e = .returned (.tuple #[U g, .bool is]) ∧ Below w.heap.size w w') :
    Calls Try.prog 8 #[WW d f, U m, U x] w fun e w' => e = .returned (.bool true) ∧ Below w.heap.size w w' := by
  have K0 := Lib.hid (bk_grows (d := d) (f := f) (m := m) (x := x) (w := w))
  have HW := Lib.hid HW0
  have HG := Lib.hid HG0
  have dg : decide (g = 0) = true := decide_eq_true hg
  have heqg := fun w => eq0_run (show g < 2 ^ 256 by rw [hg]; decide) w
  have hno' : ok = false ∨ ok = true ∧ is = false := by cases ok <;> cases is <;> simp_all
  clear HW0 HG0 hg hno
  unfold U WW
  go_enter Try.func8, Try.ntmps8
  go_upto_region 1 with (fail)
  go_cut [7, 8] (fun p q wx => ∃ P Q, p = .pointer (some ⟨P, 0, none⟩) ∧ q = .pointer (some ⟨Q, 0, none⟩) ∧ Box wx P d ∧ Box wx Q f ∧ Bk w wx [(w.heap.size + 1 + 1, x), (w.heap.size + 1, m)])
  case first =>
    go_region
    all_goals
      go_wp2
      go_meet
      case rel =>
        refine ⟨_, _, rfl, rfl, ⟨?_, ?_⟩, ⟨?_, ?_⟩, ?_⟩
        · repeat (first | with_reducible assumption | with_reducible exact Arr.new4 (f := limb d) rfl | with_reducible exact Arr.new4 (f := limb d) (by simp; done) | with_reducible refine Arr.put4 (f := fun _ => 0) ?_ | with_reducible refine Arr.put4_far ?_ (by omega) | with_reducible refine Arr.alloc ?_ _ | with_reducible refine Arr.drew ?_)
        · simp only [World.size_alloc, World.size_drew]; omega
        · repeat (first | with_reducible assumption | with_reducible exact Arr.new4 (f := limb f) rfl | with_reducible exact Arr.new4 (f := limb f) (by simp; done) | with_reducible refine Arr.put4 (f := fun _ => 0) ?_ | with_reducible refine Arr.put4_far ?_ (by omega) | with_reducible refine Arr.alloc ?_ _ | with_reducible refine Arr.drew ?_)
        · simp only [World.size_alloc, World.size_drew]; omega
        · repeat (first | with_reducible exact K0.out | with_reducible refine Bk.drew ?_ | with_reducible refine Bk.alloc ?_ _)
  case rest =>
    obtain ⟨P, Q, rfl, rfl, bp, bq, k00⟩ := hcut
    have k0 := (k00.old bq).old bp
    obtain ⟨⟨a0, a1, a2, a3⟩, a4⟩ := k0.cells P d (by simp)
    obtain ⟨⟨b0, b1, b2, b3⟩, b4⟩ := k0.cells Q f (by simp)
    obtain ⟨⟨c0, c1, c2, c3⟩, c4⟩ := k0.cells (w.heap.size + 1) m (by simp)
    rcases hno' with rfl | ⟨rfl, rfl⟩
    · go_wp2_with (first
        | (go_at_call 70; have g5 := k2; clear g5; refine (lives20_walk _).mono ?_; rintro e w8 ⟨rfl, hb8⟩; have k8 := k2.call hb8)
        | (go_at_call 69; refine (HG.out _).mono ?_; rintro e w2 ⟨rfl, hb2⟩; have j2 := k1.call hb2; have k2 := Bk.push (t := 24) g j2; obtain ⟨⟨ae0, ae1, ae2, ae3⟩, ae4⟩ := j2.cells P d (by simp); obtain ⟨⟨be0, be1, be2, be3⟩, be4⟩ := j2.cells (w.heap.size + 1 + 1) x (by simp); unfold U)
        | (go_at_call 68; refine (HW.out _).mono ?_; rintro e w1 ⟨rfl, hb1⟩; have k1 := Bk.push (t := 24) v (k0.call hb1); obtain ⟨⟨aa0, aa1, aa2, aa3⟩, aa4⟩ := k1.cells P d (by simp); obtain ⟨⟨bb0, bb1, bb2, bb3⟩, bb4⟩ := k1.cells Q f (by simp); obtain ⟨⟨cc0, cc1, cc2, cc3⟩, cc4⟩ := k1.cells (w.heap.size + 1) m (by simp); obtain ⟨⟨dd0, dd1, dd2, dd3⟩, dd4⟩ := k1.cells (w.heap.size + 1 + 1) x (by simp); unfold U))
      go_ret
      exact ⟨rfl, k8.l⟩
    · go_wp2_with (first
        | (go_at_call 70; have g5 := k2; clear g5; refine (lives20_walk _).mono ?_; rintro e w8 ⟨rfl, hb8⟩; have k8 := k2.call hb8)
        | (go_at_call 69; refine (HG.out _).mono ?_; rintro e w2 ⟨rfl, hb2⟩; have j2 := k1.call hb2; have k2 := Bk.push (t := 24) g j2; obtain ⟨⟨ae0, ae1, ae2, ae3⟩, ae4⟩ := j2.cells P d (by simp); obtain ⟨⟨be0, be1, be2, be3⟩, be4⟩ := j2.cells (w.heap.size + 1 + 1) x (by simp); unfold U)
        | (go_at_call 68; refine (HW.out _).mono ?_; rintro e w1 ⟨rfl, hb1⟩; have k1 := Bk.push (t := 24) v (k0.call hb1); obtain ⟨⟨aa0, aa1, aa2, aa3⟩, aa4⟩ := k1.cells P d (by simp); obtain ⟨⟨bb0, bb1, bb2, bb3⟩, bb4⟩ := k1.cells Q f (by simp); obtain ⟨⟨cc0, cc1, cc2, cc3⟩, cc4⟩ := k1.cells (w.heap.size + 1) m (by simp); obtain ⟨⟨dd0, dd1, dd2, dd3⟩, dd4⟩ := k1.cells (w.heap.size + 1 + 1) x (by simp); unfold U))
      go_ret
      exact ⟨rfl, k8.l⟩
set_option maxRecDepth 100000 in
set_option maxHeartbeats 4000000 in
theorem grows_yes (d f m x v g s v2 t : Nat) (c : Int) (w : World) (hc : c ≤ 0) (HW0 : ∀ w, Calls Try.prog 68 #[U d, U f, U m] w fun e w' => e = .returned (.tuple #[U v, .bool true]) ∧ Below w.heap.size w w') (HG0 : ∀ w, Calls Try.prog 69 #[U d, U f, U m, U x] w fun e w' => e = .returned (.tuple #[U g, .bool true]) ∧ Below w.heap.size w w') (HA10 : ∀ w, Calls Try.prog 16 #[U d, U x] w fun e w' => e = .returned (.tuple #[U s, .bool true]) ∧ Below w.heap.size w w') (HW20 : ∀ w, Calls Try.prog 68 #[U s, U g, U m] w fun e w' => e = .returned (.tuple #[U v2, .bool true]) ∧ Below w.heap.size w w') (HA20 : ∀ w, Calls Try.prog 16 #[U v, U x] w fun e w' => e = .returned (.tuple #[U t, .bool true]) ∧ Below w.heap.size w w') (HC0 : ∀ w, Calls Try.prog 23 #[U v2, U t] w fun e w' => e = .returned (.int .i64 c) ∧ Below w.heap.size w w') (HN0 : ∀ w, Calls Try.prog 71 #[U v2, U t, U g] w fun e w' => e = .returned (.bool true) ∧ Below w.heap.size w w') :
    Calls Try.prog 8 #[WW d f, U m, U x] w fun e w' => e = .returned (.bool true) ∧ Below w.heap.size w w' := by
  have K0 := Lib.hid (bk_grows (d := d) (f := f) (m := m) (x := x) (w := w))
  have HW := Lib.hid HW0
  have HG := Lib.hid HG0
  have HA1 := Lib.hid HA10
  have HA2 := Lib.hid HA20
  have HW2 := Lib.hid HW20
  have HC := Lib.hid HC0
  have HN := Lib.hid HN0
  have q : ¬ 0 < c := by omega
  clear HW0 HG0 HA10 HA20 HW20 HC0 HN0 hc
  unfold U WW
  go_enter Try.func8, Try.ntmps8
  go_upto_region 1 with (fail)
  go_cut [7, 8] (fun p q wx => ∃ P Q, p = .pointer (some ⟨P, 0, none⟩) ∧ q = .pointer (some ⟨Q, 0, none⟩) ∧ Box wx P d ∧ Box wx Q f ∧ Bk w wx [(w.heap.size + 1 + 1, x), (w.heap.size + 1, m)])
  case first =>
    go_region
    all_goals
      go_wp2
      go_meet
      case rel =>
        refine ⟨_, _, rfl, rfl, ⟨?_, ?_⟩, ⟨?_, ?_⟩, ?_⟩
        · repeat (first | with_reducible assumption | with_reducible exact Arr.new4 (f := limb d) rfl | with_reducible exact Arr.new4 (f := limb d) (by simp; done) | with_reducible refine Arr.put4 (f := fun _ => 0) ?_ | with_reducible refine Arr.put4_far ?_ (by omega) | with_reducible refine Arr.alloc ?_ _ | with_reducible refine Arr.drew ?_)
        · simp only [World.size_alloc, World.size_drew]; omega
        · repeat (first | with_reducible assumption | with_reducible exact Arr.new4 (f := limb f) rfl | with_reducible exact Arr.new4 (f := limb f) (by simp; done) | with_reducible refine Arr.put4 (f := fun _ => 0) ?_ | with_reducible refine Arr.put4_far ?_ (by omega) | with_reducible refine Arr.alloc ?_ _ | with_reducible refine Arr.drew ?_)
        · simp only [World.size_alloc, World.size_drew]; omega
        · repeat (first | with_reducible exact K0.out | with_reducible refine Bk.drew ?_ | with_reducible refine Bk.alloc ?_ _)
  case rest =>
    obtain ⟨P, Q, rfl, rfl, bp, bq, k00⟩ := hcut
    have k0 := (k00.old bq).old bp
    obtain ⟨⟨a0, a1, a2, a3⟩, a4⟩ := k0.cells P d (by simp)
    obtain ⟨⟨b0, b1, b2, b3⟩, b4⟩ := k0.cells Q f (by simp)
    obtain ⟨⟨c0, c1, c2, c3⟩, c4⟩ := k0.cells (w.heap.size + 1) m (by simp)
    go_wp2_with (first
      | (go_at_call 70; have g5 := k7; clear g5; refine (lives20_walk _).mono ?_; rintro e w8 ⟨rfl, hb8⟩; have k8 := k7.call hb8)
      | (go_at_call 71; refine (HN.out _).mono ?_; rintro e w7 ⟨rfl, hb7⟩; have k7 := k6.call hb7)
      | (go_at_call 23; refine (HC.out _).mono ?_; rintro e w6 ⟨rfl, hb6⟩; have k6 := k5.call hb6; obtain ⟨⟨aj0, aj1, aj2, aj3⟩, aj4⟩ := k6.cells w4.heap.size v2 (by simp); obtain ⟨⟨bj0, bj1, bj2, bj3⟩, bj4⟩ := k6.cells w5.heap.size t (by simp); obtain ⟨⟨cj0, cj1, cj2, cj3⟩, cj4⟩ := k6.cells w2.heap.size g (by simp))
      | (go_at_call 16; have g5 := k4; clear g5; refine (HA2.out _).mono ?_; rintro e w5 ⟨rfl, hb5⟩; have j5 := k4.call hb5; have k5 := Bk.push (t := 24) t j5; obtain ⟨⟨ai0, ai1, ai2, ai3⟩, ai4⟩ := j5.cells w4.heap.size v2 (by simp); unfold U)
      | (go_at_call 68; have g5 := k3; clear g5; refine (HW2.out _).mono ?_; rintro e w4 ⟨rfl, hb4⟩; have j4 := k3.call hb4; have k4 := Bk.push (t := 24) v2 j4; obtain ⟨⟨ah0, ah1, ah2, ah3⟩, ah4⟩ := j4.cells w1.heap.size v (by simp); obtain ⟨⟨bh0, bh1, bh2, bh3⟩, bh4⟩ := j4.cells (w.heap.size + 1 + 1) x (by simp); unfold U)
      | (go_at_call 16; have g5 := k2; clear g5; refine (HA1.out _).mono ?_; rintro e w3 ⟨rfl, hb3⟩; have j3 := k2.call hb3; have k3 := Bk.push (t := 24) s j3; obtain ⟨⟨ag0, ag1, ag2, ag3⟩, ag4⟩ := j3.cells w2.heap.size g (by simp); obtain ⟨⟨bg0, bg1, bg2, bg3⟩, bg4⟩ := j3.cells (w.heap.size + 1) m (by simp); unfold U)
      | (go_at_call 69; refine (HG.out _).mono ?_; rintro e w2 ⟨rfl, hb2⟩; have j2 := k1.call hb2; have k2 := Bk.push (t := 24) g j2; obtain ⟨⟨ae0, ae1, ae2, ae3⟩, ae4⟩ := j2.cells P d (by simp); obtain ⟨⟨be0, be1, be2, be3⟩, be4⟩ := j2.cells (w.heap.size + 1 + 1) x (by simp); unfold U)
      | (go_at_call 68; refine (HW.out _).mono ?_; rintro e w1 ⟨rfl, hb1⟩; have k1 := Bk.push (t := 24) v (k0.call hb1); obtain ⟨⟨aa0, aa1, aa2, aa3⟩, aa4⟩ := k1.cells P d (by simp); obtain ⟨⟨bb0, bb1, bb2, bb3⟩, bb4⟩ := k1.cells Q f (by simp); obtain ⟨⟨cc0, cc1, cc2, cc3⟩, cc4⟩ := k1.cells (w.heap.size + 1) m (by simp); obtain ⟨⟨dd0, dd1, dd2, dd3⟩, dd4⟩ := k1.cells (w.heap.size + 1 + 1) x (by simp); unfold U))
    go_ret
    exact ⟨rfl, k8.l⟩
theorem factorGrows_walk (d f m x : Nat) (w : World) (hd : d < 2 ^ 256) (hf : f < 2 ^ 256) (hm : m < 2 ^ 256) (hx : x < 2 ^ 256) :
    Calls Try.prog 8 #[WW d f, U m, U x] w fun e w' => e = .returned (.bool true) ∧ Below w.heap.size w w' := by
  by_cases hg : fgood d f m
  · by_cases hs : x ≠ 0 ∧ d + x ≤ MOST
    · by_cases hk : fok (fw d f m + x) ((d + x) * m)
      · obtain ⟨n, hn⟩ : ∃ n, n = fw d f m + x := ⟨_, rfl⟩
        obtain ⟨g, hgg⟩ : ∃ g, g = n * SQ / ((d + x) * m) := ⟨_, rfl⟩
        have hg2 : fgood (d + x) g m := ⟨hs.2, by rw [hgg, hn]; exact hk.2.2, hg.2.2⟩
        have h1 := fw_lt hg
        have h2 := MOST_WAD
        have h3 := MOST_lt
        have hn256 : n < 2 ^ 256 := by have := hs.2; omega
        have hup : fw (d + x) g m ≤ n := by rw [hgg]; exact grow_up n (d + x) m
        have hg256 : g < 2 ^ 256 := Nat.lt_of_le_of_lt hg2.2.1 SQ_lt
        refine grows_yes d f m x (fw d f m) g (d + x) (fw (d + x) g m) n (cmpU (fw (d + x) g m) n) w ((cmpU_le _ _).2 hup) (fun w => worth_yes_walk d f m w hg) (fun w => ?_) (fun w => radd_g d x (d + x) w hd hx (by have := hs.2; omega) rfl) (fun w => worth_yes_walk (d + x) g m w hg2) (fun w => radd_g (fw d f m) x n w (by omega) hx hn256 hn.symm) (fun w => rcmp_g _ _ w _ (by omega) hn256 rfl) (fun w => near_walk _ n g w (by omega) hn256 hg256 ?_)
        · refine (grow_main d f m x w hg hs.1 hs.2).mono fun e w' ⟨he, hw⟩ => ⟨?_, hw⟩
          rw [he, if_pos hk, decide_eq_true hk, hgg, hn]
        · rcases Nat.lt_or_ge g 1000000000 with h | h
          · exact .inl h
          · have h5 : n / 1000000000 ≤ n := Nat.div_le_self _ _
            have h6 : n ≤ MOST * WAD + MOST := by have := hs.2; omega
            exact .inr ⟨by have : MOST * WAD + MOST + (MOST * WAD + MOST) + 2 < 2 ^ 256 := by decide
                           omega, grow_near n (d + x) m g hk.1 hgg h⟩
      · refine grows_no d f m x (fw d f m) 0 true false w rfl rfl (fun w => worth_yes_walk d f m w hg) (fun w => ?_)
        refine (grow_main d f m x w hg hs.1 hs.2).mono fun e w' ⟨he, hw⟩ => ⟨?_, hw⟩
        rw [he, if_neg hk, decide_eq_false hk]
    · exact grows_no d f m x (fw d f m) 0 true false w rfl rfl (fun w => worth_yes_walk d f m w hg) (fun w => grow_far d f m x w hx hg hs)
  · exact grows_no d f m x 0 0 false false w rfl rfl (fun w => worth_no_walk d f m w hd hf hm hg) (fun w => grow_bad d f m x w hd hf hm hx hg)
end Go.Proofs.Ythglnedlbiembaa
