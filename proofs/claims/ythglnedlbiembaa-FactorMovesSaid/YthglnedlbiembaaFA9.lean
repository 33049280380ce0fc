/- tallagelaw20.FactorMoves, walked. -/
import Derived.Test.YthglnedlbiembaaFA8
namespace Go.Proofs.Ythglnedlbiembaa
open Go.RowKit Go.Sort
theorem bk_moves {d f m : Nat} {w : World} : Bk w ((w.alloc (.cells #[.int .u64 (limb d 0 : Nat), .int .u64 (limb d 1 : Nat), .int .u64 (limb d 2 : Nat), .int .u64 (limb d 3 : Nat), .int .u64 (limb f 0 : Nat), .int .u64 (limb f 1 : Nat), .int .u64 (limb f 2 : Nat), .int .u64 (limb f 3 : Nat)] 54)).alloc (.cells #[.int .u64 (limb m 0 : Nat), .int .u64 (limb m 1 : Nat), .int .u64 (limb m 2 : Nat), .int .u64 (limb m 3 : Nat)] 24)) [(w.heap.size + 1, m)] := by
  have h := Bk.push (t := 24) m ((Bk.nil (w := w)).alloc (.cells #[.int .u64 (limb d 0 : Nat), .int .u64 (limb d 1 : Nat), .int .u64 (limb d 2 : Nat), .int .u64 (limb d 3 : Nat), .int .u64 (limb f 0 : Nat), .int .u64 (limb f 1 : Nat), .int .u64 (limb f 2 : Nat), .int .u64 (limb f 3 : Nat)] 54))
  rw [World.size_alloc] at h
  exact h
set_option maxRecDepth 100000 in
set_option maxHeartbeats 4000000 in
theorem moves_no (d f m v g : Nat) (ok is : Bool) (w : World) (hg : g = 0) (hno : (ok && is) = false) (HW0 : ∀ w, Calls Try.prog 68 #[U d, U f, U WAD] w fun e w' => e = .returned (.tuple #[U v, .bool ok]) ∧ Below w.heap.size w w') (HG0 : ∀ w, Calls Try.prog 73 #[U d, U f, U m] w fun e w' => e = .returned (.tuple #[U g, .bool is]) ∧ Below w.heap.size w w') :
    Calls Try.prog 9 #[WW d f, U m] w fun e w' => e = .returned (.bool true) ∧ Below w.heap.size w w' := by
  have K0 := Lib.hid (bk_moves (d := d) (f := f) (m := m) (w := w))
  have HW := Lib.hid HW0
  have HG := Lib.hid HG0
  have dg : decide (g = 0) = true := decide_eq_true hg
  have heqg := fun w => eq0_run (show g < 2 ^ 256 by rw [hg]; decide) w
  have hno' : ok = false ∨ ok = true ∧ is = false := by cases ok <;> cases is <;> simp_all
  clear HW0 HG0 hg hno
  unfold U WW
  go_enter Try.func9, Try.ntmps9
  go_upto_region 1 with (fail)
  go_cut [5, 6] (fun p q wx => ∃ P Q, p = .pointer (some ⟨P, 0, none⟩) ∧ q = .pointer (some ⟨Q, 0, none⟩) ∧ Box wx P d ∧ Box wx Q f ∧ Bk w wx [(w.heap.size + 1, m)])
  case first =>
    go_region
    all_goals
      go_wp2
      go_meet
      case rel =>
        refine ⟨_, _, rfl, rfl, ⟨?_, ?_⟩, ⟨?_, ?_⟩, ?_⟩
        · repeat (first | with_reducible assumption | with_reducible exact Arr.new4 (f := limb d) rfl | with_reducible exact Arr.new4 (f := limb d) (by simp; done) | with_reducible refine Arr.put4 (f := fun _ => 0) ?_ | with_reducible refine Arr.put4_far ?_ (by omega) | with_reducible refine Arr.alloc ?_ _ | with_reducible refine Arr.drew ?_)
        · simp only [World.size_alloc, World.size_drew]; omega
        · repeat (first | with_reducible assumption | with_reducible exact Arr.new4 (f := limb f) rfl | with_reducible exact Arr.new4 (f := limb f) (by simp; done) | with_reducible refine Arr.put4 (f := fun _ => 0) ?_ | with_reducible refine Arr.put4_far ?_ (by omega) | with_reducible refine Arr.alloc ?_ _ | with_reducible refine Arr.drew ?_)
        · simp only [World.size_alloc, World.size_drew]; omega
        · repeat (first | with_reducible exact K0.out | with_reducible refine Bk.drew ?_ | with_reducible refine Bk.alloc ?_ _)
  case rest =>
    obtain ⟨P, Q, rfl, rfl, bp, bq, k00⟩ := hcut
    have k0 := Lib.hid ((k00.old bq).old bp)
    obtain ⟨W, hW⟩ : ∃ W, W = wc := ⟨_, rfl⟩
    rw [← hW] at k0 bp bq
    rw [← hW]
    have B1 := Lib.hid bp.a
    have B2 := Lib.hid bq.a
    clear hW k00 bp bq
    go_upto_region 2 with (fail)
    go_cut [7, 8] (fun p k wx => ∃ M, p = .pointer (some ⟨M, 0, none⟩) ∧ k = .bool ok ∧ Box wx M v ∧ Below W.heap.size W wx)
    case first =>
      go_region_held3 (fun w' => w'.cell? ⟨P, 0, none⟩ = some (.int .u64 (limb d 0 : Nat)) ∧ w'.cell? ⟨P, 1, none⟩ = some (.int .u64 (limb d 1 : Nat)) ∧ w'.cell? ⟨P, 2, none⟩ = some (.int .u64 (limb d 2 : Nat)) ∧ w'.cell? ⟨P, 3, none⟩ = some (.int .u64 (limb d 3 : Nat)) ∧ w'.cell? ⟨Q, 0, none⟩ = some (.int .u64 (limb f 0 : Nat)) ∧ w'.cell? ⟨Q, 1, none⟩ = some (.int .u64 (limb f 1 : Nat)) ∧ w'.cell? ⟨Q, 2, none⟩ = some (.int .u64 (limb f 2 : Nat)) ∧ w'.cell? ⟨Q, 3, none⟩ = some (.int .u64 (limb f 3 : Nat)) ∧ Below W.heap.size W w')
        ((refine hldW2 B1.out B2.out ?_; repeat (first | with_reducible exact k2 | with_reducible exact k1 | with_reducible exact Below.refl _ _ | with_reducible refine kpD ?_ | with_reducible refine kpA ?_ _ | with_reducible refine kpP ?_ (by omega) | with_reducible exact un_hldW2 (by with_reducible assumption))))
        (first
          | (go_at_call 68; refine (HW.out _).mono ?_; rintro e v2 ⟨rfl, hv2⟩; have k2 := kpB (un_hldW2 (by with_reducible assumption)) hv2; have y2 := hv2.size; (try simp at y2); (first | (with_reducible have zA2 := carry0 zA hv2) | skip); (first | (with_reducible have zB2 := z_one hv2) | skip); (first | (obtain ⟨_, _, _, _⟩ := zA2.frees4; obtain ⟨_, _, _, _⟩ := zA2.cells4; have lzA2 := zA2.lt4) | skip); (first | (obtain ⟨_, _, _, _⟩ := zB2.frees4; obtain ⟨_, _, _, _⟩ := zB2.cells4; have lzB2 := zB2.lt4) | skip); unfold U)
          | (go_at_call 72; refine (one_walk _).mono ?_; rintro e v1 ⟨rfl, hv1⟩; have k1 := kpB (un_hldW2 (by with_reducible assumption)) hv1; have y1 := k1.size; (first | (with_reducible have zA := z_one_d hv1) | skip); unfold U))
      all_goals
        go_wp2
        go_meet
        case rel =>
          refine ⟨_, rfl, rfl, ⟨?_, ?_⟩, ?_⟩
          · repeat (first | with_reducible assumption | with_reducible exact Arr.new4 (f := limb v) rfl | with_reducible refine Arr.put4 (f := fun _ => 0) ?_)
          · simp only [World.size_setCell, World.size_alloc]; omega
          · repeat (first | with_reducible exact k2 | with_reducible refine kpA ?_ _ | with_reducible refine kpP ?_ (by omega))
    case rest =>
      obtain ⟨M, rfl, rfl, bm, hbl⟩ := hcut
      have k1 := (k0.out.call hbl).old bm
      obtain ⟨⟨a0, a1, a2, a3⟩, a4⟩ := k1.cells P d (by simp)
      obtain ⟨⟨b0, b1, b2, b3⟩, b4⟩ := k1.cells Q f (by simp)
      obtain ⟨⟨c0, c1, c2, c3⟩, c4⟩ := k1.cells (w.heap.size + 1) m (by simp)
      rcases hno' with rfl | ⟨rfl, rfl⟩
      · go_wp2_with (first
          | (go_at_call 70; have g5 := k2; clear g5; refine (lives20_walk _).mono ?_; rintro e w8 ⟨rfl, hb8⟩; have k8 := k2.call hb8)
          | (go_at_call 73; refine (HG.out _).mono ?_; rintro e w2 ⟨rfl, hb2⟩; have j2 := k1.call hb2; have k2 := Bk.push (t := 24) g j2; obtain ⟨⟨ae0, ae1, ae2, ae3⟩, ae4⟩ := j2.cells P d (by simp); obtain ⟨⟨be0, be1, be2, be3⟩, be4⟩ := j2.cells (w.heap.size + 1) m (by simp); unfold U))
        go_ret
        exact ⟨rfl, k8.l⟩
      · go_wp2_with (first
          | (go_at_call 70; have g5 := k2; clear g5; refine (lives20_walk _).mono ?_; rintro e w8 ⟨rfl, hb8⟩; have k8 := k2.call hb8)
          | (go_at_call 73; refine (HG.out _).mono ?_; rintro e w2 ⟨rfl, hb2⟩; have j2 := k1.call hb2; have k2 := Bk.push (t := 24) g j2; obtain ⟨⟨ae0, ae1, ae2, ae3⟩, ae4⟩ := j2.cells P d (by simp); obtain ⟨⟨be0, be1, be2, be3⟩, be4⟩ := j2.cells (w.heap.size + 1) m (by simp); unfold U))
        go_ret
        exact ⟨rfl, k8.l⟩
set_option maxRecDepth 100000 in
set_option maxHeartbeats 4000000 in
theorem moves_yes (d f m v g v2 : Nat) (c : Int) (w : World) (hc : c ≤ 0) (HW0 : ∀ w, Calls Try.prog 68 #[U d, U f, U WAD] w fun e w' => e = .returned (.tuple #[U v, .bool true]) ∧ Below w.heap.size w w') (HG0 : ∀ w, Calls Try.prog 73 #[U d, U f, U m] w fun e w' => e = .returned (.tuple #[U g, .bool true]) ∧ Below w.heap.size w w') (HW20 : ∀ w, Calls Try.prog 68 #[U d, U g, U m] w fun e w' => e = .returned (.tuple #[U v2, .bool true]) ∧ Below w.heap.size w w') (HC0 : ∀ w, Calls Try.prog 23 #[U v2, U v] w fun e w' => e = .returned (.int .i64 c) ∧ Below w.heap.size w w') (HN0 : ∀ w, Calls Try.prog 71 #[U v2, U v, U g] w fun e w' => e = .returned (.bool true) ∧ Below w.heap.size w w') :
    Calls Try.prog 9 #[WW d f, U m] w fun e w' => e = .returned (.bool true) ∧ Below w.heap.size w w' := by
  have K0 := Lib.hid (bk_moves (d := d) (f := f) (m := m) (w := w))
  have HW := Lib.hid HW0
  have HG := Lib.hid HG0
  have HW2 := Lib.hid HW20
  have HC := Lib.hid HC0
  have HN := Lib.hid HN0
  clear HW0 HG0 HW20 HC0 HN0
  unfold U WW
  go_enter Try.func9, Try.ntmps9
  go_upto_region 1 with (fail)
  go_cut [5, 6] (fun p q wx => ∃ P Q, p = .pointer (some ⟨P, 0, none⟩) ∧ q = .pointer (some ⟨Q, 0, none⟩) ∧ Box wx P d ∧ Box wx Q f ∧ Bk w wx [(w.heap.size + 1, m)])
  case first =>
    go_region
    all_goals
      go_wp2
      go_meet
      case rel =>
        refine ⟨_, _, rfl, rfl, ⟨?_, ?_⟩, ⟨?_, ?_⟩, ?_⟩
        · repeat (first | with_reducible assumption | with_reducible exact Arr.new4 (f := limb d) rfl | with_reducible exact Arr.new4 (f := limb d) (by simp; done) | with_reducible refine Arr.put4 (f := fun _ => 0) ?_ | with_reducible refine Arr.put4_far ?_ (by omega) | with_reducible refine Arr.alloc ?_ _ | with_reducible refine Arr.drew ?_)
        · simp only [World.size_alloc, World.size_drew]; omega
        · repeat (first | with_reducible assumption | with_reducible exact Arr.new4 (f := limb f) rfl | with_reducible exact Arr.new4 (f := limb f) (by simp; done) | with_reducible refine Arr.put4 (f := fun _ => 0) ?_ | with_reducible refine Arr.put4_far ?_ (by omega) | with_reducible refine Arr.alloc ?_ _ | with_reducible refine Arr.drew ?_)
        · simp only [World.size_alloc, World.size_drew]; omega
        · repeat (first | with_reducible exact K0.out | with_reducible refine Bk.drew ?_ | with_reducible refine Bk.alloc ?_ _)
  case rest =>
    obtain ⟨P, Q, rfl, rfl, bp, bq, k00⟩ := hcut
    have k0 := Lib.hid ((k00.old bq).old bp)
    obtain ⟨W, hW⟩ : ∃ W, W = wc := ⟨_, rfl⟩
    rw [← hW] at k0 bp bq
    rw [← hW]
    have B1 := Lib.hid bp.a
    have B2 := Lib.hid bq.a
    clear hW k00 bp bq
    go_upto_region 2 with (fail)
    go_cut [7, 8] (fun p k wx => ∃ M, p = .pointer (some ⟨M, 0, none⟩) ∧ k = .bool true ∧ Box wx M v ∧ Below W.heap.size W wx)
    case first =>
      go_region_held3 (fun w' => w'.cell? ⟨P, 0, none⟩ = some (.int .u64 (limb d 0 : Nat)) ∧ w'.cell? ⟨P, 1, none⟩ = some (.int .u64 (limb d 1 : Nat)) ∧ w'.cell? ⟨P, 2, none⟩ = some (.int .u64 (limb d 2 : Nat)) ∧ w'.cell? ⟨P, 3, none⟩ = some (.int .u64 (limb d 3 : Nat)) ∧ w'.cell? ⟨Q, 0, none⟩ = some (.int .u64 (limb f 0 : Nat)) ∧ w'.cell? ⟨Q, 1, none⟩ = some (.int .u64 (limb f 1 : Nat)) ∧ w'.cell? ⟨Q, 2, none⟩ = some (.int .u64 (limb f 2 : Nat)) ∧ w'.cell? ⟨Q, 3, none⟩ = some (.int .u64 (limb f 3 : Nat)) ∧ Below W.heap.size W w')
        ((refine hldW2 B1.out B2.out ?_; repeat (first | with_reducible exact k2 | with_reducible exact k1 | with_reducible exact Below.refl _ _ | with_reducible refine kpD ?_ | with_reducible refine kpA ?_ _ | with_reducible refine kpP ?_ (by omega) | with_reducible exact un_hldW2 (by with_reducible assumption))))
        (first
          | (go_at_call 68; refine (HW.out _).mono ?_; rintro e v2 ⟨rfl, hv2⟩; have k2 := kpB (un_hldW2 (by with_reducible assumption)) hv2; have y2 := hv2.size; (try simp at y2); (first | (with_reducible have zA2 := carry0 zA hv2) | skip); (first | (with_reducible have zB2 := z_one hv2) | skip); (first | (obtain ⟨_, _, _, _⟩ := zA2.frees4; obtain ⟨_, _, _, _⟩ := zA2.cells4; have lzA2 := zA2.lt4) | skip); (first | (obtain ⟨_, _, _, _⟩ := zB2.frees4; obtain ⟨_, _, _, _⟩ := zB2.cells4; have lzB2 := zB2.lt4) | skip); unfold U)
          | (go_at_call 72; refine (one_walk _).mono ?_; rintro e v1 ⟨rfl, hv1⟩; have k1 := kpB (un_hldW2 (by with_reducible assumption)) hv1; have y1 := k1.size; (first | (with_reducible have zA := z_one_d hv1) | skip); unfold U))
      all_goals
        go_wp2
        go_meet
        case rel =>
          refine ⟨_, rfl, rfl, ⟨?_, ?_⟩, ?_⟩
          · repeat (first | with_reducible assumption | with_reducible exact Arr.new4 (f := limb v) rfl | with_reducible refine Arr.put4 (f := fun _ => 0) ?_)
          · simp only [World.size_setCell, World.size_alloc]; omega
          · repeat (first | with_reducible exact k2 | with_reducible refine kpA ?_ _ | with_reducible refine kpP ?_ (by omega))
    case rest =>
      obtain ⟨M, rfl, rfl, bm, hbl⟩ := hcut
      have k1 := (k0.out.call hbl).old bm
      obtain ⟨⟨a0, a1, a2, a3⟩, a4⟩ := k1.cells P d (by simp)
      obtain ⟨⟨b0, b1, b2, b3⟩, b4⟩ := k1.cells Q f (by simp)
      obtain ⟨⟨c0, c1, c2, c3⟩, c4⟩ := k1.cells (w.heap.size + 1) m (by simp)
      have q : c ≤ 0 := hc
      go_wp2_with (first
        | (go_at_call 70; have g5 := k7; clear g5; refine (lives20_walk _).mono ?_; rintro e w8 ⟨rfl, hb8⟩; have k8 := k7.call hb8)
        | (go_at_call 71; refine (HN.out _).mono ?_; rintro e w7 ⟨rfl, hb7⟩; have k7 := k6.call hb7)
        | (go_at_call 23; refine (HC.out _).mono ?_; rintro e w6 ⟨rfl, hb6⟩; have k6 := k4.call hb6; obtain ⟨⟨aj0, aj1, aj2, aj3⟩, aj4⟩ := k6.cells w4.heap.size v2 (by simp); obtain ⟨⟨bj0, bj1, bj2, bj3⟩, bj4⟩ := k6.cells M v (by simp); obtain ⟨⟨cj0, cj1, cj2, cj3⟩, cj4⟩ := k6.cells w2.heap.size g (by simp))
        | (go_at_call 68; refine (HW2.out _).mono ?_; rintro e w4 ⟨rfl, hb4⟩; have j4 := k2.call hb4; have k4 := Bk.push (t := 24) v2 j4; obtain ⟨⟨ah0, ah1, ah2, ah3⟩, ah4⟩ := j4.cells M v (by simp); unfold U)
        | (go_at_call 73; refine (HG.out _).mono ?_; rintro e w2 ⟨rfl, hb2⟩; have j2 := k1.call hb2; have k2 := Bk.push (t := 24) g j2; obtain ⟨⟨ae0, ae1, ae2, ae3⟩, ae4⟩ := j2.cells P d (by simp); obtain ⟨⟨be0, be1, be2, be3⟩, be4⟩ := j2.cells (w.heap.size + 1) m (by simp); unfold U))
      go_ret
      exact ⟨rfl, k8.l⟩
theorem factorMoves_walk (d f m : Nat) (w : World) (hd : d < 2 ^ 256) (hf : f < 2 ^ 256) (hm : m < 2 ^ 256) :
    Calls Try.prog 9 #[WW d f, U m] w fun e w' => e = .returned (.bool true) ∧ Below w.heap.size w w' := by
  by_cases hg : fgood d f WAD
  · by_cases hs : m ≤ WAD ∧ fok (fw d f WAD) (d * m)
    · obtain ⟨hmW, hk⟩ := hs
      obtain ⟨n, hn⟩ : ∃ n, n = fw d f WAD := ⟨_, rfl⟩
      obtain ⟨g, hgg⟩ : ∃ g, g = n * SQ / (d * m) := ⟨_, rfl⟩
      have hg2 : fgood d g m := ⟨hg.1, by rw [hgg, hn]; exact hk.2.2, hmW⟩
      have h1 := fw_lt hg
      have h2 := MOST_WAD
      have hn256 : n < 2 ^ 256 := by omega
      have hup : fw d g m ≤ n := by rw [hgg]; exact grow_up n d m
      have hg256 : g < 2 ^ 256 := Nat.lt_of_le_of_lt hg2.2.1 SQ_lt
      refine moves_yes d f m n g (fw d g m) (cmpU (fw d g m) n) w ((cmpU_le _ _).2 hup) (fun w => by rw [hn]; exact worth_yes_walk d f WAD w hg) (fun w => ?_) (fun w => worth_yes_walk d g m w hg2) (fun w => rcmp_g _ _ w _ (by omega) hn256 rfl) (fun w => near_walk _ n g w (by omega) hn256 hg256 ?_)
      · refine (move_walk d f m w hd hf hm).mono fun e w' he => ?_
        unfold MovePost at he
        rw [if_pos ⟨hg, hmW⟩] at he
        refine ⟨?_, he.2⟩
        rw [he.1, if_pos hk, decide_eq_true hk, hgg, hn]
      · rcases Nat.lt_or_ge g 1000000000 with h | h
        · exact .inl h
        · have h5 : n / 1000000000 ≤ n := Nat.div_le_self _ _
          have h6 : n ≤ MOST * WAD := by omega
          exact .inr ⟨by have : MOST * WAD + MOST * WAD + 2 < 2 ^ 256 := by decide
                         omega, grow_near n d m g hk.1 hgg h⟩
    · refine moves_no d f m (fw d f WAD) 0 true false w rfl rfl (fun w => worth_yes_walk d f WAD w hg) (fun w => ?_)
      refine (move_walk d f m w hd hf hm).mono fun e w' he => ?_
      unfold MovePost at he
      by_cases hmW : m ≤ WAD
      · rw [if_pos ⟨hg, hmW⟩] at he
        have hk : ¬ fok (fw d f WAD) (d * m) := fun h => hs ⟨hmW, h⟩
        refine ⟨?_, he.2⟩
        rw [he.1, if_neg hk, decide_eq_false hk]
      · rw [if_neg fun h => hmW h.2] at he
        exact he
  · refine moves_no d f m 0 0 false false w rfl rfl (fun w => worth_no_walk d f WAD w hd hf WAD_lt hg) (fun w => ?_)
    refine (move_walk d f m w hd hf hm).mono fun e w' he => ?_
    unfold MovePost at he
    rw [if_neg fun h => hg h.1] at he
    exact he
end Go.Proofs.Ythglnedlbiembaa
