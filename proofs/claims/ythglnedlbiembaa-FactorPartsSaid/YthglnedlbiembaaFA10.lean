/- tallagelaw20.FactorParts, walked. -/
import Derived.Test.YthglnedlbiembaaFA8
namespace Go.Proofs.Ythglnedlbiembaa
open Go.RowKit Go.Sort
theorem fw_mono {d d' f m m' : Nat} (h : d ≤ d') (hm : m ≤ m') : fw d f m ≤ fw d' f m' := Nat.div_le_div_right (Nat.mul_le_mul (Nat.mul_le_mul_right f h) hm)
theorem fw_add {d x f m : Nat} (h : x ≤ d) : fw x f m + fw (d - x) f m ≤ fw d f m := by
  unfold fw
  have e : d * f * m = x * f * m + (d - x) * f * m := by rw [← Nat.add_mul, ← Nat.add_mul]; congr 2; omega
  rw [e]
  generalize x * f * m = p
  generalize (d - x) * f * m = q
  rw [Nat.le_div_iff_mul_le (by decide), Nat.add_mul]
  exact Nat.add_le_add (Nat.div_mul_le_self _ _) (Nat.div_mul_le_self _ _)
set_option maxRecDepth 100000 in
set_option maxHeartbeats 4000000 in
theorem parts20_no (d f m x : Nat) (w : World) (hd : d < 2 ^ 256) (hf : f < 2 ^ 256) (hm : m < 2 ^ 256) (hx : x < 2 ^ 256) (hno : ¬ (fgood d f m ∧ x ≤ d)) :
    Calls Try.prog 10 #[WW d f, U m, U x] w fun e w' => e = .returned (.bool true) ∧ Below w.heap.size w w' := by
  have K0 := Lib.hid (bk_grows (d := d) (f := f) (m := m) (x := x) (w := w))
  obtain ⟨g, hg⟩ : ∃ g, g = decide (fgood d f m) := ⟨_, rfl⟩
  obtain ⟨cx, hc0⟩ : ∃ c, c = cmpU x d := ⟨_, rfl⟩
  have part : g = false ∨ g = true ∧ 0 < cx := by
    by_cases h : fgood d f m
    · refine .inr ⟨by rw [hg]; exact decide_eq_true h, ?_⟩
      have : ¬ cx ≤ 0 := by rw [hc0, cmpU_le]; exact fun h2 => hno ⟨h, h2⟩
      omega
    · exact .inl (by rw [hg]; exact decide_eq_false h)
  have Hd := Lib.hid hd
  have Hf := Lib.hid hf
  have Hm := Lib.hid hm
  have Hx := Lib.hid hx
  have Hg := Lib.hid hg.symm
  have Hc0 := Lib.hid hc0.symm
  clear hd hf hm hx hg hc0 hno
  unfold U WW
  go_enter Try.func10, Try.ntmps10
  go_upto_region 1 with (fail)
  go_cut [7, 8] (fun p q wx => ∃ P Q, p = .pointer (some ⟨P, 0, none⟩) ∧ q = .pointer (some ⟨Q, 0, none⟩) ∧ Box wx P d ∧ Box wx Q f ∧ Bk w wx [(w.heap.size + 1 + 1, x), (w.heap.size + 1, m)])
  case first =>
    go_region
    all_goals
      go_wp2
      go_meet
      case rel =>
        refine ⟨_, _, rfl, rfl, ⟨?_, ?_⟩, ⟨?_, ?_⟩, ?_⟩
        · repeat (first | with_reducible assumption | with_reducible exact Arr.new4 (f := limb d) rfl | with_reducible exact Arr.new4 (f := limb d) (by simp; done) | with_reducible refine Arr.put4 (f := fun _ => 0) ?_ | with_reducible refine Arr.put4_far ?_ (by omega) | with_reducible refine Arr.alloc ?_ _ | with_reducible refine Arr.drew ?_)
        · simp only [World.size_alloc, World.size_drew]; omega
        · repeat (first | with_reducible assumption | with_reducible exact Arr.new4 (f := limb f) rfl | with_reducible exact Arr.new4 (f := limb f) (by simp; done) | with_reducible refine Arr.put4 (f := fun _ => 0) ?_ | with_reducible refine Arr.put4_far ?_ (by omega) | with_reducible refine Arr.alloc ?_ _ | with_reducible refine Arr.drew ?_)
        · simp only [World.size_alloc, World.size_drew]; omega
        · repeat (first | with_reducible exact K0.out | with_reducible refine Bk.drew ?_ | with_reducible refine Bk.alloc ?_ _)
  case rest =>
    obtain ⟨P, Q, rfl, rfl, bp, bq, k00⟩ := hcut
    have k0 := (k00.old bq).old bp
    obtain ⟨⟨a0, a1, a2, a3⟩, a4⟩ := k0.cells P d (by simp)
    obtain ⟨⟨b0, b1, b2, b3⟩, b4⟩ := k0.cells Q f (by simp)
    obtain ⟨⟨c0, c1, c2, c3⟩, c4⟩ := k0.cells (w.heap.size + 1) m (by simp)
    obtain ⟨⟨d0, d1, d2, d3⟩, d4⟩ := k0.cells (w.heap.size + 1 + 1) x (by simp)
    rcases part with rfl | ⟨rfl, q⟩
    · go_wp2_with (first
        | (go_at_call 70; have g5 := k1; clear g5; refine (lives20_walk _).mono ?_; rintro e w8 ⟨rfl, hb8⟩; have k8 := k1.call hb8)
        | (go_at_call 74; refine (fgood_walk d f m _ _ Hd.out Hf.out Hm.out Hg.out).mono ?_; rintro e w1 ⟨rfl, hb1⟩; have k1 := k0.call hb1; obtain ⟨⟨ab0, ab1, ab2, ab3⟩, ab4⟩ := k1.cells P d (by simp); obtain ⟨⟨bb0, bb1, bb2, bb3⟩, bb4⟩ := k1.cells (w.heap.size + 1 + 1) x (by simp)))
      go_ret
      exact ⟨rfl, k8.l⟩
    · go_wp2_with (first
        | (go_at_call 70; have g5 := k2; clear g5; refine (lives20_walk _).mono ?_; rintro e w8 ⟨rfl, hb8⟩; have k8 := k2.call hb8)
        | (go_at_call 23; refine (rcmp_g x d _ _ Hx.out Hd.out Hc0.out).mono ?_; rintro e w2 ⟨rfl, hb2⟩; have k2 := k1.call hb2; obtain ⟨⟨ac0, ac1, ac2, ac3⟩, ac4⟩ := k2.cells P d (by simp); obtain ⟨⟨bc0, bc1, bc2, bc3⟩, bc4⟩ := k2.cells (w.heap.size + 1 + 1) x (by simp))
        | (go_at_call 74; refine (fgood_walk d f m _ _ Hd.out Hf.out Hm.out Hg.out).mono ?_; rintro e w1 ⟨rfl, hb1⟩; have k1 := k0.call hb1; obtain ⟨⟨ab0, ab1, ab2, ab3⟩, ab4⟩ := k1.cells P d (by simp); obtain ⟨⟨bb0, bb1, bb2, bb3⟩, bb4⟩ := k1.cells (w.heap.size + 1 + 1) x (by simp)))
      go_ret
      exact ⟨rfl, k8.l⟩
set_option maxRecDepth 100000 in
set_option maxHeartbeats 4000000 in
theorem parts20_yes (d f m x r va vx vr vb vw : Nat) (cx c1 c2 c3 : Int) (w : World) (hq0 : cx ≤ 0) (q1 : c1 ≤ 0) (q2 : c2 ≤ 0) (q3 : c3 ≤ 0) (HG0 : ∀ w, Calls Try.prog 74 #[U d, U f, U m] w fun e w' => e = .returned (.bool true) ∧ Below w.heap.size w w') (HX0 : ∀ w, Calls Try.prog 23 #[U x, U d] w fun e w' => e = .returned (.int .i64 cx) ∧ Below w.heap.size w w') (HS0 : ∀ w, Calls Try.prog 18 #[U d, U x] w fun e w' => e = .returned (.tuple #[U r, .bool true]) ∧ Below w.heap.size w w') (HWA0 : ∀ w, Calls Try.prog 68 #[U d, U f, U m] w fun e w' => e = .returned (.tuple #[U va, .bool true]) ∧ Below w.heap.size w w') (HWX0 : ∀ w, Calls Try.prog 68 #[U x, U f, U m] w fun e w' => e = .returned (.tuple #[U vx, .bool true]) ∧ Below w.heap.size w w') (HWR0 : ∀ w, Calls Try.prog 68 #[U r, U f, U m] w fun e w' => e = .returned (.tuple #[U vr, .bool true]) ∧ Below w.heap.size w w') (HA0 : ∀ w, Calls Try.prog 16 #[U vx, U vr] w fun e w' => e = .returned (.tuple #[U vb, .bool true]) ∧ Below w.heap.size w w') (HWW0 : ∀ w, Calls Try.prog 68 #[U d, U f, U WAD] w fun e w' => e = .returned (.tuple #[U vw, .bool true]) ∧ Below w.heap.size w w') (HC10 : ∀ w, Calls Try.prog 23 #[U vb, U va] w fun e w' => e = .returned (.int .i64 c1) ∧ Below w.heap.size w w') (HC20 : ∀ w, Calls Try.prog 23 #[U va, U vw] w fun e w' => e = .returned (.int .i64 c2) ∧ Below w.heap.size w w') (HC30 : ∀ w, Calls Try.prog 23 #[U vx, U va] w fun e w' => e = .returned (.int .i64 c3) ∧ Below w.heap.size w w') :
    Calls Try.prog 10 #[WW d f, U m, U x] w fun e w' => e = .returned (.bool true) ∧ Below w.heap.size w w' := by
  have K0 := Lib.hid (bk_grows (d := d) (f := f) (m := m) (x := x) (w := w))
  have HG := Lib.hid HG0
  have HX := Lib.hid HX0
  have HS := Lib.hid HS0
  have HWA := Lib.hid HWA0
  have HWX := Lib.hid HWX0
  have HWR := Lib.hid HWR0
  have HA := Lib.hid HA0
  have HWW := Lib.hid HWW0
  have HC1 := Lib.hid HC10
  have HC2 := Lib.hid HC20
  have HC3 := Lib.hid HC30
  have q0 : ¬ 0 < cx := by omega
  clear hq0 HG0 HX0 HS0 HWA0 HWX0 HWR0 HA0 HWW0 HC10 HC20 HC30
  unfold U WW
  go_enter Try.func10, Try.ntmps10
  go_upto_region 1 with (fail)
  go_cut [7, 8] (fun p q wx => ∃ P Q, p = .pointer (some ⟨P, 0, none⟩) ∧ q = .pointer (some ⟨Q, 0, none⟩) ∧ Box wx P d ∧ Box wx Q f ∧ Bk w wx [(w.heap.size + 1 + 1, x), (w.heap.size + 1, m)])
  case first =>
    go_region
    all_goals
      go_wp2
      go_meet
      case rel =>
        refine ⟨_, _, rfl, rfl, ⟨?_, ?_⟩, ⟨?_, ?_⟩, ?_⟩
        · repeat (first | with_reducible assumption | with_reducible exact Arr.new4 (f := limb d) rfl | with_reducible exact Arr.new4 (f := limb d) (by simp; done) | with_reducible refine Arr.put4 (f := fun _ => 0) ?_ | with_reducible refine Arr.put4_far ?_ (by omega) | with_reducible refine Arr.alloc ?_ _ | with_reducible refine Arr.drew ?_)
        · simp only [World.size_alloc, World.size_drew]; omega
        · repeat (first | with_reducible assumption | with_reducible exact Arr.new4 (f := limb f) rfl | with_reducible exact Arr.new4 (f := limb f) (by simp; done) | with_reducible refine Arr.put4 (f := fun _ => 0) ?_ | with_reducible refine Arr.put4_far ?_ (by omega) | with_reducible refine Arr.alloc ?_ _ | with_reducible refine Arr.drew ?_)
        · simp only [World.size_alloc, World.size_drew]; omega
        · repeat (first | with_reducible exact K0.out | with_reducible refine Bk.drew ?_ | with_reducible refine Bk.alloc ?_ _)
  case rest =>
    obtain ⟨P, Q, rfl, rfl, bp, bq, k00⟩ := hcut
    have k0 := (k00.old bq).old bp
    obtain ⟨⟨a0, a1, a2, a3⟩, a4⟩ := k0.cells P d (by simp)
    obtain ⟨⟨b0, b1, b2, b3⟩, b4⟩ := k0.cells Q f (by simp)
    obtain ⟨⟨c0, c1, c2, c3⟩, c4⟩ := k0.cells (w.heap.size + 1) m (by simp)
    obtain ⟨⟨d0, d1, d2, d3⟩, d4⟩ := k0.cells (w.heap.size + 1 + 1) x (by simp)
    go_upto_region 9 with (first
      | (go_at_call 16; refine (HA.out _).mono ?_; rintro e w7 ⟨rfl, hb7⟩; have k7 := Bk.push (t := 24) vb (k6.call hb7); unfold U)
      | (go_at_call 68; have g5 := k5; clear g5; refine (HWR.out _).mono ?_; rintro e w6 ⟨rfl, hb6⟩; have k6 := Bk.push (t := 24) vr (k5.call hb6); obtain ⟨⟨ag0, ag1, ag2, ag3⟩, ag4⟩ := k6.cells w5.heap.size vx (by simp); unfold U)
      | (go_at_call 68; have g5 := k4; clear g5; refine (HWX.out _).mono ?_; rintro e w5 ⟨rfl, hb5⟩; have k5 := Bk.push (t := 24) vx (k4.call hb5); obtain ⟨⟨af0, af1, af2, af3⟩, af4⟩ := k5.cells w3.heap.size r (by simp); obtain ⟨⟨bf0, bf1, bf2, bf3⟩, bf4⟩ := k5.cells Q f (by simp); obtain ⟨⟨cf0, cf1, cf2, cf3⟩, cf4⟩ := k5.cells (w.heap.size + 1) m (by simp); unfold U)
      | (go_at_call 68; have g5 := k3; clear g5; refine (HWA.out _).mono ?_; rintro e w4 ⟨rfl, hb4⟩; have k4 := Bk.push (t := 24) va (k3.call hb4); obtain ⟨⟨ae0, ae1, ae2, ae3⟩, ae4⟩ := k4.cells (w.heap.size + 1 + 1) x (by simp); obtain ⟨⟨be0, be1, be2, be3⟩, be4⟩ := k4.cells Q f (by simp); obtain ⟨⟨ce0, ce1, ce2, ce3⟩, ce4⟩ := k4.cells (w.heap.size + 1) m (by simp); unfold U)
      | (go_at_call 18; refine (HS.out _).mono ?_; rintro e w3 ⟨rfl, hb3⟩; have k3 := Bk.push (t := 24) r (k2.call hb3); obtain ⟨⟨ad0, ad1, ad2, ad3⟩, ad4⟩ := k3.cells P d (by simp); obtain ⟨⟨bd0, bd1, bd2, bd3⟩, bd4⟩ := k3.cells Q f (by simp); obtain ⟨⟨cd0, cd1, cd2, cd3⟩, cd4⟩ := k3.cells (w.heap.size + 1) m (by simp); unfold U)
      | (go_at_call 23; refine (HX.out _).mono ?_; rintro e w2 ⟨rfl, hb2⟩; have k2 := k1.call hb2; obtain ⟨⟨ac0, ac1, ac2, ac3⟩, ac4⟩ := k2.cells P d (by simp); obtain ⟨⟨bc0, bc1, bc2, bc3⟩, bc4⟩ := k2.cells (w.heap.size + 1 + 1) x (by simp))
      | (go_at_call 74; refine (HG.out _).mono ?_; rintro e w1 ⟨rfl, hb1⟩; have k1 := k0.call hb1; obtain ⟨⟨ab0, ab1, ab2, ab3⟩, ab4⟩ := k1.cells P d (by simp); obtain ⟨⟨bb0, bb1, bb2, bb3⟩, bb4⟩ := k1.cells (w.heap.size + 1 + 1) x (by simp)))
    obtain ⟨W, hW⟩ : ∃ W, W = w7.alloc (.cells #[.int .u64 (limb vb 0 : Nat), .int .u64 (limb vb 1 : Nat), .int .u64 (limb vb 2 : Nat), .int .u64 (limb vb 3 : Nat)] 24) := ⟨_, rfl⟩
    have t0 := k7
    rw [← hW] at t0
    rw [← hW]
    clear hW k7
    have B1 := Lib.hid (t0.b (P, d) (by simp)).a
    have B2 := Lib.hid (t0.b (Q, f) (by simp)).a
    have T0 := Lib.hid t0
    clear t0
    go_cut [19, 20] (fun p k wx => ∃ M, p = .pointer (some ⟨M, 0, none⟩) ∧ k = .bool true ∧ Box wx M vw ∧ Below W.heap.size W wx)
    case first =>
      go_region_held3 (fun w' => w'.cell? ⟨P, 0, none⟩ = some (.int .u64 (limb d 0 : Nat)) ∧ w'.cell? ⟨P, 1, none⟩ = some (.int .u64 (limb d 1 : Nat)) ∧ w'.cell? ⟨P, 2, none⟩ = some (.int .u64 (limb d 2 : Nat)) ∧ w'.cell? ⟨P, 3, none⟩ = some (.int .u64 (limb d 3 : Nat)) ∧ w'.cell? ⟨Q, 0, none⟩ = some (.int .u64 (limb f 0 : Nat)) ∧ w'.cell? ⟨Q, 1, none⟩ = some (.int .u64 (limb f 1 : Nat)) ∧ w'.cell? ⟨Q, 2, none⟩ = some (.int .u64 (limb f 2 : Nat)) ∧ w'.cell? ⟨Q, 3, none⟩ = some (.int .u64 (limb f 3 : Nat)) ∧ Below W.heap.size W w')
        ((refine hldW2 B1.out B2.out ?_; repeat (first | with_reducible exact k2 | with_reducible exact k1 | with_reducible exact Below.refl _ _ | with_reducible refine kpD ?_ | with_reducible refine kpA ?_ _ | with_reducible refine kpP ?_ (by omega) | with_reducible exact un_hldW2 (by with_reducible assumption))))
        (first
          | (go_at_call 68; refine (HWW.out _).mono ?_; rintro e v2 ⟨rfl, hv2⟩; have k2 := kpB (un_hldW2 (by with_reducible assumption)) hv2; have y2 := hv2.size; (try simp at y2); (first | (with_reducible have zA2 := carry0 zA hv2) | skip); (first | (with_reducible have zB2 := z_one hv2) | skip); (first | (obtain ⟨_, _, _, _⟩ := zA2.frees4; obtain ⟨_, _, _, _⟩ := zA2.cells4; have lzA2 := zA2.lt4) | skip); (first | (obtain ⟨_, _, _, _⟩ := zB2.frees4; obtain ⟨_, _, _, _⟩ := zB2.cells4; have lzB2 := zB2.lt4) | skip); unfold U)
          | (go_at_call 75; refine (rone_walk _).mono ?_; rintro e v1 ⟨rfl, hv1⟩; have k1 := kpB (un_hldW2 (by with_reducible assumption)) hv1; have y1 := k1.size; (first | (with_reducible have zA := z_one_d hv1) | skip); unfold U))
      all_goals
        go_wp2
        go_meet
        case rel =>
          refine ⟨_, rfl, rfl, ⟨?_, ?_⟩, ?_⟩
          · repeat (first | with_reducible assumption | with_reducible exact Arr.new4 (f := limb vw) rfl | with_reducible refine Arr.put4 (f := fun _ => 0) ?_)
          · simp only [World.size_setCell, World.size_alloc]; omega
          · repeat (first | with_reducible exact k2 | with_reducible refine kpA ?_ _ | with_reducible refine kpP ?_ (by omega))
    case rest =>
      obtain ⟨M, rfl, rfl, bm, hbl⟩ := hcut
      have k8 := (T0.out.call hbl).old bm
      obtain ⟨⟨a0, a1, a2, a3⟩, a4⟩ := k8.cells w7.heap.size vb (by simp)
      obtain ⟨⟨b0, b1, b2, b3⟩, b4⟩ := k8.cells w4.heap.size va (by simp)
      go_wp2_with (first
        | (go_at_call 70; have g5 := k11; clear g5; refine (lives20_walk _).mono ?_; rintro e w12 ⟨rfl, hb12⟩; have k12 := k11.call hb12)
        | (go_at_call 23; have g5 := k10; clear g5; refine (HC3.out _).mono ?_; rintro e w11 ⟨rfl, hb11⟩; have k11 := k10.call hb11)
        | (go_at_call 23; have g5 := k9; clear g5; refine (HC2.out _).mono ?_; rintro e w10 ⟨rfl, hb10⟩; have k10 := k9.call hb10; obtain ⟨⟨ca0, ca1, ca2, ca3⟩, ca4⟩ := k10.cells w5.heap.size vx (by simp); obtain ⟨⟨cb0, cb1, cb2, cb3⟩, cb4⟩ := k10.cells w4.heap.size va (by simp))
        | (go_at_call 23; refine (HC1.out _).mono ?_; rintro e w9 ⟨rfl, hb9⟩; have k9 := k8.call hb9; obtain ⟨⟨da0, da1, da2, da3⟩, da4⟩ := k9.cells M vw (by simp); obtain ⟨⟨db0, db1, db2, db3⟩, db4⟩ := k9.cells w4.heap.size va (by simp)))
      go_ret
      exact ⟨rfl, k12.l⟩
theorem factorParts_walk (d f m x : Nat) (w : World) (hd : d < 2 ^ 256) (hf : f < 2 ^ 256) (hm : m < 2 ^ 256) (hx : x < 2 ^ 256) :
    Calls Try.prog 10 #[WW d f, U m, U x] w fun e w' => e = .returned (.bool true) ∧ Below w.heap.size w w' := by
  by_cases h : fgood d f m ∧ x ≤ d
  · obtain ⟨hg, hxd⟩ := h
    have hgx : fgood x f m := ⟨Nat.le_trans hxd hg.1, hg.2.1, hg.2.2⟩
    have hgr : fgood (d - x) f m := ⟨Nat.le_trans (Nat.sub_le d x) hg.1, hg.2.1, hg.2.2⟩
    have hgw : fgood d f WAD := ⟨hg.1, hg.2.1, Nat.le_refl _⟩
    have h1 := fw_lt hg
    have h2 := MOST_WAD
    have h3 := fw_lt hgw
    have ha := fw_add (f := f) (m := m) hxd
    have hm1 := fw_mono (f := f) (Nat.le_refl d) hg.2.2
    have hm2 := fw_mono (f := f) hxd (Nat.le_refl m)
    refine parts20_yes d f m x (d - x) (fw d f m) (fw x f m) (fw (d - x) f m) (fw x f m + fw (d - x) f m) (fw d f WAD) (cmpU x d) (cmpU (fw x f m + fw (d - x) f m) (fw d f m)) (cmpU (fw d f m) (fw d f WAD)) (cmpU (fw x f m) (fw d f m)) w ((cmpU_le _ _).2 hxd) ((cmpU_le _ _).2 ha) ((cmpU_le _ _).2 hm1) ((cmpU_le _ _).2 hm2) (fun w => fgood_walk d f m w true hd hf hm (decide_eq_true hg)) (fun w => rcmp_g x d w _ hx hd rfl) (fun w => ?_) (fun w => worth_yes_walk d f m w hg) (fun w => worth_yes_walk x f m w hgx) (fun w => worth_yes_walk (d - x) f m w hgr) (fun w => radd_g _ _ _ w (by omega) (by omega) (by omega) rfl) (fun w => worth_yes_walk d f WAD w hgw) (fun w => rcmp_g _ _ w _ (by omega) (by omega) rfl) (fun w => rcmp_g _ _ w _ (by omega) (by omega) rfl) (fun w => rcmp_g _ _ w _ (by omega) (by omega) rfl)
    refine (rsub_walk d x w hd hx).mono fun e w' ⟨he, hw⟩ => ⟨?_, hw⟩
    rw [he]
    unfold subv subk
    rw [if_pos hxd, decide_eq_true hxd]
  · exact parts20_no d f m x w hd hf hm hx h
end Go.Proofs.Ythglnedlbiembaa
