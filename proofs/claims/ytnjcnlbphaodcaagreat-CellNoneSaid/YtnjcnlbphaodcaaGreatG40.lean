/- The document's SetRow (tallageref10) of a row without a number below 0. -/
import Derived.Test.YtnjcnlbphaodcaaGreatG34
import Derived.Test.YtnjcnlbphaodcaaGreatG39
import Derived.Test.YtnjcnlbphaodcaaGreatG25
namespace Go.Proofs.YtnjcnlbphaodcaaGreat
open Go.RowKit Go.Maps Go.Sort

theorem rowV_app {f : Nat → Int} {j : Nat} (h : 0 ≤ f j) : rowV f j ++ numStr (f j) = rowV f (j + 1) := by
  apply ByteArray.ext
  apply Array.ext'
  have e : (numStr (f j)).data.toList = u8l (kb8 (f j).toNat) := by
    unfold numStr
    rw [Int.max_eq_left h, ← Lib.toList_data]
    exact strOfNums_u8l _
  rw [ByteArray.data_append, Array.toList_append, e]
  show u8l (tl f 0 j) ++ u8l (kb8 (f j).toNat) = u8l (tl f 0 (j + 1))
  rw [tl_snoc, Nat.zero_add, u8l_append]
theorem rowV_zero (f : Nat → Int) : rowV f 0 = ⟨#[]⟩ := rfl
set_option maxRecDepth 100000 in
set_option maxHeartbeats 2000000 in
theorem rsetRow_walk (w W : World) (m : Nat) (L : SL) (R : List Ch) (k : ByteArray) (A : Option Addr) (n c : Nat) (f : Nat → Int) (h : DS w W m L R) (hl : Il W A n f) (hn0 : 1 ≤ n) (hn : n ≤ 100) (hf : ∀ i, i < n → 0 ≤ f i) (hr : Rising (skeys L)) (hN : L.length < 1000000) (hR : R.length < 1000000) :
    Calls Tryz.prog 26 #[.pointer (some ⟨m, 0, none⟩), .string k, .slice A n c] W fun e W' => e = .returned (.tuple #[]) ∧ DSTo w W W' m (setE L k (rowV f n)) (setR L R k (rowV f n)) := by
  have hnI : (n : Int) ≤ 100 := by omega
  have HS := Lib.hid (fun (W1 : World) (hb : Below W.heap.size W W1) => (rset_walk w W1 m L R k (rowV f n) (h.below hb) hr hN hR).mono fun e W' hp => (⟨⟨_, hp.1⟩, DSTo.pre h hb hp.2⟩ : (∃ z, e = .returned (.int .i64 z)) ∧ DSTo w W W' m (setE L k (rowV f n)) (setR L R k (rowV f n))))
  have HF := Lib.hid hf
  have HL := Lib.hid hl
  have HN0 := Lib.hid hn0
  clear h hr hN hR hf hl hn0
  go_enter Tryz.func26, Tryz.ntmps26
  go_wp2
  go_loopw [6, 11] (fun s i wr => ∃ j : Nat, j ≤ n ∧ i = .int .i64 (j : Nat) ∧ s = .string (rowV f j) ∧ Below W.heap.size W wr) (fun _ i _ => n - (intOf i).toNat)
  case atStart => exact ⟨0, by omega, rfl, rfl, Below.refl _ _⟩
  case round =>
    obtain ⟨j, hj, rfl, rfl, hbe⟩ := hrel
    have HBe := Lib.hid hbe
    clear hbe
    have kI : (j : Int) ≤ n := by omega
    by_cases hlt : j < n
    · have p1 : (j : Int) < (n : Int) := by omega
      obtain ⟨g, o, rfl, hg, hc⟩ := HL.out.at_ (by omega)
      have hm := HL.out.most j
      have h0 := HF.out j hlt
      have hck : wr.cell? ⟨g, o + j, none⟩ = some (.int .i64 (f j)) := by rw [HBe.out.cell (p := ⟨g, o + j, none⟩) hg]; exact hc j hlt
      have z1 : ¬ 9223372036854775807 < (rowV f j).size + (numStr (f j)).size := by rw [rowV_size, numStr_size9]; omega
      have hvs := Lib.hid (rowV_app h0)
      have n1 : ¬ f j < 0 := by omega
      clear hc
      go_wp2_with (go_at_call 40; refine (rnum9_walk (f j) _ hm).mono ?_; rintro e w3 ⟨rfl, hb3⟩)
      go_roundw
      case rel => exact ⟨j + 1, by omega, by go_num, by rw [hvs.out], HBe.out.trans (hb3.mono HBe.out.size)⟩
      case measure => simp [intOf]; omega
    · obtain rfl : j = n := by omega
      have q3 : ¬ (j : Int) < j := by omega
      obtain ⟨v, hv⟩ : ∃ v, v = rowV f j := ⟨_, rfl⟩
      have hne : v ≠ ⟨#[]⟩ := by rw [hv]; exact rowV_ne HN0.out
      have hne2 := ba_nil hne
      have HV := Lib.hid hv
      rw [← hv] at HS ⊢
      clear hv hne HL
      go_wp2_with (go_at_call 39; refine (HS.out _ HBe.out).mono ?_; rintro e w2 ⟨⟨z, rfl⟩, h2⟩; have H2 := Lib.hid h2; clear h2)
      go_end0
      have h2 := H2.out
      rw [HV.out] at h2
      exact ⟨rfl, h2⟩
end Go.Proofs.YtnjcnlbphaodcaaGreat

namespace Go.Proofs.YtnjcnlbphaodcaaGreat
open Go.RowKit Go.Maps Go.Sort

theorem nAct10 : 27 ≠ 43 ∧ 27 ≠ 100 := ⟨by decide, by decide⟩
/-- what a call of the document's leaves, whatever it did to its store -/
structure RW (w W W' : World) : Prop where
  l : Below w.heap.size w W'
  k : KeepT 27 W W'
theorem RW.of {w W W' : World} {m : Nat} {L : SL} {R : List Ch} (h : DSTo w W W' m L R) : RW w W W' := ⟨h.s.l, h.keepT nAct10⟩
theorem RW.pre {w W W1 W2 : World} (h : RW w W1 W2) (hb : Below W.heap.size W W1) : RW w W W2 := ⟨h.l, (KeepT.of_below hb).trans h.k⟩
theorem RW.below {w W W1 : World} {m : Nat} {L : SL} {R : List Ch} (h : DS w W m L R) (hb : Below W.heap.size W W1) : RW w W W1 := ⟨(h.below hb).l, KeepT.of_below hb⟩
set_option maxRecDepth 100000 in
set_option maxHeartbeats 4000000 in
theorem rsetAmount_w (w W : World) (m : Nat) (L : SL) (R : List Ch) (k : ByteArray) (a : Nat) (h : DS w W m L R) (hr : Rising (skeys L)) (hN : L.length < 1000000) (hR : R.length < 1000000) (ha : a < 2 ^ 256) :
    Calls Tryz.prog 20 #[.pointer (some ⟨m, 0, none⟩), .string k, U a] W fun e W' => e = .returned (.tuple #[]) ∧ RW w W W' := by
  have hb0 := (Below.refl W.heap.size W).alloc (Nat.le_refl _) (.cells #[.int .u64 (limb a 0 : Nat), .int .u64 (limb a 1 : Nat), .int .u64 (limb a 2 : Nat), .int .u64 (limb a 3 : Nat)] 24)
  have hq0 := fun w => eq0_run ha w
  by_cases h0 : a = 0
  · have HD := Lib.hid ((rdel_walk w _ m L R k (h.below hb0) hr hN hR).mono fun e W' hp => (⟨⟨_, hp.1⟩, (RW.of hp.2).pre hb0⟩ : (∃ z, e = .returned (.bool z)) ∧ RW w W W'))
    rw [decide_eq_true h0] at hq0
    clear h ha hN hr hR hb0 h0
    unfold U
    go_enter Tryz.func20, Tryz.ntmps20
    go_wp2_with (go_at_call 38; refine HD.out.mono ?_; rintro e w2 ⟨⟨z, rfl⟩, h1⟩; have H1 := Lib.hid h1; clear h1)
    refine bodyPost_ret (v := .tuple #[]) (by simp [results, Tryz.results20, go_sem]) rfl ⟨rfl, H1.out⟩
  · have HS := Lib.hid (fun (W1 : World) (hb : Below W.heap.size W W1) => (rset_walk w W1 m L R k (amtStr a) (h.below hb) hr hN hR).mono fun e W' hp => (⟨⟨_, hp.1⟩, (RW.of hp.2).pre hb⟩ : (∃ z, e = .returned (.int .i64 z)) ∧ RW w W W'))
    rw [decide_eq_false h0] at hq0
    have hAm := fun W1 => ramt9_walk a W1
    unfold U at hAm
    have HA := Lib.hid hAm
    have HB0 := Lib.hid hb0
    clear hAm h ha hN hr hR hb0 h0
    unfold U
    go_enter Tryz.func20, Tryz.ntmps20
    go_wp2_with (first
      | (go_at_call 39; refine (HS.out _ HB1.out).mono ?_; rintro e w2 ⟨⟨z, rfl⟩, h1⟩; have H1 := Lib.hid h1; clear h1)
      | (go_at_call 43; refine (HA.out _).mono ?_; rintro e w1 ⟨rfl, hb1⟩; have HB1 := Lib.hid (HB0.out.trans (hb1.mono HB0.out.size)); clear hb1))
    go_end0
    exact ⟨rfl, H1.out⟩
set_option maxRecDepth 100000 in
set_option maxHeartbeats 4000000 in
theorem rsetAmount_del (w W : World) (m : Nat) (L : SL) (R : List Ch) (k : ByteArray) (a : Nat) (h : DS w W m L R) (hr : Rising (skeys L)) (hN : L.length < 1000000) (hR : R.length < 1000000) (ha : a < 2 ^ 256) (h0 : a = 0) :
    Calls Tryz.prog 20 #[.pointer (some ⟨m, 0, none⟩), .string k, U a] W fun e W' => e = .returned (.tuple #[]) ∧ DSTo w W W' m (setA L k a) (setAR L R k a) := by
  have hb0 := (Below.refl W.heap.size W).alloc (Nat.le_refl _) (.cells #[.int .u64 (limb a 0 : Nat), .int .u64 (limb a 1 : Nat), .int .u64 (limb a 2 : Nat), .int .u64 (limb a 3 : Nat)] 24)
  have hq0 := fun w => eq0_run ha w
  have HD := Lib.hid ((rdel_walk w _ m L R k (h.below hb0) hr hN hR).mono fun e W' hp => (⟨⟨_, hp.1⟩, by unfold setA setAR; rw [if_pos h0, if_pos h0]; exact DSTo.pre h hb0 hp.2⟩ : (∃ z, e = .returned (.bool z)) ∧ DSTo w W W' m (setA L k a) (setAR L R k a)))
  rw [decide_eq_true h0] at hq0
  clear h ha hN hr hR hb0 h0
  unfold U
  go_enter Tryz.func20, Tryz.ntmps20
  go_wp2_with (go_at_call 38; refine HD.out.mono ?_; rintro e w2 ⟨⟨z, rfl⟩, h1⟩; have H1 := Lib.hid h1; clear h1)
  refine bodyPost_ret (v := .tuple #[]) (by simp [results, Tryz.results20, go_sem]) rfl ⟨rfl, H1.out⟩
set_option maxRecDepth 100000 in
set_option maxHeartbeats 4000000 in
theorem raddA_okW (w W : World) (m : Nat) (L : SL) (R : List Ch) (k : ByteArray) (was a : Nat) (h : DS w W m L R) (hr : Rising (skeys L)) (hN : L.length < 900000) (hR : R.length < 900000) (he : amtAt L k was) (hw : was < 2 ^ 256) (ha : a < 2 ^ 256) (hle : was + a ≤ MOST) :
    Calls Tryz.prog 21 #[.pointer (some ⟨m, 0, none⟩), .string k, U a] W fun e W' => e = .returned (.int .i64 0) ∧ RW w W W' := by
  have hb0 := (Below.refl W.heap.size W).alloc (Nat.le_refl _) (.cells #[.int .u64 (limb a 0 : Nat), .int .u64 (limb a 1 : Nat), .int .u64 (limb a 2 : Nat), .int .u64 (limb a 3 : Nat)] 24)
  have r0 := heap_alloc_new W (.cells #[.int .u64 (limb a 0 : Nat), .int .u64 (limb a 1 : Nat), .int .u64 (limb a 2 : Nat), .int .u64 (limb a 3 : Nat)] 24)
  have HB0 := Lib.hid hb0
  have hA := fun (W1 : World) (hb : Below W.heap.size W W1) => ramount_at w W1 m L R k was (h.below hb) hr (by omega) he hw
  have hAd := fun W1 => radd_walk was a W1 hw ha
  unfold addv addk at hAd
  have hlt : was + a < 2 ^ 256 := Nat.lt_of_le_of_lt hle MOST_lt
  rw [if_pos hlt, decide_eq_true hlt] at hAd
  obtain ⟨s, hs⟩ : ∃ s, s = was + a := ⟨_, rfl⟩
  rw [← hs] at hAd hle hlt
  have HAm := Lib.hid (fun W => amount_cc s W true hlt (decide_eq_true hle))
  unfold U at hA hAd
  have HA := Lib.hid hA
  have HAd := Lib.hid hAd
  have hS := fun (W1 : World) (hb : Below W.heap.size W W1) => (rsetAmount_w w W1 m L R k s (h.below hb) hr (by omega) (by omega) hlt).mono fun e W' hp => (⟨hp.1, hp.2.pre hb⟩ : e = .returned (.tuple #[]) ∧ RW w W W')
  unfold U at hS
  have HS := Lib.hid hS
  have HR0 := Lib.hid r0
  clear h hr hN hR he hw ha hb0 r0 hA hAd hle hlt hs hS
  unfold U
  go_enter Tryz.func21, Tryz.ntmps21
  go_upto_region 1 with fail
  obtain ⟨XB, hXB⟩ : ∃ XB, XB = W.heap.size := ⟨_, rfl⟩
  rw [← hXB] at HR0 ⊢
  have HBx := Lib.hid HR0.out
  have LB := Lib.hid (hp_lt HR0.out)
  clear hXB HR0
  generalize W.alloc (.cells #[.int .u64 (limb a 0 : Nat), .int .u64 (limb a 1 : Nat), .int .u64 (limb a 2 : Nat), .int .u64 (limb a 3 : Nat)] 24) = Wa at HB0 HBx LB ⊢
  go_cut [7, 8] (fun p q wx => ∃ B, p = .pointer (some ⟨B, 0, none⟩) ∧ q = .bool true ∧ wx.heap[B]? = some (.cells #[.int .u64 (limb s 0 : Nat), .int .u64 (limb s 1 : Nat), .int .u64 (limb s 2 : Nat), .int .u64 (limb s 3 : Nat)] 24 (0, 0)) ∧ Below Wa.heap.size Wa wx)
  case first =>
    refine wp_region_held_drew (S := fun w' => Below Wa.heap.size Wa w') (by kernel_rfl) ?_ (fun hHeld => ?_)
    · exact (Below.refl _ _).drew
    have HY0 := Lib.hid (show Below Wa.heap.size Wa Wa.drew from (Below.refl _ _).drew)
    generalize Wa.drew = Y0 at HY0 hHeld ⊢
    refine wpAnyH_take (i := 0) (v := ?_) rfl (by kernel_rfl) (by kernel_rfl) (by kernel_rfl) (fun _ _ _ h => h) (Or.inl ⟨by kernel_rfl, ?_⟩) (by with_reducible assumption) ?_
    rotate_left
    · intro wz hSw
      (try dsimp only at hSw)
      go_simp
      (try with_reducible rfl)
    show wpAnyH _ _ _ _ _ _ _ (Act.put _ (some 10) _) _
    (try simp only [Act.put, List.setIfInBounds_toArray, List.set_cons_zero, List.set_cons_succ])
    refine wpAnyH_take (i := 1) (v := ?_) rfl (by kernel_rfl) (by kernel_rfl) (by kernel_rfl) (fun _ _ _ h => h) (Or.inl ⟨by kernel_rfl, ?_⟩) (by with_reducible assumption) ?_
    rotate_left
    · intro wz hSw
      (try dsimp only at hSw)
      go_simp
      (try with_reducible rfl)
    show wpAnyH _ _ _ _ _ _ _ (Act.put _ (some 11) _) _
    (try simp only [Act.put, List.setIfInBounds_toArray, List.set_cons_zero, List.set_cons_succ])
    refine wpAnyH_take (i := 3) (v := .agg #[.int .u64 (limb a 0 : Nat), .int .u64 (limb a 1 : Nat), .int .u64 (limb a 2 : Nat), .int .u64 (limb a 3 : Nat)]) rfl (by kernel_rfl) (by kernel_rfl) (by kernel_rfl) (fun _ _ _ h => h) (Or.inl ⟨by kernel_rfl, ?_⟩) (by with_reducible assumption) ?_
    · intro wz hSw
      (try dsimp only at hSw)
      have z0 := (hSw.cell (p := ⟨XB, 0, none⟩) LB.out).trans ((hp_cell (i := 0) HBx.out).trans rfl)
      have z1 := (hSw.cell (p := ⟨XB, 1, none⟩) LB.out).trans ((hp_cell (i := 1) HBx.out).trans rfl)
      have z2 := (hSw.cell (p := ⟨XB, 2, none⟩) LB.out).trans ((hp_cell (i := 2) HBx.out).trans rfl)
      have z3 := (hSw.cell (p := ⟨XB, 3, none⟩) LB.out).trans ((hp_cell (i := 3) HBx.out).trans rfl)
      go_simp
      (try with_reducible rfl)
    show wpAnyH _ _ _ _ _ _ _ (Act.put _ (some 13) _) _
    (try simp only [Act.put, List.setIfInBounds_toArray, List.set_cons_zero, List.set_cons_succ])
    refine wpAnyH_ready (rs := [2, 8]) (by kernel_rfl) (by simp) ?_
    refine AllReadyH.cons rfl (fun K hK => ?_) (AllReadyH.cons rfl (fun K hK => ?_) AllReadyH.nil)
    · clear hHeld
      go_simp
      go_at_call 45
      refine (HA.out _ (HB0.out.trans (HY0.out.mono HB0.out.size))).mono ?_
      rintro e Y2 ⟨rfl, hb⟩
      have HB2 := Lib.hid (HY0.out.trans (hb.mono HY0.out.size))
      clear hb
      go_wp2_with fail
      refine hK.out _ _ ?_ (fun hHeld => ?_)
      · exact HB2.out
      clear hK K
      (try simp only [Act.put, List.setIfInBounds_toArray, List.set_cons_zero, List.set_cons_succ])
      refine wpAnyH_ready (rs := [4, 8]) (by kernel_rfl) (by simp) ?_
      refine AllReadyH.cons rfl (fun K hK => ?_) (AllReadyH.cons rfl (fun K hK => ?_) AllReadyH.nil)
      · clear hHeld
        go_simp
        go_at_call 44
        refine (HAd.out _).mono ?_
        rintro e Y4 ⟨rfl, hb⟩
        have HB4 := Lib.hid (HB2.out.trans (hb.mono HB2.out.size))
        clear hb
        go_wp2_with fail
        refine hK.out _ _ ?_ (fun hHeld => ?_)
        · exact HB4.out
        clear hK K
        (try simp only [Act.put, List.setIfInBounds_toArray, List.set_cons_zero, List.set_cons_succ])
        refine wpAnyH_take (i := 5) (v := ?_) rfl (by kernel_rfl) (by kernel_rfl) (by kernel_rfl) (fun _ _ _ h => h) (Or.inl ⟨by kernel_rfl, ?_⟩) (by with_reducible assumption) ?_
        rotate_left
        · intro wz hSw
          (try dsimp only at hSw)
          go_simp
          (try with_reducible rfl)
        show wpAnyH _ _ _ _ _ _ _ (Act.put _ (some 9) _) _
        (try simp only [Act.put, List.setIfInBounds_toArray, List.set_cons_zero, List.set_cons_succ])
        refine wpAnyH_take (i := 6) (v := ?_) rfl (by kernel_rfl) (by kernel_rfl) (by kernel_rfl) (fun _ _ _ h => h) (Or.inl ⟨by kernel_rfl, ?_⟩) (by with_reducible assumption) ?_
        rotate_left
        · intro wz hSw
          (try dsimp only at hSw)
          go_simp
          (try with_reducible rfl)
        show wpAnyH _ _ _ _ _ _ _ (Act.put _ (some 15) _) _
        (try simp only [Act.put, List.setIfInBounds_toArray, List.set_cons_zero, List.set_cons_succ])
        refine wpAnyH_take (i := 7) (v := ?_) rfl (by kernel_rfl) (by kernel_rfl) (by kernel_rfl) (fun _ _ _ h => h) (Or.inl ⟨by kernel_rfl, ?_⟩) (by with_reducible assumption) ?_
        rotate_left
        · intro wz hSw
          (try dsimp only at hSw)
          go_simp
          (try with_reducible rfl)
        show wpAnyH _ _ _ _ _ _ _ (Act.put _ (some 16) _) _
        (try simp only [Act.put, List.setIfInBounds_toArray, List.set_cons_zero, List.set_cons_succ])
        refine wpAnyH_ready (rs := [8]) (by kernel_rfl) (by simp) ?_
        refine AllReadyH.cons rfl (fun K hK => ?_) AllReadyH.nil
        clear hHeld
        go_simp
        have HB8 := Lib.hid (HB4.out.alloc HB4.out.size (.cells #[.int .u64 0, .int .u64 0, .int .u64 0, .int .u64 0] 24))
        have F_n := Lib.hid (heap_alloc_new Y4 (.cells #[.int .u64 0, .int .u64 0, .int .u64 0, .int .u64 0] 24))
        obtain ⟨X, eX⟩ : ∃ y, y = Y4.heap.size := ⟨_, rfl⟩
        go_wp2_with fail
        refine hK.out _ _ ?_ (fun hHeld => ?_)
        · exact HB8.out
        clear hK K
        (try simp only [Act.put, List.setIfInBounds_toArray, List.set_cons_zero, List.set_cons_succ])
        rw [← eX] at F_n ⊢
        have LX := Lib.hid (show Wa.heap.size ≤ X from by rw [eX]; exact HB4.out.size)
        clear eX
        generalize Y4.alloc (.cells #[.int .u64 0, .int .u64 0, .int .u64 0, .int .u64 0] 24) = Y8 at HB8 F_n hHeld ⊢
        refine wpAnyH_ready (rs := [9]) (by kernel_rfl) (by simp) ?_
        refine AllReadyH.cons rfl (fun K hK => ?_) AllReadyH.nil
        clear hHeld
        have c0 := (hp_cell (i := 0) F_n.out).trans rfl
        have g0 := hp_free (i := 0) F_n.out
        have c1 := (hp_cell (i := 1) F_n.out).trans rfl
        have g1 := hp_free (i := 1) F_n.out
        have c2 := (hp_cell (i := 2) F_n.out).trans rfl
        have g2 := hp_free (i := 2) F_n.out
        have c3 := (hp_cell (i := 3) F_n.out).trans rfl
        have g3 := hp_free (i := 3) F_n.out
        go_simp
        clear c0 c1 c2 c3 g0 g1 g2 g3
        have HB9 := Lib.hid (show Below Wa.heap.size Wa ((((Y8.setCell ⟨X, 0, none⟩ (.int .u64 (limb s 0 : Nat))).setCell ⟨X, 1, none⟩ (.int .u64 (limb s 1 : Nat))).setCell ⟨X, 2, none⟩ (.int .u64 (limb s 2 : Nat))).setCell ⟨X, 3, none⟩ (.int .u64 (limb s 3 : Nat))) from ((((HB8.out.setCell LX.out _).setCell LX.out _).setCell LX.out _).setCell LX.out _))
        have SX := Lib.hid (set4b (.int .u64 (limb s 0 : Nat)) (.int .u64 (limb s 1 : Nat)) (.int .u64 (limb s 2 : Nat)) (.int .u64 (limb s 3 : Nat)) F_n.out (rfl : ((((Y8.setCell ⟨X, 0, none⟩ (.int .u64 (limb s 0 : Nat))).setCell ⟨X, 1, none⟩ (.int .u64 (limb s 1 : Nat))).setCell ⟨X, 2, none⟩ (.int .u64 (limb s 2 : Nat))).setCell ⟨X, 3, none⟩ (.int .u64 (limb s 3 : Nat))) = _))
        go_wp2_with fail
        refine hK.out _ _ ?_ (fun hHeld => ?_)
        · exact HB9.out
        clear hK K
        (try simp only [Act.put, List.setIfInBounds_toArray, List.set_cons_zero, List.set_cons_succ])
        generalize (((Y8.setCell ⟨X, 0, none⟩ (.int .u64 (limb s 0 : Nat))).setCell ⟨X, 1, none⟩ (.int .u64 (limb s 1 : Nat))).setCell ⟨X, 2, none⟩ (.int .u64 (limb s 2 : Nat))).setCell ⟨X, 3, none⟩ (.int .u64 (limb s 3 : Nat)) = Y9 at HB9 SX hHeld ⊢
        refine wpAnyH_take (i := 10) (v := ?_) rfl (by kernel_rfl) (by kernel_rfl) (by kernel_rfl) (fun _ _ _ h => h) (Or.inl ⟨by kernel_rfl, ?_⟩) (by with_reducible assumption) ?_
        rotate_left
        · intro wz hSw
          (try dsimp only at hSw)
          go_simp
          (try with_reducible rfl)
        show wpAnyH _ _ _ _ _ _ _ (Act.put _ (some 8) _) _
        (try simp only [Act.put, List.setIfInBounds_toArray, List.set_cons_zero, List.set_cons_succ])
        refine wpAnyH_done (by kernel_rfl) ?_ _
        go_wp2_with fail
        go_meet
        case rel => exact ⟨X, rfl, rfl, SX.out, HB9.out⟩
      · clear hHeld
        go_simp
        have HB8 := Lib.hid (HB2.out.alloc HB2.out.size (.cells #[.int .u64 0, .int .u64 0, .int .u64 0, .int .u64 0] 24))
        have F_n := Lib.hid (heap_alloc_new Y2 (.cells #[.int .u64 0, .int .u64 0, .int .u64 0, .int .u64 0] 24))
        obtain ⟨X, eX⟩ : ∃ y, y = Y2.heap.size := ⟨_, rfl⟩
        go_wp2_with fail
        refine hK.out _ _ ?_ (fun hHeld => ?_)
        · exact HB8.out
        clear hK K
        (try simp only [Act.put, List.setIfInBounds_toArray, List.set_cons_zero, List.set_cons_succ])
        rw [← eX] at F_n ⊢
        have LX := Lib.hid (show Wa.heap.size ≤ X from by rw [eX]; exact HB2.out.size)
        clear eX
        generalize Y2.alloc (.cells #[.int .u64 0, .int .u64 0, .int .u64 0, .int .u64 0] 24) = Y8 at HB8 F_n hHeld ⊢
        refine wpAnyH_ready (rs := [4]) (by kernel_rfl) (by simp) ?_
        refine AllReadyH.cons rfl (fun K hK => ?_) AllReadyH.nil
        clear hHeld
        go_simp
        go_at_call 44
        refine (HAd.out _).mono ?_
        rintro e Y4 ⟨rfl, hb⟩
        have HB4 := Lib.hid (HB8.out.trans (hb.mono HB8.out.size))
        have F_4 := Lib.hid ((hb.block _ (hp_lt F_n.out)).trans F_n.out)
        clear hb
        go_wp2_with fail
        refine hK.out _ _ ?_ (fun hHeld => ?_)
        · exact HB4.out
        clear hK K
        (try simp only [Act.put, List.setIfInBounds_toArray, List.set_cons_zero, List.set_cons_succ])
        refine wpAnyH_take (i := 5) (v := ?_) rfl (by kernel_rfl) (by kernel_rfl) (by kernel_rfl) (fun _ _ _ h => h) (Or.inl ⟨by kernel_rfl, ?_⟩) (by with_reducible assumption) ?_
        rotate_left
        · intro wz hSw
          (try dsimp only at hSw)
          go_simp
          (try with_reducible rfl)
        show wpAnyH _ _ _ _ _ _ _ (Act.put _ (some 9) _) _
        (try simp only [Act.put, List.setIfInBounds_toArray, List.set_cons_zero, List.set_cons_succ])
        refine wpAnyH_take (i := 6) (v := ?_) rfl (by kernel_rfl) (by kernel_rfl) (by kernel_rfl) (fun _ _ _ h => h) (Or.inl ⟨by kernel_rfl, ?_⟩) (by with_reducible assumption) ?_
        rotate_left
        · intro wz hSw
          (try dsimp only at hSw)
          go_simp
          (try with_reducible rfl)
        show wpAnyH _ _ _ _ _ _ _ (Act.put _ (some 15) _) _
        (try simp only [Act.put, List.setIfInBounds_toArray, List.set_cons_zero, List.set_cons_succ])
        refine wpAnyH_take (i := 7) (v := ?_) rfl (by kernel_rfl) (by kernel_rfl) (by kernel_rfl) (fun _ _ _ h => h) (Or.inl ⟨by kernel_rfl, ?_⟩) (by with_reducible assumption) ?_
        rotate_left
        · intro wz hSw
          (try dsimp only at hSw)
          go_simp
          (try with_reducible rfl)
        show wpAnyH _ _ _ _ _ _ _ (Act.put _ (some 16) _) _
        (try simp only [Act.put, List.setIfInBounds_toArray, List.set_cons_zero, List.set_cons_succ])
        refine wpAnyH_ready (rs := [9]) (by kernel_rfl) (by simp) ?_
        refine AllReadyH.cons rfl (fun K hK => ?_) AllReadyH.nil
        clear hHeld
        have c0 := (hp_cell (i := 0) F_4.out).trans rfl
        have g0 := hp_free (i := 0) F_4.out
        have c1 := (hp_cell (i := 1) F_4.out).trans rfl
        have g1 := hp_free (i := 1) F_4.out
        have c2 := (hp_cell (i := 2) F_4.out).trans rfl
        have g2 := hp_free (i := 2) F_4.out
        have c3 := (hp_cell (i := 3) F_4.out).trans rfl
        have g3 := hp_free (i := 3) F_4.out
        go_simp
        clear c0 c1 c2 c3 g0 g1 g2 g3
        have HB9 := Lib.hid (show Below Wa.heap.size Wa ((((Y4.setCell ⟨X, 0, none⟩ (.int .u64 (limb s 0 : Nat))).setCell ⟨X, 1, none⟩ (.int .u64 (limb s 1 : Nat))).setCell ⟨X, 2, none⟩ (.int .u64 (limb s 2 : Nat))).setCell ⟨X, 3, none⟩ (.int .u64 (limb s 3 : Nat))) from ((((HB4.out.setCell LX.out _).setCell LX.out _).setCell LX.out _).setCell LX.out _))
        have SX := Lib.hid (set4b (.int .u64 (limb s 0 : Nat)) (.int .u64 (limb s 1 : Nat)) (.int .u64 (limb s 2 : Nat)) (.int .u64 (limb s 3 : Nat)) F_4.out (rfl : ((((Y4.setCell ⟨X, 0, none⟩ (.int .u64 (limb s 0 : Nat))).setCell ⟨X, 1, none⟩ (.int .u64 (limb s 1 : Nat))).setCell ⟨X, 2, none⟩ (.int .u64 (limb s 2 : Nat))).setCell ⟨X, 3, none⟩ (.int .u64 (limb s 3 : Nat))) = _))
        go_wp2_with fail
        refine hK.out _ _ ?_ (fun hHeld => ?_)
        · exact HB9.out
        clear hK K
        (try simp only [Act.put, List.setIfInBounds_toArray, List.set_cons_zero, List.set_cons_succ])
        generalize (((Y4.setCell ⟨X, 0, none⟩ (.int .u64 (limb s 0 : Nat))).setCell ⟨X, 1, none⟩ (.int .u64 (limb s 1 : Nat))).setCell ⟨X, 2, none⟩ (.int .u64 (limb s 2 : Nat))).setCell ⟨X, 3, none⟩ (.int .u64 (limb s 3 : Nat)) = Y9 at HB9 SX hHeld ⊢
        refine wpAnyH_take (i := 10) (v := ?_) rfl (by kernel_rfl) (by kernel_rfl) (by kernel_rfl) (fun _ _ _ h => h) (Or.inl ⟨by kernel_rfl, ?_⟩) (by with_reducible assumption) ?_
        rotate_left
        · intro wz hSw
          (try dsimp only at hSw)
          go_simp
          (try with_reducible rfl)
        show wpAnyH _ _ _ _ _ _ _ (Act.put _ (some 8) _) _
        (try simp only [Act.put, List.setIfInBounds_toArray, List.set_cons_zero, List.set_cons_succ])
        refine wpAnyH_done (by kernel_rfl) ?_ _
        go_wp2_with fail
        go_meet
        case rel => exact ⟨X, rfl, rfl, SX.out, HB9.out⟩
    · clear hHeld
      go_simp
      have HB8 := Lib.hid (HY0.out.alloc HY0.out.size (.cells #[.int .u64 0, .int .u64 0, .int .u64 0, .int .u64 0] 24))
      have F_n := Lib.hid (heap_alloc_new Y0 (.cells #[.int .u64 0, .int .u64 0, .int .u64 0, .int .u64 0] 24))
      obtain ⟨X, eX⟩ : ∃ y, y = Y0.heap.size := ⟨_, rfl⟩
      go_wp2_with fail
      refine hK.out _ _ ?_ (fun hHeld => ?_)
      · exact HB8.out
      clear hK K
      (try simp only [Act.put, List.setIfInBounds_toArray, List.set_cons_zero, List.set_cons_succ])
      rw [← eX] at F_n ⊢
      have LX := Lib.hid (show Wa.heap.size ≤ X from by rw [eX]; exact HY0.out.size)
      clear eX
      generalize Y0.alloc (.cells #[.int .u64 0, .int .u64 0, .int .u64 0, .int .u64 0] 24) = Y8 at HB8 F_n hHeld ⊢
      refine wpAnyH_ready (rs := [2]) (by kernel_rfl) (by simp) ?_
      refine AllReadyH.cons rfl (fun K hK => ?_) AllReadyH.nil
      clear hHeld
      go_simp
      go_at_call 45
      refine (HA.out _ (HB0.out.trans (HB8.out.mono HB0.out.size))).mono ?_
      rintro e Y2 ⟨rfl, hb⟩
      have HB2 := Lib.hid (HB8.out.trans (hb.mono HB8.out.size))
      have F_2 := Lib.hid ((hb.block _ (hp_lt F_n.out)).trans F_n.out)
      clear hb
      go_wp2_with fail
      refine hK.out _ _ ?_ (fun hHeld => ?_)
      · exact HB2.out
      clear hK K
      (try simp only [Act.put, List.setIfInBounds_toArray, List.set_cons_zero, List.set_cons_succ])
      refine wpAnyH_ready (rs := [4]) (by kernel_rfl) (by simp) ?_
      refine AllReadyH.cons rfl (fun K hK => ?_) AllReadyH.nil
      clear hHeld
      go_simp
      go_at_call 44
      refine (HAd.out _).mono ?_
      rintro e Y4 ⟨rfl, hb⟩
      have HB4 := Lib.hid (HB2.out.trans (hb.mono HB2.out.size))
      have F_4 := Lib.hid ((hb.block _ (hp_lt F_2.out)).trans F_2.out)
      clear hb
      go_wp2_with fail
      refine hK.out _ _ ?_ (fun hHeld => ?_)
      · exact HB4.out
      clear hK K
      (try simp only [Act.put, List.setIfInBounds_toArray, List.set_cons_zero, List.set_cons_succ])
      refine wpAnyH_take (i := 5) (v := ?_) rfl (by kernel_rfl) (by kernel_rfl) (by kernel_rfl) (fun _ _ _ h => h) (Or.inl ⟨by kernel_rfl, ?_⟩) (by with_reducible assumption) ?_
      rotate_left
      · intro wz hSw
        (try dsimp only at hSw)
        go_simp
        (try with_reducible rfl)
      show wpAnyH _ _ _ _ _ _ _ (Act.put _ (some 9) _) _
      (try simp only [Act.put, List.setIfInBounds_toArray, List.set_cons_zero, List.set_cons_succ])
      refine wpAnyH_take (i := 6) (v := ?_) rfl (by kernel_rfl) (by kernel_rfl) (by kernel_rfl) (fun _ _ _ h => h) (Or.inl ⟨by kernel_rfl, ?_⟩) (by with_reducible assumption) ?_
      rotate_left
      · intro wz hSw
        (try dsimp only at hSw)
        go_simp
        (try with_reducible rfl)
      show wpAnyH _ _ _ _ _ _ _ (Act.put _ (some 15) _) _
      (try simp only [Act.put, List.setIfInBounds_toArray, List.set_cons_zero, List.set_cons_succ])
      refine wpAnyH_take (i := 7) (v := ?_) rfl (by kernel_rfl) (by kernel_rfl) (by kernel_rfl) (fun _ _ _ h => h) (Or.inl ⟨by kernel_rfl, ?_⟩) (by with_reducible assumption) ?_
      rotate_left
      · intro wz hSw
        (try dsimp only at hSw)
        go_simp
        (try with_reducible rfl)
      show wpAnyH _ _ _ _ _ _ _ (Act.put _ (some 16) _) _
      (try simp only [Act.put, List.setIfInBounds_toArray, List.set_cons_zero, List.set_cons_succ])
      refine wpAnyH_ready (rs := [9]) (by kernel_rfl) (by simp) ?_
      refine AllReadyH.cons rfl (fun K hK => ?_) AllReadyH.nil
      clear hHeld
      have c0 := (hp_cell (i := 0) F_4.out).trans rfl
      have g0 := hp_free (i := 0) F_4.out
      have c1 := (hp_cell (i := 1) F_4.out).trans rfl
      have g1 := hp_free (i := 1) F_4.out
      have c2 := (hp_cell (i := 2) F_4.out).trans rfl
      have g2 := hp_free (i := 2) F_4.out
      have c3 := (hp_cell (i := 3) F_4.out).trans rfl
      have g3 := hp_free (i := 3) F_4.out
      go_simp
      clear c0 c1 c2 c3 g0 g1 g2 g3
      have HB9 := Lib.hid (show Below Wa.heap.size Wa ((((Y4.setCell ⟨X, 0, none⟩ (.int .u64 (limb s 0 : Nat))).setCell ⟨X, 1, none⟩ (.int .u64 (limb s 1 : Nat))).setCell ⟨X, 2, none⟩ (.int .u64 (limb s 2 : Nat))).setCell ⟨X, 3, none⟩ (.int .u64 (limb s 3 : Nat))) from ((((HB4.out.setCell LX.out _).setCell LX.out _).setCell LX.out _).setCell LX.out _))
      have SX := Lib.hid (set4b (.int .u64 (limb s 0 : Nat)) (.int .u64 (limb s 1 : Nat)) (.int .u64 (limb s 2 : Nat)) (.int .u64 (limb s 3 : Nat)) F_4.out (rfl : ((((Y4.setCell ⟨X, 0, none⟩ (.int .u64 (limb s 0 : Nat))).setCell ⟨X, 1, none⟩ (.int .u64 (limb s 1 : Nat))).setCell ⟨X, 2, none⟩ (.int .u64 (limb s 2 : Nat))).setCell ⟨X, 3, none⟩ (.int .u64 (limb s 3 : Nat))) = _))
      go_wp2_with fail
      refine hK.out _ _ ?_ (fun hHeld => ?_)
      · exact HB9.out
      clear hK K
      (try simp only [Act.put, List.setIfInBounds_toArray, List.set_cons_zero, List.set_cons_succ])
      generalize (((Y4.setCell ⟨X, 0, none⟩ (.int .u64 (limb s 0 : Nat))).setCell ⟨X, 1, none⟩ (.int .u64 (limb s 1 : Nat))).setCell ⟨X, 2, none⟩ (.int .u64 (limb s 2 : Nat))).setCell ⟨X, 3, none⟩ (.int .u64 (limb s 3 : Nat)) = Y9 at HB9 SX hHeld ⊢
      refine wpAnyH_take (i := 10) (v := ?_) rfl (by kernel_rfl) (by kernel_rfl) (by kernel_rfl) (fun _ _ _ h => h) (Or.inl ⟨by kernel_rfl, ?_⟩) (by with_reducible assumption) ?_
      rotate_left
      · intro wz hSw
        (try dsimp only at hSw)
        go_simp
        (try with_reducible rfl)
      show wpAnyH _ _ _ _ _ _ _ (Act.put _ (some 8) _) _
      (try simp only [Act.put, List.setIfInBounds_toArray, List.set_cons_zero, List.set_cons_succ])
      refine wpAnyH_done (by kernel_rfl) ?_ _
      go_wp2_with fail
      go_meet
      case rel => exact ⟨X, rfl, rfl, SX.out, HB9.out⟩
  case rest =>
    obtain ⟨B, rfl, rfl, hB, hbc⟩ := hcut
    have HBc := Lib.hid (HB0.out.trans (hbc.mono HB0.out.size))
    have HBB := Lib.hid hB
    have c0 := (hp_cell (i := 0) hB).trans rfl
    have c1 := (hp_cell (i := 1) hB).trans rfl
    have c2 := (hp_cell (i := 2) hB).trans rfl
    have c3 := (hp_cell (i := 3) hB).trans rfl
    clear hB hbc
    go_wp2_with (first
      | (go_at_call 20; refine (HS.out _ H3.out).mono ?_; rintro e w4 ⟨rfl, h4⟩; have H4 := Lib.hid h4; clear h4)
      | (go_at_call 46; refine (HAm.out _).mono ?_; rintro e w3 ⟨rfl, hb3⟩; have H3 := Lib.hid (HBc.out.trans (hb3.mono HBc.out.size)); have r3 := (hb3.block _ (hp_lt HBB.out)).trans HBB.out; clear c0 c1 c2 c3; have c0 := (hp_cell (i := 0) r3).trans rfl; have c1 := (hp_cell (i := 1) r3).trans rfl; have c2 := (hp_cell (i := 2) r3).trans rfl; have c3 := (hp_cell (i := 3) r3).trans rfl; clear hb3 r3))
    go_ret
    exact ⟨rfl, H4.out⟩
set_option maxRecDepth 100000 in
set_option maxHeartbeats 4000000 in
theorem rsubA_okW (w W : World) (m : Nat) (L : SL) (R : List Ch) (k : ByteArray) (was a : Nat) (h : DS w W m L R) (hr : Rising (skeys L)) (hN : L.length < 900000) (hR : R.length < 900000) (he : amtAt L k was) (hw : was < 2 ^ 256) (ha : a < 2 ^ 256) (hle : a ≤ was) :
    Calls Tryz.prog 22 #[.pointer (some ⟨m, 0, none⟩), .string k, U a] W fun e W' => e = .returned (.int .i64 0) ∧ RW w W W' := by
  have hb0 := (Below.refl W.heap.size W).alloc (Nat.le_refl _) (.cells #[.int .u64 (limb a 0 : Nat), .int .u64 (limb a 1 : Nat), .int .u64 (limb a 2 : Nat), .int .u64 (limb a 3 : Nat)] 24)
  have r0 := heap_alloc_new W (.cells #[.int .u64 (limb a 0 : Nat), .int .u64 (limb a 1 : Nat), .int .u64 (limb a 2 : Nat), .int .u64 (limb a 3 : Nat)] 24)
  have HB0 := Lib.hid hb0
  have hA := fun (W1 : World) (hb : Below W.heap.size W W1) => ramount_at w W1 m L R k was (h.below hb) hr (by omega) he hw
  have hAd := fun W1 => rsub_walk was a W1 hw ha
  unfold subv subk at hAd
  rw [if_pos hle, decide_eq_true hle] at hAd
  obtain ⟨s, hs⟩ : ∃ s, s = was - a := ⟨_, rfl⟩
  have hlt : s < 2 ^ 256 := by omega
  rw [← hs] at hAd
  unfold U at hA hAd
  have HA := Lib.hid hA
  have HAd := Lib.hid hAd
  have hS := fun (W1 : World) (hb : Below W.heap.size W W1) => (rsetAmount_w w W1 m L R k s (h.below hb) hr (by omega) (by omega) hlt).mono fun e W' hp => (⟨hp.1, hp.2.pre hb⟩ : e = .returned (.tuple #[]) ∧ RW w W W')
  unfold U at hS
  have HS := Lib.hid hS
  have HR0 := Lib.hid r0
  clear h hr hN hR he hw ha hb0 r0 hA hAd hle hlt hs hS
  unfold U
  go_enter Tryz.func22, Tryz.ntmps22
  go_upto_region 1 with fail
  obtain ⟨XB, hXB⟩ : ∃ XB, XB = W.heap.size := ⟨_, rfl⟩
  rw [← hXB] at HR0 ⊢
  have HBx := Lib.hid HR0.out
  have LB := Lib.hid (hp_lt HR0.out)
  clear hXB HR0
  generalize W.alloc (.cells #[.int .u64 (limb a 0 : Nat), .int .u64 (limb a 1 : Nat), .int .u64 (limb a 2 : Nat), .int .u64 (limb a 3 : Nat)] 24) = Wa at HB0 HBx LB ⊢
  go_cut [7, 8] (fun p q wx => ∃ B, p = .pointer (some ⟨B, 0, none⟩) ∧ q = .bool true ∧ wx.heap[B]? = some (.cells #[.int .u64 (limb s 0 : Nat), .int .u64 (limb s 1 : Nat), .int .u64 (limb s 2 : Nat), .int .u64 (limb s 3 : Nat)] 24 (0, 0)) ∧ Below Wa.heap.size Wa wx)
  case first =>
    refine wp_region_held_drew (S := fun w' => Below Wa.heap.size Wa w') (by kernel_rfl) ?_ (fun hHeld => ?_)
    · exact (Below.refl _ _).drew
    have HY0 := Lib.hid (show Below Wa.heap.size Wa Wa.drew from (Below.refl _ _).drew)
    generalize Wa.drew = Y0 at HY0 hHeld ⊢
    refine wpAnyH_take (i := 0) (v := ?_) rfl (by kernel_rfl) (by kernel_rfl) (by kernel_rfl) (fun _ _ _ h => h) (Or.inl ⟨by kernel_rfl, ?_⟩) (by with_reducible assumption) ?_
    rotate_left
    · intro wz hSw
      (try dsimp only at hSw)
      go_simp
      (try with_reducible rfl)
    show wpAnyH _ _ _ _ _ _ _ (Act.put _ (some 10) _) _
    (try simp only [Act.put, List.setIfInBounds_toArray, List.set_cons_zero, List.set_cons_succ])
    refine wpAnyH_take (i := 1) (v := ?_) rfl (by kernel_rfl) (by kernel_rfl) (by kernel_rfl) (fun _ _ _ h => h) (Or.inl ⟨by kernel_rfl, ?_⟩) (by with_reducible assumption) ?_
    rotate_left
    · intro wz hSw
      (try dsimp only at hSw)
      go_simp
      (try with_reducible rfl)
    show wpAnyH _ _ _ _ _ _ _ (Act.put _ (some 11) _) _
    (try simp only [Act.put, List.setIfInBounds_toArray, List.set_cons_zero, List.set_cons_succ])
    refine wpAnyH_take (i := 3) (v := .agg #[.int .u64 (limb a 0 : Nat), .int .u64 (limb a 1 : Nat), .int .u64 (limb a 2 : Nat), .int .u64 (limb a 3 : Nat)]) rfl (by kernel_rfl) (by kernel_rfl) (by kernel_rfl) (fun _ _ _ h => h) (Or.inl ⟨by kernel_rfl, ?_⟩) (by with_reducible assumption) ?_
    · intro wz hSw
      (try dsimp only at hSw)
      have z0 := (hSw.cell (p := ⟨XB, 0, none⟩) LB.out).trans ((hp_cell (i := 0) HBx.out).trans rfl)
      have z1 := (hSw.cell (p := ⟨XB, 1, none⟩) LB.out).trans ((hp_cell (i := 1) HBx.out).trans rfl)
      have z2 := (hSw.cell (p := ⟨XB, 2, none⟩) LB.out).trans ((hp_cell (i := 2) HBx.out).trans rfl)
      have z3 := (hSw.cell (p := ⟨XB, 3, none⟩) LB.out).trans ((hp_cell (i := 3) HBx.out).trans rfl)
      go_simp
      (try with_reducible rfl)
    show wpAnyH _ _ _ _ _ _ _ (Act.put _ (some 13) _) _
    (try simp only [Act.put, List.setIfInBounds_toArray, List.set_cons_zero, List.set_cons_succ])
    refine wpAnyH_ready (rs := [2, 8]) (by kernel_rfl) (by simp) ?_
    refine AllReadyH.cons rfl (fun K hK => ?_) (AllReadyH.cons rfl (fun K hK => ?_) AllReadyH.nil)
    · clear hHeld
      go_simp
      go_at_call 45
      refine (HA.out _ (HB0.out.trans (HY0.out.mono HB0.out.size))).mono ?_
      rintro e Y2 ⟨rfl, hb⟩
      have HB2 := Lib.hid (HY0.out.trans (hb.mono HY0.out.size))
      clear hb
      go_wp2_with fail
      refine hK.out _ _ ?_ (fun hHeld => ?_)
      · exact HB2.out
      clear hK K
      (try simp only [Act.put, List.setIfInBounds_toArray, List.set_cons_zero, List.set_cons_succ])
      refine wpAnyH_ready (rs := [4, 8]) (by kernel_rfl) (by simp) ?_
      refine AllReadyH.cons rfl (fun K hK => ?_) (AllReadyH.cons rfl (fun K hK => ?_) AllReadyH.nil)
      · clear hHeld
        go_simp
        go_at_call 47
        refine (HAd.out _).mono ?_
        rintro e Y4 ⟨rfl, hb⟩
        have HB4 := Lib.hid (HB2.out.trans (hb.mono HB2.out.size))
        clear hb
        go_wp2_with fail
        refine hK.out _ _ ?_ (fun hHeld => ?_)
        · exact HB4.out
        clear hK K
        (try simp only [Act.put, List.setIfInBounds_toArray, List.set_cons_zero, List.set_cons_succ])
        refine wpAnyH_take (i := 5) (v := ?_) rfl (by kernel_rfl) (by kernel_rfl) (by kernel_rfl) (fun _ _ _ h => h) (Or.inl ⟨by kernel_rfl, ?_⟩) (by with_reducible assumption) ?_
        rotate_left
        · intro wz hSw
          (try dsimp only at hSw)
          go_simp
          (try with_reducible rfl)
        show wpAnyH _ _ _ _ _ _ _ (Act.put _ (some 9) _) _
        (try simp only [Act.put, List.setIfInBounds_toArray, List.set_cons_zero, List.set_cons_succ])
        refine wpAnyH_take (i := 6) (v := ?_) rfl (by kernel_rfl) (by kernel_rfl) (by kernel_rfl) (fun _ _ _ h => h) (Or.inl ⟨by kernel_rfl, ?_⟩) (by with_reducible assumption) ?_
        rotate_left
        · intro wz hSw
          (try dsimp only at hSw)
          go_simp
          (try with_reducible rfl)
        show wpAnyH _ _ _ _ _ _ _ (Act.put _ (some 15) _) _
        (try simp only [Act.put, List.setIfInBounds_toArray, List.set_cons_zero, List.set_cons_succ])
        refine wpAnyH_take (i := 7) (v := ?_) rfl (by kernel_rfl) (by kernel_rfl) (by kernel_rfl) (fun _ _ _ h => h) (Or.inl ⟨by kernel_rfl, ?_⟩) (by with_reducible assumption) ?_
        rotate_left
        · intro wz hSw
          (try dsimp only at hSw)
          go_simp
          (try with_reducible rfl)
        show wpAnyH _ _ _ _ _ _ _ (Act.put _ (some 16) _) _
        (try simp only [Act.put, List.setIfInBounds_toArray, List.set_cons_zero, List.set_cons_succ])
        refine wpAnyH_ready (rs := [8]) (by kernel_rfl) (by simp) ?_
        refine AllReadyH.cons rfl (fun K hK => ?_) AllReadyH.nil
        clear hHeld
        go_simp
        have HB8 := Lib.hid (HB4.out.alloc HB4.out.size (.cells #[.int .u64 0, .int .u64 0, .int .u64 0, .int .u64 0] 24))
        have F_n := Lib.hid (heap_alloc_new Y4 (.cells #[.int .u64 0, .int .u64 0, .int .u64 0, .int .u64 0] 24))
        obtain ⟨X, eX⟩ : ∃ y, y = Y4.heap.size := ⟨_, rfl⟩
        go_wp2_with fail
        refine hK.out _ _ ?_ (fun hHeld => ?_)
        · exact HB8.out
        clear hK K
        (try simp only [Act.put, List.setIfInBounds_toArray, List.set_cons_zero, List.set_cons_succ])
        rw [← eX] at F_n ⊢
        have LX := Lib.hid (show Wa.heap.size ≤ X from by rw [eX]; exact HB4.out.size)
        clear eX
        generalize Y4.alloc (.cells #[.int .u64 0, .int .u64 0, .int .u64 0, .int .u64 0] 24) = Y8 at HB8 F_n hHeld ⊢
        refine wpAnyH_ready (rs := [9]) (by kernel_rfl) (by simp) ?_
        refine AllReadyH.cons rfl (fun K hK => ?_) AllReadyH.nil
        clear hHeld
        have c0 := (hp_cell (i := 0) F_n.out).trans rfl
        have g0 := hp_free (i := 0) F_n.out
        have c1 := (hp_cell (i := 1) F_n.out).trans rfl
        have g1 := hp_free (i := 1) F_n.out
        have c2 := (hp_cell (i := 2) F_n.out).trans rfl
        have g2 := hp_free (i := 2) F_n.out
        have c3 := (hp_cell (i := 3) F_n.out).trans rfl
        have g3 := hp_free (i := 3) F_n.out
        go_simp
        clear c0 c1 c2 c3 g0 g1 g2 g3
        have HB9 := Lib.hid (show Below Wa.heap.size Wa ((((Y8.setCell ⟨X, 0, none⟩ (.int .u64 (limb s 0 : Nat))).setCell ⟨X, 1, none⟩ (.int .u64 (limb s 1 : Nat))).setCell ⟨X, 2, none⟩ (.int .u64 (limb s 2 : Nat))).setCell ⟨X, 3, none⟩ (.int .u64 (limb s 3 : Nat))) from ((((HB8.out.setCell LX.out _).setCell LX.out _).setCell LX.out _).setCell LX.out _))
        have SX := Lib.hid (set4b (.int .u64 (limb s 0 : Nat)) (.int .u64 (limb s 1 : Nat)) (.int .u64 (limb s 2 : Nat)) (.int .u64 (limb s 3 : Nat)) F_n.out (rfl : ((((Y8.setCell ⟨X, 0, none⟩ (.int .u64 (limb s 0 : Nat))).setCell ⟨X, 1, none⟩ (.int .u64 (limb s 1 : Nat))).setCell ⟨X, 2, none⟩ (.int .u64 (limb s 2 : Nat))).setCell ⟨X, 3, none⟩ (.int .u64 (limb s 3 : Nat))) = _))
        go_wp2_with fail
        refine hK.out _ _ ?_ (fun hHeld => ?_)
        · exact HB9.out
        clear hK K
        (try simp only [Act.put, List.setIfInBounds_toArray, List.set_cons_zero, List.set_cons_succ])
        generalize (((Y8.setCell ⟨X, 0, none⟩ (.int .u64 (limb s 0 : Nat))).setCell ⟨X, 1, none⟩ (.int .u64 (limb s 1 : Nat))).setCell ⟨X, 2, none⟩ (.int .u64 (limb s 2 : Nat))).setCell ⟨X, 3, none⟩ (.int .u64 (limb s 3 : Nat)) = Y9 at HB9 SX hHeld ⊢
        refine wpAnyH_take (i := 10) (v := ?_) rfl (by kernel_rfl) (by kernel_rfl) (by kernel_rfl) (fun _ _ _ h => h) (Or.inl ⟨by kernel_rfl, ?_⟩) (by with_reducible assumption) ?_
        rotate_left
        · intro wz hSw
          (try dsimp only at hSw)
          go_simp
          (try with_reducible rfl)
        show wpAnyH _ _ _ _ _ _ _ (Act.put _ (some 8) _) _
        (try simp only [Act.put, List.setIfInBounds_toArray, List.set_cons_zero, List.set_cons_succ])
        refine wpAnyH_done (by kernel_rfl) ?_ _
        go_wp2_with fail
        go_meet
        case rel => exact ⟨X, rfl, rfl, SX.out, HB9.out⟩
      · clear hHeld
        go_simp
        have HB8 := Lib.hid (HB2.out.alloc HB2.out.size (.cells #[.int .u64 0, .int .u64 0, .int .u64 0, .int .u64 0] 24))
        have F_n := Lib.hid (heap_alloc_new Y2 (.cells #[.int .u64 0, .int .u64 0, .int .u64 0, .int .u64 0] 24))
        obtain ⟨X, eX⟩ : ∃ y, y = Y2.heap.size := ⟨_, rfl⟩
        go_wp2_with fail
        refine hK.out _ _ ?_ (fun hHeld => ?_)
        · exact HB8.out
        clear hK K
        (try simp only [Act.put, List.setIfInBounds_toArray, List.set_cons_zero, List.set_cons_succ])
        rw [← eX] at F_n ⊢
        have LX := Lib.hid (show Wa.heap.size ≤ X from by rw [eX]; exact HB2.out.size)
        clear eX
        generalize Y2.alloc (.cells #[.int .u64 0, .int .u64 0, .int .u64 0, .int .u64 0] 24) = Y8 at HB8 F_n hHeld ⊢
        refine wpAnyH_ready (rs := [4]) (by kernel_rfl) (by simp) ?_
        refine AllReadyH.cons rfl (fun K hK => ?_) AllReadyH.nil
        clear hHeld
        go_simp
        go_at_call 47
        refine (HAd.out _).mono ?_
        rintro e Y4 ⟨rfl, hb⟩
        have HB4 := Lib.hid (HB8.out.trans (hb.mono HB8.out.size))
        have F_4 := Lib.hid ((hb.block _ (hp_lt F_n.out)).trans F_n.out)
        clear hb
        go_wp2_with fail
        refine hK.out _ _ ?_ (fun hHeld => ?_)
        · exact HB4.out
        clear hK K
        (try simp only [Act.put, List.setIfInBounds_toArray, List.set_cons_zero, List.set_cons_succ])
        refine wpAnyH_take (i := 5) (v := ?_) rfl (by kernel_rfl) (by kernel_rfl) (by kernel_rfl) (fun _ _ _ h => h) (Or.inl ⟨by kernel_rfl, ?_⟩) (by with_reducible assumption) ?_
        rotate_left
        · intro wz hSw
          (try dsimp only at hSw)
          go_simp
          (try with_reducible rfl)
        show wpAnyH _ _ _ _ _ _ _ (Act.put _ (some 9) _) _
        (try simp only [Act.put, List.setIfInBounds_toArray, List.set_cons_zero, List.set_cons_succ])
        refine wpAnyH_take (i := 6) (v := ?_) rfl (by kernel_rfl) (by kernel_rfl) (by kernel_rfl) (fun _ _ _ h => h) (Or.inl ⟨by kernel_rfl, ?_⟩) (by with_reducible assumption) ?_
        rotate_left
        · intro wz hSw
          (try dsimp only at hSw)
          go_simp
          (try with_reducible rfl)
        show wpAnyH _ _ _ _ _ _ _ (Act.put _ (some 15) _) _
        (try simp only [Act.put, List.setIfInBounds_toArray, List.set_cons_zero, List.set_cons_succ])
        refine wpAnyH_take (i := 7) (v := ?_) rfl (by kernel_rfl) (by kernel_rfl) (by kernel_rfl) (fun _ _ _ h => h) (Or.inl ⟨by kernel_rfl, ?_⟩) (by with_reducible assumption) ?_
        rotate_left
        · intro wz hSw
          (try dsimp only at hSw)
          go_simp
          (try with_reducible rfl)
        show wpAnyH _ _ _ _ _ _ _ (Act.put _ (some 16) _) _
        (try simp only [Act.put, List.setIfInBounds_toArray, List.set_cons_zero, List.set_cons_succ])
        refine wpAnyH_ready (rs := [9]) (by kernel_rfl) (by simp) ?_
        refine AllReadyH.cons rfl (fun K hK => ?_) AllReadyH.nil
        clear hHeld
        have c0 := (hp_cell (i := 0) F_4.out).trans rfl
        have g0 := hp_free (i := 0) F_4.out
        have c1 := (hp_cell (i := 1) F_4.out).trans rfl
        have g1 := hp_free (i := 1) F_4.out
        have c2 := (hp_cell (i := 2) F_4.out).trans rfl
        have g2 := hp_free (i := 2) F_4.out
        have c3 := (hp_cell (i := 3) F_4.out).trans rfl
        have g3 := hp_free (i := 3) F_4.out
        go_simp
        clear c0 c1 c2 c3 g0 g1 g2 g3
        have HB9 := Lib.hid (show Below Wa.heap.size Wa ((((Y4.setCell ⟨X, 0, none⟩ (.int .u64 (limb s 0 : Nat))).setCell ⟨X, 1, none⟩ (.int .u64 (limb s 1 : Nat))).setCell ⟨X, 2, none⟩ (.int .u64 (limb s 2 : Nat))).setCell ⟨X, 3, none⟩ (.int .u64 (limb s 3 : Nat))) from ((((HB4.out.setCell LX.out _).setCell LX.out _).setCell LX.out _).setCell LX.out _))
        have SX := Lib.hid (set4b (.int .u64 (limb s 0 : Nat)) (.int .u64 (limb s 1 : Nat)) (.int .u64 (limb s 2 : Nat)) (.int .u64 (limb s 3 : Nat)) F_4.out (rfl : ((((Y4.setCell ⟨X, 0, none⟩ (.int .u64 (limb s 0 : Nat))).setCell ⟨X, 1, none⟩ (.int .u64 (limb s 1 : Nat))).setCell ⟨X, 2, none⟩ (.int .u64 (limb s 2 : Nat))).setCell ⟨X, 3, none⟩ (.int .u64 (limb s 3 : Nat))) = _))
        go_wp2_with fail
        refine hK.out _ _ ?_ (fun hHeld => ?_)
        · exact HB9.out
        clear hK K
        (try simp only [Act.put, List.setIfInBounds_toArray, List.set_cons_zero, List.set_cons_succ])
        generalize (((Y4.setCell ⟨X, 0, none⟩ (.int .u64 (limb s 0 : Nat))).setCell ⟨X, 1, none⟩ (.int .u64 (limb s 1 : Nat))).setCell ⟨X, 2, none⟩ (.int .u64 (limb s 2 : Nat))).setCell ⟨X, 3, none⟩ (.int .u64 (limb s 3 : Nat)) = Y9 at HB9 SX hHeld ⊢
        refine wpAnyH_take (i := 10) (v := ?_) rfl (by kernel_rfl) (by kernel_rfl) (by kernel_rfl) (fun _ _ _ h => h) (Or.inl ⟨by kernel_rfl, ?_⟩) (by with_reducible assumption) ?_
        rotate_left
        · intro wz hSw
          (try dsimp only at hSw)
          go_simp
          (try with_reducible rfl)
        show wpAnyH _ _ _ _ _ _ _ (Act.put _ (some 8) _) _
        (try simp only [Act.put, List.setIfInBounds_toArray, List.set_cons_zero, List.set_cons_succ])
        refine wpAnyH_done (by kernel_rfl) ?_ _
        go_wp2_with fail
        go_meet
        case rel => exact ⟨X, rfl, rfl, SX.out, HB9.out⟩
    · clear hHeld
      go_simp
      have HB8 := Lib.hid (HY0.out.alloc HY0.out.size (.cells #[.int .u64 0, .int .u64 0, .int .u64 0, .int .u64 0] 24))
      have F_n := Lib.hid (heap_alloc_new Y0 (.cells #[.int .u64 0, .int .u64 0, .int .u64 0, .int .u64 0] 24))
      obtain ⟨X, eX⟩ : ∃ y, y = Y0.heap.size := ⟨_, rfl⟩
      go_wp2_with fail
      refine hK.out _ _ ?_ (fun hHeld => ?_)
      · exact HB8.out
      clear hK K
      (try simp only [Act.put, List.setIfInBounds_toArray, List.set_cons_zero, List.set_cons_succ])
      rw [← eX] at F_n ⊢
      have LX := Lib.hid (show Wa.heap.size ≤ X from by rw [eX]; exact HY0.out.size)
      clear eX
      generalize Y0.alloc (.cells #[.int .u64 0, .int .u64 0, .int .u64 0, .int .u64 0] 24) = Y8 at HB8 F_n hHeld ⊢
      refine wpAnyH_ready (rs := [2]) (by kernel_rfl) (by simp) ?_
      refine AllReadyH.cons rfl (fun K hK => ?_) AllReadyH.nil
      clear hHeld
      go_simp
      go_at_call 45
      refine (HA.out _ (HB0.out.trans (HB8.out.mono HB0.out.size))).mono ?_
      rintro e Y2 ⟨rfl, hb⟩
      have HB2 := Lib.hid (HB8.out.trans (hb.mono HB8.out.size))
      have F_2 := Lib.hid ((hb.block _ (hp_lt F_n.out)).trans F_n.out)
      clear hb
      go_wp2_with fail
      refine hK.out _ _ ?_ (fun hHeld => ?_)
      · exact HB2.out
      clear hK K
      (try simp only [Act.put, List.setIfInBounds_toArray, List.set_cons_zero, List.set_cons_succ])
      refine wpAnyH_ready (rs := [4]) (by kernel_rfl) (by simp) ?_
      refine AllReadyH.cons rfl (fun K hK => ?_) AllReadyH.nil
      clear hHeld
      go_simp
      go_at_call 47
      refine (HAd.out _).mono ?_
      rintro e Y4 ⟨rfl, hb⟩
      have HB4 := Lib.hid (HB2.out.trans (hb.mono HB2.out.size))
      have F_4 := Lib.hid ((hb.block _ (hp_lt F_2.out)).trans F_2.out)
      clear hb
      go_wp2_with fail
      refine hK.out _ _ ?_ (fun hHeld => ?_)
      · exact HB4.out
      clear hK K
      (try simp only [Act.put, List.setIfInBounds_toArray, List.set_cons_zero, List.set_cons_succ])
      refine wpAnyH_take (i := 5) (v := ?_) rfl (by kernel_rfl) (by kernel_rfl) (by kernel_rfl) (fun _ _ _ h => h) (Or.inl ⟨by kernel_rfl, ?_⟩) (by with_reducible assumption) ?_
      rotate_left
      · intro wz hSw
        (try dsimp only at hSw)
        go_simp
        (try with_reducible rfl)
      show wpAnyH _ _ _ _ _ _ _ (Act.put _ (some 9) _) _
      (try simp only [Act.put, List.setIfInBounds_toArray, List.set_cons_zero, List.set_cons_succ])
      refine wpAnyH_take (i := 6) (v := ?_) rfl (by kernel_rfl) (by kernel_rfl) (by kernel_rfl) (fun _ _ _ h => h) (Or.inl ⟨by kernel_rfl, ?_⟩) (by with_reducible assumption) ?_
      rotate_left
      · intro wz hSw
        (try dsimp only at hSw)
        go_simp
        (try with_reducible rfl)
      show wpAnyH _ _ _ _ _ _ _ (Act.put _ (some 15) _) _
      (try simp only [Act.put, List.setIfInBounds_toArray, List.set_cons_zero, List.set_cons_succ])
      refine wpAnyH_take (i := 7) (v := ?_) rfl (by kernel_rfl) (by kernel_rfl) (by kernel_rfl) (fun _ _ _ h => h) (Or.inl ⟨by kernel_rfl, ?_⟩) (by with_reducible assumption) ?_
      rotate_left
      · intro wz hSw
        (try dsimp only at hSw)
        go_simp
        (try with_reducible rfl)
      show wpAnyH _ _ _ _ _ _ _ (Act.put _ (some 16) _) _
      (try simp only [Act.put, List.setIfInBounds_toArray, List.set_cons_zero, List.set_cons_succ])
      refine wpAnyH_ready (rs := [9]) (by kernel_rfl) (by simp) ?_
      refine AllReadyH.cons rfl (fun K hK => ?_) AllReadyH.nil
      clear hHeld
      have c0 := (hp_cell (i := 0) F_4.out).trans rfl
      have g0 := hp_free (i := 0) F_4.out
      have c1 := (hp_cell (i := 1) F_4.out).trans rfl
      have g1 := hp_free (i := 1) F_4.out
      have c2 := (hp_cell (i := 2) F_4.out).trans rfl
      have g2 := hp_free (i := 2) F_4.out
      have c3 := (hp_cell (i := 3) F_4.out).trans rfl
      have g3 := hp_free (i := 3) F_4.out
      go_simp
      clear c0 c1 c2 c3 g0 g1 g2 g3
      have HB9 := Lib.hid (show Below Wa.heap.size Wa ((((Y4.setCell ⟨X, 0, none⟩ (.int .u64 (limb s 0 : Nat))).setCell ⟨X, 1, none⟩ (.int .u64 (limb s 1 : Nat))).setCell ⟨X, 2, none⟩ (.int .u64 (limb s 2 : Nat))).setCell ⟨X, 3, none⟩ (.int .u64 (limb s 3 : Nat))) from ((((HB4.out.setCell LX.out _).setCell LX.out _).setCell LX.out _).setCell LX.out _))
      have SX := Lib.hid (set4b (.int .u64 (limb s 0 : Nat)) (.int .u64 (limb s 1 : Nat)) (.int .u64 (limb s 2 : Nat)) (.int .u64 (limb s 3 : Nat)) F_4.out (rfl : ((((Y4.setCell ⟨X, 0, none⟩ (.int .u64 (limb s 0 : Nat))).setCell ⟨X, 1, none⟩ (.int .u64 (limb s 1 : Nat))).setCell ⟨X, 2, none⟩ (.int .u64 (limb s 2 : Nat))).setCell ⟨X, 3, none⟩ (.int .u64 (limb s 3 : Nat))) = _))
      go_wp2_with fail
      refine hK.out _ _ ?_ (fun hHeld => ?_)
      · exact HB9.out
      clear hK K
      (try simp only [Act.put, List.setIfInBounds_toArray, List.set_cons_zero, List.set_cons_succ])
      generalize (((Y4.setCell ⟨X, 0, none⟩ (.int .u64 (limb s 0 : Nat))).setCell ⟨X, 1, none⟩ (.int .u64 (limb s 1 : Nat))).setCell ⟨X, 2, none⟩ (.int .u64 (limb s 2 : Nat))).setCell ⟨X, 3, none⟩ (.int .u64 (limb s 3 : Nat)) = Y9 at HB9 SX hHeld ⊢
      refine wpAnyH_take (i := 10) (v := ?_) rfl (by kernel_rfl) (by kernel_rfl) (by kernel_rfl) (fun _ _ _ h => h) (Or.inl ⟨by kernel_rfl, ?_⟩) (by with_reducible assumption) ?_
      rotate_left
      · intro wz hSw
        (try dsimp only at hSw)
        go_simp
        (try with_reducible rfl)
      show wpAnyH _ _ _ _ _ _ _ (Act.put _ (some 8) _) _
      (try simp only [Act.put, List.setIfInBounds_toArray, List.set_cons_zero, List.set_cons_succ])
      refine wpAnyH_done (by kernel_rfl) ?_ _
      go_wp2_with fail
      go_meet
      case rel => exact ⟨X, rfl, rfl, SX.out, HB9.out⟩
  case rest =>
    obtain ⟨B, rfl, rfl, hB, hbc⟩ := hcut
    have HBc := Lib.hid (HB0.out.trans (hbc.mono HB0.out.size))
    have HBB := Lib.hid hB
    have c0 := (hp_cell (i := 0) hB).trans rfl
    have c1 := (hp_cell (i := 1) hB).trans rfl
    have c2 := (hp_cell (i := 2) hB).trans rfl
    have c3 := (hp_cell (i := 3) hB).trans rfl
    clear hB hbc
    go_wp2_with (go_at_call 20; refine (HS.out _ HBc.out).mono ?_; rintro e w4 ⟨rfl, h4⟩; have H4 := Lib.hid h4; clear h4)
    go_ret
    exact ⟨rfl, H4.out⟩
set_option maxRecDepth 100000 in
set_option maxHeartbeats 4000000 in
theorem rsubA_noW (w W : World) (m : Nat) (L : SL) (R : List Ch) (k : ByteArray) (was a : Nat) (h : DS w W m L R) (hr : Rising (skeys L)) (hN : L.length < 900000) (hR : R.length < 900000) (he : amtAt L k was) (hw : was < 2 ^ 256) (ha : a < 2 ^ 256) (hge : ¬ a ≤ was) :
    Calls Tryz.prog 22 #[.pointer (some ⟨m, 0, none⟩), .string k, U a] W fun e W' => e = .returned (.int .i64 13) ∧ DSTo w W W' m L R := by
  have hb0 := (Below.refl W.heap.size W).alloc (Nat.le_refl _) (.cells #[.int .u64 (limb a 0 : Nat), .int .u64 (limb a 1 : Nat), .int .u64 (limb a 2 : Nat), .int .u64 (limb a 3 : Nat)] 24)
  have r0 := heap_alloc_new W (.cells #[.int .u64 (limb a 0 : Nat), .int .u64 (limb a 1 : Nat), .int .u64 (limb a 2 : Nat), .int .u64 (limb a 3 : Nat)] 24)
  have HB0 := Lib.hid hb0
  have hA := fun (W1 : World) (hb : Below W.heap.size W W1) => ramount_at w W1 m L R k was (h.below hb) hr (by omega) he hw
  have hAd := fun W1 => rsub_walk was a W1 hw ha
  unfold subv subk at hAd
  rw [if_neg hge, decide_eq_false hge] at hAd
  unfold U at hA hAd
  have HA := Lib.hid hA
  have HAd := Lib.hid hAd
  have HD := Lib.hid (fun (W1 : World) (hb : Below W.heap.size W W1) => DSTo.of_below h hb)
  have HR0 := Lib.hid r0
  clear h hr hN hR he hw ha hb0 r0 hA hAd hge
  unfold U
  go_enter Tryz.func22, Tryz.ntmps22
  go_upto_region 1 with fail
  obtain ⟨XB, hXB⟩ : ∃ XB, XB = W.heap.size := ⟨_, rfl⟩
  rw [← hXB] at HR0 ⊢
  have HBx := Lib.hid HR0.out
  have LB := Lib.hid (hp_lt HR0.out)
  clear hXB HR0
  generalize W.alloc (.cells #[.int .u64 (limb a 0 : Nat), .int .u64 (limb a 1 : Nat), .int .u64 (limb a 2 : Nat), .int .u64 (limb a 3 : Nat)] 24) = Wa at HB0 HBx LB ⊢
  go_cut [7, 8] (fun p q wx => ∃ B, p = .pointer (some ⟨B, 0, none⟩) ∧ q = .bool false ∧ wx.heap[B]? = some (.cells #[.int .u64 (limb 0 0 : Nat), .int .u64 (limb 0 1 : Nat), .int .u64 (limb 0 2 : Nat), .int .u64 (limb 0 3 : Nat)] 24 (0, 0)) ∧ Below Wa.heap.size Wa wx)
  case first =>
    refine wp_region_held_drew (S := fun w' => Below Wa.heap.size Wa w') (by kernel_rfl) ?_ (fun hHeld => ?_)
    · exact (Below.refl _ _).drew
    have HY0 := Lib.hid (show Below Wa.heap.size Wa Wa.drew from (Below.refl _ _).drew)
    generalize Wa.drew = Y0 at HY0 hHeld ⊢
    refine wpAnyH_take (i := 0) (v := ?_) rfl (by kernel_rfl) (by kernel_rfl) (by kernel_rfl) (fun _ _ _ h => h) (Or.inl ⟨by kernel_rfl, ?_⟩) (by with_reducible assumption) ?_
    rotate_left
    · intro wz hSw
      (try dsimp only at hSw)
      go_simp
      (try with_reducible rfl)
    show wpAnyH _ _ _ _ _ _ _ (Act.put _ (some 10) _) _
    (try simp only [Act.put, List.setIfInBounds_toArray, List.set_cons_zero, List.set_cons_succ])
    refine wpAnyH_take (i := 1) (v := ?_) rfl (by kernel_rfl) (by kernel_rfl) (by kernel_rfl) (fun _ _ _ h => h) (Or.inl ⟨by kernel_rfl, ?_⟩) (by with_reducible assumption) ?_
    rotate_left
    · intro wz hSw
      (try dsimp only at hSw)
      go_simp
      (try with_reducible rfl)
    show wpAnyH _ _ _ _ _ _ _ (Act.put _ (some 11) _) _
    (try simp only [Act.put, List.setIfInBounds_toArray, List.set_cons_zero, List.set_cons_succ])
    refine wpAnyH_take (i := 3) (v := .agg #[.int .u64 (limb a 0 : Nat), .int .u64 (limb a 1 : Nat), .int .u64 (limb a 2 : Nat), .int .u64 (limb a 3 : Nat)]) rfl (by kernel_rfl) (by kernel_rfl) (by kernel_rfl) (fun _ _ _ h => h) (Or.inl ⟨by kernel_rfl, ?_⟩) (by with_reducible assumption) ?_
    · intro wz hSw
      (try dsimp only at hSw)
      have z0 := (hSw.cell (p := ⟨XB, 0, none⟩) LB.out).trans ((hp_cell (i := 0) HBx.out).trans rfl)
      have z1 := (hSw.cell (p := ⟨XB, 1, none⟩) LB.out).trans ((hp_cell (i := 1) HBx.out).trans rfl)
      have z2 := (hSw.cell (p := ⟨XB, 2, none⟩) LB.out).trans ((hp_cell (i := 2) HBx.out).trans rfl)
      have z3 := (hSw.cell (p := ⟨XB, 3, none⟩) LB.out).trans ((hp_cell (i := 3) HBx.out).trans rfl)
      go_simp
      (try with_reducible rfl)
    show wpAnyH _ _ _ _ _ _ _ (Act.put _ (some 13) _) _
    (try simp only [Act.put, List.setIfInBounds_toArray, List.set_cons_zero, List.set_cons_succ])
    refine wpAnyH_ready (rs := [2, 8]) (by kernel_rfl) (by simp) ?_
    refine AllReadyH.cons rfl (fun K hK => ?_) (AllReadyH.cons rfl (fun K hK => ?_) AllReadyH.nil)
    · clear hHeld
      go_simp
      go_at_call 45
      refine (HA.out _ (HB0.out.trans (HY0.out.mono HB0.out.size))).mono ?_
      rintro e Y2 ⟨rfl, hb⟩
      have HB2 := Lib.hid (HY0.out.trans (hb.mono HY0.out.size))
      clear hb
      go_wp2_with fail
      refine hK.out _ _ ?_ (fun hHeld => ?_)
      · exact HB2.out
      clear hK K
      (try simp only [Act.put, List.setIfInBounds_toArray, List.set_cons_zero, List.set_cons_succ])
      refine wpAnyH_ready (rs := [4, 8]) (by kernel_rfl) (by simp) ?_
      refine AllReadyH.cons rfl (fun K hK => ?_) (AllReadyH.cons rfl (fun K hK => ?_) AllReadyH.nil)
      · clear hHeld
        go_simp
        go_at_call 47
        refine (HAd.out _).mono ?_
        rintro e Y4 ⟨rfl, hb⟩
        have HB4 := Lib.hid (HB2.out.trans (hb.mono HB2.out.size))
        clear hb
        go_wp2_with fail
        refine hK.out _ _ ?_ (fun hHeld => ?_)
        · exact HB4.out
        clear hK K
        (try simp only [Act.put, List.setIfInBounds_toArray, List.set_cons_zero, List.set_cons_succ])
        refine wpAnyH_take (i := 5) (v := ?_) rfl (by kernel_rfl) (by kernel_rfl) (by kernel_rfl) (fun _ _ _ h => h) (Or.inl ⟨by kernel_rfl, ?_⟩) (by with_reducible assumption) ?_
        rotate_left
        · intro wz hSw
          (try dsimp only at hSw)
          go_simp
          (try with_reducible rfl)
        show wpAnyH _ _ _ _ _ _ _ (Act.put _ (some 9) _) _
        (try simp only [Act.put, List.setIfInBounds_toArray, List.set_cons_zero, List.set_cons_succ])
        refine wpAnyH_take (i := 6) (v := ?_) rfl (by kernel_rfl) (by kernel_rfl) (by kernel_rfl) (fun _ _ _ h => h) (Or.inl ⟨by kernel_rfl, ?_⟩) (by with_reducible assumption) ?_
        rotate_left
        · intro wz hSw
          (try dsimp only at hSw)
          go_simp
          (try with_reducible rfl)
        show wpAnyH _ _ _ _ _ _ _ (Act.put _ (some 15) _) _
        (try simp only [Act.put, List.setIfInBounds_toArray, List.set_cons_zero, List.set_cons_succ])
        refine wpAnyH_take (i := 7) (v := ?_) rfl (by kernel_rfl) (by kernel_rfl) (by kernel_rfl) (fun _ _ _ h => h) (Or.inl ⟨by kernel_rfl, ?_⟩) (by with_reducible assumption) ?_
        rotate_left
        · intro wz hSw
          (try dsimp only at hSw)
          go_simp
          (try with_reducible rfl)
        show wpAnyH _ _ _ _ _ _ _ (Act.put _ (some 16) _) _
        (try simp only [Act.put, List.setIfInBounds_toArray, List.set_cons_zero, List.set_cons_succ])
        refine wpAnyH_ready (rs := [8]) (by kernel_rfl) (by simp) ?_
        refine AllReadyH.cons rfl (fun K hK => ?_) AllReadyH.nil
        clear hHeld
        go_simp
        have HB8 := Lib.hid (HB4.out.alloc HB4.out.size (.cells #[.int .u64 0, .int .u64 0, .int .u64 0, .int .u64 0] 24))
        have F_n := Lib.hid (heap_alloc_new Y4 (.cells #[.int .u64 0, .int .u64 0, .int .u64 0, .int .u64 0] 24))
        obtain ⟨X, eX⟩ : ∃ y, y = Y4.heap.size := ⟨_, rfl⟩
        go_wp2_with fail
        refine hK.out _ _ ?_ (fun hHeld => ?_)
        · exact HB8.out
        clear hK K
        (try simp only [Act.put, List.setIfInBounds_toArray, List.set_cons_zero, List.set_cons_succ])
        rw [← eX] at F_n ⊢
        have LX := Lib.hid (show Wa.heap.size ≤ X from by rw [eX]; exact HB4.out.size)
        clear eX
        generalize Y4.alloc (.cells #[.int .u64 0, .int .u64 0, .int .u64 0, .int .u64 0] 24) = Y8 at HB8 F_n hHeld ⊢
        refine wpAnyH_ready (rs := [9]) (by kernel_rfl) (by simp) ?_
        refine AllReadyH.cons rfl (fun K hK => ?_) AllReadyH.nil
        clear hHeld
        have c0 := (hp_cell (i := 0) F_n.out).trans rfl
        have g0 := hp_free (i := 0) F_n.out
        have c1 := (hp_cell (i := 1) F_n.out).trans rfl
        have g1 := hp_free (i := 1) F_n.out
        have c2 := (hp_cell (i := 2) F_n.out).trans rfl
        have g2 := hp_free (i := 2) F_n.out
        have c3 := (hp_cell (i := 3) F_n.out).trans rfl
        have g3 := hp_free (i := 3) F_n.out
        go_simp
        clear c0 c1 c2 c3 g0 g1 g2 g3
        have HB9 := Lib.hid (show Below Wa.heap.size Wa ((((Y8.setCell ⟨X, 0, none⟩ (.int .u64 (limb 0 0 : Nat))).setCell ⟨X, 1, none⟩ (.int .u64 (limb 0 1 : Nat))).setCell ⟨X, 2, none⟩ (.int .u64 (limb 0 2 : Nat))).setCell ⟨X, 3, none⟩ (.int .u64 (limb 0 3 : Nat))) from ((((HB8.out.setCell LX.out _).setCell LX.out _).setCell LX.out _).setCell LX.out _))
        have SX := Lib.hid (set4b (.int .u64 (limb 0 0 : Nat)) (.int .u64 (limb 0 1 : Nat)) (.int .u64 (limb 0 2 : Nat)) (.int .u64 (limb 0 3 : Nat)) F_n.out (rfl : ((((Y8.setCell ⟨X, 0, none⟩ (.int .u64 (limb 0 0 : Nat))).setCell ⟨X, 1, none⟩ (.int .u64 (limb 0 1 : Nat))).setCell ⟨X, 2, none⟩ (.int .u64 (limb 0 2 : Nat))).setCell ⟨X, 3, none⟩ (.int .u64 (limb 0 3 : Nat))) = _))
        go_wp2_with fail
        refine hK.out _ _ ?_ (fun hHeld => ?_)
        · exact HB9.out
        clear hK K
        (try simp only [Act.put, List.setIfInBounds_toArray, List.set_cons_zero, List.set_cons_succ])
        generalize (((Y8.setCell ⟨X, 0, none⟩ (.int .u64 (limb 0 0 : Nat))).setCell ⟨X, 1, none⟩ (.int .u64 (limb 0 1 : Nat))).setCell ⟨X, 2, none⟩ (.int .u64 (limb 0 2 : Nat))).setCell ⟨X, 3, none⟩ (.int .u64 (limb 0 3 : Nat)) = Y9 at HB9 SX hHeld ⊢
        refine wpAnyH_take (i := 10) (v := ?_) rfl (by kernel_rfl) (by kernel_rfl) (by kernel_rfl) (fun _ _ _ h => h) (Or.inl ⟨by kernel_rfl, ?_⟩) (by with_reducible assumption) ?_
        rotate_left
        · intro wz hSw
          (try dsimp only at hSw)
          go_simp
          (try with_reducible rfl)
        show wpAnyH _ _ _ _ _ _ _ (Act.put _ (some 8) _) _
        (try simp only [Act.put, List.setIfInBounds_toArray, List.set_cons_zero, List.set_cons_succ])
        refine wpAnyH_done (by kernel_rfl) ?_ _
        go_wp2_with fail
        go_meet
        case rel => exact ⟨X, rfl, rfl, SX.out, HB9.out⟩
      · clear hHeld
        go_simp
        have HB8 := Lib.hid (HB2.out.alloc HB2.out.size (.cells #[.int .u64 0, .int .u64 0, .int .u64 0, .int .u64 0] 24))
        have F_n := Lib.hid (heap_alloc_new Y2 (.cells #[.int .u64 0, .int .u64 0, .int .u64 0, .int .u64 0] 24))
        obtain ⟨X, eX⟩ : ∃ y, y = Y2.heap.size := ⟨_, rfl⟩
        go_wp2_with fail
        refine hK.out _ _ ?_ (fun hHeld => ?_)
        · exact HB8.out
        clear hK K
        (try simp only [Act.put, List.setIfInBounds_toArray, List.set_cons_zero, List.set_cons_succ])
        rw [← eX] at F_n ⊢
        have LX := Lib.hid (show Wa.heap.size ≤ X from by rw [eX]; exact HB2.out.size)
        clear eX
        generalize Y2.alloc (.cells #[.int .u64 0, .int .u64 0, .int .u64 0, .int .u64 0] 24) = Y8 at HB8 F_n hHeld ⊢
        refine wpAnyH_ready (rs := [4]) (by kernel_rfl) (by simp) ?_
        refine AllReadyH.cons rfl (fun K hK => ?_) AllReadyH.nil
        clear hHeld
        go_simp
        go_at_call 47
        refine (HAd.out _).mono ?_
        rintro e Y4 ⟨rfl, hb⟩
        have HB4 := Lib.hid (HB8.out.trans (hb.mono HB8.out.size))
        have F_4 := Lib.hid ((hb.block _ (hp_lt F_n.out)).trans F_n.out)
        clear hb
        go_wp2_with fail
        refine hK.out _ _ ?_ (fun hHeld => ?_)
        · exact HB4.out
        clear hK K
        (try simp only [Act.put, List.setIfInBounds_toArray, List.set_cons_zero, List.set_cons_succ])
        refine wpAnyH_take (i := 5) (v := ?_) rfl (by kernel_rfl) (by kernel_rfl) (by kernel_rfl) (fun _ _ _ h => h) (Or.inl ⟨by kernel_rfl, ?_⟩) (by with_reducible assumption) ?_
        rotate_left
        · intro wz hSw
          (try dsimp only at hSw)
          go_simp
          (try with_reducible rfl)
        show wpAnyH _ _ _ _ _ _ _ (Act.put _ (some 9) _) _
        (try simp only [Act.put, List.setIfInBounds_toArray, List.set_cons_zero, List.set_cons_succ])
        refine wpAnyH_take (i := 6) (v := ?_) rfl (by kernel_rfl) (by kernel_rfl) (by kernel_rfl) (fun _ _ _ h => h) (Or.inl ⟨by kernel_rfl, ?_⟩) (by with_reducible assumption) ?_
        rotate_left
        · intro wz hSw
          (try dsimp only at hSw)
          go_simp
          (try with_reducible rfl)
        show wpAnyH _ _ _ _ _ _ _ (Act.put _ (some 15) _) _
        (try simp only [Act.put, List.setIfInBounds_toArray, List.set_cons_zero, List.set_cons_succ])
        refine wpAnyH_take (i := 7) (v := ?_) rfl (by kernel_rfl) (by kernel_rfl) (by kernel_rfl) (fun _ _ _ h => h) (Or.inl ⟨by kernel_rfl, ?_⟩) (by with_reducible assumption) ?_
        rotate_left
        · intro wz hSw
          (try dsimp only at hSw)
          go_simp
          (try with_reducible rfl)
        show wpAnyH _ _ _ _ _ _ _ (Act.put _ (some 16) _) _
        (try simp only [Act.put, List.setIfInBounds_toArray, List.set_cons_zero, List.set_cons_succ])
        refine wpAnyH_ready (rs := [9]) (by kernel_rfl) (by simp) ?_
        refine AllReadyH.cons rfl (fun K hK => ?_) AllReadyH.nil
        clear hHeld
        have c0 := (hp_cell (i := 0) F_4.out).trans rfl
        have g0 := hp_free (i := 0) F_4.out
        have c1 := (hp_cell (i := 1) F_4.out).trans rfl
        have g1 := hp_free (i := 1) F_4.out
        have c2 := (hp_cell (i := 2) F_4.out).trans rfl
        have g2 := hp_free (i := 2) F_4.out
        have c3 := (hp_cell (i := 3) F_4.out).trans rfl
        have g3 := hp_free (i := 3) F_4.out
        go_simp
        clear c0 c1 c2 c3 g0 g1 g2 g3
        have HB9 := Lib.hid (show Below Wa.heap.size Wa ((((Y4.setCell ⟨X, 0, none⟩ (.int .u64 (limb 0 0 : Nat))).setCell ⟨X, 1, none⟩ (.int .u64 (limb 0 1 : Nat))).setCell ⟨X, 2, none⟩ (.int .u64 (limb 0 2 : Nat))).setCell ⟨X, 3, none⟩ (.int .u64 (limb 0 3 : Nat))) from ((((HB4.out.setCell LX.out _).setCell LX.out _).setCell LX.out _).setCell LX.out _))
        have SX := Lib.hid (set4b (.int .u64 (limb 0 0 : Nat)) (.int .u64 (limb 0 1 : Nat)) (.int .u64 (limb 0 2 : Nat)) (.int .u64 (limb 0 3 : Nat)) F_4.out (rfl : ((((Y4.setCell ⟨X, 0, none⟩ (.int .u64 (limb 0 0 : Nat))).setCell ⟨X, 1, none⟩ (.int .u64 (limb 0 1 : Nat))).setCell ⟨X, 2, none⟩ (.int .u64 (limb 0 2 : Nat))).setCell ⟨X, 3, none⟩ (.int .u64 (limb 0 3 : Nat))) = _))
        go_wp2_with fail
        refine hK.out _ _ ?_ (fun hHeld => ?_)
        · exact HB9.out
        clear hK K
        (try simp only [Act.put, List.setIfInBounds_toArray, List.set_cons_zero, List.set_cons_succ])
        generalize (((Y4.setCell ⟨X, 0, none⟩ (.int .u64 (limb 0 0 : Nat))).setCell ⟨X, 1, none⟩ (.int .u64 (limb 0 1 : Nat))).setCell ⟨X, 2, none⟩ (.int .u64 (limb 0 2 : Nat))).setCell ⟨X, 3, none⟩ (.int .u64 (limb 0 3 : Nat)) = Y9 at HB9 SX hHeld ⊢
        refine wpAnyH_take (i := 10) (v := ?_) rfl (by kernel_rfl) (by kernel_rfl) (by kernel_rfl) (fun _ _ _ h => h) (Or.inl ⟨by kernel_rfl, ?_⟩) (by with_reducible assumption) ?_
        rotate_left
        · intro wz hSw
          (try dsimp only at hSw)
          go_simp
          (try with_reducible rfl)
        show wpAnyH _ _ _ _ _ _ _ (Act.put _ (some 8) _) _
        (try simp only [Act.put, List.setIfInBounds_toArray, List.set_cons_zero, List.set_cons_succ])
        refine wpAnyH_done (by kernel_rfl) ?_ _
        go_wp2_with fail
        go_meet
        case rel => exact ⟨X, rfl, rfl, SX.out, HB9.out⟩
    · clear hHeld
      go_simp
      have HB8 := Lib.hid (HY0.out.alloc HY0.out.size (.cells #[.int .u64 0, .int .u64 0, .int .u64 0, .int .u64 0] 24))
      have F_n := Lib.hid (heap_alloc_new Y0 (.cells #[.int .u64 0, .int .u64 0, .int .u64 0, .int .u64 0] 24))
      obtain ⟨X, eX⟩ : ∃ y, y = Y0.heap.size := ⟨_, rfl⟩
      go_wp2_with fail
      refine hK.out _ _ ?_ (fun hHeld => ?_)
      · exact HB8.out
      clear hK K
      (try simp only [Act.put, List.setIfInBounds_toArray, List.set_cons_zero, List.set_cons_succ])
      rw [← eX] at F_n ⊢
      have LX := Lib.hid (show Wa.heap.size ≤ X from by rw [eX]; exact HY0.out.size)
      clear eX
      generalize Y0.alloc (.cells #[.int .u64 0, .int .u64 0, .int .u64 0, .int .u64 0] 24) = Y8 at HB8 F_n hHeld ⊢
      refine wpAnyH_ready (rs := [2]) (by kernel_rfl) (by simp) ?_
      refine AllReadyH.cons rfl (fun K hK => ?_) AllReadyH.nil
      clear hHeld
      go_simp
      go_at_call 45
      refine (HA.out _ (HB0.out.trans (HB8.out.mono HB0.out.size))).mono ?_
      rintro e Y2 ⟨rfl, hb⟩
      have HB2 := Lib.hid (HB8.out.trans (hb.mono HB8.out.size))
      have F_2 := Lib.hid ((hb.block _ (hp_lt F_n.out)).trans F_n.out)
      clear hb
      go_wp2_with fail
      refine hK.out _ _ ?_ (fun hHeld => ?_)
      · exact HB2.out
      clear hK K
      (try simp only [Act.put, List.setIfInBounds_toArray, List.set_cons_zero, List.set_cons_succ])
      refine wpAnyH_ready (rs := [4]) (by kernel_rfl) (by simp) ?_
      refine AllReadyH.cons rfl (fun K hK => ?_) AllReadyH.nil
      clear hHeld
      go_simp
      go_at_call 47
      refine (HAd.out _).mono ?_
      rintro e Y4 ⟨rfl, hb⟩
      have HB4 := Lib.hid (HB2.out.trans (hb.mono HB2.out.size))
      have F_4 := Lib.hid ((hb.block _ (hp_lt F_2.out)).trans F_2.out)
      clear hb
      go_wp2_with fail
      refine hK.out _ _ ?_ (fun hHeld => ?_)
      · exact HB4.out
      clear hK K
      (try simp only [Act.put, List.setIfInBounds_toArray, List.set_cons_zero, List.set_cons_succ])
      refine wpAnyH_take (i := 5) (v := ?_) rfl (by kernel_rfl) (by kernel_rfl) (by kernel_rfl) (fun _ _ _ h => h) (Or.inl ⟨by kernel_rfl, ?_⟩) (by with_reducible assumption) ?_
      rotate_left
      · intro wz hSw
        (try dsimp only at hSw)
        go_simp
        (try with_reducible rfl)
      show wpAnyH _ _ _ _ _ _ _ (Act.put _ (some 9) _) _
      (try simp only [Act.put, List.setIfInBounds_toArray, List.set_cons_zero, List.set_cons_succ])
      refine wpAnyH_take (i := 6) (v := ?_) rfl (by kernel_rfl) (by kernel_rfl) (by kernel_rfl) (fun _ _ _ h => h) (Or.inl ⟨by kernel_rfl, ?_⟩) (by with_reducible assumption) ?_
      rotate_left
      · intro wz hSw
        (try dsimp only at hSw)
        go_simp
        (try with_reducible rfl)
      show wpAnyH _ _ _ _ _ _ _ (Act.put _ (some 15) _) _
      (try simp only [Act.put, List.setIfInBounds_toArray, List.set_cons_zero, List.set_cons_succ])
      refine wpAnyH_take (i := 7) (v := ?_) rfl (by kernel_rfl) (by kernel_rfl) (by kernel_rfl) (fun _ _ _ h => h) (Or.inl ⟨by kernel_rfl, ?_⟩) (by with_reducible assumption) ?_
      rotate_left
      · intro wz hSw
        (try dsimp only at hSw)
        go_simp
        (try with_reducible rfl)
      show wpAnyH _ _ _ _ _ _ _ (Act.put _ (some 16) _) _
      (try simp only [Act.put, List.setIfInBounds_toArray, List.set_cons_zero, List.set_cons_succ])
      refine wpAnyH_ready (rs := [9]) (by kernel_rfl) (by simp) ?_
      refine AllReadyH.cons rfl (fun K hK => ?_) AllReadyH.nil
      clear hHeld
      have c0 := (hp_cell (i := 0) F_4.out).trans rfl
      have g0 := hp_free (i := 0) F_4.out
      have c1 := (hp_cell (i := 1) F_4.out).trans rfl
      have g1 := hp_free (i := 1) F_4.out
      have c2 := (hp_cell (i := 2) F_4.out).trans rfl
      have g2 := hp_free (i := 2) F_4.out
      have c3 := (hp_cell (i := 3) F_4.out).trans rfl
      have g3 := hp_free (i := 3) F_4.out
      go_simp
      clear c0 c1 c2 c3 g0 g1 g2 g3
      have HB9 := Lib.hid (show Below Wa.heap.size Wa ((((Y4.setCell ⟨X, 0, none⟩ (.int .u64 (limb 0 0 : Nat))).setCell ⟨X, 1, none⟩ (.int .u64 (limb 0 1 : Nat))).setCell ⟨X, 2, none⟩ (.int .u64 (limb 0 2 : Nat))).setCell ⟨X, 3, none⟩ (.int .u64 (limb 0 3 : Nat))) from ((((HB4.out.setCell LX.out _).setCell LX.out _).setCell LX.out _).setCell LX.out _))
      have SX := Lib.hid (set4b (.int .u64 (limb 0 0 : Nat)) (.int .u64 (limb 0 1 : Nat)) (.int .u64 (limb 0 2 : Nat)) (.int .u64 (limb 0 3 : Nat)) F_4.out (rfl : ((((Y4.setCell ⟨X, 0, none⟩ (.int .u64 (limb 0 0 : Nat))).setCell ⟨X, 1, none⟩ (.int .u64 (limb 0 1 : Nat))).setCell ⟨X, 2, none⟩ (.int .u64 (limb 0 2 : Nat))).setCell ⟨X, 3, none⟩ (.int .u64 (limb 0 3 : Nat))) = _))
      go_wp2_with fail
      refine hK.out _ _ ?_ (fun hHeld => ?_)
      · exact HB9.out
      clear hK K
      (try simp only [Act.put, List.setIfInBounds_toArray, List.set_cons_zero, List.set_cons_succ])
      generalize (((Y4.setCell ⟨X, 0, none⟩ (.int .u64 (limb 0 0 : Nat))).setCell ⟨X, 1, none⟩ (.int .u64 (limb 0 1 : Nat))).setCell ⟨X, 2, none⟩ (.int .u64 (limb 0 2 : Nat))).setCell ⟨X, 3, none⟩ (.int .u64 (limb 0 3 : Nat)) = Y9 at HB9 SX hHeld ⊢
      refine wpAnyH_take (i := 10) (v := ?_) rfl (by kernel_rfl) (by kernel_rfl) (by kernel_rfl) (fun _ _ _ h => h) (Or.inl ⟨by kernel_rfl, ?_⟩) (by with_reducible assumption) ?_
      rotate_left
      · intro wz hSw
        (try dsimp only at hSw)
        go_simp
        (try with_reducible rfl)
      show wpAnyH _ _ _ _ _ _ _ (Act.put _ (some 8) _) _
      (try simp only [Act.put, List.setIfInBounds_toArray, List.set_cons_zero, List.set_cons_succ])
      refine wpAnyH_done (by kernel_rfl) ?_ _
      go_wp2_with fail
      go_meet
      case rel => exact ⟨X, rfl, rfl, SX.out, HB9.out⟩
  case rest =>
    obtain ⟨B, rfl, rfl, hB, hbc⟩ := hcut
    have HBc := Lib.hid (HB0.out.trans (hbc.mono HB0.out.size))
    have HBB := Lib.hid hB
    have c0 := (hp_cell (i := 0) hB).trans rfl
    have c1 := (hp_cell (i := 1) hB).trans rfl
    have c2 := (hp_cell (i := 2) hB).trans rfl
    have c3 := (hp_cell (i := 3) hB).trans rfl
    clear hB hbc
    go_wp2
    go_ret
    exact ⟨rfl, HD.out _ HBc.out⟩
set_option maxRecDepth 100000 in
set_option maxHeartbeats 4000000 in
theorem rmove_ok0 (w W : World) (m : Nat) (L : SL) (R : List Ch) (k1 k2 : ByteArray) (x a : Nat) (h : DS w W m L R) (hr : Rising (skeys L)) (hN : L.length < 900000) (he : amtAt L k1 x) (hx : x < 2 ^ 256) (ha : a < 2 ^ 256) (y : Nat) (hR : R.length < 900000) (hlt : a ≤ x) (hk : k1 ≠ k2) (hx0 : x = 0) (hy0 : y = 0) (ha0 : a = 0) (he2 : amtAt L k2 y) (hy : y < 2 ^ 256) (hle : y + a ≤ MOST) :
    Calls Tryz.prog 24 #[.pointer (some ⟨m, 0, none⟩), .string k1, .string k2, U a] W fun e W' => e = .returned (.int .i64 0) ∧ DSTo w W W' m (setA (setA L k1 (x - a)) k2 (y + a)) (setAR (setA L k1 (x - a)) (setAR L R k1 (x - a)) k2 (y + a)) := by
  have hb0 := (Below.refl W.heap.size W).alloc (Nat.le_refl _) (.cells #[.int .u64 (limb a 0 : Nat), .int .u64 (limb a 1 : Nat), .int .u64 (limb a 2 : Nat), .int .u64 (limb a 3 : Nat)] 24)
  have r0 := heap_alloc_new W (.cells #[.int .u64 (limb a 0 : Nat), .int .u64 (limb a 1 : Nat), .int .u64 (limb a 2 : Nat), .int .u64 (limb a 3 : Nat)] 24)
  have HB0 := Lib.hid hb0
  have hA := fun (W1 : World) (hb : Below W.heap.size W W1) => ramount_at w W1 m L R k1 x (h.below hb) hr (by omega) he hx
  have hSb := fun W1 => rsub_walk x a W1 hx ha
  unfold subv subk at hSb
  rw [if_pos hlt, decide_eq_true hlt] at hSb
  have q1 : (k1.toList == k2.toList) = false := by
    rw [beq_eq_false_iff_ne]
    intro e
    rw [Lib.toList_data, Lib.toList_data] at e
    exact hk (lit_inj (congrArg Lit.string e))
  have hv : y + a < 2 ^ 256 := Nat.lt_of_le_of_lt hle MOST_lt
  have hA2 := fun (W1 : World) (hb : Below W.heap.size W W1) => ramount_at w W1 m L R k2 y (h.below hb) hr (by omega) he2 hy
  have hAd := fun W1 => radd_walk y a W1 hy ha
  unfold addv addk at hAd
  rw [if_pos hv, decide_eq_true hv] at hAd
  obtain ⟨s, hs⟩ : ∃ s, s = x - a := ⟨_, rfl⟩
  obtain ⟨v, hv2⟩ : ∃ v, v = y + a := ⟨_, rfl⟩
  rw [← hs] at hSb ⊢
  rw [← hv2] at hAd hv hle ⊢
  have hs2 : s < 2 ^ 256 := by omega
  have HAm := Lib.hid (fun W => amount_cc v W true hv (decide_eq_true hle))
  have hl1 := setA_le L k1 s
  have hr1 := rising_setA hr k1 s
  have hR1 := setAR_le L R k1 s
  have hS1 := fun (W1 : World) (hb : Below W.heap.size W W1) => rsetAmount_del w W1 m L R k1 s (h.below hb) hr (by omega) (by omega) hs2 (by omega)
  have hS2 := fun (W1 : World) (hd : DS w W1 m (setA L k1 s) (setAR L R k1 s)) => rsetAmount_del w W1 m _ _ k2 v hd hr1 (by omega) (by omega) hv (by omega)
  have HPr := Lib.hid (fun (W1 W2 W3 : World) (hb : Below W.heap.size W W1) (h4 : DSTo w W1 W2 m (setA L k1 s) (setAR L R k1 s)) (h5 : DSTo w W2 W3 m (setA (setA L k1 s) k2 v) (setAR (setA L k1 s) (setAR L R k1 s) k2 v)) => (DSTo.pre h hb h4).trans h5)
  unfold U at hA2 hAd hS1 hS2
  have HA2 := Lib.hid hA2
  have HAd := Lib.hid hAd
  have HS1 := Lib.hid hS1
  have HS2 := Lib.hid hS2
  unfold U at hA hSb
  have HA := Lib.hid hA
  have HSb := Lib.hid hSb
  have HR0 := Lib.hid r0
  clear h hr hN he hx ha hb0 r0 hA hSb hlt hk hx0 hy0 ha0 he2 hy hle hv hA2 hAd hs hv2 hs2 hl1 hr1 hR1 hR hS1 hS2
  unfold U
  go_enter Tryz.func24, Tryz.ntmps24
  go_upto_region 1 with fail
  obtain ⟨XB, hXB⟩ : ∃ XB, XB = W.heap.size := ⟨_, rfl⟩
  rw [← hXB] at HR0 ⊢
  have HBx := Lib.hid HR0.out
  have LB := Lib.hid (hp_lt HR0.out)
  clear hXB HR0
  generalize W.alloc (.cells #[.int .u64 (limb a 0 : Nat), .int .u64 (limb a 1 : Nat), .int .u64 (limb a 2 : Nat), .int .u64 (limb a 3 : Nat)] 24) = Wa at HB0 HBx LB ⊢
  go_cut [9, 10] (fun p q wx => ∃ B, p = .pointer (some ⟨B, 0, none⟩) ∧ q = .bool true ∧ wx.heap[B]? = some (.cells #[.int .u64 (limb s 0 : Nat), .int .u64 (limb s 1 : Nat), .int .u64 (limb s 2 : Nat), .int .u64 (limb s 3 : Nat)] 24 (0, 0)) ∧ Below Wa.heap.size Wa wx)
  case first =>
    refine wp_region_held_drew (S := fun w' => Below Wa.heap.size Wa w') (by kernel_rfl) ?_ (fun hHeld => ?_)
    · exact (Below.refl _ _).drew
    have HY0 := Lib.hid (show Below Wa.heap.size Wa Wa.drew from (Below.refl _ _).drew)
    generalize Wa.drew = Y0 at HY0 hHeld ⊢
    refine wpAnyH_take (i := 0) (v := ?_) rfl (by kernel_rfl) (by kernel_rfl) (by kernel_rfl) (fun _ _ _ h => h) (Or.inl ⟨by kernel_rfl, ?_⟩) (by with_reducible assumption) ?_
    rotate_left
    · intro wz hSw
      (try dsimp only at hSw)
      go_simp
      (try with_reducible rfl)
    show wpAnyH _ _ _ _ _ _ _ (Act.put _ (some 14) _) _
    (try simp only [Act.put, List.setIfInBounds_toArray, List.set_cons_zero, List.set_cons_succ])
    refine wpAnyH_take (i := 1) (v := ?_) rfl (by kernel_rfl) (by kernel_rfl) (by kernel_rfl) (fun _ _ _ h => h) (Or.inl ⟨by kernel_rfl, ?_⟩) (by with_reducible assumption) ?_
    rotate_left
    · intro wz hSw
      (try dsimp only at hSw)
      go_simp
      (try with_reducible rfl)
    show wpAnyH _ _ _ _ _ _ _ (Act.put _ (some 15) _) _
    (try simp only [Act.put, List.setIfInBounds_toArray, List.set_cons_zero, List.set_cons_succ])
    refine wpAnyH_take (i := 3) (v := .agg #[.int .u64 (limb a 0 : Nat), .int .u64 (limb a 1 : Nat), .int .u64 (limb a 2 : Nat), .int .u64 (limb a 3 : Nat)]) rfl (by kernel_rfl) (by kernel_rfl) (by kernel_rfl) (fun _ _ _ h => h) (Or.inl ⟨by kernel_rfl, ?_⟩) (by with_reducible assumption) ?_
    · intro wz hSw
      (try dsimp only at hSw)
      have z0 := (hSw.cell (p := ⟨XB, 0, none⟩) LB.out).trans ((hp_cell (i := 0) HBx.out).trans rfl)
      have z1 := (hSw.cell (p := ⟨XB, 1, none⟩) LB.out).trans ((hp_cell (i := 1) HBx.out).trans rfl)
      have z2 := (hSw.cell (p := ⟨XB, 2, none⟩) LB.out).trans ((hp_cell (i := 2) HBx.out).trans rfl)
      have z3 := (hSw.cell (p := ⟨XB, 3, none⟩) LB.out).trans ((hp_cell (i := 3) HBx.out).trans rfl)
      go_simp
      (try with_reducible rfl)
    show wpAnyH _ _ _ _ _ _ _ (Act.put _ (some 17) _) _
    (try simp only [Act.put, List.setIfInBounds_toArray, List.set_cons_zero, List.set_cons_succ])
    refine wpAnyH_ready (rs := [2, 8]) (by kernel_rfl) (by simp) ?_
    refine AllReadyH.cons rfl (fun K hK => ?_) (AllReadyH.cons rfl (fun K hK => ?_) AllReadyH.nil)
    · clear hHeld
      go_simp
      go_at_call 45
      refine (HA.out _ (HB0.out.trans (HY0.out.mono HB0.out.size))).mono ?_
      rintro e Y2 ⟨rfl, hb⟩
      have HB2 := Lib.hid (HY0.out.trans (hb.mono HY0.out.size))
      clear hb
      go_wp2_with fail
      refine hK.out _ _ ?_ (fun hHeld => ?_)
      · exact HB2.out
      clear hK K
      (try simp only [Act.put, List.setIfInBounds_toArray, List.set_cons_zero, List.set_cons_succ])
      refine wpAnyH_ready (rs := [4, 8]) (by kernel_rfl) (by simp) ?_
      refine AllReadyH.cons rfl (fun K hK => ?_) (AllReadyH.cons rfl (fun K hK => ?_) AllReadyH.nil)
      · clear hHeld
        go_simp
        go_at_call 47
        refine (HSb.out _).mono ?_
        rintro e Y4 ⟨rfl, hb⟩
        have HB4 := Lib.hid (HB2.out.trans (hb.mono HB2.out.size))
        clear hb
        go_wp2_with fail
        refine hK.out _ _ ?_ (fun hHeld => ?_)
        · exact HB4.out
        clear hK K
        (try simp only [Act.put, List.setIfInBounds_toArray, List.set_cons_zero, List.set_cons_succ])
        refine wpAnyH_take (i := 5) (v := ?_) rfl (by kernel_rfl) (by kernel_rfl) (by kernel_rfl) (fun _ _ _ h => h) (Or.inl ⟨by kernel_rfl, ?_⟩) (by with_reducible assumption) ?_
        rotate_left
        · intro wz hSw
          (try dsimp only at hSw)
          go_simp
          (try with_reducible rfl)
        show wpAnyH _ _ _ _ _ _ _ (Act.put _ (some 13) _) _
        (try simp only [Act.put, List.setIfInBounds_toArray, List.set_cons_zero, List.set_cons_succ])
        refine wpAnyH_take (i := 6) (v := ?_) rfl (by kernel_rfl) (by kernel_rfl) (by kernel_rfl) (fun _ _ _ h => h) (Or.inl ⟨by kernel_rfl, ?_⟩) (by with_reducible assumption) ?_
        rotate_left
        · intro wz hSw
          (try dsimp only at hSw)
          go_simp
          (try with_reducible rfl)
        show wpAnyH _ _ _ _ _ _ _ (Act.put _ (some 19) _) _
        (try simp only [Act.put, List.setIfInBounds_toArray, List.set_cons_zero, List.set_cons_succ])
        refine wpAnyH_take (i := 7) (v := ?_) rfl (by kernel_rfl) (by kernel_rfl) (by kernel_rfl) (fun _ _ _ h => h) (Or.inl ⟨by kernel_rfl, ?_⟩) (by with_reducible assumption) ?_
        rotate_left
        · intro wz hSw
          (try dsimp only at hSw)
          go_simp
          (try with_reducible rfl)
        show wpAnyH _ _ _ _ _ _ _ (Act.put _ (some 20) _) _
        (try simp only [Act.put, List.setIfInBounds_toArray, List.set_cons_zero, List.set_cons_succ])
        refine wpAnyH_ready (rs := [8]) (by kernel_rfl) (by simp) ?_
        refine AllReadyH.cons rfl (fun K hK => ?_) AllReadyH.nil
        clear hHeld
        go_simp
        have HB8 := Lib.hid (HB4.out.alloc HB4.out.size (.cells #[.int .u64 0, .int .u64 0, .int .u64 0, .int .u64 0] 24))
        have F_n := Lib.hid (heap_alloc_new Y4 (.cells #[.int .u64 0, .int .u64 0, .int .u64 0, .int .u64 0] 24))
        obtain ⟨X, eX⟩ : ∃ y, y = Y4.heap.size := ⟨_, rfl⟩
        go_wp2_with fail
        refine hK.out _ _ ?_ (fun hHeld => ?_)
        · exact HB8.out
        clear hK K
        (try simp only [Act.put, List.setIfInBounds_toArray, List.set_cons_zero, List.set_cons_succ])
        rw [← eX] at F_n ⊢
        have LX := Lib.hid (show Wa.heap.size ≤ X from by rw [eX]; exact HB4.out.size)
        clear eX
        generalize Y4.alloc (.cells #[.int .u64 0, .int .u64 0, .int .u64 0, .int .u64 0] 24) = Y8 at HB8 F_n hHeld ⊢
        refine wpAnyH_ready (rs := [9]) (by kernel_rfl) (by simp) ?_
        refine AllReadyH.cons rfl (fun K hK => ?_) AllReadyH.nil
        clear hHeld
        have c0 := (hp_cell (i := 0) F_n.out).trans rfl
        have g0 := hp_free (i := 0) F_n.out
        have c1 := (hp_cell (i := 1) F_n.out).trans rfl
        have g1 := hp_free (i := 1) F_n.out
        have c2 := (hp_cell (i := 2) F_n.out).trans rfl
        have g2 := hp_free (i := 2) F_n.out
        have c3 := (hp_cell (i := 3) F_n.out).trans rfl
        have g3 := hp_free (i := 3) F_n.out
        go_simp
        clear c0 c1 c2 c3 g0 g1 g2 g3
        have HB9 := Lib.hid (show Below Wa.heap.size Wa ((((Y8.setCell ⟨X, 0, none⟩ (.int .u64 (limb s 0 : Nat))).setCell ⟨X, 1, none⟩ (.int .u64 (limb s 1 : Nat))).setCell ⟨X, 2, none⟩ (.int .u64 (limb s 2 : Nat))).setCell ⟨X, 3, none⟩ (.int .u64 (limb s 3 : Nat))) from ((((HB8.out.setCell LX.out _).setCell LX.out _).setCell LX.out _).setCell LX.out _))
        have SX := Lib.hid (set4b (.int .u64 (limb s 0 : Nat)) (.int .u64 (limb s 1 : Nat)) (.int .u64 (limb s 2 : Nat)) (.int .u64 (limb s 3 : Nat)) F_n.out (rfl : ((((Y8.setCell ⟨X, 0, none⟩ (.int .u64 (limb s 0 : Nat))).setCell ⟨X, 1, none⟩ (.int .u64 (limb s 1 : Nat))).setCell ⟨X, 2, none⟩ (.int .u64 (limb s 2 : Nat))).setCell ⟨X, 3, none⟩ (.int .u64 (limb s 3 : Nat))) = _))
        go_wp2_with fail
        refine hK.out _ _ ?_ (fun hHeld => ?_)
        · exact HB9.out
        clear hK K
        (try simp only [Act.put, List.setIfInBounds_toArray, List.set_cons_zero, List.set_cons_succ])
        generalize (((Y8.setCell ⟨X, 0, none⟩ (.int .u64 (limb s 0 : Nat))).setCell ⟨X, 1, none⟩ (.int .u64 (limb s 1 : Nat))).setCell ⟨X, 2, none⟩ (.int .u64 (limb s 2 : Nat))).setCell ⟨X, 3, none⟩ (.int .u64 (limb s 3 : Nat)) = Y9 at HB9 SX hHeld ⊢
        refine wpAnyH_take (i := 10) (v := ?_) rfl (by kernel_rfl) (by kernel_rfl) (by kernel_rfl) (fun _ _ _ h => h) (Or.inl ⟨by kernel_rfl, ?_⟩) (by with_reducible assumption) ?_
        rotate_left
        · intro wz hSw
          (try dsimp only at hSw)
          go_simp
          (try with_reducible rfl)
        show wpAnyH _ _ _ _ _ _ _ (Act.put _ (some 10) _) _
        (try simp only [Act.put, List.setIfInBounds_toArray, List.set_cons_zero, List.set_cons_succ])
        refine wpAnyH_done (by kernel_rfl) ?_ _
        go_wp2_with fail
        go_meet
        case rel => exact ⟨X, rfl, rfl, SX.out, HB9.out⟩
      · clear hHeld
        go_simp
        have HB8 := Lib.hid (HB2.out.alloc HB2.out.size (.cells #[.int .u64 0, .int .u64 0, .int .u64 0, .int .u64 0] 24))
        have F_n := Lib.hid (heap_alloc_new Y2 (.cells #[.int .u64 0, .int .u64 0, .int .u64 0, .int .u64 0] 24))
        obtain ⟨X, eX⟩ : ∃ y, y = Y2.heap.size := ⟨_, rfl⟩
        go_wp2_with fail
        refine hK.out _ _ ?_ (fun hHeld => ?_)
        · exact HB8.out
        clear hK K
        (try simp only [Act.put, List.setIfInBounds_toArray, List.set_cons_zero, List.set_cons_succ])
        rw [← eX] at F_n ⊢
        have LX := Lib.hid (show Wa.heap.size ≤ X from by rw [eX]; exact HB2.out.size)
        clear eX
        generalize Y2.alloc (.cells #[.int .u64 0, .int .u64 0, .int .u64 0, .int .u64 0] 24) = Y8 at HB8 F_n hHeld ⊢
        refine wpAnyH_ready (rs := [4]) (by kernel_rfl) (by simp) ?_
        refine AllReadyH.cons rfl (fun K hK => ?_) AllReadyH.nil
        clear hHeld
        go_simp
        go_at_call 47
        refine (HSb.out _).mono ?_
        rintro e Y4 ⟨rfl, hb⟩
        have HB4 := Lib.hid (HB8.out.trans (hb.mono HB8.out.size))
        have F_4 := Lib.hid ((hb.block _ (hp_lt F_n.out)).trans F_n.out)
        clear hb
        go_wp2_with fail
        refine hK.out _ _ ?_ (fun hHeld => ?_)
        · exact HB4.out
        clear hK K
        (try simp only [Act.put, List.setIfInBounds_toArray, List.set_cons_zero, List.set_cons_succ])
        refine wpAnyH_take (i := 5) (v := ?_) rfl (by kernel_rfl) (by kernel_rfl) (by kernel_rfl) (fun _ _ _ h => h) (Or.inl ⟨by kernel_rfl, ?_⟩) (by with_reducible assumption) ?_
        rotate_left
        · intro wz hSw
          (try dsimp only at hSw)
          go_simp
          (try with_reducible rfl)
        show wpAnyH _ _ _ _ _ _ _ (Act.put _ (some 13) _) _
        (try simp only [Act.put, List.setIfInBounds_toArray, List.set_cons_zero, List.set_cons_succ])
        refine wpAnyH_take (i := 6) (v := ?_) rfl (by kernel_rfl) (by kernel_rfl) (by kernel_rfl) (fun _ _ _ h => h) (Or.inl ⟨by kernel_rfl, ?_⟩) (by with_reducible assumption) ?_
        rotate_left
        · intro wz hSw
          (try dsimp only at hSw)
          go_simp
          (try with_reducible rfl)
        show wpAnyH _ _ _ _ _ _ _ (Act.put _ (some 19) _) _
        (try simp only [Act.put, List.setIfInBounds_toArray, List.set_cons_zero, List.set_cons_succ])
        refine wpAnyH_take (i := 7) (v := ?_) rfl (by kernel_rfl) (by kernel_rfl) (by kernel_rfl) (fun _ _ _ h => h) (Or.inl ⟨by kernel_rfl, ?_⟩) (by with_reducible assumption) ?_
        rotate_left
        · intro wz hSw
          (try dsimp only at hSw)
          go_simp
          (try with_reducible rfl)
        show wpAnyH _ _ _ _ _ _ _ (Act.put _ (some 20) _) _
        (try simp only [Act.put, List.setIfInBounds_toArray, List.set_cons_zero, List.set_cons_succ])
        refine wpAnyH_ready (rs := [9]) (by kernel_rfl) (by simp) ?_
        refine AllReadyH.cons rfl (fun K hK => ?_) AllReadyH.nil
        clear hHeld
        have c0 := (hp_cell (i := 0) F_4.out).trans rfl
        have g0 := hp_free (i := 0) F_4.out
        have c1 := (hp_cell (i := 1) F_4.out).trans rfl
        have g1 := hp_free (i := 1) F_4.out
        have c2 := (hp_cell (i := 2) F_4.out).trans rfl
        have g2 := hp_free (i := 2) F_4.out
        have c3 := (hp_cell (i := 3) F_4.out).trans rfl
        have g3 := hp_free (i := 3) F_4.out
        go_simp
        clear c0 c1 c2 c3 g0 g1 g2 g3
        have HB9 := Lib.hid (show Below Wa.heap.size Wa ((((Y4.setCell ⟨X, 0, none⟩ (.int .u64 (limb s 0 : Nat))).setCell ⟨X, 1, none⟩ (.int .u64 (limb s 1 : Nat))).setCell ⟨X, 2, none⟩ (.int .u64 (limb s 2 : Nat))).setCell ⟨X, 3, none⟩ (.int .u64 (limb s 3 : Nat))) from ((((HB4.out.setCell LX.out _).setCell LX.out _).setCell LX.out _).setCell LX.out _))
        have SX := Lib.hid (set4b (.int .u64 (limb s 0 : Nat)) (.int .u64 (limb s 1 : Nat)) (.int .u64 (limb s 2 : Nat)) (.int .u64 (limb s 3 : Nat)) F_4.out (rfl : ((((Y4.setCell ⟨X, 0, none⟩ (.int .u64 (limb s 0 : Nat))).setCell ⟨X, 1, none⟩ (.int .u64 (limb s 1 : Nat))).setCell ⟨X, 2, none⟩ (.int .u64 (limb s 2 : Nat))).setCell ⟨X, 3, none⟩ (.int .u64 (limb s 3 : Nat))) = _))
        go_wp2_with fail
        refine hK.out _ _ ?_ (fun hHeld => ?_)
        · exact HB9.out
        clear hK K
        (try simp only [Act.put, List.setIfInBounds_toArray, List.set_cons_zero, List.set_cons_succ])
        generalize (((Y4.setCell ⟨X, 0, none⟩ (.int .u64 (limb s 0 : Nat))).setCell ⟨X, 1, none⟩ (.int .u64 (limb s 1 : Nat))).setCell ⟨X, 2, none⟩ (.int .u64 (limb s 2 : Nat))).setCell ⟨X, 3, none⟩ (.int .u64 (limb s 3 : Nat)) = Y9 at HB9 SX hHeld ⊢
        refine wpAnyH_take (i := 10) (v := ?_) rfl (by kernel_rfl) (by kernel_rfl) (by kernel_rfl) (fun _ _ _ h => h) (Or.inl ⟨by kernel_rfl, ?_⟩) (by with_reducible assumption) ?_
        rotate_left
        · intro wz hSw
          (try dsimp only at hSw)
          go_simp
          (try with_reducible rfl)
        show wpAnyH _ _ _ _ _ _ _ (Act.put _ (some 10) _) _
        (try simp only [Act.put, List.setIfInBounds_toArray, List.set_cons_zero, List.set_cons_succ])
        refine wpAnyH_done (by kernel_rfl) ?_ _
        go_wp2_with fail
        go_meet
        case rel => exact ⟨X, rfl, rfl, SX.out, HB9.out⟩
    · clear hHeld
      go_simp
      have HB8 := Lib.hid (HY0.out.alloc HY0.out.size (.cells #[.int .u64 0, .int .u64 0, .int .u64 0, .int .u64 0] 24))
      have F_n := Lib.hid (heap_alloc_new Y0 (.cells #[.int .u64 0, .int .u64 0, .int .u64 0, .int .u64 0] 24))
      obtain ⟨X, eX⟩ : ∃ y, y = Y0.heap.size := ⟨_, rfl⟩
      go_wp2_with fail
      refine hK.out _ _ ?_ (fun hHeld => ?_)
      · exact HB8.out
      clear hK K
      (try simp only [Act.put, List.setIfInBounds_toArray, List.set_cons_zero, List.set_cons_succ])
      rw [← eX] at F_n ⊢
      have LX := Lib.hid (show Wa.heap.size ≤ X from by rw [eX]; exact HY0.out.size)
      clear eX
      generalize Y0.alloc (.cells #[.int .u64 0, .int .u64 0, .int .u64 0, .int .u64 0] 24) = Y8 at HB8 F_n hHeld ⊢
      refine wpAnyH_ready (rs := [2]) (by kernel_rfl) (by simp) ?_
      refine AllReadyH.cons rfl (fun K hK => ?_) AllReadyH.nil
      clear hHeld
      go_simp
      go_at_call 45
      refine (HA.out _ (HB0.out.trans (HB8.out.mono HB0.out.size))).mono ?_
      rintro e Y2 ⟨rfl, hb⟩
      have HB2 := Lib.hid (HB8.out.trans (hb.mono HB8.out.size))
      have F_2 := Lib.hid ((hb.block _ (hp_lt F_n.out)).trans F_n.out)
      clear hb
      go_wp2_with fail
      refine hK.out _ _ ?_ (fun hHeld => ?_)
      · exact HB2.out
      clear hK K
      (try simp only [Act.put, List.setIfInBounds_toArray, List.set_cons_zero, List.set_cons_succ])
      refine wpAnyH_ready (rs := [4]) (by kernel_rfl) (by simp) ?_
      refine AllReadyH.cons rfl (fun K hK => ?_) AllReadyH.nil
      clear hHeld
      go_simp
      go_at_call 47
      refine (HSb.out _).mono ?_
      rintro e Y4 ⟨rfl, hb⟩
      have HB4 := Lib.hid (HB2.out.trans (hb.mono HB2.out.size))
      have F_4 := Lib.hid ((hb.block _ (hp_lt F_2.out)).trans F_2.out)
      clear hb
      go_wp2_with fail
      refine hK.out _ _ ?_ (fun hHeld => ?_)
      · exact HB4.out
      clear hK K
      (try simp only [Act.put, List.setIfInBounds_toArray, List.set_cons_zero, List.set_cons_succ])
      refine wpAnyH_take (i := 5) (v := ?_) rfl (by kernel_rfl) (by kernel_rfl) (by kernel_rfl) (fun _ _ _ h => h) (Or.inl ⟨by kernel_rfl, ?_⟩) (by with_reducible assumption) ?_
      rotate_left
      · intro wz hSw
        (try dsimp only at hSw)
        go_simp
        (try with_reducible rfl)
      show wpAnyH _ _ _ _ _ _ _ (Act.put _ (some 13) _) _
      (try simp only [Act.put, List.setIfInBounds_toArray, List.set_cons_zero, List.set_cons_succ])
      refine wpAnyH_take (i := 6) (v := ?_) rfl (by kernel_rfl) (by kernel_rfl) (by kernel_rfl) (fun _ _ _ h => h) (Or.inl ⟨by kernel_rfl, ?_⟩) (by with_reducible assumption) ?_
      rotate_left
      · intro wz hSw
        (try dsimp only at hSw)
        go_simp
        (try with_reducible rfl)
      show wpAnyH _ _ _ _ _ _ _ (Act.put _ (some 19) _) _
      (try simp only [Act.put, List.setIfInBounds_toArray, List.set_cons_zero, List.set_cons_succ])
      refine wpAnyH_take (i := 7) (v := ?_) rfl (by kernel_rfl) (by kernel_rfl) (by kernel_rfl) (fun _ _ _ h => h) (Or.inl ⟨by kernel_rfl, ?_⟩) (by with_reducible assumption) ?_
      rotate_left
      · intro wz hSw
        (try dsimp only at hSw)
        go_simp
        (try with_reducible rfl)
      show wpAnyH _ _ _ _ _ _ _ (Act.put _ (some 20) _) _
      (try simp only [Act.put, List.setIfInBounds_toArray, List.set_cons_zero, List.set_cons_succ])
      refine wpAnyH_ready (rs := [9]) (by kernel_rfl) (by simp) ?_
      refine AllReadyH.cons rfl (fun K hK => ?_) AllReadyH.nil
      clear hHeld
      have c0 := (hp_cell (i := 0) F_4.out).trans rfl
      have g0 := hp_free (i := 0) F_4.out
      have c1 := (hp_cell (i := 1) F_4.out).trans rfl
      have g1 := hp_free (i := 1) F_4.out
      have c2 := (hp_cell (i := 2) F_4.out).trans rfl
      have g2 := hp_free (i := 2) F_4.out
      have c3 := (hp_cell (i := 3) F_4.out).trans rfl
      have g3 := hp_free (i := 3) F_4.out
      go_simp
      clear c0 c1 c2 c3 g0 g1 g2 g3
      have HB9 := Lib.hid (show Below Wa.heap.size Wa ((((Y4.setCell ⟨X, 0, none⟩ (.int .u64 (limb s 0 : Nat))).setCell ⟨X, 1, none⟩ (.int .u64 (limb s 1 : Nat))).setCell ⟨X, 2, none⟩ (.int .u64 (limb s 2 : Nat))).setCell ⟨X, 3, none⟩ (.int .u64 (limb s 3 : Nat))) from ((((HB4.out.setCell LX.out _).setCell LX.out _).setCell LX.out _).setCell LX.out _))
      have SX := Lib.hid (set4b (.int .u64 (limb s 0 : Nat)) (.int .u64 (limb s 1 : Nat)) (.int .u64 (limb s 2 : Nat)) (.int .u64 (limb s 3 : Nat)) F_4.out (rfl : ((((Y4.setCell ⟨X, 0, none⟩ (.int .u64 (limb s 0 : Nat))).setCell ⟨X, 1, none⟩ (.int .u64 (limb s 1 : Nat))).setCell ⟨X, 2, none⟩ (.int .u64 (limb s 2 : Nat))).setCell ⟨X, 3, none⟩ (.int .u64 (limb s 3 : Nat))) = _))
      go_wp2_with fail
      refine hK.out _ _ ?_ (fun hHeld => ?_)
      · exact HB9.out
      clear hK K
      (try simp only [Act.put, List.setIfInBounds_toArray, List.set_cons_zero, List.set_cons_succ])
      generalize (((Y4.setCell ⟨X, 0, none⟩ (.int .u64 (limb s 0 : Nat))).setCell ⟨X, 1, none⟩ (.int .u64 (limb s 1 : Nat))).setCell ⟨X, 2, none⟩ (.int .u64 (limb s 2 : Nat))).setCell ⟨X, 3, none⟩ (.int .u64 (limb s 3 : Nat)) = Y9 at HB9 SX hHeld ⊢
      refine wpAnyH_take (i := 10) (v := ?_) rfl (by kernel_rfl) (by kernel_rfl) (by kernel_rfl) (fun _ _ _ h => h) (Or.inl ⟨by kernel_rfl, ?_⟩) (by with_reducible assumption) ?_
      rotate_left
      · intro wz hSw
        (try dsimp only at hSw)
        go_simp
        (try with_reducible rfl)
      show wpAnyH _ _ _ _ _ _ _ (Act.put _ (some 10) _) _
      (try simp only [Act.put, List.setIfInBounds_toArray, List.set_cons_zero, List.set_cons_succ])
      refine wpAnyH_done (by kernel_rfl) ?_ _
      go_wp2_with fail
      go_meet
      case rel => exact ⟨X, rfl, rfl, SX.out, HB9.out⟩
  case rest =>
    obtain ⟨B1, rfl, rfl, hB1, hbc⟩ := hcut
    obtain ⟨Wb, hWb⟩ : ∃ Wb, Wb = wc := ⟨_, rfl⟩
    subst hWb
    have HBc := Lib.hid (HB0.out.trans (hbc.mono HB0.out.size))
    have HBx2 := Lib.hid ((hbc.block _ LB.out).trans HBx.out)
    have LB2 := Lib.hid (hp_lt HBx2.out)
    have HB1 := Lib.hid hB1
    clear hB1 hbc
    go_upto_region 6 with fail
    go_cut [11, 12] (fun p q wx => ∃ B, p = .pointer (some ⟨B, 0, none⟩) ∧ q = .bool true ∧ wx.heap[B]? = some (.cells #[.int .u64 (limb v 0 : Nat), .int .u64 (limb v 1 : Nat), .int .u64 (limb v 2 : Nat), .int .u64 (limb v 3 : Nat)] 24 (0, 0)) ∧ Below Wb.heap.size Wb wx)
    case first =>
      refine wp_region_held_drew (S := fun w' => Below Wb.heap.size Wb w') (by kernel_rfl) ?_ (fun hHeld => ?_)
      · exact (Below.refl _ _).drew
      have HY0 := Lib.hid (show Below Wb.heap.size Wb Wb.drew from (Below.refl _ _).drew)
      generalize Wb.drew = Y0 at HY0 hHeld ⊢
      refine wpAnyH_take (i := 0) (v := ?_) rfl (by kernel_rfl) (by kernel_rfl) (by kernel_rfl) (fun _ _ _ h => h) (Or.inl ⟨by kernel_rfl, ?_⟩) (by with_reducible assumption) ?_
      rotate_left
      · intro wz hSw
        (try dsimp only at hSw)
        go_simp
        (try with_reducible rfl)
      show wpAnyH _ _ _ _ _ _ _ (Act.put _ (some 27) _) _
      (try simp only [Act.put, List.setIfInBounds_toArray, List.set_cons_zero, List.set_cons_succ])
      refine wpAnyH_take (i := 1) (v := ?_) rfl (by kernel_rfl) (by kernel_rfl) (by kernel_rfl) (fun _ _ _ h => h) (Or.inl ⟨by kernel_rfl, ?_⟩) (by with_reducible assumption) ?_
      rotate_left
      · intro wz hSw
        (try dsimp only at hSw)
        go_simp
        (try with_reducible rfl)
      show wpAnyH _ _ _ _ _ _ _ (Act.put _ (some 28) _) _
      (try simp only [Act.put, List.setIfInBounds_toArray, List.set_cons_zero, List.set_cons_succ])
      refine wpAnyH_take (i := 3) (v := .agg #[.int .u64 (limb a 0 : Nat), .int .u64 (limb a 1 : Nat), .int .u64 (limb a 2 : Nat), .int .u64 (limb a 3 : Nat)]) rfl (by kernel_rfl) (by kernel_rfl) (by kernel_rfl) (fun _ _ _ h => h) (Or.inl ⟨by kernel_rfl, ?_⟩) (by with_reducible assumption) ?_
      · intro wz hSw
        (try dsimp only at hSw)
        have z0 := (hSw.cell (p := ⟨XB, 0, none⟩) LB2.out).trans ((hp_cell (i := 0) HBx2.out).trans rfl)
        have z1 := (hSw.cell (p := ⟨XB, 1, none⟩) LB2.out).trans ((hp_cell (i := 1) HBx2.out).trans rfl)
        have z2 := (hSw.cell (p := ⟨XB, 2, none⟩) LB2.out).trans ((hp_cell (i := 2) HBx2.out).trans rfl)
        have z3 := (hSw.cell (p := ⟨XB, 3, none⟩) LB2.out).trans ((hp_cell (i := 3) HBx2.out).trans rfl)
        go_simp
        (try with_reducible rfl)
      show wpAnyH _ _ _ _ _ _ _ (Act.put _ (some 30) _) _
      (try simp only [Act.put, List.setIfInBounds_toArray, List.set_cons_zero, List.set_cons_succ])
      refine wpAnyH_ready (rs := [2, 8]) (by kernel_rfl) (by simp) ?_
      refine AllReadyH.cons rfl (fun K hK => ?_) (AllReadyH.cons rfl (fun K hK => ?_) AllReadyH.nil)
      · clear hHeld
        go_simp
        go_at_call 45
        refine (HA2.out _ (HBc.out.trans (HY0.out.mono HBc.out.size))).mono ?_
        rintro e Y2 ⟨rfl, hb⟩
        have HB2 := Lib.hid (HY0.out.trans (hb.mono HY0.out.size))
        clear hb
        go_wp2_with fail
        refine hK.out _ _ ?_ (fun hHeld => ?_)
        · exact HB2.out
        clear hK K
        (try simp only [Act.put, List.setIfInBounds_toArray, List.set_cons_zero, List.set_cons_succ])
        refine wpAnyH_ready (rs := [4, 8]) (by kernel_rfl) (by simp) ?_
        refine AllReadyH.cons rfl (fun K hK => ?_) (AllReadyH.cons rfl (fun K hK => ?_) AllReadyH.nil)
        · clear hHeld
          go_simp
          go_at_call 44
          refine (HAd.out _).mono ?_
          rintro e Y4 ⟨rfl, hb⟩
          have HB4 := Lib.hid (HB2.out.trans (hb.mono HB2.out.size))
          clear hb
          go_wp2_with fail
          refine hK.out _ _ ?_ (fun hHeld => ?_)
          · exact HB4.out
          clear hK K
          (try simp only [Act.put, List.setIfInBounds_toArray, List.set_cons_zero, List.set_cons_succ])
          refine wpAnyH_take (i := 5) (v := ?_) rfl (by kernel_rfl) (by kernel_rfl) (by kernel_rfl) (fun _ _ _ h => h) (Or.inl ⟨by kernel_rfl, ?_⟩) (by with_reducible assumption) ?_
          rotate_left
          · intro wz hSw
            (try dsimp only at hSw)
            go_simp
            (try with_reducible rfl)
          show wpAnyH _ _ _ _ _ _ _ (Act.put _ (some 26) _) _
          (try simp only [Act.put, List.setIfInBounds_toArray, List.set_cons_zero, List.set_cons_succ])
          refine wpAnyH_take (i := 6) (v := ?_) rfl (by kernel_rfl) (by kernel_rfl) (by kernel_rfl) (fun _ _ _ h => h) (Or.inl ⟨by kernel_rfl, ?_⟩) (by with_reducible assumption) ?_
          rotate_left
          · intro wz hSw
            (try dsimp only at hSw)
            go_simp
            (try with_reducible rfl)
          show wpAnyH _ _ _ _ _ _ _ (Act.put _ (some 32) _) _
          (try simp only [Act.put, List.setIfInBounds_toArray, List.set_cons_zero, List.set_cons_succ])
          refine wpAnyH_take (i := 7) (v := ?_) rfl (by kernel_rfl) (by kernel_rfl) (by kernel_rfl) (fun _ _ _ h => h) (Or.inl ⟨by kernel_rfl, ?_⟩) (by with_reducible assumption) ?_
          rotate_left
          · intro wz hSw
            (try dsimp only at hSw)
            go_simp
            (try with_reducible rfl)
          show wpAnyH _ _ _ _ _ _ _ (Act.put _ (some 33) _) _
          (try simp only [Act.put, List.setIfInBounds_toArray, List.set_cons_zero, List.set_cons_succ])
          refine wpAnyH_ready (rs := [8]) (by kernel_rfl) (by simp) ?_
          refine AllReadyH.cons rfl (fun K hK => ?_) AllReadyH.nil
          clear hHeld
          go_simp
          have HB8 := Lib.hid (HB4.out.alloc HB4.out.size (.cells #[.int .u64 0, .int .u64 0, .int .u64 0, .int .u64 0] 24))
          have F_n := Lib.hid (heap_alloc_new Y4 (.cells #[.int .u64 0, .int .u64 0, .int .u64 0, .int .u64 0] 24))
          obtain ⟨X, eX⟩ : ∃ y, y = Y4.heap.size := ⟨_, rfl⟩
          go_wp2_with fail
          refine hK.out _ _ ?_ (fun hHeld => ?_)
          · exact HB8.out
          clear hK K
          (try simp only [Act.put, List.setIfInBounds_toArray, List.set_cons_zero, List.set_cons_succ])
          rw [← eX] at F_n ⊢
          have LX := Lib.hid (show Wb.heap.size ≤ X from by rw [eX]; exact HB4.out.size)
          clear eX
          generalize Y4.alloc (.cells #[.int .u64 0, .int .u64 0, .int .u64 0, .int .u64 0] 24) = Y8 at HB8 F_n hHeld ⊢
          refine wpAnyH_ready (rs := [9]) (by kernel_rfl) (by simp) ?_
          refine AllReadyH.cons rfl (fun K hK => ?_) AllReadyH.nil
          clear hHeld
          have c0 := (hp_cell (i := 0) F_n.out).trans rfl
          have g0 := hp_free (i := 0) F_n.out
          have c1 := (hp_cell (i := 1) F_n.out).trans rfl
          have g1 := hp_free (i := 1) F_n.out
          have c2 := (hp_cell (i := 2) F_n.out).trans rfl
          have g2 := hp_free (i := 2) F_n.out
          have c3 := (hp_cell (i := 3) F_n.out).trans rfl
          have g3 := hp_free (i := 3) F_n.out
          go_simp
          clear c0 c1 c2 c3 g0 g1 g2 g3
          have HB9 := Lib.hid (show Below Wb.heap.size Wb ((((Y8.setCell ⟨X, 0, none⟩ (.int .u64 (limb v 0 : Nat))).setCell ⟨X, 1, none⟩ (.int .u64 (limb v 1 : Nat))).setCell ⟨X, 2, none⟩ (.int .u64 (limb v 2 : Nat))).setCell ⟨X, 3, none⟩ (.int .u64 (limb v 3 : Nat))) from ((((HB8.out.setCell LX.out _).setCell LX.out _).setCell LX.out _).setCell LX.out _))
          have SX := Lib.hid (set4b (.int .u64 (limb v 0 : Nat)) (.int .u64 (limb v 1 : Nat)) (.int .u64 (limb v 2 : Nat)) (.int .u64 (limb v 3 : Nat)) F_n.out (rfl : ((((Y8.setCell ⟨X, 0, none⟩ (.int .u64 (limb v 0 : Nat))).setCell ⟨X, 1, none⟩ (.int .u64 (limb v 1 : Nat))).setCell ⟨X, 2, none⟩ (.int .u64 (limb v 2 : Nat))).setCell ⟨X, 3, none⟩ (.int .u64 (limb v 3 : Nat))) = _))
          go_wp2_with fail
          refine hK.out _ _ ?_ (fun hHeld => ?_)
          · exact HB9.out
          clear hK K
          (try simp only [Act.put, List.setIfInBounds_toArray, List.set_cons_zero, List.set_cons_succ])
          generalize (((Y8.setCell ⟨X, 0, none⟩ (.int .u64 (limb v 0 : Nat))).setCell ⟨X, 1, none⟩ (.int .u64 (limb v 1 : Nat))).setCell ⟨X, 2, none⟩ (.int .u64 (limb v 2 : Nat))).setCell ⟨X, 3, none⟩ (.int .u64 (limb v 3 : Nat)) = Y9 at HB9 SX hHeld ⊢
          refine wpAnyH_take (i := 10) (v := ?_) rfl (by kernel_rfl) (by kernel_rfl) (by kernel_rfl) (fun _ _ _ h => h) (Or.inl ⟨by kernel_rfl, ?_⟩) (by with_reducible assumption) ?_
          rotate_left
          · intro wz hSw
            (try dsimp only at hSw)
            go_simp
            (try with_reducible rfl)
          show wpAnyH _ _ _ _ _ _ _ (Act.put _ (some 12) _) _
          (try simp only [Act.put, List.setIfInBounds_toArray, List.set_cons_zero, List.set_cons_succ])
          refine wpAnyH_done (by kernel_rfl) ?_ _
          go_wp2_with fail
          go_meet
          case rel => exact ⟨X, rfl, rfl, SX.out, HB9.out⟩
        · clear hHeld
          go_simp
          have HB8 := Lib.hid (HB2.out.alloc HB2.out.size (.cells #[.int .u64 0, .int .u64 0, .int .u64 0, .int .u64 0] 24))
          have F_n := Lib.hid (heap_alloc_new Y2 (.cells #[.int .u64 0, .int .u64 0, .int .u64 0, .int .u64 0] 24))
          obtain ⟨X, eX⟩ : ∃ y, y = Y2.heap.size := ⟨_, rfl⟩
          go_wp2_with fail
          refine hK.out _ _ ?_ (fun hHeld => ?_)
          · exact HB8.out
          clear hK K
          (try simp only [Act.put, List.setIfInBounds_toArray, List.set_cons_zero, List.set_cons_succ])
          rw [← eX] at F_n ⊢
          have LX := Lib.hid (show Wb.heap.size ≤ X from by rw [eX]; exact HB2.out.size)
          clear eX
          generalize Y2.alloc (.cells #[.int .u64 0, .int .u64 0, .int .u64 0, .int .u64 0] 24) = Y8 at HB8 F_n hHeld ⊢
          refine wpAnyH_ready (rs := [4]) (by kernel_rfl) (by simp) ?_
          refine AllReadyH.cons rfl (fun K hK => ?_) AllReadyH.nil
          clear hHeld
          go_simp
          go_at_call 44
          refine (HAd.out _).mono ?_
          rintro e Y4 ⟨rfl, hb⟩
          have HB4 := Lib.hid (HB8.out.trans (hb.mono HB8.out.size))
          have F_4 := Lib.hid ((hb.block _ (hp_lt F_n.out)).trans F_n.out)
          clear hb
          go_wp2_with fail
          refine hK.out _ _ ?_ (fun hHeld => ?_)
          · exact HB4.out
          clear hK K
          (try simp only [Act.put, List.setIfInBounds_toArray, List.set_cons_zero, List.set_cons_succ])
          refine wpAnyH_take (i := 5) (v := ?_) rfl (by kernel_rfl) (by kernel_rfl) (by kernel_rfl) (fun _ _ _ h => h) (Or.inl ⟨by kernel_rfl, ?_⟩) (by with_reducible assumption) ?_
          rotate_left
          · intro wz hSw
            (try dsimp only at hSw)
            go_simp
            (try with_reducible rfl)
          show wpAnyH _ _ _ _ _ _ _ (Act.put _ (some 26) _) _
          (try simp only [Act.put, List.setIfInBounds_toArray, List.set_cons_zero, List.set_cons_succ])
          refine wpAnyH_take (i := 6) (v := ?_) rfl (by kernel_rfl) (by kernel_rfl) (by kernel_rfl) (fun _ _ _ h => h) (Or.inl ⟨by kernel_rfl, ?_⟩) (by with_reducible assumption) ?_
          rotate_left
          · intro wz hSw
            (try dsimp only at hSw)
            go_simp
            (try with_reducible rfl)
          show wpAnyH _ _ _ _ _ _ _ (Act.put _ (some 32) _) _
          (try simp only [Act.put, List.setIfInBounds_toArray, List.set_cons_zero, List.set_cons_succ])
          refine wpAnyH_take (i := 7) (v := ?_) rfl (by kernel_rfl) (by kernel_rfl) (by kernel_rfl) (fun _ _ _ h => h) (Or.inl ⟨by kernel_rfl, ?_⟩) (by with_reducible assumption) ?_
          rotate_left
          · intro wz hSw
            (try dsimp only at hSw)
            go_simp
            (try with_reducible rfl)
          show wpAnyH _ _ _ _ _ _ _ (Act.put _ (some 33) _) _
          (try simp only [Act.put, List.setIfInBounds_toArray, List.set_cons_zero, List.set_cons_succ])
          refine wpAnyH_ready (rs := [9]) (by kernel_rfl) (by simp) ?_
          refine AllReadyH.cons rfl (fun K hK => ?_) AllReadyH.nil
          clear hHeld
          have c0 := (hp_cell (i := 0) F_4.out).trans rfl
          have g0 := hp_free (i := 0) F_4.out
          have c1 := (hp_cell (i := 1) F_4.out).trans rfl
          have g1 := hp_free (i := 1) F_4.out
          have c2 := (hp_cell (i := 2) F_4.out).trans rfl
          have g2 := hp_free (i := 2) F_4.out
          have c3 := (hp_cell (i := 3) F_4.out).trans rfl
          have g3 := hp_free (i := 3) F_4.out
          go_simp
          clear c0 c1 c2 c3 g0 g1 g2 g3
          have HB9 := Lib.hid (show Below Wb.heap.size Wb ((((Y4.setCell ⟨X, 0, none⟩ (.int .u64 (limb v 0 : Nat))).setCell ⟨X, 1, none⟩ (.int .u64 (limb v 1 : Nat))).setCell ⟨X, 2, none⟩ (.int .u64 (limb v 2 : Nat))).setCell ⟨X, 3, none⟩ (.int .u64 (limb v 3 : Nat))) from ((((HB4.out.setCell LX.out _).setCell LX.out _).setCell LX.out _).setCell LX.out _))
          have SX := Lib.hid (set4b (.int .u64 (limb v 0 : Nat)) (.int .u64 (limb v 1 : Nat)) (.int .u64 (limb v 2 : Nat)) (.int .u64 (limb v 3 : Nat)) F_4.out (rfl : ((((Y4.setCell ⟨X, 0, none⟩ (.int .u64 (limb v 0 : Nat))).setCell ⟨X, 1, none⟩ (.int .u64 (limb v 1 : Nat))).setCell ⟨X, 2, none⟩ (.int .u64 (limb v 2 : Nat))).setCell ⟨X, 3, none⟩ (.int .u64 (limb v 3 : Nat))) = _))
          go_wp2_with fail
          refine hK.out _ _ ?_ (fun hHeld => ?_)
          · exact HB9.out
          clear hK K
          (try simp only [Act.put, List.setIfInBounds_toArray, List.set_cons_zero, List.set_cons_succ])
          generalize (((Y4.setCell ⟨X, 0, none⟩ (.int .u64 (limb v 0 : Nat))).setCell ⟨X, 1, none⟩ (.int .u64 (limb v 1 : Nat))).setCell ⟨X, 2, none⟩ (.int .u64 (limb v 2 : Nat))).setCell ⟨X, 3, none⟩ (.int .u64 (limb v 3 : Nat)) = Y9 at HB9 SX hHeld ⊢
          refine wpAnyH_take (i := 10) (v := ?_) rfl (by kernel_rfl) (by kernel_rfl) (by kernel_rfl) (fun _ _ _ h => h) (Or.inl ⟨by kernel_rfl, ?_⟩) (by with_reducible assumption) ?_
          rotate_left
          · intro wz hSw
            (try dsimp only at hSw)
            go_simp
            (try with_reducible rfl)
          show wpAnyH _ _ _ _ _ _ _ (Act.put _ (some 12) _) _
          (try simp only [Act.put, List.setIfInBounds_toArray, List.set_cons_zero, List.set_cons_succ])
          refine wpAnyH_done (by kernel_rfl) ?_ _
          go_wp2_with fail
          go_meet
          case rel => exact ⟨X, rfl, rfl, SX.out, HB9.out⟩
      · clear hHeld
        go_simp
        have HB8 := Lib.hid (HY0.out.alloc HY0.out.size (.cells #[.int .u64 0, .int .u64 0, .int .u64 0, .int .u64 0] 24))
        have F_n := Lib.hid (heap_alloc_new Y0 (.cells #[.int .u64 0, .int .u64 0, .int .u64 0, .int .u64 0] 24))
        obtain ⟨X, eX⟩ : ∃ y, y = Y0.heap.size := ⟨_, rfl⟩
        go_wp2_with fail
        refine hK.out _ _ ?_ (fun hHeld => ?_)
        · exact HB8.out
        clear hK K
        (try simp only [Act.put, List.setIfInBounds_toArray, List.set_cons_zero, List.set_cons_succ])
        rw [← eX] at F_n ⊢
        have LX := Lib.hid (show Wb.heap.size ≤ X from by rw [eX]; exact HY0.out.size)
        clear eX
        generalize Y0.alloc (.cells #[.int .u64 0, .int .u64 0, .int .u64 0, .int .u64 0] 24) = Y8 at HB8 F_n hHeld ⊢
        refine wpAnyH_ready (rs := [2]) (by kernel_rfl) (by simp) ?_
        refine AllReadyH.cons rfl (fun K hK => ?_) AllReadyH.nil
        clear hHeld
        go_simp
        go_at_call 45
        refine (HA2.out _ (HBc.out.trans (HB8.out.mono HBc.out.size))).mono ?_
        rintro e Y2 ⟨rfl, hb⟩
        have HB2 := Lib.hid (HB8.out.trans (hb.mono HB8.out.size))
        have F_2 := Lib.hid ((hb.block _ (hp_lt F_n.out)).trans F_n.out)
        clear hb
        go_wp2_with fail
        refine hK.out _ _ ?_ (fun hHeld => ?_)
        · exact HB2.out
        clear hK K
        (try simp only [Act.put, List.setIfInBounds_toArray, List.set_cons_zero, List.set_cons_succ])
        refine wpAnyH_ready (rs := [4]) (by kernel_rfl) (by simp) ?_
        refine AllReadyH.cons rfl (fun K hK => ?_) AllReadyH.nil
        clear hHeld
        go_simp
        go_at_call 44
        refine (HAd.out _).mono ?_
        rintro e Y4 ⟨rfl, hb⟩
        have HB4 := Lib.hid (HB2.out.trans (hb.mono HB2.out.size))
        have F_4 := Lib.hid ((hb.block _ (hp_lt F_2.out)).trans F_2.out)
        clear hb
        go_wp2_with fail
        refine hK.out _ _ ?_ (fun hHeld => ?_)
        · exact HB4.out
        clear hK K
        (try simp only [Act.put, List.setIfInBounds_toArray, List.set_cons_zero, List.set_cons_succ])
        refine wpAnyH_take (i := 5) (v := ?_) rfl (by kernel_rfl) (by kernel_rfl) (by kernel_rfl) (fun _ _ _ h => h) (Or.inl ⟨by kernel_rfl, ?_⟩) (by with_reducible assumption) ?_
        rotate_left
        · intro wz hSw
          (try dsimp only at hSw)
          go_simp
          (try with_reducible rfl)
        show wpAnyH _ _ _ _ _ _ _ (Act.put _ (some 26) _) _
        (try simp only [Act.put, List.setIfInBounds_toArray, List.set_cons_zero, List.set_cons_succ])
        refine wpAnyH_take (i := 6) (v := ?_) rfl (by kernel_rfl) (by kernel_rfl) (by kernel_rfl) (fun _ _ _ h => h) (Or.inl ⟨by kernel_rfl, ?_⟩) (by with_reducible assumption) ?_
        rotate_left
        · intro wz hSw
          (try dsimp only at hSw)
          go_simp
          (try with_reducible rfl)
        show wpAnyH _ _ _ _ _ _ _ (Act.put _ (some 32) _) _
        (try simp only [Act.put, List.setIfInBounds_toArray, List.set_cons_zero, List.set_cons_succ])
        refine wpAnyH_take (i := 7) (v := ?_) rfl (by kernel_rfl) (by kernel_rfl) (by kernel_rfl) (fun _ _ _ h => h) (Or.inl ⟨by kernel_rfl, ?_⟩) (by with_reducible assumption) ?_
        rotate_left
        · intro wz hSw
          (try dsimp only at hSw)
          go_simp
          (try with_reducible rfl)
        show wpAnyH _ _ _ _ _ _ _ (Act.put _ (some 33) _) _
        (try simp only [Act.put, List.setIfInBounds_toArray, List.set_cons_zero, List.set_cons_succ])
        refine wpAnyH_ready (rs := [9]) (by kernel_rfl) (by simp) ?_
        refine AllReadyH.cons rfl (fun K hK => ?_) AllReadyH.nil
        clear hHeld
        have c0 := (hp_cell (i := 0) F_4.out).trans rfl
        have g0 := hp_free (i := 0) F_4.out
        have c1 := (hp_cell (i := 1) F_4.out).trans rfl
        have g1 := hp_free (i := 1) F_4.out
        have c2 := (hp_cell (i := 2) F_4.out).trans rfl
        have g2 := hp_free (i := 2) F_4.out
        have c3 := (hp_cell (i := 3) F_4.out).trans rfl
        have g3 := hp_free (i := 3) F_4.out
        go_simp
        clear c0 c1 c2 c3 g0 g1 g2 g3
        have HB9 := Lib.hid (show Below Wb.heap.size Wb ((((Y4.setCell ⟨X, 0, none⟩ (.int .u64 (limb v 0 : Nat))).setCell ⟨X, 1, none⟩ (.int .u64 (limb v 1 : Nat))).setCell ⟨X, 2, none⟩ (.int .u64 (limb v 2 : Nat))).setCell ⟨X, 3, none⟩ (.int .u64 (limb v 3 : Nat))) from ((((HB4.out.setCell LX.out _).setCell LX.out _).setCell LX.out _).setCell LX.out _))
        have SX := Lib.hid (set4b (.int .u64 (limb v 0 : Nat)) (.int .u64 (limb v 1 : Nat)) (.int .u64 (limb v 2 : Nat)) (.int .u64 (limb v 3 : Nat)) F_4.out (rfl : ((((Y4.setCell ⟨X, 0, none⟩ (.int .u64 (limb v 0 : Nat))).setCell ⟨X, 1, none⟩ (.int .u64 (limb v 1 : Nat))).setCell ⟨X, 2, none⟩ (.int .u64 (limb v 2 : Nat))).setCell ⟨X, 3, none⟩ (.int .u64 (limb v 3 : Nat))) = _))
        go_wp2_with fail
        refine hK.out _ _ ?_ (fun hHeld => ?_)
        · exact HB9.out
        clear hK K
        (try simp only [Act.put, List.setIfInBounds_toArray, List.set_cons_zero, List.set_cons_succ])
        generalize (((Y4.setCell ⟨X, 0, none⟩ (.int .u64 (limb v 0 : Nat))).setCell ⟨X, 1, none⟩ (.int .u64 (limb v 1 : Nat))).setCell ⟨X, 2, none⟩ (.int .u64 (limb v 2 : Nat))).setCell ⟨X, 3, none⟩ (.int .u64 (limb v 3 : Nat)) = Y9 at HB9 SX hHeld ⊢
        refine wpAnyH_take (i := 10) (v := ?_) rfl (by kernel_rfl) (by kernel_rfl) (by kernel_rfl) (fun _ _ _ h => h) (Or.inl ⟨by kernel_rfl, ?_⟩) (by with_reducible assumption) ?_
        rotate_left
        · intro wz hSw
          (try dsimp only at hSw)
          go_simp
          (try with_reducible rfl)
        show wpAnyH _ _ _ _ _ _ _ (Act.put _ (some 12) _) _
        (try simp only [Act.put, List.setIfInBounds_toArray, List.set_cons_zero, List.set_cons_succ])
        refine wpAnyH_done (by kernel_rfl) ?_ _
        go_wp2_with fail
        go_meet
        case rel => exact ⟨X, rfl, rfl, SX.out, HB9.out⟩
    case rest =>
      obtain ⟨B2, rfl, rfl, hB2, hbd⟩ := hcut
      have HBd := Lib.hid (HBc.out.trans (hbd.mono HBc.out.size))
      have HBB := Lib.hid (And.intro ((hbd.block _ (hp_lt HB1.out)).trans HB1.out) hB2)
      have d0 := (hp_cell (i := 0) hB2).trans rfl
      have d1 := (hp_cell (i := 1) hB2).trans rfl
      have d2 := (hp_cell (i := 2) hB2).trans rfl
      have d3 := (hp_cell (i := 3) hB2).trans rfl
      clear hB2 hbd
      go_wp2_with (first
        | (go_at_call 20; have g5 := H4; clear g5; refine (HS2.out _ H4.out.s).mono ?_; rintro e w5 ⟨rfl, h5⟩; have H5 := Lib.hid h5; clear h5)
        | (go_at_call 20; refine (HS1.out _ H3.out.1).mono ?_; rintro e w4 ⟨rfl, h4⟩; have H4 := Lib.hid h4; have r4 := (h4.keepT ⟨by decide, by decide⟩).2 _ _ _ H3.out.2.2; have d0 := (hp_cell (i := 0) r4).trans rfl; have d1 := (hp_cell (i := 1) r4).trans rfl; have d2 := (hp_cell (i := 2) r4).trans rfl; have d3 := (hp_cell (i := 3) r4).trans rfl; clear h4 r4)
        | (go_at_call 46; refine (HAm.out _).mono ?_; rintro e w3 ⟨rfl, hb3⟩; have H3 := Lib.hid (And.intro (HBd.out.trans (hb3.mono HBd.out.size)) (And.intro ((hb3.block _ (hp_lt HBB.out.1)).trans HBB.out.1) ((hb3.block _ (hp_lt HBB.out.2)).trans HBB.out.2))); have r3 := H3.out.2.1; clear d0 d1 d2 d3; have c0 := (hp_cell (i := 0) r3).trans rfl; have c1 := (hp_cell (i := 1) r3).trans rfl; have c2 := (hp_cell (i := 2) r3).trans rfl; have c3 := (hp_cell (i := 3) r3).trans rfl; clear hb3 r3))
      go_ret
      exact ⟨rfl, HPr.out _ _ _ H3.out.1 H4.out H5.out⟩
set_option maxRecDepth 100000 in
set_option maxHeartbeats 4000000 in
theorem rsetRow_nil (w W : World) (m : Nat) (L : SL) (R : List Ch) (k : ByteArray) (A : Option Addr) (n c : Nat) (f : Nat → Int) (h : DS w W m L R) (hl : Il W A n f) (hn0 : n = 0) (hn : n ≤ 100) (hf : ∀ i, i < n → 0 ≤ f i) (hr : Rising (skeys L)) (hN : L.length < 1000000) (hR : R.length < 1000000) :
    Calls Tryz.prog 26 #[.pointer (some ⟨m, 0, none⟩), .string k, .slice A n c] W fun e W' => e = .returned (.tuple #[]) ∧ RW w W W' := by
  have hnI : (n : Int) ≤ 100 := by omega
  have HS := Lib.hid (fun (W1 : World) (hb : Below W.heap.size W W1) => (rdel_walk w W1 m L R k (h.below hb) hr hN hR).mono fun e W' hp => (⟨⟨_, hp.1⟩, (RW.of hp.2).pre hb⟩ : (∃ z, e = .returned (.bool z)) ∧ RW w W W'))
  have HF := Lib.hid hf
  have HL := Lib.hid hl
  have HN0 := Lib.hid hn0
  clear h hr hN hR hf hl hn0
  go_enter Tryz.func26, Tryz.ntmps26
  go_wp2
  go_loopw [6, 11] (fun s i wr => ∃ j : Nat, j ≤ n ∧ i = .int .i64 (j : Nat) ∧ s = .string (rowV f j) ∧ Below W.heap.size W wr) (fun _ i _ => n - (intOf i).toNat)
  case atStart => exact ⟨0, by omega, rfl, rfl, Below.refl _ _⟩
  case round =>
    obtain ⟨j, hj, rfl, rfl, hbe⟩ := hrel
    have HBe := Lib.hid hbe
    clear hbe
    have kI : (j : Int) ≤ n := by omega
    by_cases hlt : j < n
    · have p1 : (j : Int) < (n : Int) := by omega
      obtain ⟨g, o, rfl, hg, hc⟩ := HL.out.at_ (by omega)
      have hm := HL.out.most j
      have h0 := HF.out j hlt
      have hck : wr.cell? ⟨g, o + j, none⟩ = some (.int .i64 (f j)) := by rw [HBe.out.cell (p := ⟨g, o + j, none⟩) hg]; exact hc j hlt
      have z1 : ¬ 9223372036854775807 < (rowV f j).size + (numStr (f j)).size := by rw [rowV_size, numStr_size9]; omega
      have hvs := Lib.hid (rowV_app h0)
      have n1 : ¬ f j < 0 := by omega
      clear hc
      go_wp2_with (go_at_call 40; refine (rnum9_walk (f j) _ hm).mono ?_; rintro e w3 ⟨rfl, hb3⟩)
      go_roundw
      case rel => exact ⟨j + 1, by omega, by go_num, by rw [hvs.out], HBe.out.trans (hb3.mono HBe.out.size)⟩
      case measure => simp [intOf]; omega
    · obtain rfl : j = n := by omega
      have q3 : ¬ (j : Int) < j := by omega
      have hv : rowV f j = ⟨#[]⟩ := by rw [HN0.out]; rfl
      rw [hv]
      clear hv HL
      go_wp2_with (go_at_call 38; refine (HS.out _ HBe.out).mono ?_; rintro e w2 ⟨⟨z, rfl⟩, h2⟩; have H2 := Lib.hid h2; clear h2)
      refine bodyPost_ret (v := .tuple #[]) (by simp [results, Tryz.results26, go_sem]) rfl ⟨rfl, H2.out⟩
set_option maxRecDepth 100000 in
set_option maxHeartbeats 4000000 in
theorem rsetRow_neg (w W : World) (m : Nat) (L : SL) (R : List Ch) (k : ByteArray) (A : Option Addr) (n c : Nat) (f : Nat → Int) (h : DS w W m L R) (hl : Il W A n f) (hn : n ≤ 100) (p : Nat) (hpn : p < n) (hf : ∀ i, i < p → 0 ≤ f i) (hfp : f p < 0) (hr : Rising (skeys L)) (hN : L.length < 1000000) (hR : R.length < 1000000) :
    Calls Tryz.prog 26 #[.pointer (some ⟨m, 0, none⟩), .string k, .slice A n c] W fun e W' => e = .returned (.tuple #[]) ∧ RW w W W' := by
  have hnI : (n : Int) ≤ 100 := by omega
  have HS := Lib.hid (fun (W1 : World) (hb : Below W.heap.size W W1) => RW.below h hb)
  have HF := Lib.hid hf
  have HL := Lib.hid hl
  have HFp := Lib.hid hfp
  clear h hr hN hR hf hl hfp
  go_enter Tryz.func26, Tryz.ntmps26
  go_wp2
  go_loopw [6, 11] (fun s i wr => ∃ j : Nat, j ≤ p ∧ i = .int .i64 (j : Nat) ∧ s = .string (rowV f j) ∧ Below W.heap.size W wr) (fun _ i _ => n - (intOf i).toNat)
  case atStart => exact ⟨0, by omega, rfl, rfl, Below.refl _ _⟩
  case round =>
    obtain ⟨j, hj, rfl, rfl, hbe⟩ := hrel
    have HBe := Lib.hid hbe
    clear hbe
    have kI : (j : Int) ≤ n := by omega
    by_cases hlt : j < p
    · have p1 : (j : Int) < (n : Int) := by omega
      obtain ⟨g, o, rfl, hg, hc⟩ := HL.out.at_ (by omega)
      have hm := HL.out.most j
      have h0 := HF.out j hlt
      have hck : wr.cell? ⟨g, o + j, none⟩ = some (.int .i64 (f j)) := by rw [HBe.out.cell (p := ⟨g, o + j, none⟩) hg]; exact hc j (by omega)
      have z1 : ¬ 9223372036854775807 < (rowV f j).size + (numStr (f j)).size := by rw [rowV_size, numStr_size9]; omega
      have hvs := Lib.hid (rowV_app h0)
      have n1 : ¬ f j < 0 := by omega
      clear hc
      go_wp2_with (go_at_call 40; refine (rnum9_walk (f j) _ hm).mono ?_; rintro e w3 ⟨rfl, hb3⟩)
      go_roundw
      case rel => exact ⟨j + 1, by omega, by go_num, by rw [hvs.out], HBe.out.trans (hb3.mono HBe.out.size)⟩
      case measure => simp [intOf]; omega
    · obtain rfl : j = p := by omega
      have p1 : (j : Int) < (n : Int) := by omega
      obtain ⟨g, o, rfl, hg, hc⟩ := HL.out.at_ (by omega)
      have hck : wr.cell? ⟨g, o + j, none⟩ = some (.int .i64 (f j)) := by rw [HBe.out.cell (p := ⟨g, o + j, none⟩) hg]; exact hc j (by omega)
      have hx := HFp.out
      obtain ⟨x, ex⟩ : ∃ x, x = f j := ⟨_, rfl⟩
      rw [← ex] at hck hx
      clear hc ex
      go_wp2
      refine bodyPost_ret (v := .tuple #[]) (by simp [results, Tryz.results26, go_sem]) rfl ⟨rfl, HS.out _ HBe.out⟩
theorem first_negM (f : Nat → Int) : ∀ m, (∃ p, p < m ∧ f p < 0) → ∃ p, p < m ∧ f p < 0 ∧ ∀ t, t < p → 0 ≤ f t
  | 0, ⟨p, h, _⟩ => absurd h (by omega)
  | m + 1, h => by
    by_cases h1 : ∃ p, p < m ∧ f p < 0
    · obtain ⟨p, h2, h3, h4⟩ := first_negM f m h1
      exact ⟨p, by omega, h3, h4⟩
    · obtain ⟨p, h2, h3⟩ := h
      have hp : p = m := by
        by_cases h5 : p < m
        · exact absurd ⟨p, h5, h3⟩ h1
        · omega
      refine ⟨p, h2, h3, fun t ht => ?_⟩
      by_cases h6 : 0 ≤ f t
      · exact h6
      · exact absurd ⟨t, by omega, by omega⟩ h1
end Go.Proofs.YtnjcnlbphaodcaaGreat

namespace Go.Proofs.YtnjcnlbphaodcaaGreat
open Go.RowKit Go.Maps Go.Sort

theorem ris0 : Rising (skeys []) := List.Pairwise.nil
/-! ### on a store where nothing is -/
theorem rsetRow_w (w W : World) (m : Nat) (k : ByteArray) (A : Option Addr) (n c : Nat) (f : Nat → Int) (h : DS w W m [] []) (hl : Il W A n f) (hn : n ≤ 100) :
    Calls Tryz.prog 26 #[.pointer (some ⟨m, 0, none⟩), .string k, .slice A n c] W fun e W' => e = .returned (.tuple #[]) ∧ RW w W W' := by
  by_cases hx : ∃ p, p < n ∧ f p < 0
  · obtain ⟨p, h1, h2, h3⟩ := first_negM f n hx
    exact rsetRow_neg w W m [] [] k A n c f h hl hn p h1 h3 h2 ris0 (by decide) (by decide)
  · have hf : ∀ i, i < n → 0 ≤ f i := fun i hi => Classical.byContradiction fun h0 => hx ⟨i, hi, by omega⟩
    by_cases h0 : n = 0
    · exact rsetRow_nil w W m [] [] k A n c f h hl h0 hn hf ris0 (by decide) (by decide)
    · exact (rsetRow_walk w W m [] [] k A n c f h hl (by omega) hn hf ris0 (by decide) (by decide)).mono fun e W' hp => ⟨hp.1, RW.of hp.2⟩
theorem rsetInt_w (w W : World) (m : Nat) (k : ByteArray) (n : Int) (h : DS w W m [] []) (hn : n < 2 ^ 63) :
    Calls Tryz.prog 17 #[.pointer (some ⟨m, 0, none⟩), .string k, .int .i64 n] W fun e W' => e = .returned (.tuple #[]) ∧ RW w W W' :=
  (rsetInt_walk w W m [] [] k n h ris0 (by decide) (by decide) hn).mono fun e W' hp => ⟨hp.1, RW.of hp.2⟩
theorem amt0 (k : ByteArray) : amtAt [] k 0 := .inl ⟨rfl, rfl⟩
theorem rsetAmt_w (w W : World) (m : Nat) (k : ByteArray) (a : Nat) (h : DS w W m [] []) (ha : a < 2 ^ 256) :
    Calls Tryz.prog 20 #[.pointer (some ⟨m, 0, none⟩), .string k, U a] W fun e W' => e = .returned (.tuple #[]) ∧ RW w W W' :=
  rsetAmount_w w W m [] [] k a h ris0 (by decide) (by decide) ha
theorem radd_w (w W : World) (m : Nat) (k : ByteArray) (a : Nat) (h : DS w W m [] []) (ha : a < 2 ^ 256) :
    Calls Tryz.prog 21 #[.pointer (some ⟨m, 0, none⟩), .string k, U a] W fun e W' => (∃ i, e = .returned (.int .i64 i)) ∧ RW w W W' := by
  by_cases h0 : 0 + a ≤ MOST
  · exact (raddA_okW w W m [] [] k 0 a h ris0 (by decide) (by decide) (amt0 k) (by decide) ha h0).mono fun e W' hp => ⟨⟨_, hp.1⟩, hp.2⟩
  · exact (raddA_over w W m [] [] k 0 a h ris0 (by decide) (by decide) (amt0 k) (by decide) ha (by omega)).mono fun e W' hp => ⟨⟨_, hp.1⟩, RW.of hp.2⟩
theorem rsub_w (w W : World) (m : Nat) (k : ByteArray) (a : Nat) (h : DS w W m [] []) (ha : a < 2 ^ 256) :
    Calls Tryz.prog 22 #[.pointer (some ⟨m, 0, none⟩), .string k, U a] W fun e W' => (∃ i, e = .returned (.int .i64 i)) ∧ RW w W W' := by
  by_cases h0 : a ≤ 0
  · exact (rsubA_okW w W m [] [] k 0 a h ris0 (by decide) (by decide) (amt0 k) (by decide) ha h0).mono fun e W' hp => ⟨⟨_, hp.1⟩, hp.2⟩
  · exact (rsubA_noW w W m [] [] k 0 a h ris0 (by decide) (by decide) (amt0 k) (by decide) ha h0).mono fun e W' hp => ⟨⟨_, hp.1⟩, RW.of hp.2⟩
theorem rmove_w (w W : World) (m : Nat) (k1 k2 : ByteArray) (a : Nat) (h : DS w W m [] []) (ha : a < 2 ^ 256) :
    Calls Tryz.prog 24 #[.pointer (some ⟨m, 0, none⟩), .string k1, .string k2, U a] W fun e W' => (∃ i, e = .returned (.int .i64 i)) ∧ RW w W W' := by
  by_cases h0 : a ≤ 0
  · by_cases hk : k1 = k2
    · exact (rmove_same w W m [] [] k1 k2 0 a h ris0 (by decide) (amt0 k1) (by decide) ha h0 hk).mono fun e W' hp => ⟨⟨_, hp.1⟩, RW.of hp.2⟩
    · have ha0 : a = 0 := by omega
      exact (rmove_ok0 w W m [] [] k1 k2 0 a h ris0 (by decide) (amt0 k1) (by decide) ha 0 (by decide) h0 hk rfl rfl ha0 (amt0 k2) (by decide) (by rw [ha0]; exact Nat.zero_le _)).mono fun e W' hp => ⟨⟨_, hp.1⟩, RW.of hp.2⟩
  · exact (rmove_funds w W m [] [] k1 k2 0 a h ris0 (by decide) (amt0 k1) (by decide) ha h0).mono fun e W' hp => ⟨⟨_, hp.1⟩, RW.of hp.2⟩
set_option maxRecDepth 100000 in
set_option maxHeartbeats 1000000 in
theorem rnext_w (w W : World) (m : Nat) (k : ByteArray) (h : DS w W m [] []) :
    Calls Tryz.prog 28 #[.pointer (some ⟨m, 0, none⟩), .string k] W fun e W' => (∃ i, e = .returned (.int .i64 i)) ∧ RW w W W' := by
  have HI := Lib.hid (rint_walk w W m [] [] k 0 h ris0 (by decide) (.inl ⟨rfl, rfl⟩) (by decide))
  have HS := Lib.hid (fun (W1 : World) (hb : Below W.heap.size W W1) => (rsetInt_w w W1 m k 1 (h.below hb) (by decide)).mono fun e W' hp => (⟨hp.1, hp.2.pre hb⟩ : e = .returned (.tuple #[]) ∧ RW w W W'))
  clear h
  go_enter Tryz.func28, Tryz.ntmps28
  go_wp2_with (first
    | (go_at_call 17; refine (HS.out _ H1.out).mono ?_; rintro e w2 ⟨rfl, h2⟩; have H2 := Lib.hid h2; clear h2)
    | (go_at_call 50; refine HI.out.mono ?_; rintro e w1 ⟨rfl, hb1⟩; have H1 := Lib.hid hb1; clear hb1))
  go_ret
  exact ⟨⟨_, rfl⟩, H2.out⟩
end Go.Proofs.YtnjcnlbphaodcaaGreat
