/- The document's amounts in its store (tallageref10): Add, Move. -/
import Derived.Test.YtnjcnlbphaodcaaGreatG35
import Derived.Test.YtnjcnlbphaodcaaGreatG05
import Derived.Test.YtnjcnlbphaodcaaGreatG37
import Derived.Test.YtnjcnlbphaodcaaGreatG11
import Derived.Test.YtnjcnlbphaodcaaGreatG19
import Derived.Test.YtnjcnlbphaodcaaGreatG20
namespace Go.Proofs.YtnjcnlbphaodcaaGreat
open Go.RowKit Go.Maps Go.Sort

theorem set4b {w : World} {g : Nat} {u0 u1 u2 u3 : Value} {T : TypeId} {fr : Nat × Nat} (v0 v1 v2 v3 : Value) (h : w.heap[g]? = some (.cells #[u0, u1, u2, u3] T fr))
    {W : World} (hW : W = (((w.setCell ⟨g, 0, none⟩ v0).setCell ⟨g, 1, none⟩ v1).setCell ⟨g, 2, none⟩ v2).setCell ⟨g, 3, none⟩ v3) :
    W.heap[g]? = some (.cells #[v0, v1, v2, v3] T fr) := by
  subst hW
  have := heap_setCell_row (o := 3) (heap_setCell_row (o := 2) (heap_setCell_row (o := 1) (heap_setCell_row (o := 0) h v0) v1) v2) v3
  simpa using this
theorem amount_cc (a : Nat) (w : World) (g : Bool) (ha : a < 2 ^ 256) (h : decide (a ≤ MOST) = g) : Calls Tryz.prog 46 #[.agg #[.int .u64 (limb a 0 : Nat), .int .u64 (limb a 1 : Nat), .int .u64 (limb a 2 : Nat), .int .u64 (limb a 3 : Nat)]] w fun e w' => e = .returned (.bool g) ∧ Below w.heap.size w w' := by rw [← h]; exact ramountA_walk a w ha
set_option maxRecDepth 100000 in
set_option maxHeartbeats 4000000 in
theorem raddA_ok (w W : World) (m : Nat) (L : SL) (R : List Ch) (k : ByteArray) (was a : Nat) (h : DS w W m L R) (hr : Rising (skeys L)) (hN : L.length < 900000) (hR : R.length < 900000) (hk0 : k ≠ ⟨#[]⟩) (he : amtAt L k was) (hw : was < 2 ^ 256) (ha : a < 2 ^ 256) (hle : was + a ≤ MOST) :
    Calls Tryz.prog 21 #[.pointer (some ⟨m, 0, none⟩), .string k, U a] W fun e W' => e = .returned (.int .i64 0) ∧ DSTo w W W' m (setA L k (was + a)) (setAR L R k (was + a)) := by
  have hb0 := (Below.refl W.heap.size W).alloc (Nat.le_refl _) (.cells #[.int .u64 (limb a 0 : Nat), .int .u64 (limb a 1 : Nat), .int .u64 (limb a 2 : Nat), .int .u64 (limb a 3 : Nat)] 24)
  have r0 := heap_alloc_new W (.cells #[.int .u64 (limb a 0 : Nat), .int .u64 (limb a 1 : Nat), .int .u64 (limb a 2 : Nat), .int .u64 (limb a 3 : Nat)] 24)
  have HB0 := Lib.hid hb0
  have hA := fun (W1 : World) (hb : Below W.heap.size W W1) => ramount_at w W1 m L R k was (h.below hb) hr (by omega) he hw
  have hAd := fun W1 => radd_walk was a W1 hw ha
  unfold addv addk at hAd
  have hlt : was + a < 2 ^ 256 := Nat.lt_of_le_of_lt hle MOST_lt
  rw [if_pos hlt, decide_eq_true hlt] at hAd
  obtain ⟨s, hs⟩ : ∃ s, s = was + a := ⟨_, rfl⟩
  rw [← hs] at hAd hle hlt ⊢
  have HAm := Lib.hid (fun W => amount_cc s W true hlt (decide_eq_true hle))
  unfold U at hA hAd
  have HA := Lib.hid hA
  have HAd := Lib.hid hAd
  have hS := fun (W1 : World) (hb : Below W.heap.size W W1) => (rsetAmount_walk w W1 m L R k s (h.below hb) hk0 hr (by omega) (by omega) hlt).mono fun e W' hp => (⟨hp.1, DSTo.pre h hb hp.2⟩ : e = .returned (.tuple #[]) ∧ DSTo w W W' m (setA L k s) (setAR L R k s))
  unfold U at hS
  have HS := Lib.hid hS
  have HR0 := Lib.hid r0
  clear h hr hN hR he hw ha hb0 r0 hA hAd hk0 hle hlt hs hS
  unfold U
  go_enter Tryz.func21, Tryz.ntmps21
  go_upto_region 1 with fail
  obtain ⟨XB, hXB⟩ : ∃ XB, XB = W.heap.size := ⟨_, rfl⟩
  rw [← hXB] at HR0 ⊢
  have HBx := Lib.hid HR0.out
  have LB := Lib.hid (hp_lt HR0.out)
  clear hXB HR0
  generalize W.alloc (.cells #[.int .u64 (limb a 0 : Nat), .int .u64 (limb a 1 : Nat), .int .u64 (limb a 2 : Nat), .int .u64 (limb a 3 : Nat)] 24) = Wa at HB0 HBx LB ⊢
  go_cut [7, 8] (fun p q wx => ∃ B, p = .pointer (some ⟨B, 0, none⟩) ∧ q = .bool true ∧ wx.heap[B]? = some (.cells #[.int .u64 (limb s 0 : Nat), .int .u64 (limb s 1 : Nat), .int .u64 (limb s 2 : Nat), .int .u64 (limb s 3 : Nat)] 24 (0, 0)) ∧ Below Wa.heap.size Wa wx)
  case first =>
    refine wp_region_held_drew (S := fun w' => Below Wa.heap.size Wa w') (by kernel_rfl) ?_ (fun hHeld => ?_)
    · exact (Below.refl _ _).drew
    have HY0 := Lib.hid (show Below Wa.heap.size Wa Wa.drew from (Below.refl _ _).drew)
    generalize Wa.drew = Y0 at HY0 hHeld ⊢
    refine wpAnyH_take (i := 0) (v := ?_) rfl (by kernel_rfl) (by kernel_rfl) (by kernel_rfl) (fun _ _ _ h => h) (Or.inl ⟨by kernel_rfl, ?_⟩) (by with_reducible assumption) ?_
    rotate_left
    · intro wz hSw
      (try dsimp only at hSw)
      go_simp
      (try with_reducible rfl)
    show wpAnyH _ _ _ _ _ _ _ (Act.put _ (some 10) _) _
    (try simp only [Act.put, List.setIfInBounds_toArray, List.set_cons_zero, List.set_cons_succ])
    refine wpAnyH_take (i := 1) (v := ?_) rfl (by kernel_rfl) (by kernel_rfl) (by kernel_rfl) (fun _ _ _ h => h) (Or.inl ⟨by kernel_rfl, ?_⟩) (by with_reducible assumption) ?_
    rotate_left
    · intro wz hSw
      (try dsimp only at hSw)
      go_simp
      (try with_reducible rfl)
    show wpAnyH _ _ _ _ _ _ _ (Act.put _ (some 11) _) _
    (try simp only [Act.put, List.setIfInBounds_toArray, List.set_cons_zero, List.set_cons_succ])
    refine wpAnyH_take (i := 3) (v := .agg #[.int .u64 (limb a 0 : Nat), .int .u64 (limb a 1 : Nat), .int .u64 (limb a 2 : Nat), .int .u64 (limb a 3 : Nat)]) rfl (by kernel_rfl) (by kernel_rfl) (by kernel_rfl) (fun _ _ _ h => h) (Or.inl ⟨by kernel_rfl, ?_⟩) (by with_reducible assumption) ?_
    · intro wz hSw
      (try dsimp only at hSw)
      have z0 := (hSw.cell (p := ⟨XB, 0, none⟩) LB.out).trans ((hp_cell (i := 0) HBx.out).trans rfl)
      have z1 := (hSw.cell (p := ⟨XB, 1, none⟩) LB.out).trans ((hp_cell (i := 1) HBx.out).trans rfl)
      have z2 := (hSw.cell (p := ⟨XB, 2, none⟩) LB.out).trans ((hp_cell (i := 2) HBx.out).trans rfl)
      have z3 := (hSw.cell (p := ⟨XB, 3, none⟩) LB.out).trans ((hp_cell (i := 3) HBx.out).trans rfl)
      go_simp
      (try with_reducible rfl)
    show wpAnyH _ _ _ _ _ _ _ (Act.put _ (some 13) _) _
    (try simp only [Act.put, List.setIfInBounds_toArray, List.set_cons_zero, List.set_cons_succ])
    refine wpAnyH_ready (rs := [2, 8]) (by kernel_rfl) (by simp) ?_
    refine AllReadyH.cons rfl (fun K hK => ?_) (AllReadyH.cons rfl (fun K hK => ?_) AllReadyH.nil)
    · clear hHeld
      go_simp
      go_at_call 45
      refine (HA.out _ (HB0.out.trans (HY0.out.mono HB0.out.size))).mono ?_
      rintro e Y2 ⟨rfl, hb⟩
      have HB2 := Lib.hid (HY0.out.trans (hb.mono HY0.out.size))
      clear hb
      go_wp2_with fail
      refine hK.out _ _ ?_ (fun hHeld => ?_)
      · exact HB2.out
      clear hK K
      (try simp only [Act.put, List.setIfInBounds_toArray, List.set_cons_zero, List.set_cons_succ])
      refine wpAnyH_ready (rs := [4, 8]) (by kernel_rfl) (by simp) ?_
      refine AllReadyH.cons rfl (fun K hK => ?_) (AllReadyH.cons rfl (fun K hK => ?_) AllReadyH.nil)
      · clear hHeld
        go_simp
        go_at_call 44
        refine (HAd.out _).mono ?_
        rintro e Y4 ⟨rfl, hb⟩
        have HB4 := Lib.hid (HB2.out.trans (hb.mono HB2.out.size))
        clear hb
        go_wp2_with fail
        refine hK.out _ _ ?_ (fun hHeld => ?_)
        · exact HB4.out
        clear hK K
        (try simp only [Act.put, List.setIfInBounds_toArray, List.set_cons_zero, List.set_cons_succ])
        refine wpAnyH_take (i := 5) (v := ?_) rfl (by kernel_rfl) (by kernel_rfl) (by kernel_rfl) (fun _ _ _ h => h) (Or.inl ⟨by kernel_rfl, ?_⟩) (by with_reducible assumption) ?_
        rotate_left
        · intro wz hSw
          (try dsimp only at hSw)
          go_simp
          (try with_reducible rfl)
        show wpAnyH _ _ _ _ _ _ _ (Act.put _ (some 9) _) _
        (try simp only [Act.put, List.setIfInBounds_toArray, List.set_cons_zero, List.set_cons_succ])
        refine wpAnyH_take (i := 6) (v := ?_) rfl (by kernel_rfl) (by kernel_rfl) (by kernel_rfl) (fun _ _ _ h => h) (Or.inl ⟨by kernel_rfl, ?_⟩) (by with_reducible assumption) ?_
        rotate_left
        · intro wz hSw
          (try dsimp only at hSw)
          go_simp
          (try with_reducible rfl)
        show wpAnyH _ _ _ _ _ _ _ (Act.put _ (some 15) _) _
        (try simp only [Act.put, List.setIfInBounds_toArray, List.set_cons_zero, List.set_cons_succ])
        refine wpAnyH_take (i := 7) (v := ?_) rfl (by kernel_rfl) (by kernel_rfl) (by kernel_rfl) (fun _ _ _ h => h) (Or.inl ⟨by kernel_rfl, ?_⟩) (by with_reducible assumption) ?_
        rotate_left
        · intro wz hSw
          (try dsimp only at hSw)
          go_simp
          (try with_reducible rfl)
        show wpAnyH _ _ _ _ _ _ _ (Act.put _ (some 16) _) _
        (try simp only [Act.put, List.setIfInBounds_toArray, List.set_cons_zero, List.set_cons_succ])
        refine wpAnyH_ready (rs := [8]) (by kernel_rfl) (by simp) ?_
        refine AllReadyH.cons rfl (fun K hK => ?_) AllReadyH.nil
        clear hHeld
        go_simp
        have HB8 := Lib.hid (HB4.out.alloc HB4.out.size (.cells #[.int .u64 0, .int .u64 0, .int .u64 0, .int .u64 0] 24))
        have F_n := Lib.hid (heap_alloc_new Y4 (.cells #[.int .u64 0, .int .u64 0, .int .u64 0, .int .u64 0] 24))
        obtain ⟨X, eX⟩ : ∃ y, y = Y4.heap.size := ⟨_, rfl⟩
        go_wp2_with fail
        refine hK.out _ _ ?_ (fun hHeld => ?_)
        · exact HB8.out
        clear hK K
        (try simp only [Act.put, List.setIfInBounds_toArray, List.set_cons_zero, List.set_cons_succ])
        rw [← eX] at F_n ⊢
        have LX := Lib.hid (show Wa.heap.size ≤ X from by rw [eX]; exact HB4.out.size)
        clear eX
        generalize Y4.alloc (.cells #[.int .u64 0, .int .u64 0, .int .u64 0, .int .u64 0] 24) = Y8 at HB8 F_n hHeld ⊢
        refine wpAnyH_ready (rs := [9]) (by kernel_rfl) (by simp) ?_
        refine AllReadyH.cons rfl (fun K hK => ?_) AllReadyH.nil
        clear hHeld
        have c0 := (hp_cell (i := 0) F_n.out).trans rfl
        have g0 := hp_free (i := 0) F_n.out
        have c1 := (hp_cell (i := 1) F_n.out).trans rfl
        have g1 := hp_free (i := 1) F_n.out
        have c2 := (hp_cell (i := 2) F_n.out).trans rfl
        have g2 := hp_free (i := 2) F_n.out
        have c3 := (hp_cell (i := 3) F_n.out).trans rfl
        have g3 := hp_free (i := 3) F_n.out
        go_simp
        clear c0 c1 c2 c3 g0 g1 g2 g3
        have HB9 := Lib.hid (show Below Wa.heap.size Wa ((((Y8.setCell ⟨X, 0, none⟩ (.int .u64 (limb s 0 : Nat))).setCell ⟨X, 1, none⟩ (.int .u64 (limb s 1 : Nat))).setCell ⟨X, 2, none⟩ (.int .u64 (limb s 2 : Nat))).setCell ⟨X, 3, none⟩ (.int .u64 (limb s 3 : Nat))) from ((((HB8.out.setCell LX.out _).setCell LX.out _).setCell LX.out _).setCell LX.out _))
        have SX := Lib.hid (set4b (.int .u64 (limb s 0 : Nat)) (.int .u64 (limb s 1 : Nat)) (.int .u64 (limb s 2 : Nat)) (.int .u64 (limb s 3 : Nat)) F_n.out (rfl : ((((Y8.setCell ⟨X, 0, none⟩ (.int .u64 (limb s 0 : Nat))).setCell ⟨X, 1, none⟩ (.int .u64 (limb s 1 : Nat))).setCell ⟨X, 2, none⟩ (.int .u64 (limb s 2 : Nat))).setCell ⟨X, 3, none⟩ (.int .u64 (limb s 3 : Nat))) = _))
        go_wp2_with fail
        refine hK.out _ _ ?_ (fun hHeld => ?_)
        · exact HB9.out
        clear hK K
        (try simp only [Act.put, List.setIfInBounds_toArray, List.set_cons_zero, List.set_cons_succ])
        generalize (((Y8.setCell ⟨X, 0, none⟩ (.int .u64 (limb s 0 : Nat))).setCell ⟨X, 1, none⟩ (.int .u64 (limb s 1 : Nat))).setCell ⟨X, 2, none⟩ (.int .u64 (limb s 2 : Nat))).setCell ⟨X, 3, none⟩ (.int .u64 (limb s 3 : Nat)) = Y9 at HB9 SX hHeld ⊢
        refine wpAnyH_take (i := 10) (v := ?_) rfl (by kernel_rfl) (by kernel_rfl) (by kernel_rfl) (fun _ _ _ h => h) (Or.inl ⟨by kernel_rfl, ?_⟩) (by with_reducible assumption) ?_
        rotate_left
        · intro wz hSw
          (try dsimp only at hSw)
          go_simp
          (try with_reducible rfl)
        show wpAnyH _ _ _ _ _ _ _ (Act.put _ (some 8) _) _
        (try simp only [Act.put, List.setIfInBounds_toArray, List.set_cons_zero, List.set_cons_succ])
        refine wpAnyH_done (by kernel_rfl) ?_ _
        go_wp2_with fail
        go_meet
        case rel => exact ⟨X, rfl, rfl, SX.out, HB9.out⟩
      · clear hHeld
        go_simp
        have HB8 := Lib.hid (HB2.out.alloc HB2.out.size (.cells #[.int .u64 0, .int .u64 0, .int .u64 0, .int .u64 0] 24))
        have F_n := Lib.hid (heap_alloc_new Y2 (.cells #[.int .u64 0, .int .u64 0, .int .u64 0, .int .u64 0] 24))
        obtain ⟨X, eX⟩ : ∃ y, y = Y2.heap.size := ⟨_, rfl⟩
        go_wp2_with fail
        refine hK.out _ _ ?_ (fun hHeld => ?_)
        · exact HB8.out
        clear hK K
        (try simp only [Act.put, List.setIfInBounds_toArray, List.set_cons_zero, List.set_cons_succ])
        rw [← eX] at F_n ⊢
        have LX := Lib.hid (show Wa.heap.size ≤ X from by rw [eX]; exact HB2.out.size)
        clear eX
        generalize Y2.alloc (.cells #[.int .u64 0, .int .u64 0, .int .u64 0, .int .u64 0] 24) = Y8 at HB8 F_n hHeld ⊢
        refine wpAnyH_ready (rs := [4]) (by kernel_rfl) (by simp) ?_
        refine AllReadyH.cons rfl (fun K hK => ?_) AllReadyH.nil
        clear hHeld
        go_simp
        go_at_call 44
        refine (HAd.out _).mono ?_
        rintro e Y4 ⟨rfl, hb⟩
        have HB4 := Lib.hid (HB8.out.trans (hb.mono HB8.out.size))
        have F_4 := Lib.hid ((hb.block _ (hp_lt F_n.out)).trans F_n.out)
        clear hb
        go_wp2_with fail
        refine hK.out _ _ ?_ (fun hHeld => ?_)
        · exact HB4.out
        clear hK K
        (try simp only [Act.put, List.setIfInBounds_toArray, List.set_cons_zero, List.set_cons_succ])
        refine wpAnyH_take (i := 5) (v := ?_) rfl (by kernel_rfl) (by kernel_rfl) (by kernel_rfl) (fun _ _ _ h => h) (Or.inl ⟨by kernel_rfl, ?_⟩) (by with_reducible assumption) ?_
        rotate_left
        · intro wz hSw
          (try dsimp only at hSw)
          go_simp
          (try with_reducible rfl)
        show wpAnyH _ _ _ _ _ _ _ (Act.put _ (some 9) _) _
        (try simp only [Act.put, List.setIfInBounds_toArray, List.set_cons_zero, List.set_cons_succ])
        refine wpAnyH_take (i := 6) (v := ?_) rfl (by kernel_rfl) (by kernel_rfl) (by kernel_rfl) (fun _ _ _ h => h) (Or.inl ⟨by kernel_rfl, ?_⟩) (by with_reducible assumption) ?_
        rotate_left
        · intro wz hSw
          (try dsimp only at hSw)
          go_simp
          (try with_reducible rfl)
        show wpAnyH _ _ _ _ _ _ _ (Act.put _ (some 15) _) _
        (try simp only [Act.put, List.setIfInBounds_toArray, List.set_cons_zero, List.set_cons_succ])
        refine wpAnyH_take (i := 7) (v := ?_) rfl (by kernel_rfl) (by kernel_rfl) (by kernel_rfl) (fun _ _ _ h => h) (Or.inl ⟨by kernel_rfl, ?_⟩) (by with_reducible assumption) ?_
        rotate_left
        · intro wz hSw
          (try dsimp only at hSw)
          go_simp
          (try with_reducible rfl)
        show wpAnyH _ _ _ _ _ _ _ (Act.put _ (some 16) _) _
        (try simp only [Act.put, List.setIfInBounds_toArray, List.set_cons_zero, List.set_cons_succ])
        refine wpAnyH_ready (rs := [9]) (by kernel_rfl) (by simp) ?_
        refine AllReadyH.cons rfl (fun K hK => ?_) AllReadyH.nil
        clear hHeld
        have c0 := (hp_cell (i := 0) F_4.out).trans rfl
        have g0 := hp_free (i := 0) F_4.out
        have c1 := (hp_cell (i := 1) F_4.out).trans rfl
        have g1 := hp_free (i := 1) F_4.out
        have c2 := (hp_cell (i := 2) F_4.out).trans rfl
        have g2 := hp_free (i := 2) F_4.out
        have c3 := (hp_cell (i := 3) F_4.out).trans rfl
        have g3 := hp_free (i := 3) F_4.out
        go_simp
        clear c0 c1 c2 c3 g0 g1 g2 g3
        have HB9 := Lib.hid (show Below Wa.heap.size Wa ((((Y4.setCell ⟨X, 0, none⟩ (.int .u64 (limb s 0 : Nat))).setCell ⟨X, 1, none⟩ (.int .u64 (limb s 1 : Nat))).setCell ⟨X, 2, none⟩ (.int .u64 (limb s 2 : Nat))).setCell ⟨X, 3, none⟩ (.int .u64 (limb s 3 : Nat))) from ((((HB4.out.setCell LX.out _).setCell LX.out _).setCell LX.out _).setCell LX.out _))
        have SX := Lib.hid (set4b (.int .u64 (limb s 0 : Nat)) (.int .u64 (limb s 1 : Nat)) (.int .u64 (limb s 2 : Nat)) (.int .u64 (limb s 3 : Nat)) F_4.out (rfl : ((((Y4.setCell ⟨X, 0, none⟩ (.int .u64 (limb s 0 : Nat))).setCell ⟨X, 1, none⟩ (.int .u64 (limb s 1 : Nat))).setCell ⟨X, 2, none⟩ (.int .u64 (limb s 2 : Nat))).setCell ⟨X, 3, none⟩ (.int .u64 (limb s 3 : Nat))) = _))
        go_wp2_with fail
        refine hK.out _ _ ?_ (fun hHeld => ?_)
        · exact HB9.out
        clear hK K
        (try simp only [Act.put, List.setIfInBounds_toArray, List.set_cons_zero, List.set_cons_succ])
        generalize (((Y4.setCell ⟨X, 0, none⟩ (.int .u64 (limb s 0 : Nat))).setCell ⟨X, 1, none⟩ (.int .u64 (limb s 1 : Nat))).setCell ⟨X, 2, none⟩ (.int .u64 (limb s 2 : Nat))).setCell ⟨X, 3, none⟩ (.int .u64 (limb s 3 : Nat)) = Y9 at HB9 SX hHeld ⊢
        refine wpAnyH_take (i := 10) (v := ?_) rfl (by kernel_rfl) (by kernel_rfl) (by kernel_rfl) (fun _ _ _ h => h) (Or.inl ⟨by kernel_rfl, ?_⟩) (by with_reducible assumption) ?_
        rotate_left
        · intro wz hSw
          (try dsimp only at hSw)
          go_simp
          (try with_reducible rfl)
        show wpAnyH _ _ _ _ _ _ _ (Act.put _ (some 8) _) _
        (try simp only [Act.put, List.setIfInBounds_toArray, List.set_cons_zero, List.set_cons_succ])
        refine wpAnyH_done (by kernel_rfl) ?_ _
        go_wp2_with fail
        go_meet
        case rel => exact ⟨X, rfl, rfl, SX.out, HB9.out⟩
    · clear hHeld
      go_simp
      have HB8 := Lib.hid (HY0.out.alloc HY0.out.size (.cells #[.int .u64 0, .int .u64 0, .int .u64 0, .int .u64 0] 24))
      have F_n := Lib.hid (heap_alloc_new Y0 (.cells #[.int .u64 0, .int .u64 0, .int .u64 0, .int .u64 0] 24))
      obtain ⟨X, eX⟩ : ∃ y, y = Y0.heap.size := ⟨_, rfl⟩
      go_wp2_with fail
      refine hK.out _ _ ?_ (fun hHeld => ?_)
      · exact HB8.out
      clear hK K
      (try simp only [Act.put, List.setIfInBounds_toArray, List.set_cons_zero, List.set_cons_succ])
      rw [← eX] at F_n ⊢
      have LX := Lib.hid (show Wa.heap.size ≤ X from by rw [eX]; exact HY0.out.size)
      clear eX
      generalize Y0.alloc (.cells #[.int .u64 0, .int .u64 0, .int .u64 0, .int .u64 0] 24) = Y8 at HB8 F_n hHeld ⊢
      refine wpAnyH_ready (rs := [2]) (by kernel_rfl) (by simp) ?_
      refine AllReadyH.cons rfl (fun K hK => ?_) AllReadyH.nil
      clear hHeld
      go_simp
      go_at_call 45
      refine (HA.out _ (HB0.out.trans (HB8.out.mono HB0.out.size))).mono ?_
      rintro e Y2 ⟨rfl, hb⟩
      have HB2 := Lib.hid (HB8.out.trans (hb.mono HB8.out.size))
      have F_2 := Lib.hid ((hb.block _ (hp_lt F_n.out)).trans F_n.out)
      clear hb
      go_wp2_with fail
      refine hK.out _ _ ?_ (fun hHeld => ?_)
      · exact HB2.out
      clear hK K
      (try simp only [Act.put, List.setIfInBounds_toArray, List.set_cons_zero, List.set_cons_succ])
      refine wpAnyH_ready (rs := [4]) (by kernel_rfl) (by simp) ?_
      refine AllReadyH.cons rfl (fun K hK => ?_) AllReadyH.nil
      clear hHeld
      go_simp
      go_at_call 44
      refine (HAd.out _).mono ?_
      rintro e Y4 ⟨rfl, hb⟩
      have HB4 := Lib.hid (HB2.out.trans (hb.mono HB2.out.size))
      have F_4 := Lib.hid ((hb.block _ (hp_lt F_2.out)).trans F_2.out)
      clear hb
      go_wp2_with fail
      refine hK.out _ _ ?_ (fun hHeld => ?_)
      · exact HB4.out
      clear hK K
      (try simp only [Act.put, List.setIfInBounds_toArray, List.set_cons_zero, List.set_cons_succ])
      refine wpAnyH_take (i := 5) (v := ?_) rfl (by kernel_rfl) (by kernel_rfl) (by kernel_rfl) (fun _ _ _ h => h) (Or.inl ⟨by kernel_rfl, ?_⟩) (by with_reducible assumption) ?_
      rotate_left
      · intro wz hSw
        (try dsimp only at hSw)
        go_simp
        (try with_reducible rfl)
      show wpAnyH _ _ _ _ _ _ _ (Act.put _ (some 9) _) _
      (try simp only [Act.put, List.setIfInBounds_toArray, List.set_cons_zero, List.set_cons_succ])
      refine wpAnyH_take (i := 6) (v := ?_) rfl (by kernel_rfl) (by kernel_rfl) (by kernel_rfl) (fun _ _ _ h => h) (Or.inl ⟨by kernel_rfl, ?_⟩) (by with_reducible assumption) ?_
      rotate_left
      · intro wz hSw
        (try dsimp only at hSw)
        go_simp
        (try with_reducible rfl)
      show wpAnyH _ _ _ _ _ _ _ (Act.put _ (some 15) _) _
      (try simp only [Act.put, List.setIfInBounds_toArray, List.set_cons_zero, List.set_cons_succ])
      refine wpAnyH_take (i := 7) (v := ?_) rfl (by kernel_rfl) (by kernel_rfl) (by kernel_rfl) (fun _ _ _ h => h) (Or.inl ⟨by kernel_rfl, ?_⟩) (by with_reducible assumption) ?_
      rotate_left
      · intro wz hSw
        (try dsimp only at hSw)
        go_simp
        (try with_reducible rfl)
      show wpAnyH _ _ _ _ _ _ _ (Act.put _ (some 16) _) _
      (try simp only [Act.put, List.setIfInBounds_toArray, List.set_cons_zero, List.set_cons_succ])
      refine wpAnyH_ready (rs := [9]) (by kernel_rfl) (by simp) ?_
      refine AllReadyH.cons rfl (fun K hK => ?_) AllReadyH.nil
      clear hHeld
      have c0 := (hp_cell (i := 0) F_4.out).trans rfl
      have g0 := hp_free (i := 0) F_4.out
      have c1 := (hp_cell (i := 1) F_4.out).trans rfl
      have g1 := hp_free (i := 1) F_4.out
      have c2 := (hp_cell (i := 2) F_4.out).trans rfl
      have g2 := hp_free (i := 2) F_4.out
      have c3 := (hp_cell (i := 3) F_4.out).trans rfl
      have g3 := hp_free (i := 3) F_4.out
      go_simp
      clear c0 c1 c2 c3 g0 g1 g2 g3
      have HB9 := Lib.hid (show Below Wa.heap.size Wa ((((Y4.setCell ⟨X, 0, none⟩ (.int .u64 (limb s 0 : Nat))).setCell ⟨X, 1, none⟩ (.int .u64 (limb s 1 : Nat))).setCell ⟨X, 2, none⟩ (.int .u64 (limb s 2 : Nat))).setCell ⟨X, 3, none⟩ (.int .u64 (limb s 3 : Nat))) from ((((HB4.out.setCell LX.out _).setCell LX.out _).setCell LX.out _).setCell LX.out _))
      have SX := Lib.hid (set4b (.int .u64 (limb s 0 : Nat)) (.int .u64 (limb s 1 : Nat)) (.int .u64 (limb s 2 : Nat)) (.int .u64 (limb s 3 : Nat)) F_4.out (rfl : ((((Y4.setCell ⟨X, 0, none⟩ (.int .u64 (limb s 0 : Nat))).setCell ⟨X, 1, none⟩ (.int .u64 (limb s 1 : Nat))).setCell ⟨X, 2, none⟩ (.int .u64 (limb s 2 : Nat))).setCell ⟨X, 3, none⟩ (.int .u64 (limb s 3 : Nat))) = _))
      go_wp2_with fail
      refine hK.out _ _ ?_ (fun hHeld => ?_)
      · exact HB9.out
      clear hK K
      (try simp only [Act.put, List.setIfInBounds_toArray, List.set_cons_zero, List.set_cons_succ])
      generalize (((Y4.setCell ⟨X, 0, none⟩ (.int .u64 (limb s 0 : Nat))).setCell ⟨X, 1, none⟩ (.int .u64 (limb s 1 : Nat))).setCell ⟨X, 2, none⟩ (.int .u64 (limb s 2 : Nat))).setCell ⟨X, 3, none⟩ (.int .u64 (limb s 3 : Nat)) = Y9 at HB9 SX hHeld ⊢
      refine wpAnyH_take (i := 10) (v := ?_) rfl (by kernel_rfl) (by kernel_rfl) (by kernel_rfl) (fun _ _ _ h => h) (Or.inl ⟨by kernel_rfl, ?_⟩) (by with_reducible assumption) ?_
      rotate_left
      · intro wz hSw
        (try dsimp only at hSw)
        go_simp
        (try with_reducible rfl)
      show wpAnyH _ _ _ _ _ _ _ (Act.put _ (some 8) _) _
      (try simp only [Act.put, List.setIfInBounds_toArray, List.set_cons_zero, List.set_cons_succ])
      refine wpAnyH_done (by kernel_rfl) ?_ _
      go_wp2_with fail
      go_meet
      case rel => exact ⟨X, rfl, rfl, SX.out, HB9.out⟩
  case rest =>
    obtain ⟨B, rfl, rfl, hB, hbc⟩ := hcut
    have HBc := Lib.hid (HB0.out.trans (hbc.mono HB0.out.size))
    have HBB := Lib.hid hB
    have c0 := (hp_cell (i := 0) hB).trans rfl
    have c1 := (hp_cell (i := 1) hB).trans rfl
    have c2 := (hp_cell (i := 2) hB).trans rfl
    have c3 := (hp_cell (i := 3) hB).trans rfl
    clear hB hbc
    go_wp2_with (first
      | (go_at_call 20; refine (HS.out _ H3.out).mono ?_; rintro e w4 ⟨rfl, h4⟩; have H4 := Lib.hid h4; clear h4)
      | (go_at_call 46; refine (HAm.out _).mono ?_; rintro e w3 ⟨rfl, hb3⟩; have H3 := Lib.hid (HBc.out.trans (hb3.mono HBc.out.size)); have r3 := (hb3.block _ (hp_lt HBB.out)).trans HBB.out; clear c0 c1 c2 c3; have c0 := (hp_cell (i := 0) r3).trans rfl; have c1 := (hp_cell (i := 1) r3).trans rfl; have c2 := (hp_cell (i := 2) r3).trans rfl; have c3 := (hp_cell (i := 3) r3).trans rfl; clear hb3 r3))
    go_ret
    exact ⟨rfl, H4.out⟩
set_option maxRecDepth 100000 in
set_option maxHeartbeats 4000000 in
theorem raddA_most (w W : World) (m : Nat) (L : SL) (R : List Ch) (k : ByteArray) (was a : Nat) (h : DS w W m L R) (hr : Rising (skeys L)) (hN : L.length < 900000) (hR : R.length < 900000) (he : amtAt L k was) (hw : was < 2 ^ 256) (ha : a < 2 ^ 256) (hlt : was + a < 2 ^ 256) (hov : MOST < was + a) :
    Calls Tryz.prog 21 #[.pointer (some ⟨m, 0, none⟩), .string k, U a] W fun e W' => e = .returned (.int .i64 6) ∧ DSTo w W W' m L R := by
  have hb0 := (Below.refl W.heap.size W).alloc (Nat.le_refl _) (.cells #[.int .u64 (limb a 0 : Nat), .int .u64 (limb a 1 : Nat), .int .u64 (limb a 2 : Nat), .int .u64 (limb a 3 : Nat)] 24)
  have r0 := heap_alloc_new W (.cells #[.int .u64 (limb a 0 : Nat), .int .u64 (limb a 1 : Nat), .int .u64 (limb a 2 : Nat), .int .u64 (limb a 3 : Nat)] 24)
  have HB0 := Lib.hid hb0
  have hA := fun (W1 : World) (hb : Below W.heap.size W W1) => ramount_at w W1 m L R k was (h.below hb) hr (by omega) he hw
  have hAd := fun W1 => radd_walk was a W1 hw ha
  unfold addv addk at hAd
  rw [if_pos hlt, decide_eq_true hlt] at hAd
  obtain ⟨s, hs⟩ : ∃ s, s = was + a := ⟨_, rfl⟩
  rw [← hs] at hAd hov hlt
  have HAm := Lib.hid (fun W => amount_cc s W false hlt (decide_eq_false (by omega)))
  unfold U at hA hAd
  have HA := Lib.hid hA
  have HAd := Lib.hid hAd
  have HD := Lib.hid (fun (W1 : World) (hb : Below W.heap.size W W1) => DSTo.of_below h hb)
  have HR0 := Lib.hid r0
  clear h hr hN hR he hw ha hb0 r0 hA hAd hlt hov hs
  unfold U
  go_enter Tryz.func21, Tryz.ntmps21
  go_upto_region 1 with fail
  obtain ⟨XB, hXB⟩ : ∃ XB, XB = W.heap.size := ⟨_, rfl⟩
  rw [← hXB] at HR0 ⊢
  have HBx := Lib.hid HR0.out
  have LB := Lib.hid (hp_lt HR0.out)
  clear hXB HR0
  generalize W.alloc (.cells #[.int .u64 (limb a 0 : Nat), .int .u64 (limb a 1 : Nat), .int .u64 (limb a 2 : Nat), .int .u64 (limb a 3 : Nat)] 24) = Wa at HB0 HBx LB ⊢
  go_cut [7, 8] (fun p q wx => ∃ B, p = .pointer (some ⟨B, 0, none⟩) ∧ q = .bool true ∧ wx.heap[B]? = some (.cells #[.int .u64 (limb s 0 : Nat), .int .u64 (limb s 1 : Nat), .int .u64 (limb s 2 : Nat), .int .u64 (limb s 3 : Nat)] 24 (0, 0)) ∧ Below Wa.heap.size Wa wx)
  case first =>
    refine wp_region_held_drew (S := fun w' => Below Wa.heap.size Wa w') (by kernel_rfl) ?_ (fun hHeld => ?_)
    · exact (Below.refl _ _).drew
    have HY0 := Lib.hid (show Below Wa.heap.size Wa Wa.drew from (Below.refl _ _).drew)
    generalize Wa.drew = Y0 at HY0 hHeld ⊢
    refine wpAnyH_take (i := 0) (v := ?_) rfl (by kernel_rfl) (by kernel_rfl) (by kernel_rfl) (fun _ _ _ h => h) (Or.inl ⟨by kernel_rfl, ?_⟩) (by with_reducible assumption) ?_
    rotate_left
    · intro wz hSw
      (try dsimp only at hSw)
      go_simp
      (try with_reducible rfl)
    show wpAnyH _ _ _ _ _ _ _ (Act.put _ (some 10) _) _
    (try simp only [Act.put, List.setIfInBounds_toArray, List.set_cons_zero, List.set_cons_succ])
    refine wpAnyH_take (i := 1) (v := ?_) rfl (by kernel_rfl) (by kernel_rfl) (by kernel_rfl) (fun _ _ _ h => h) (Or.inl ⟨by kernel_rfl, ?_⟩) (by with_reducible assumption) ?_
    rotate_left
    · intro wz hSw
      (try dsimp only at hSw)
      go_simp
      (try with_reducible rfl)
    show wpAnyH _ _ _ _ _ _ _ (Act.put _ (some 11) _) _
    (try simp only [Act.put, List.setIfInBounds_toArray, List.set_cons_zero, List.set_cons_succ])
    refine wpAnyH_take (i := 3) (v := .agg #[.int .u64 (limb a 0 : Nat), .int .u64 (limb a 1 : Nat), .int .u64 (limb a 2 : Nat), .int .u64 (limb a 3 : Nat)]) rfl (by kernel_rfl) (by kernel_rfl) (by kernel_rfl) (fun _ _ _ h => h) (Or.inl ⟨by kernel_rfl, ?_⟩) (by with_reducible assumption) ?_
    · intro wz hSw
      (try dsimp only at hSw)
      have z0 := (hSw.cell (p := ⟨XB, 0, none⟩) LB.out).trans ((hp_cell (i := 0) HBx.out).trans rfl)
      have z1 := (hSw.cell (p := ⟨XB, 1, none⟩) LB.out).trans ((hp_cell (i := 1) HBx.out).trans rfl)
      have z2 := (hSw.cell (p := ⟨XB, 2, none⟩) LB.out).trans ((hp_cell (i := 2) HBx.out).trans rfl)
      have z3 := (hSw.cell (p := ⟨XB, 3, none⟩) LB.out).trans ((hp_cell (i := 3) HBx.out).trans rfl)
      go_simp
      (try with_reducible rfl)
    show wpAnyH _ _ _ _ _ _ _ (Act.put _ (some 13) _) _
    (try simp only [Act.put, List.setIfInBounds_toArray, List.set_cons_zero, List.set_cons_succ])
    refine wpAnyH_ready (rs := [2, 8]) (by kernel_rfl) (by simp) ?_
    refine AllReadyH.cons rfl (fun K hK => ?_) (AllReadyH.cons rfl (fun K hK => ?_) AllReadyH.nil)
    · clear hHeld
      go_simp
      go_at_call 45
      refine (HA.out _ (HB0.out.trans (HY0.out.mono HB0.out.size))).mono ?_
      rintro e Y2 ⟨rfl, hb⟩
      have HB2 := Lib.hid (HY0.out.trans (hb.mono HY0.out.size))
      clear hb
      go_wp2_with fail
      refine hK.out _ _ ?_ (fun hHeld => ?_)
      · exact HB2.out
      clear hK K
      (try simp only [Act.put, List.setIfInBounds_toArray, List.set_cons_zero, List.set_cons_succ])
      refine wpAnyH_ready (rs := [4, 8]) (by kernel_rfl) (by simp) ?_
      refine AllReadyH.cons rfl (fun K hK => ?_) (AllReadyH.cons rfl (fun K hK => ?_) AllReadyH.nil)
      · clear hHeld
        go_simp
        go_at_call 44
        refine (HAd.out _).mono ?_
        rintro e Y4 ⟨rfl, hb⟩
        have HB4 := Lib.hid (HB2.out.trans (hb.mono HB2.out.size))
        clear hb
        go_wp2_with fail
        refine hK.out _ _ ?_ (fun hHeld => ?_)
        · exact HB4.out
        clear hK K
        (try simp only [Act.put, List.setIfInBounds_toArray, List.set_cons_zero, List.set_cons_succ])
        refine wpAnyH_take (i := 5) (v := ?_) rfl (by kernel_rfl) (by kernel_rfl) (by kernel_rfl) (fun _ _ _ h => h) (Or.inl ⟨by kernel_rfl, ?_⟩) (by with_reducible assumption) ?_
        rotate_left
        · intro wz hSw
          (try dsimp only at hSw)
          go_simp
          (try with_reducible rfl)
        show wpAnyH _ _ _ _ _ _ _ (Act.put _ (some 9) _) _
        (try simp only [Act.put, List.setIfInBounds_toArray, List.set_cons_zero, List.set_cons_succ])
        refine wpAnyH_take (i := 6) (v := ?_) rfl (by kernel_rfl) (by kernel_rfl) (by kernel_rfl) (fun _ _ _ h => h) (Or.inl ⟨by kernel_rfl, ?_⟩) (by with_reducible assumption) ?_
        rotate_left
        · intro wz hSw
          (try dsimp only at hSw)
          go_simp
          (try with_reducible rfl)
        show wpAnyH _ _ _ _ _ _ _ (Act.put _ (some 15) _) _
        (try simp only [Act.put, List.setIfInBounds_toArray, List.set_cons_zero, List.set_cons_succ])
        refine wpAnyH_take (i := 7) (v := ?_) rfl (by kernel_rfl) (by kernel_rfl) (by kernel_rfl) (fun _ _ _ h => h) (Or.inl ⟨by kernel_rfl, ?_⟩) (by with_reducible assumption) ?_
        rotate_left
        · intro wz hSw
          (try dsimp only at hSw)
          go_simp
          (try with_reducible rfl)
        show wpAnyH _ _ _ _ _ _ _ (Act.put _ (some 16) _) _
        (try simp only [Act.put, List.setIfInBounds_toArray, List.set_cons_zero, List.set_cons_succ])
        refine wpAnyH_ready (rs := [8]) (by kernel_rfl) (by simp) ?_
        refine AllReadyH.cons rfl (fun K hK => ?_) AllReadyH.nil
        clear hHeld
        go_simp
        have HB8 := Lib.hid (HB4.out.alloc HB4.out.size (.cells #[.int .u64 0, .int .u64 0, .int .u64 0, .int .u64 0] 24))
        have F_n := Lib.hid (heap_alloc_new Y4 (.cells #[.int .u64 0, .int .u64 0, .int .u64 0, .int .u64 0] 24))
        obtain ⟨X, eX⟩ : ∃ y, y = Y4.heap.size := ⟨_, rfl⟩
        go_wp2_with fail
        refine hK.out _ _ ?_ (fun hHeld => ?_)
        · exact HB8.out
        clear hK K
        (try simp only [Act.put, List.setIfInBounds_toArray, List.set_cons_zero, List.set_cons_succ])
        rw [← eX] at F_n ⊢
        have LX := Lib.hid (show Wa.heap.size ≤ X from by rw [eX]; exact HB4.out.size)
        clear eX
        generalize Y4.alloc (.cells #[.int .u64 0, .int .u64 0, .int .u64 0, .int .u64 0] 24) = Y8 at HB8 F_n hHeld ⊢
        refine wpAnyH_ready (rs := [9]) (by kernel_rfl) (by simp) ?_
        refine AllReadyH.cons rfl (fun K hK => ?_) AllReadyH.nil
        clear hHeld
        have c0 := (hp_cell (i := 0) F_n.out).trans rfl
        have g0 := hp_free (i := 0) F_n.out
        have c1 := (hp_cell (i := 1) F_n.out).trans rfl
        have g1 := hp_free (i := 1) F_n.out
        have c2 := (hp_cell (i := 2) F_n.out).trans rfl
        have g2 := hp_free (i := 2) F_n.out
        have c3 := (hp_cell (i := 3) F_n.out).trans rfl
        have g3 := hp_free (i := 3) F_n.out
        go_simp
        clear c0 c1 c2 c3 g0 g1 g2 g3
        have HB9 := Lib.hid (show Below Wa.heap.size Wa ((((Y8.setCell ⟨X, 0, none⟩ (.int .u64 (limb s 0 : Nat))).setCell ⟨X, 1, none⟩ (.int .u64 (limb s 1 : Nat))).setCell ⟨X, 2, none⟩ (.int .u64 (limb s 2 : Nat))).setCell ⟨X, 3, none⟩ (.int .u64 (limb s 3 : Nat))) from ((((HB8.out.setCell LX.out _).setCell LX.out _).setCell LX.out _).setCell LX.out _))
        have SX := Lib.hid (set4b (.int .u64 (limb s 0 : Nat)) (.int .u64 (limb s 1 : Nat)) (.int .u64 (limb s 2 : Nat)) (.int .u64 (limb s 3 : Nat)) F_n.out (rfl : ((((Y8.setCell ⟨X, 0, none⟩ (.int .u64 (limb s 0 : Nat))).setCell ⟨X, 1, none⟩ (.int .u64 (limb s 1 : Nat))).setCell ⟨X, 2, none⟩ (.int .u64 (limb s 2 : Nat))).setCell ⟨X, 3, none⟩ (.int .u64 (limb s 3 : Nat))) = _))
        go_wp2_with fail
        refine hK.out _ _ ?_ (fun hHeld => ?_)
        · exact HB9.out
        clear hK K
        (try simp only [Act.put, List.setIfInBounds_toArray, List.set_cons_zero, List.set_cons_succ])
        generalize (((Y8.setCell ⟨X, 0, none⟩ (.int .u64 (limb s 0 : Nat))).setCell ⟨X, 1, none⟩ (.int .u64 (limb s 1 : Nat))).setCell ⟨X, 2, none⟩ (.int .u64 (limb s 2 : Nat))).setCell ⟨X, 3, none⟩ (.int .u64 (limb s 3 : Nat)) = Y9 at HB9 SX hHeld ⊢
        refine wpAnyH_take (i := 10) (v := ?_) rfl (by kernel_rfl) (by kernel_rfl) (by kernel_rfl) (fun _ _ _ h => h) (Or.inl ⟨by kernel_rfl, ?_⟩) (by with_reducible assumption) ?_
        rotate_left
        · intro wz hSw
          (try dsimp only at hSw)
          go_simp
          (try with_reducible rfl)
        show wpAnyH _ _ _ _ _ _ _ (Act.put _ (some 8) _) _
        (try simp only [Act.put, List.setIfInBounds_toArray, List.set_cons_zero, List.set_cons_succ])
        refine wpAnyH_done (by kernel_rfl) ?_ _
        go_wp2_with fail
        go_meet
        case rel => exact ⟨X, rfl, rfl, SX.out, HB9.out⟩
      · clear hHeld
        go_simp
        have HB8 := Lib.hid (HB2.out.alloc HB2.out.size (.cells #[.int .u64 0, .int .u64 0, .int .u64 0, .int .u64 0] 24))
        have F_n := Lib.hid (heap_alloc_new Y2 (.cells #[.int .u64 0, .int .u64 0, .int .u64 0, .int .u64 0] 24))
        obtain ⟨X, eX⟩ : ∃ y, y = Y2.heap.size := ⟨_, rfl⟩
        go_wp2_with fail
        refine hK.out _ _ ?_ (fun hHeld => ?_)
        · exact HB8.out
        clear hK K
        (try simp only [Act.put, List.setIfInBounds_toArray, List.set_cons_zero, List.set_cons_succ])
        rw [← eX] at F_n ⊢
        have LX := Lib.hid (show Wa.heap.size ≤ X from by rw [eX]; exact HB2.out.size)
        clear eX
        generalize Y2.alloc (.cells #[.int .u64 0, .int .u64 0, .int .u64 0, .int .u64 0] 24) = Y8 at HB8 F_n hHeld ⊢
        refine wpAnyH_ready (rs := [4]) (by kernel_rfl) (by simp) ?_
        refine AllReadyH.cons rfl (fun K hK => ?_) AllReadyH.nil
        clear hHeld
        go_simp
        go_at_call 44
        refine (HAd.out _).mono ?_
        rintro e Y4 ⟨rfl, hb⟩
        have HB4 := Lib.hid (HB8.out.trans (hb.mono HB8.out.size))
        have F_4 := Lib.hid ((hb.block _ (hp_lt F_n.out)).trans F_n.out)
        clear hb
        go_wp2_with fail
        refine hK.out _ _ ?_ (fun hHeld => ?_)
        · exact HB4.out
        clear hK K
        (try simp only [Act.put, List.setIfInBounds_toArray, List.set_cons_zero, List.set_cons_succ])
        refine wpAnyH_take (i := 5) (v := ?_) rfl (by kernel_rfl) (by kernel_rfl) (by kernel_rfl) (fun _ _ _ h => h) (Or.inl ⟨by kernel_rfl, ?_⟩) (by with_reducible assumption) ?_
        rotate_left
        · intro wz hSw
          (try dsimp only at hSw)
          go_simp
          (try with_reducible rfl)
        show wpAnyH _ _ _ _ _ _ _ (Act.put _ (some 9) _) _
        (try simp only [Act.put, List.setIfInBounds_toArray, List.set_cons_zero, List.set_cons_succ])
        refine wpAnyH_take (i := 6) (v := ?_) rfl (by kernel_rfl) (by kernel_rfl) (by kernel_rfl) (fun _ _ _ h => h) (Or.inl ⟨by kernel_rfl, ?_⟩) (by with_reducible assumption) ?_
        rotate_left
        · intro wz hSw
          (try dsimp only at hSw)
          go_simp
          (try with_reducible rfl)
        show wpAnyH _ _ _ _ _ _ _ (Act.put _ (some 15) _) _
        (try simp only [Act.put, List.setIfInBounds_toArray, List.set_cons_zero, List.set_cons_succ])
        refine wpAnyH_take (i := 7) (v := ?_) rfl (by kernel_rfl) (by kernel_rfl) (by kernel_rfl) (fun _ _ _ h => h) (Or.inl ⟨by kernel_rfl, ?_⟩) (by with_reducible assumption) ?_
        rotate_left
        · intro wz hSw
          (try dsimp only at hSw)
          go_simp
          (try with_reducible rfl)
        show wpAnyH _ _ _ _ _ _ _ (Act.put _ (some 16) _) _
        (try simp only [Act.put, List.setIfInBounds_toArray, List.set_cons_zero, List.set_cons_succ])
        refine wpAnyH_ready (rs := [9]) (by kernel_rfl) (by simp) ?_
        refine AllReadyH.cons rfl (fun K hK => ?_) AllReadyH.nil
        clear hHeld
        have c0 := (hp_cell (i := 0) F_4.out).trans rfl
        have g0 := hp_free (i := 0) F_4.out
        have c1 := (hp_cell (i := 1) F_4.out).trans rfl
        have g1 := hp_free (i := 1) F_4.out
        have c2 := (hp_cell (i := 2) F_4.out).trans rfl
        have g2 := hp_free (i := 2) F_4.out
        have c3 := (hp_cell (i := 3) F_4.out).trans rfl
        have g3 := hp_free (i := 3) F_4.out
        go_simp
        clear c0 c1 c2 c3 g0 g1 g2 g3
        have HB9 := Lib.hid (show Below Wa.heap.size Wa ((((Y4.setCell ⟨X, 0, none⟩ (.int .u64 (limb s 0 : Nat))).setCell ⟨X, 1, none⟩ (.int .u64 (limb s 1 : Nat))).setCell ⟨X, 2, none⟩ (.int .u64 (limb s 2 : Nat))).setCell ⟨X, 3, none⟩ (.int .u64 (limb s 3 : Nat))) from ((((HB4.out.setCell LX.out _).setCell LX.out _).setCell LX.out _).setCell LX.out _))
        have SX := Lib.hid (set4b (.int .u64 (limb s 0 : Nat)) (.int .u64 (limb s 1 : Nat)) (.int .u64 (limb s 2 : Nat)) (.int .u64 (limb s 3 : Nat)) F_4.out (rfl : ((((Y4.setCell ⟨X, 0, none⟩ (.int .u64 (limb s 0 : Nat))).setCell ⟨X, 1, none⟩ (.int .u64 (limb s 1 : Nat))).setCell ⟨X, 2, none⟩ (.int .u64 (limb s 2 : Nat))).setCell ⟨X, 3, none⟩ (.int .u64 (limb s 3 : Nat))) = _))
        go_wp2_with fail
        refine hK.out _ _ ?_ (fun hHeld => ?_)
        · exact HB9.out
        clear hK K
        (try simp only [Act.put, List.setIfInBounds_toArray, List.set_cons_zero, List.set_cons_succ])
        generalize (((Y4.setCell ⟨X, 0, none⟩ (.int .u64 (limb s 0 : Nat))).setCell ⟨X, 1, none⟩ (.int .u64 (limb s 1 : Nat))).setCell ⟨X, 2, none⟩ (.int .u64 (limb s 2 : Nat))).setCell ⟨X, 3, none⟩ (.int .u64 (limb s 3 : Nat)) = Y9 at HB9 SX hHeld ⊢
        refine wpAnyH_take (i := 10) (v := ?_) rfl (by kernel_rfl) (by kernel_rfl) (by kernel_rfl) (fun _ _ _ h => h) (Or.inl ⟨by kernel_rfl, ?_⟩) (by with_reducible assumption) ?_
        rotate_left
        · intro wz hSw
          (try dsimp only at hSw)
          go_simp
          (try with_reducible rfl)
        show wpAnyH _ _ _ _ _ _ _ (Act.put _ (some 8) _) _
        (try simp only [Act.put, List.setIfInBounds_toArray, List.set_cons_zero, List.set_cons_succ])
        refine wpAnyH_done (by kernel_rfl) ?_ _
        go_wp2_with fail
        go_meet
        case rel => exact ⟨X, rfl, rfl, SX.out, HB9.out⟩
    · clear hHeld
      go_simp
      have HB8 := Lib.hid (HY0.out.alloc HY0.out.size (.cells #[.int .u64 0, .int .u64 0, .int .u64 0, .int .u64 0] 24))
      have F_n := Lib.hid (heap_alloc_new Y0 (.cells #[.int .u64 0, .int .u64 0, .int .u64 0, .int .u64 0] 24))
      obtain ⟨X, eX⟩ : ∃ y, y = Y0.heap.size := ⟨_, rfl⟩
      go_wp2_with fail
      refine hK.out _ _ ?_ (fun hHeld => ?_)
      · exact HB8.out
      clear hK K
      (try simp only [Act.put, List.setIfInBounds_toArray, List.set_cons_zero, List.set_cons_succ])
      rw [← eX] at F_n ⊢
      have LX := Lib.hid (show Wa.heap.size ≤ X from by rw [eX]; exact HY0.out.size)
      clear eX
      generalize Y0.alloc (.cells #[.int .u64 0, .int .u64 0, .int .u64 0, .int .u64 0] 24) = Y8 at HB8 F_n hHeld ⊢
      refine wpAnyH_ready (rs := [2]) (by kernel_rfl) (by simp) ?_
      refine AllReadyH.cons rfl (fun K hK => ?_) AllReadyH.nil
      clear hHeld
      go_simp
      go_at_call 45
      refine (HA.out _ (HB0.out.trans (HB8.out.mono HB0.out.size))).mono ?_
      rintro e Y2 ⟨rfl, hb⟩
      have HB2 := Lib.hid (HB8.out.trans (hb.mono HB8.out.size))
      have F_2 := Lib.hid ((hb.block _ (hp_lt F_n.out)).trans F_n.out)
      clear hb
      go_wp2_with fail
      refine hK.out _ _ ?_ (fun hHeld => ?_)
      · exact HB2.out
      clear hK K
      (try simp only [Act.put, List.setIfInBounds_toArray, List.set_cons_zero, List.set_cons_succ])
      refine wpAnyH_ready (rs := [4]) (by kernel_rfl) (by simp) ?_
      refine AllReadyH.cons rfl (fun K hK => ?_) AllReadyH.nil
      clear hHeld
      go_simp
      go_at_call 44
      refine (HAd.out _).mono ?_
      rintro e Y4 ⟨rfl, hb⟩
      have HB4 := Lib.hid (HB2.out.trans (hb.mono HB2.out.size))
      have F_4 := Lib.hid ((hb.block _ (hp_lt F_2.out)).trans F_2.out)
      clear hb
      go_wp2_with fail
      refine hK.out _ _ ?_ (fun hHeld => ?_)
      · exact HB4.out
      clear hK K
      (try simp only [Act.put, List.setIfInBounds_toArray, List.set_cons_zero, List.set_cons_succ])
      refine wpAnyH_take (i := 5) (v := ?_) rfl (by kernel_rfl) (by kernel_rfl) (by kernel_rfl) (fun _ _ _ h => h) (Or.inl ⟨by kernel_rfl, ?_⟩) (by with_reducible assumption) ?_
      rotate_left
      · intro wz hSw
        (try dsimp only at hSw)
        go_simp
        (try with_reducible rfl)
      show wpAnyH _ _ _ _ _ _ _ (Act.put _ (some 9) _) _
      (try simp only [Act.put, List.setIfInBounds_toArray, List.set_cons_zero, List.set_cons_succ])
      refine wpAnyH_take (i := 6) (v := ?_) rfl (by kernel_rfl) (by kernel_rfl) (by kernel_rfl) (fun _ _ _ h => h) (Or.inl ⟨by kernel_rfl, ?_⟩) (by with_reducible assumption) ?_
      rotate_left
      · intro wz hSw
        (try dsimp only at hSw)
        go_simp
        (try with_reducible rfl)
      show wpAnyH _ _ _ _ _ _ _ (Act.put _ (some 15) _) _
      (try simp only [Act.put, List.setIfInBounds_toArray, List.set_cons_zero, List.set_cons_succ])
      refine wpAnyH_take (i := 7) (v := ?_) rfl (by kernel_rfl) (by kernel_rfl) (by kernel_rfl) (fun _ _ _ h => h) (Or.inl ⟨by kernel_rfl, ?_⟩) (by with_reducible assumption) ?_
      rotate_left
      · intro wz hSw
        (try dsimp only at hSw)
        go_simp
        (try with_reducible rfl)
      show wpAnyH _ _ _ _ _ _ _ (Act.put _ (some 16) _) _
      (try simp only [Act.put, List.setIfInBounds_toArray, List.set_cons_zero, List.set_cons_succ])
      refine wpAnyH_ready (rs := [9]) (by kernel_rfl) (by simp) ?_
      refine AllReadyH.cons rfl (fun K hK => ?_) AllReadyH.nil
      clear hHeld
      have c0 := (hp_cell (i := 0) F_4.out).trans rfl
      have g0 := hp_free (i := 0) F_4.out
      have c1 := (hp_cell (i := 1) F_4.out).trans rfl
      have g1 := hp_free (i := 1) F_4.out
      have c2 := (hp_cell (i := 2) F_4.out).trans rfl
      have g2 := hp_free (i := 2) F_4.out
      have c3 := (hp_cell (i := 3) F_4.out).trans rfl
      have g3 := hp_free (i := 3) F_4.out
      go_simp
      clear c0 c1 c2 c3 g0 g1 g2 g3
      have HB9 := Lib.hid (show Below Wa.heap.size Wa ((((Y4.setCell ⟨X, 0, none⟩ (.int .u64 (limb s 0 : Nat))).setCell ⟨X, 1, none⟩ (.int .u64 (limb s 1 : Nat))).setCell ⟨X, 2, none⟩ (.int .u64 (limb s 2 : Nat))).setCell ⟨X, 3, none⟩ (.int .u64 (limb s 3 : Nat))) from ((((HB4.out.setCell LX.out _).setCell LX.out _).setCell LX.out _).setCell LX.out _))
      have SX := Lib.hid (set4b (.int .u64 (limb s 0 : Nat)) (.int .u64 (limb s 1 : Nat)) (.int .u64 (limb s 2 : Nat)) (.int .u64 (limb s 3 : Nat)) F_4.out (rfl : ((((Y4.setCell ⟨X, 0, none⟩ (.int .u64 (limb s 0 : Nat))).setCell ⟨X, 1, none⟩ (.int .u64 (limb s 1 : Nat))).setCell ⟨X, 2, none⟩ (.int .u64 (limb s 2 : Nat))).setCell ⟨X, 3, none⟩ (.int .u64 (limb s 3 : Nat))) = _))
      go_wp2_with fail
      refine hK.out _ _ ?_ (fun hHeld => ?_)
      · exact HB9.out
      clear hK K
      (try simp only [Act.put, List.setIfInBounds_toArray, List.set_cons_zero, List.set_cons_succ])
      generalize (((Y4.setCell ⟨X, 0, none⟩ (.int .u64 (limb s 0 : Nat))).setCell ⟨X, 1, none⟩ (.int .u64 (limb s 1 : Nat))).setCell ⟨X, 2, none⟩ (.int .u64 (limb s 2 : Nat))).setCell ⟨X, 3, none⟩ (.int .u64 (limb s 3 : Nat)) = Y9 at HB9 SX hHeld ⊢
      refine wpAnyH_take (i := 10) (v := ?_) rfl (by kernel_rfl) (by kernel_rfl) (by kernel_rfl) (fun _ _ _ h => h) (Or.inl ⟨by kernel_rfl, ?_⟩) (by with_reducible assumption) ?_
      rotate_left
      · intro wz hSw
        (try dsimp only at hSw)
        go_simp
        (try with_reducible rfl)
      show wpAnyH _ _ _ _ _ _ _ (Act.put _ (some 8) _) _
      (try simp only [Act.put, List.setIfInBounds_toArray, List.set_cons_zero, List.set_cons_succ])
      refine wpAnyH_done (by kernel_rfl) ?_ _
      go_wp2_with fail
      go_meet
      case rel => exact ⟨X, rfl, rfl, SX.out, HB9.out⟩
  case rest =>
    obtain ⟨B, rfl, rfl, hB, hbc⟩ := hcut
    have HBc := Lib.hid (HB0.out.trans (hbc.mono HB0.out.size))
    have HBB := Lib.hid hB
    have c0 := (hp_cell (i := 0) hB).trans rfl
    have c1 := (hp_cell (i := 1) hB).trans rfl
    have c2 := (hp_cell (i := 2) hB).trans rfl
    have c3 := (hp_cell (i := 3) hB).trans rfl
    clear hB hbc
    go_wp2_with (go_at_call 46; refine (HAm.out _).mono ?_; rintro e w3 ⟨rfl, hb3⟩; have H3 := Lib.hid (HBc.out.trans (hb3.mono HBc.out.size)); clear hb3)
    go_ret
    exact ⟨rfl, HD.out _ H3.out⟩
set_option maxRecDepth 100000 in
set_option maxHeartbeats 4000000 in
theorem raddA_big (w W : World) (m : Nat) (L : SL) (R : List Ch) (k : ByteArray) (was a : Nat) (h : DS w W m L R) (hr : Rising (skeys L)) (hN : L.length < 900000) (hR : R.length < 900000) (he : amtAt L k was) (hw : was < 2 ^ 256) (ha : a < 2 ^ 256) (hge : ¬ was + a < 2 ^ 256) :
    Calls Tryz.prog 21 #[.pointer (some ⟨m, 0, none⟩), .string k, U a] W fun e W' => e = .returned (.int .i64 6) ∧ DSTo w W W' m L R := by
  have hb0 := (Below.refl W.heap.size W).alloc (Nat.le_refl _) (.cells #[.int .u64 (limb a 0 : Nat), .int .u64 (limb a 1 : Nat), .int .u64 (limb a 2 : Nat), .int .u64 (limb a 3 : Nat)] 24)
  have r0 := heap_alloc_new W (.cells #[.int .u64 (limb a 0 : Nat), .int .u64 (limb a 1 : Nat), .int .u64 (limb a 2 : Nat), .int .u64 (limb a 3 : Nat)] 24)
  have HB0 := Lib.hid hb0
  have hA := fun (W1 : World) (hb : Below W.heap.size W W1) => ramount_at w W1 m L R k was (h.below hb) hr (by omega) he hw
  have hAd := fun W1 => radd_walk was a W1 hw ha
  unfold addv addk at hAd
  rw [if_neg hge, decide_eq_false hge] at hAd
  unfold U at hA hAd
  have HA := Lib.hid hA
  have HAd := Lib.hid hAd
  have HD := Lib.hid (fun (W1 : World) (hb : Below W.heap.size W W1) => DSTo.of_below h hb)
  have HR0 := Lib.hid r0
  clear h hr hN hR he hw ha hb0 r0 hA hAd hge
  unfold U
  go_enter Tryz.func21, Tryz.ntmps21
  go_upto_region 1 with fail
  obtain ⟨XB, hXB⟩ : ∃ XB, XB = W.heap.size := ⟨_, rfl⟩
  rw [← hXB] at HR0 ⊢
  have HBx := Lib.hid HR0.out
  have LB := Lib.hid (hp_lt HR0.out)
  clear hXB HR0
  generalize W.alloc (.cells #[.int .u64 (limb a 0 : Nat), .int .u64 (limb a 1 : Nat), .int .u64 (limb a 2 : Nat), .int .u64 (limb a 3 : Nat)] 24) = Wa at HB0 HBx LB ⊢
  go_cut [7, 8] (fun p q wx => ∃ B, p = .pointer (some ⟨B, 0, none⟩) ∧ q = .bool false ∧ wx.heap[B]? = some (.cells #[.int .u64 (limb 0 0 : Nat), .int .u64 (limb 0 1 : Nat), .int .u64 (limb 0 2 : Nat), .int .u64 (limb 0 3 : Nat)] 24 (0, 0)) ∧ Below Wa.heap.size Wa wx)
  case first =>
    refine wp_region_held_drew (S := fun w' => Below Wa.heap.size Wa w') (by kernel_rfl) ?_ (fun hHeld => ?_)
    · exact (Below.refl _ _).drew
    have HY0 := Lib.hid (show Below Wa.heap.size Wa Wa.drew from (Below.refl _ _).drew)
    generalize Wa.drew = Y0 at HY0 hHeld ⊢
    refine wpAnyH_take (i := 0) (v := ?_) rfl (by kernel_rfl) (by kernel_rfl) (by kernel_rfl) (fun _ _ _ h => h) (Or.inl ⟨by kernel_rfl, ?_⟩) (by with_reducible assumption) ?_
    rotate_left
    · intro wz hSw
      (try dsimp only at hSw)
      go_simp
      (try with_reducible rfl)
    show wpAnyH _ _ _ _ _ _ _ (Act.put _ (some 10) _) _
    (try simp only [Act.put, List.setIfInBounds_toArray, List.set_cons_zero, List.set_cons_succ])
    refine wpAnyH_take (i := 1) (v := ?_) rfl (by kernel_rfl) (by kernel_rfl) (by kernel_rfl) (fun _ _ _ h => h) (Or.inl ⟨by kernel_rfl, ?_⟩) (by with_reducible assumption) ?_
    rotate_left
    · intro wz hSw
      (try dsimp only at hSw)
      go_simp
      (try with_reducible rfl)
    show wpAnyH _ _ _ _ _ _ _ (Act.put _ (some 11) _) _
    (try simp only [Act.put, List.setIfInBounds_toArray, List.set_cons_zero, List.set_cons_succ])
    refine wpAnyH_take (i := 3) (v := .agg #[.int .u64 (limb a 0 : Nat), .int .u64 (limb a 1 : Nat), .int .u64 (limb a 2 : Nat), .int .u64 (limb a 3 : Nat)]) rfl (by kernel_rfl) (by kernel_rfl) (by kernel_rfl) (fun _ _ _ h => h) (Or.inl ⟨by kernel_rfl, ?_⟩) (by with_reducible assumption) ?_
    · intro wz hSw
      (try dsimp only at hSw)
      have z0 := (hSw.cell (p := ⟨XB, 0, none⟩) LB.out).trans ((hp_cell (i := 0) HBx.out).trans rfl)
      have z1 := (hSw.cell (p := ⟨XB, 1, none⟩) LB.out).trans ((hp_cell (i := 1) HBx.out).trans rfl)
      have z2 := (hSw.cell (p := ⟨XB, 2, none⟩) LB.out).trans ((hp_cell (i := 2) HBx.out).trans rfl)
      have z3 := (hSw.cell (p := ⟨XB, 3, none⟩) LB.out).trans ((hp_cell (i := 3) HBx.out).trans rfl)
      go_simp
      (try with_reducible rfl)
    show wpAnyH _ _ _ _ _ _ _ (Act.put _ (some 13) _) _
    (try simp only [Act.put, List.setIfInBounds_toArray, List.set_cons_zero, List.set_cons_succ])
    refine wpAnyH_ready (rs := [2, 8]) (by kernel_rfl) (by simp) ?_
    refine AllReadyH.cons rfl (fun K hK => ?_) (AllReadyH.cons rfl (fun K hK => ?_) AllReadyH.nil)
    · clear hHeld
      go_simp
      go_at_call 45
      refine (HA.out _ (HB0.out.trans (HY0.out.mono HB0.out.size))).mono ?_
      rintro e Y2 ⟨rfl, hb⟩
      have HB2 := Lib.hid (HY0.out.trans (hb.mono HY0.out.size))
      clear hb
      go_wp2_with fail
      refine hK.out _ _ ?_ (fun hHeld => ?_)
      · exact HB2.out
      clear hK K
      (try simp only [Act.put, List.setIfInBounds_toArray, List.set_cons_zero, List.set_cons_succ])
      refine wpAnyH_ready (rs := [4, 8]) (by kernel_rfl) (by simp) ?_
      refine AllReadyH.cons rfl (fun K hK => ?_) (AllReadyH.cons rfl (fun K hK => ?_) AllReadyH.nil)
      · clear hHeld
        go_simp
        go_at_call 44
        refine (HAd.out _).mono ?_
        rintro e Y4 ⟨rfl, hb⟩
        have HB4 := Lib.hid (HB2.out.trans (hb.mono HB2.out.size))
        clear hb
        go_wp2_with fail
        refine hK.out _ _ ?_ (fun hHeld => ?_)
        · exact HB4.out
        clear hK K
        (try simp only [Act.put, List.setIfInBounds_toArray, List.set_cons_zero, List.set_cons_succ])
        refine wpAnyH_take (i := 5) (v := ?_) rfl (by kernel_rfl) (by kernel_rfl) (by kernel_rfl) (fun _ _ _ h => h) (Or.inl ⟨by kernel_rfl, ?_⟩) (by with_reducible assumption) ?_
        rotate_left
        · intro wz hSw
          (try dsimp only at hSw)
          go_simp
          (try with_reducible rfl)
        show wpAnyH _ _ _ _ _ _ _ (Act.put _ (some 9) _) _
        (try simp only [Act.put, List.setIfInBounds_toArray, List.set_cons_zero, List.set_cons_succ])
        refine wpAnyH_take (i := 6) (v := ?_) rfl (by kernel_rfl) (by kernel_rfl) (by kernel_rfl) (fun _ _ _ h => h) (Or.inl ⟨by kernel_rfl, ?_⟩) (by with_reducible assumption) ?_
        rotate_left
        · intro wz hSw
          (try dsimp only at hSw)
          go_simp
          (try with_reducible rfl)
        show wpAnyH _ _ _ _ _ _ _ (Act.put _ (some 15) _) _
        (try simp only [Act.put, List.setIfInBounds_toArray, List.set_cons_zero, List.set_cons_succ])
        refine wpAnyH_take (i := 7) (v := ?_) rfl (by kernel_rfl) (by kernel_rfl) (by kernel_rfl) (fun _ _ _ h => h) (Or.inl ⟨by kernel_rfl, ?_⟩) (by with_reducible assumption) ?_
        rotate_left
        · intro wz hSw
          (try dsimp only at hSw)
          go_simp
          (try with_reducible rfl)
        show wpAnyH _ _ _ _ _ _ _ (Act.put _ (some 16) _) _
        (try simp only [Act.put, List.setIfInBounds_toArray, List.set_cons_zero, List.set_cons_succ])
        refine wpAnyH_ready (rs := [8]) (by kernel_rfl) (by simp) ?_
        refine AllReadyH.cons rfl (fun K hK => ?_) AllReadyH.nil
        clear hHeld
        go_simp
        have HB8 := Lib.hid (HB4.out.alloc HB4.out.size (.cells #[.int .u64 0, .int .u64 0, .int .u64 0, .int .u64 0] 24))
        have F_n := Lib.hid (heap_alloc_new Y4 (.cells #[.int .u64 0, .int .u64 0, .int .u64 0, .int .u64 0] 24))
        obtain ⟨X, eX⟩ : ∃ y, y = Y4.heap.size := ⟨_, rfl⟩
        go_wp2_with fail
        refine hK.out _ _ ?_ (fun hHeld => ?_)
        · exact HB8.out
        clear hK K
        (try simp only [Act.put, List.setIfInBounds_toArray, List.set_cons_zero, List.set_cons_succ])
        rw [← eX] at F_n ⊢
        have LX := Lib.hid (show Wa.heap.size ≤ X from by rw [eX]; exact HB4.out.size)
        clear eX
        generalize Y4.alloc (.cells #[.int .u64 0, .int .u64 0, .int .u64 0, .int .u64 0] 24) = Y8 at HB8 F_n hHeld ⊢
        refine wpAnyH_ready (rs := [9]) (by kernel_rfl) (by simp) ?_
        refine AllReadyH.cons rfl (fun K hK => ?_) AllReadyH.nil
        clear hHeld
        have c0 := (hp_cell (i := 0) F_n.out).trans rfl
        have g0 := hp_free (i := 0) F_n.out
        have c1 := (hp_cell (i := 1) F_n.out).trans rfl
        have g1 := hp_free (i := 1) F_n.out
        have c2 := (hp_cell (i := 2) F_n.out).trans rfl
        have g2 := hp_free (i := 2) F_n.out
        have c3 := (hp_cell (i := 3) F_n.out).trans rfl
        have g3 := hp_free (i := 3) F_n.out
        go_simp
        clear c0 c1 c2 c3 g0 g1 g2 g3
        have HB9 := Lib.hid (show Below Wa.heap.size Wa ((((Y8.setCell ⟨X, 0, none⟩ (.int .u64 (limb 0 0 : Nat))).setCell ⟨X, 1, none⟩ (.int .u64 (limb 0 1 : Nat))).setCell ⟨X, 2, none⟩ (.int .u64 (limb 0 2 : Nat))).setCell ⟨X, 3, none⟩ (.int .u64 (limb 0 3 : Nat))) from ((((HB8.out.setCell LX.out _).setCell LX.out _).setCell LX.out _).setCell LX.out _))
        have SX := Lib.hid (set4b (.int .u64 (limb 0 0 : Nat)) (.int .u64 (limb 0 1 : Nat)) (.int .u64 (limb 0 2 : Nat)) (.int .u64 (limb 0 3 : Nat)) F_n.out (rfl : ((((Y8.setCell ⟨X, 0, none⟩ (.int .u64 (limb 0 0 : Nat))).setCell ⟨X, 1, none⟩ (.int .u64 (limb 0 1 : Nat))).setCell ⟨X, 2, none⟩ (.int .u64 (limb 0 2 : Nat))).setCell ⟨X, 3, none⟩ (.int .u64 (limb 0 3 : Nat))) = _))
        go_wp2_with fail
        refine hK.out _ _ ?_ (fun hHeld => ?_)
        · exact HB9.out
        clear hK K
        (try simp only [Act.put, List.setIfInBounds_toArray, List.set_cons_zero, List.set_cons_succ])
        generalize (((Y8.setCell ⟨X, 0, none⟩ (.int .u64 (limb 0 0 : Nat))).setCell ⟨X, 1, none⟩ (.int .u64 (limb 0 1 : Nat))).setCell ⟨X, 2, none⟩ (.int .u64 (limb 0 2 : Nat))).setCell ⟨X, 3, none⟩ (.int .u64 (limb 0 3 : Nat)) = Y9 at HB9 SX hHeld ⊢
        refine wpAnyH_take (i := 10) (v := ?_) rfl (by kernel_rfl) (by kernel_rfl) (by kernel_rfl) (fun _ _ _ h => h) (Or.inl ⟨by kernel_rfl, ?_⟩) (by with_reducible assumption) ?_
        rotate_left
        · intro wz hSw
          (try dsimp only at hSw)
          go_simp
          (try with_reducible rfl)
        show wpAnyH _ _ _ _ _ _ _ (Act.put _ (some 8) _) _
        (try simp only [Act.put, List.setIfInBounds_toArray, List.set_cons_zero, List.set_cons_succ])
        refine wpAnyH_done (by kernel_rfl) ?_ _
        go_wp2_with fail
        go_meet
        case rel => exact ⟨X, rfl, rfl, SX.out, HB9.out⟩
      · clear hHeld
        go_simp
        have HB8 := Lib.hid (HB2.out.alloc HB2.out.size (.cells #[.int .u64 0, .int .u64 0, .int .u64 0, .int .u64 0] 24))
        have F_n := Lib.hid (heap_alloc_new Y2 (.cells #[.int .u64 0, .int .u64 0, .int .u64 0, .int .u64 0] 24))
        obtain ⟨X, eX⟩ : ∃ y, y = Y2.heap.size := ⟨_, rfl⟩
        go_wp2_with fail
        refine hK.out _ _ ?_ (fun hHeld => ?_)
        · exact HB8.out
        clear hK K
        (try simp only [Act.put, List.setIfInBounds_toArray, List.set_cons_zero, List.set_cons_succ])
        rw [← eX] at F_n ⊢
        have LX := Lib.hid (show Wa.heap.size ≤ X from by rw [eX]; exact HB2.out.size)
        clear eX
        generalize Y2.alloc (.cells #[.int .u64 0, .int .u64 0, .int .u64 0, .int .u64 0] 24) = Y8 at HB8 F_n hHeld ⊢
        refine wpAnyH_ready (rs := [4]) (by kernel_rfl) (by simp) ?_
        refine AllReadyH.cons rfl (fun K hK => ?_) AllReadyH.nil
        clear hHeld
        go_simp
        go_at_call 44
        refine (HAd.out _).mono ?_
        rintro e Y4 ⟨rfl, hb⟩
        have HB4 := Lib.hid (HB8.out.trans (hb.mono HB8.out.size))
        have F_4 := Lib.hid ((hb.block _ (hp_lt F_n.out)).trans F_n.out)
        clear hb
        go_wp2_with fail
        refine hK.out _ _ ?_ (fun hHeld => ?_)
        · exact HB4.out
        clear hK K
        (try simp only [Act.put, List.setIfInBounds_toArray, List.set_cons_zero, List.set_cons_succ])
        refine wpAnyH_take (i := 5) (v := ?_) rfl (by kernel_rfl) (by kernel_rfl) (by kernel_rfl) (fun _ _ _ h => h) (Or.inl ⟨by kernel_rfl, ?_⟩) (by with_reducible assumption) ?_
        rotate_left
        · intro wz hSw
          (try dsimp only at hSw)
          go_simp
          (try with_reducible rfl)
        show wpAnyH _ _ _ _ _ _ _ (Act.put _ (some 9) _) _
        (try simp only [Act.put, List.setIfInBounds_toArray, List.set_cons_zero, List.set_cons_succ])
        refine wpAnyH_take (i := 6) (v := ?_) rfl (by kernel_rfl) (by kernel_rfl) (by kernel_rfl) (fun _ _ _ h => h) (Or.inl ⟨by kernel_rfl, ?_⟩) (by with_reducible assumption) ?_
        rotate_left
        · intro wz hSw
          (try dsimp only at hSw)
          go_simp
          (try with_reducible rfl)
        show wpAnyH _ _ _ _ _ _ _ (Act.put _ (some 15) _) _
        (try simp only [Act.put, List.setIfInBounds_toArray, List.set_cons_zero, List.set_cons_succ])
        refine wpAnyH_take (i := 7) (v := ?_) rfl (by kernel_rfl) (by kernel_rfl) (by kernel_rfl) (fun _ _ _ h => h) (Or.inl ⟨by kernel_rfl, ?_⟩) (by with_reducible assumption) ?_
        rotate_left
        · intro wz hSw
          (try dsimp only at hSw)
          go_simp
          (try with_reducible rfl)
        show wpAnyH _ _ _ _ _ _ _ (Act.put _ (some 16) _) _
        (try simp only [Act.put, List.setIfInBounds_toArray, List.set_cons_zero, List.set_cons_succ])
        refine wpAnyH_ready (rs := [9]) (by kernel_rfl) (by simp) ?_
        refine AllReadyH.cons rfl (fun K hK => ?_) AllReadyH.nil
        clear hHeld
        have c0 := (hp_cell (i := 0) F_4.out).trans rfl
        have g0 := hp_free (i := 0) F_4.out
        have c1 := (hp_cell (i := 1) F_4.out).trans rfl
        have g1 := hp_free (i := 1) F_4.out
        have c2 := (hp_cell (i := 2) F_4.out).trans rfl
        have g2 := hp_free (i := 2) F_4.out
        have c3 := (hp_cell (i := 3) F_4.out).trans rfl
        have g3 := hp_free (i := 3) F_4.out
        go_simp
        clear c0 c1 c2 c3 g0 g1 g2 g3
        have HB9 := Lib.hid (show Below Wa.heap.size Wa ((((Y4.setCell ⟨X, 0, none⟩ (.int .u64 (limb 0 0 : Nat))).setCell ⟨X, 1, none⟩ (.int .u64 (limb 0 1 : Nat))).setCell ⟨X, 2, none⟩ (.int .u64 (limb 0 2 : Nat))).setCell ⟨X, 3, none⟩ (.int .u64 (limb 0 3 : Nat))) from ((((HB4.out.setCell LX.out _).setCell LX.out _).setCell LX.out _).setCell LX.out _))
        have SX := Lib.hid (set4b (.int .u64 (limb 0 0 : Nat)) (.int .u64 (limb 0 1 : Nat)) (.int .u64 (limb 0 2 : Nat)) (.int .u64 (limb 0 3 : Nat)) F_4.out (rfl : ((((Y4.setCell ⟨X, 0, none⟩ (.int .u64 (limb 0 0 : Nat))).setCell ⟨X, 1, none⟩ (.int .u64 (limb 0 1 : Nat))).setCell ⟨X, 2, none⟩ (.int .u64 (limb 0 2 : Nat))).setCell ⟨X, 3, none⟩ (.int .u64 (limb 0 3 : Nat))) = _))
        go_wp2_with fail
        refine hK.out _ _ ?_ (fun hHeld => ?_)
        · exact HB9.out
        clear hK K
        (try simp only [Act.put, List.setIfInBounds_toArray, List.set_cons_zero, List.set_cons_succ])
        generalize (((Y4.setCell ⟨X, 0, none⟩ (.int .u64 (limb 0 0 : Nat))).setCell ⟨X, 1, none⟩ (.int .u64 (limb 0 1 : Nat))).setCell ⟨X, 2, none⟩ (.int .u64 (limb 0 2 : Nat))).setCell ⟨X, 3, none⟩ (.int .u64 (limb 0 3 : Nat)) = Y9 at HB9 SX hHeld ⊢
        refine wpAnyH_take (i := 10) (v := ?_) rfl (by kernel_rfl) (by kernel_rfl) (by kernel_rfl) (fun _ _ _ h => h) (Or.inl ⟨by kernel_rfl, ?_⟩) (by with_reducible assumption) ?_
        rotate_left
        · intro wz hSw
          (try dsimp only at hSw)
          go_simp
          (try with_reducible rfl)
        show wpAnyH _ _ _ _ _ _ _ (Act.put _ (some 8) _) _
        (try simp only [Act.put, List.setIfInBounds_toArray, List.set_cons_zero, List.set_cons_succ])
        refine wpAnyH_done (by kernel_rfl) ?_ _
        go_wp2_with fail
        go_meet
        case rel => exact ⟨X, rfl, rfl, SX.out, HB9.out⟩
    · clear hHeld
      go_simp
      have HB8 := Lib.hid (HY0.out.alloc HY0.out.size (.cells #[.int .u64 0, .int .u64 0, .int .u64 0, .int .u64 0] 24))
      have F_n := Lib.hid (heap_alloc_new Y0 (.cells #[.int .u64 0, .int .u64 0, .int .u64 0, .int .u64 0] 24))
      obtain ⟨X, eX⟩ : ∃ y, y = Y0.heap.size := ⟨_, rfl⟩
      go_wp2_with fail
      refine hK.out _ _ ?_ (fun hHeld => ?_)
      · exact HB8.out
      clear hK K
      (try simp only [Act.put, List.setIfInBounds_toArray, List.set_cons_zero, List.set_cons_succ])
      rw [← eX] at F_n ⊢
      have LX := Lib.hid (show Wa.heap.size ≤ X from by rw [eX]; exact HY0.out.size)
      clear eX
      generalize Y0.alloc (.cells #[.int .u64 0, .int .u64 0, .int .u64 0, .int .u64 0] 24) = Y8 at HB8 F_n hHeld ⊢
      refine wpAnyH_ready (rs := [2]) (by kernel_rfl) (by simp) ?_
      refine AllReadyH.cons rfl (fun K hK => ?_) AllReadyH.nil
      clear hHeld
      go_simp
      go_at_call 45
      refine (HA.out _ (HB0.out.trans (HB8.out.mono HB0.out.size))).mono ?_
      rintro e Y2 ⟨rfl, hb⟩
      have HB2 := Lib.hid (HB8.out.trans (hb.mono HB8.out.size))
      have F_2 := Lib.hid ((hb.block _ (hp_lt F_n.out)).trans F_n.out)
      clear hb
      go_wp2_with fail
      refine hK.out _ _ ?_ (fun hHeld => ?_)
      · exact HB2.out
      clear hK K
      (try simp only [Act.put, List.setIfInBounds_toArray, List.set_cons_zero, List.set_cons_succ])
      refine wpAnyH_ready (rs := [4]) (by kernel_rfl) (by simp) ?_
      refine AllReadyH.cons rfl (fun K hK => ?_) AllReadyH.nil
      clear hHeld
      go_simp
      go_at_call 44
      refine (HAd.out _).mono ?_
      rintro e Y4 ⟨rfl, hb⟩
      have HB4 := Lib.hid (HB2.out.trans (hb.mono HB2.out.size))
      have F_4 := Lib.hid ((hb.block _ (hp_lt F_2.out)).trans F_2.out)
      clear hb
      go_wp2_with fail
      refine hK.out _ _ ?_ (fun hHeld => ?_)
      · exact HB4.out
      clear hK K
      (try simp only [Act.put, List.setIfInBounds_toArray, List.set_cons_zero, List.set_cons_succ])
      refine wpAnyH_take (i := 5) (v := ?_) rfl (by kernel_rfl) (by kernel_rfl) (by kernel_rfl) (fun _ _ _ h => h) (Or.inl ⟨by kernel_rfl, ?_⟩) (by with_reducible assumption) ?_
      rotate_left
      · intro wz hSw
        (try dsimp only at hSw)
        go_simp
        (try with_reducible rfl)
      show wpAnyH _ _ _ _ _ _ _ (Act.put _ (some 9) _) _
      (try simp only [Act.put, List.setIfInBounds_toArray, List.set_cons_zero, List.set_cons_succ])
      refine wpAnyH_take (i := 6) (v := ?_) rfl (by kernel_rfl) (by kernel_rfl) (by kernel_rfl) (fun _ _ _ h => h) (Or.inl ⟨by kernel_rfl, ?_⟩) (by with_reducible assumption) ?_
      rotate_left
      · intro wz hSw
        (try dsimp only at hSw)
        go_simp
        (try with_reducible rfl)
      show wpAnyH _ _ _ _ _ _ _ (Act.put _ (some 15) _) _
      (try simp only [Act.put, List.setIfInBounds_toArray, List.set_cons_zero, List.set_cons_succ])
      refine wpAnyH_take (i := 7) (v := ?_) rfl (by kernel_rfl) (by kernel_rfl) (by kernel_rfl) (fun _ _ _ h => h) (Or.inl ⟨by kernel_rfl, ?_⟩) (by with_reducible assumption) ?_
      rotate_left
      · intro wz hSw
        (try dsimp only at hSw)
        go_simp
        (try with_reducible rfl)
      show wpAnyH _ _ _ _ _ _ _ (Act.put _ (some 16) _) _
      (try simp only [Act.put, List.setIfInBounds_toArray, List.set_cons_zero, List.set_cons_succ])
      refine wpAnyH_ready (rs := [9]) (by kernel_rfl) (by simp) ?_
      refine AllReadyH.cons rfl (fun K hK => ?_) AllReadyH.nil
      clear hHeld
      have c0 := (hp_cell (i := 0) F_4.out).trans rfl
      have g0 := hp_free (i := 0) F_4.out
      have c1 := (hp_cell (i := 1) F_4.out).trans rfl
      have g1 := hp_free (i := 1) F_4.out
      have c2 := (hp_cell (i := 2) F_4.out).trans rfl
      have g2 := hp_free (i := 2) F_4.out
      have c3 := (hp_cell (i := 3) F_4.out).trans rfl
      have g3 := hp_free (i := 3) F_4.out
      go_simp
      clear c0 c1 c2 c3 g0 g1 g2 g3
      have HB9 := Lib.hid (show Below Wa.heap.size Wa ((((Y4.setCell ⟨X, 0, none⟩ (.int .u64 (limb 0 0 : Nat))).setCell ⟨X, 1, none⟩ (.int .u64 (limb 0 1 : Nat))).setCell ⟨X, 2, none⟩ (.int .u64 (limb 0 2 : Nat))).setCell ⟨X, 3, none⟩ (.int .u64 (limb 0 3 : Nat))) from ((((HB4.out.setCell LX.out _).setCell LX.out _).setCell LX.out _).setCell LX.out _))
      have SX := Lib.hid (set4b (.int .u64 (limb 0 0 : Nat)) (.int .u64 (limb 0 1 : Nat)) (.int .u64 (limb 0 2 : Nat)) (.int .u64 (limb 0 3 : Nat)) F_4.out (rfl : ((((Y4.setCell ⟨X, 0, none⟩ (.int .u64 (limb 0 0 : Nat))).setCell ⟨X, 1, none⟩ (.int .u64 (limb 0 1 : Nat))).setCell ⟨X, 2, none⟩ (.int .u64 (limb 0 2 : Nat))).setCell ⟨X, 3, none⟩ (.int .u64 (limb 0 3 : Nat))) = _))
      go_wp2_with fail
      refine hK.out _ _ ?_ (fun hHeld => ?_)
      · exact HB9.out
      clear hK K
      (try simp only [Act.put, List.setIfInBounds_toArray, List.set_cons_zero, List.set_cons_succ])
      generalize (((Y4.setCell ⟨X, 0, none⟩ (.int .u64 (limb 0 0 : Nat))).setCell ⟨X, 1, none⟩ (.int .u64 (limb 0 1 : Nat))).setCell ⟨X, 2, none⟩ (.int .u64 (limb 0 2 : Nat))).setCell ⟨X, 3, none⟩ (.int .u64 (limb 0 3 : Nat)) = Y9 at HB9 SX hHeld ⊢
      refine wpAnyH_take (i := 10) (v := ?_) rfl (by kernel_rfl) (by kernel_rfl) (by kernel_rfl) (fun _ _ _ h => h) (Or.inl ⟨by kernel_rfl, ?_⟩) (by with_reducible assumption) ?_
      rotate_left
      · intro wz hSw
        (try dsimp only at hSw)
        go_simp
        (try with_reducible rfl)
      show wpAnyH _ _ _ _ _ _ _ (Act.put _ (some 8) _) _
      (try simp only [Act.put, List.setIfInBounds_toArray, List.set_cons_zero, List.set_cons_succ])
      refine wpAnyH_done (by kernel_rfl) ?_ _
      go_wp2_with fail
      go_meet
      case rel => exact ⟨X, rfl, rfl, SX.out, HB9.out⟩
  case rest =>
    obtain ⟨B, rfl, rfl, hB, hbc⟩ := hcut
    have HBc := Lib.hid (HB0.out.trans (hbc.mono HB0.out.size))
    have HBB := Lib.hid hB
    have c0 := (hp_cell (i := 0) hB).trans rfl
    have c1 := (hp_cell (i := 1) hB).trans rfl
    have c2 := (hp_cell (i := 2) hB).trans rfl
    have c3 := (hp_cell (i := 3) hB).trans rfl
    clear hB hbc
    go_wp2
    go_ret
    exact ⟨rfl, HD.out _ HBc.out⟩
theorem raddA_over (w W : World) (m : Nat) (L : SL) (R : List Ch) (k : ByteArray) (was a : Nat) (h : DS w W m L R) (hr : Rising (skeys L)) (hN : L.length < 900000) (hR : R.length < 900000) (he : amtAt L k was) (hw : was < 2 ^ 256) (ha : a < 2 ^ 256) (hov : MOST < was + a) :
    Calls Tryz.prog 21 #[.pointer (some ⟨m, 0, none⟩), .string k, U a] W fun e W' => e = .returned (.int .i64 6) ∧ DSTo w W W' m L R := by
  by_cases hlt : was + a < 2 ^ 256
  · exact raddA_most w W m L R k was a h hr hN hR he hw ha hlt hov
  · exact raddA_big w W m L R k was a h hr hN hR he hw ha hlt
end Go.Proofs.YtnjcnlbphaodcaaGreat

namespace Go.Proofs.YtnjcnlbphaodcaaGreat
open Go.RowKit

theorem set4_row {w : World} {g : Nat} {t : TypeId} {a b c d : Value} (x0 x1 x2 x3 : Value) (h : w.heap[g]? = some (.cells #[a, b, c, d] t (0, 0))) :
    ((((w.setCell ⟨g, 0, none⟩ x0).setCell ⟨g, 1, none⟩ x1).setCell ⟨g, 2, none⟩ x2).setCell ⟨g, 3, none⟩ x3).heap[g]? = some (.cells #[x0, x1, x2, x3] t (0, 0)) :=
  heap_setCell_row (heap_setCell_row (heap_setCell_row (heap_setCell_row h x0) x1) x2) x3
theorem set4_far {w : World} {g g' : Nat} (x0 x1 x2 x3 : Value) (hne : g ≠ g') {o : Obj} (h : w.heap[g']? = some o) :
    ((((w.setCell ⟨g, 0, none⟩ x0).setCell ⟨g, 1, none⟩ x1).setCell ⟨g, 2, none⟩ x2).setCell ⟨g, 3, none⟩ x3).heap[g']? = some o := by
  rw [Below.heap_setCell _ _ _ _ hne.symm, Below.heap_setCell _ _ _ _ hne.symm, Below.heap_setCell _ _ _ _ hne.symm, Below.heap_setCell _ _ _ _ hne.symm]
  exact h
end Go.Proofs.YtnjcnlbphaodcaaGreat

namespace Go.Proofs.YtnjcnlbphaodcaaGreat
open Go.RowKit Go.Maps Go.Sort

/-! ### the sum -/
/-- the two boxes of Total: the sum so far, and that it fits -/
structure Tot (w : World) (g6 g7 S : Nat) : Prop where
  s : w.heap[g6]? = some (.cells #[.int .u64 (limb S 0 : Nat), .int .u64 (limb S 1 : Nat), .int .u64 (limb S 2 : Nat), .int .u64 (limb S 3 : Nat)] 24 (0, 0))
  f : w.heap[g7]? = some (.cells #[.bool true] 4 (0, 0))
theorem Tot.below {w w' : World} {g6 g7 S : Nat} (h : Tot w g6 g7 S) (hb : Below w.heap.size w w') : Tot w' g6 g7 S := ⟨(hb.block _ (hp_lt h.s)).trans h.s, (hb.block _ (hp_lt h.f)).trans h.f⟩
end Go.Proofs.YtnjcnlbphaodcaaGreat
