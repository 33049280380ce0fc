/- The document's amounts in its store (tallageref10): Move. -/
import Derived.Test.YtffipojlpdphiaaGreatBA2
import Derived.Test.YtffipojlpdphiaaGreatG25
import Derived.Test.YtffipojlpdphiaaGreatG26
import Derived.Test.YtffipojlpdphiaaGreatG31
namespace Go.Proofs.YtffipojlpdphiaaGreat
open Go.RowKit Go.Maps Go.Sort

theorem setA_le (L : SL) (k : ByteArray) (a : Nat) : (setA L k a).length ≤ L.length + 1 := by
  unfold setA
  split
  · have : (sdel L k).length ≤ L.length := List.length_filter_le _ _
    omega
  · exact setL_len _ _ _
theorem rising_setA {L : SL} (hr : Rising (skeys L)) (k : ByteArray) (a : Nat) : Rising (skeys (setA L k a)) := by
  unfold setA
  split
  · exact rising_sdel hr
  · unfold setL
    split
    · exact hr
    · exact rising_sset hr k _

set_option maxRecDepth 100000 in
set_option maxHeartbeats 4000000 in
theorem rmove_funds (w W : World) (m : Nat) (L : SL) (R : List Ch) (k1 k2 : ByteArray) (x a : Nat) (h : DS w W m L R) (hr : Rising (skeys L)) (hN : L.length < 900000) (he : amtAt L k1 x) (hx : x < 2 ^ 256) (ha : a < 2 ^ 256) (hlt : ¬ a ≤ x) :
    Calls Tryz.prog 46 #[.pointer (some ⟨m, 0, none⟩), .string k1, .string k2, U a] W fun e W' => e = .returned (.int .i64 13) ∧ DSTo w W W' m L R := by
  have hb0 := (Below.refl W.heap.size W).alloc (Nat.le_refl _) (.cells #[.int .u64 (limb a 0 : Nat), .int .u64 (limb a 1 : Nat), .int .u64 (limb a 2 : Nat), .int .u64 (limb a 3 : Nat)] 33)
  have r0 := heap_alloc_new W (.cells #[.int .u64 (limb a 0 : Nat), .int .u64 (limb a 1 : Nat), .int .u64 (limb a 2 : Nat), .int .u64 (limb a 3 : Nat)] 33)
  have HB0 := Lib.hid hb0
  have hA := fun (W1 : World) (hb : Below W.heap.size W W1) => ramount_at w W1 m L R k1 x (h.below hb) hr (by omega) he hx
  have hSb := fun W1 => rsub_walk x a W1 hx ha
  unfold subv subk at hSb
  rw [if_neg hlt, decide_eq_false hlt] at hSb
  have HD := Lib.hid (fun (W1 : World) (hb : Below W.heap.size W W1) => DSTo.of_below h hb)
  unfold U at hA hSb
  have HA := Lib.hid hA
  have HSb := Lib.hid hSb
  have HR0 := Lib.hid r0
  clear h hr hN he hx ha hb0 r0 hA hSb hlt
  unfold U
  go_enter Tryz.func46, Tryz.ntmps46
  go_upto_region 1 with fail
  obtain ⟨XB, hXB⟩ : ∃ XB, XB = W.heap.size := ⟨_, rfl⟩
  rw [← hXB] at HR0 ⊢
  have HBx := Lib.hid HR0.out
  have LB := Lib.hid (hp_lt HR0.out)
  clear hXB HR0
  generalize W.alloc (.cells #[.int .u64 (limb a 0 : Nat), .int .u64 (limb a 1 : Nat), .int .u64 (limb a 2 : Nat), .int .u64 (limb a 3 : Nat)] 33) = Wa at HB0 HBx LB ⊢
  go_cut [9, 10] (fun p q wx => ∃ B, p = .pointer (some ⟨B, 0, none⟩) ∧ q = .bool false ∧ wx.heap[B]? = some (.cells #[.int .u64 (limb 0 0 : Nat), .int .u64 (limb 0 1 : Nat), .int .u64 (limb 0 2 : Nat), .int .u64 (limb 0 3 : Nat)] 33 (0, 0)) ∧ Below Wa.heap.size Wa wx)
  case first =>
    refine wp_region_held_drew (S := fun w' => Below Wa.heap.size Wa w') (by kernel_rfl) ?_ (fun hHeld => ?_)
    · exact (Below.refl _ _).drew
    have HY0 := Lib.hid (show Below Wa.heap.size Wa Wa.drew from (Below.refl _ _).drew)
    generalize Wa.drew = Y0 at HY0 hHeld ⊢
    refine wpAnyH_take (i := 0) (v := ?_) rfl (by kernel_rfl) (by kernel_rfl) (by kernel_rfl) (fun _ _ _ h => h) (Or.inl ⟨by kernel_rfl, ?_⟩) (by with_reducible assumption) ?_
    rotate_left
    · intro wz hSw
      (try dsimp only at hSw)
      go_simp
      (try with_reducible rfl)
    show wpAnyH _ _ _ _ _ _ _ (Act.put _ (some 14) _) _
    (try simp only [Act.put, List.setIfInBounds_toArray, List.set_cons_zero, List.set_cons_succ])
    refine wpAnyH_take (i := 1) (v := ?_) rfl (by kernel_rfl) (by kernel_rfl) (by kernel_rfl) (fun _ _ _ h => h) (Or.inl ⟨by kernel_rfl, ?_⟩) (by with_reducible assumption) ?_
    rotate_left
    · intro wz hSw
      (try dsimp only at hSw)
      go_simp
      (try with_reducible rfl)
    show wpAnyH _ _ _ _ _ _ _ (Act.put _ (some 15) _) _
    (try simp only [Act.put, List.setIfInBounds_toArray, List.set_cons_zero, List.set_cons_succ])
    refine wpAnyH_take (i := 3) (v := .agg #[.int .u64 (limb a 0 : Nat), .int .u64 (limb a 1 : Nat), .int .u64 (limb a 2 : Nat), .int .u64 (limb a 3 : Nat)]) rfl (by kernel_rfl) (by kernel_rfl) (by kernel_rfl) (fun _ _ _ h => h) (Or.inl ⟨by kernel_rfl, ?_⟩) (by with_reducible assumption) ?_
    · intro wz hSw
      (try dsimp only at hSw)
      have z0 := (hSw.cell (p := ⟨XB, 0, none⟩) LB.out).trans ((hp_cell (i := 0) HBx.out).trans rfl)
      have z1 := (hSw.cell (p := ⟨XB, 1, none⟩) LB.out).trans ((hp_cell (i := 1) HBx.out).trans rfl)
      have z2 := (hSw.cell (p := ⟨XB, 2, none⟩) LB.out).trans ((hp_cell (i := 2) HBx.out).trans rfl)
      have z3 := (hSw.cell (p := ⟨XB, 3, none⟩) LB.out).trans ((hp_cell (i := 3) HBx.out).trans rfl)
      go_simp
      (try with_reducible rfl)
    show wpAnyH _ _ _ _ _ _ _ (Act.put _ (some 17) _) _
    (try simp only [Act.put, List.setIfInBounds_toArray, List.set_cons_zero, List.set_cons_succ])
    refine wpAnyH_ready (rs := [2, 8]) (by kernel_rfl) (by simp) ?_
    refine AllReadyH.cons rfl (fun K hK => ?_) (AllReadyH.cons rfl (fun K hK => ?_) AllReadyH.nil)
    · clear hHeld
      go_simp
      go_at_call 21
      refine (HA.out _ (HB0.out.trans (HY0.out.mono HB0.out.size))).mono ?_
      rintro e Y2 ⟨rfl, hb⟩
      have HB2 := Lib.hid (HY0.out.trans (hb.mono HY0.out.size))
      clear hb
      go_wp2_with fail
      refine hK.out _ _ ?_ (fun hHeld => ?_)
      · exact HB2.out
      clear hK K
      (try simp only [Act.put, List.setIfInBounds_toArray, List.set_cons_zero, List.set_cons_succ])
      refine wpAnyH_ready (rs := [4, 8]) (by kernel_rfl) (by simp) ?_
      refine AllReadyH.cons rfl (fun K hK => ?_) (AllReadyH.cons rfl (fun K hK => ?_) AllReadyH.nil)
      · clear hHeld
        go_simp
        go_at_call 72
        refine (HSb.out _).mono ?_
        rintro e Y4 ⟨rfl, hb⟩
        have HB4 := Lib.hid (HB2.out.trans (hb.mono HB2.out.size))
        clear hb
        go_wp2_with fail
        refine hK.out _ _ ?_ (fun hHeld => ?_)
        · exact HB4.out
        clear hK K
        (try simp only [Act.put, List.setIfInBounds_toArray, List.set_cons_zero, List.set_cons_succ])
        refine wpAnyH_take (i := 5) (v := ?_) rfl (by kernel_rfl) (by kernel_rfl) (by kernel_rfl) (fun _ _ _ h => h) (Or.inl ⟨by kernel_rfl, ?_⟩) (by with_reducible assumption) ?_
        rotate_left
        · intro wz hSw
          (try dsimp only at hSw)
          go_simp
          (try with_reducible rfl)
        show wpAnyH _ _ _ _ _ _ _ (Act.put _ (some 13) _) _
        (try simp only [Act.put, List.setIfInBounds_toArray, List.set_cons_zero, List.set_cons_succ])
        refine wpAnyH_take (i := 6) (v := ?_) rfl (by kernel_rfl) (by kernel_rfl) (by kernel_rfl) (fun _ _ _ h => h) (Or.inl ⟨by kernel_rfl, ?_⟩) (by with_reducible assumption) ?_
        rotate_left
        · intro wz hSw
          (try dsimp only at hSw)
          go_simp
          (try with_reducible rfl)
        show wpAnyH _ _ _ _ _ _ _ (Act.put _ (some 19) _) _
        (try simp only [Act.put, List.setIfInBounds_toArray, List.set_cons_zero, List.set_cons_succ])
        refine wpAnyH_take (i := 7) (v := ?_) rfl (by kernel_rfl) (by kernel_rfl) (by kernel_rfl) (fun _ _ _ h => h) (Or.inl ⟨by kernel_rfl, ?_⟩) (by with_reducible assumption) ?_
        rotate_left
        · intro wz hSw
          (try dsimp only at hSw)
          go_simp
          (try with_reducible rfl)
        show wpAnyH _ _ _ _ _ _ _ (Act.put _ (some 20) _) _
        (try simp only [Act.put, List.setIfInBounds_toArray, List.set_cons_zero, List.set_cons_succ])
        refine wpAnyH_ready (rs := [8]) (by kernel_rfl) (by simp) ?_
        refine AllReadyH.cons rfl (fun K hK => ?_) AllReadyH.nil
        clear hHeld
        go_simp
        have HB8 := Lib.hid (HB4.out.alloc HB4.out.size (.cells #[.int .u64 0, .int .u64 0, .int .u64 0, .int .u64 0] 33))
        have F_n := Lib.hid (heap_alloc_new Y4 (.cells #[.int .u64 0, .int .u64 0, .int .u64 0, .int .u64 0] 33))
        obtain ⟨X, eX⟩ : ∃ y, y = Y4.heap.size := ⟨_, rfl⟩
        go_wp2_with fail
        refine hK.out _ _ ?_ (fun hHeld => ?_)
        · exact HB8.out
        clear hK K
        (try simp only [Act.put, List.setIfInBounds_toArray, List.set_cons_zero, List.set_cons_succ])
        rw [← eX] at F_n ⊢
        have LX := Lib.hid (show Wa.heap.size ≤ X from by rw [eX]; exact HB4.out.size)
        clear eX
        generalize Y4.alloc (.cells #[.int .u64 0, .int .u64 0, .int .u64 0, .int .u64 0] 33) = Y8 at HB8 F_n hHeld ⊢
        refine wpAnyH_ready (rs := [9]) (by kernel_rfl) (by simp) ?_
        refine AllReadyH.cons rfl (fun K hK => ?_) AllReadyH.nil
        clear hHeld
        have c0 := (hp_cell (i := 0) F_n.out).trans rfl
        have g0 := hp_free (i := 0) F_n.out
        have c1 := (hp_cell (i := 1) F_n.out).trans rfl
        have g1 := hp_free (i := 1) F_n.out
        have c2 := (hp_cell (i := 2) F_n.out).trans rfl
        have g2 := hp_free (i := 2) F_n.out
        have c3 := (hp_cell (i := 3) F_n.out).trans rfl
        have g3 := hp_free (i := 3) F_n.out
        go_simp
        clear c0 c1 c2 c3 g0 g1 g2 g3
        have HB9 := Lib.hid (show Below Wa.heap.size Wa ((((Y8.setCell ⟨X, 0, none⟩ (.int .u64 (limb 0 0 : Nat))).setCell ⟨X, 1, none⟩ (.int .u64 (limb 0 1 : Nat))).setCell ⟨X, 2, none⟩ (.int .u64 (limb 0 2 : Nat))).setCell ⟨X, 3, none⟩ (.int .u64 (limb 0 3 : Nat))) from ((((HB8.out.setCell LX.out _).setCell LX.out _).setCell LX.out _).setCell LX.out _))
        have SX := Lib.hid (set4b (.int .u64 (limb 0 0 : Nat)) (.int .u64 (limb 0 1 : Nat)) (.int .u64 (limb 0 2 : Nat)) (.int .u64 (limb 0 3 : Nat)) F_n.out (rfl : ((((Y8.setCell ⟨X, 0, none⟩ (.int .u64 (limb 0 0 : Nat))).setCell ⟨X, 1, none⟩ (.int .u64 (limb 0 1 : Nat))).setCell ⟨X, 2, none⟩ (.int .u64 (limb 0 2 : Nat))).setCell ⟨X, 3, none⟩ (.int .u64 (limb 0 3 : Nat))) = _))
        go_wp2_with fail
        refine hK.out _ _ ?_ (fun hHeld => ?_)
        · exact HB9.out
        clear hK K
        (try simp only [Act.put, List.setIfInBounds_toArray, List.set_cons_zero, List.set_cons_succ])
        generalize (((Y8.setCell ⟨X, 0, none⟩ (.int .u64 (limb 0 0 : Nat))).setCell ⟨X, 1, none⟩ (.int .u64 (limb 0 1 : Nat))).setCell ⟨X, 2, none⟩ (.int .u64 (limb 0 2 : Nat))).setCell ⟨X, 3, none⟩ (.int .u64 (limb 0 3 : Nat)) = Y9 at HB9 SX hHeld ⊢
        refine wpAnyH_take (i := 10) (v := ?_) rfl (by kernel_rfl) (by kernel_rfl) (by kernel_rfl) (fun _ _ _ h => h) (Or.inl ⟨by kernel_rfl, ?_⟩) (by with_reducible assumption) ?_
        rotate_left
        · intro wz hSw
          (try dsimp only at hSw)
          go_simp
          (try with_reducible rfl)
        show wpAnyH _ _ _ _ _ _ _ (Act.put _ (some 10) _) _
        (try simp only [Act.put, List.setIfInBounds_toArray, List.set_cons_zero, List.set_cons_succ])
        refine wpAnyH_done (by kernel_rfl) ?_ _
        go_wp2_with fail
        go_meet
        case rel => exact ⟨X, rfl, rfl, SX.out, HB9.out⟩
      · clear hHeld
        go_simp
        have HB8 := Lib.hid (HB2.out.alloc HB2.out.size (.cells #[.int .u64 0, .int .u64 0, .int .u64 0, .int .u64 0] 33))
        have F_n := Lib.hid (heap_alloc_new Y2 (.cells #[.int .u64 0, .int .u64 0, .int .u64 0, .int .u64 0] 33))
        obtain ⟨X, eX⟩ : ∃ y, y = Y2.heap.size := ⟨_, rfl⟩
        go_wp2_with fail
        refine hK.out _ _ ?_ (fun hHeld => ?_)
        · exact HB8.out
        clear hK K
        (try simp only [Act.put, List.setIfInBounds_toArray, List.set_cons_zero, List.set_cons_succ])
        rw [← eX] at F_n ⊢
        have LX := Lib.hid (show Wa.heap.size ≤ X from by rw [eX]; exact HB2.out.size)
        clear eX
        generalize Y2.alloc (.cells #[.int .u64 0, .int .u64 0, .int .u64 0, .int .u64 0] 33) = Y8 at HB8 F_n hHeld ⊢
        refine wpAnyH_ready (rs := [4]) (by kernel_rfl) (by simp) ?_
        refine AllReadyH.cons rfl (fun K hK => ?_) AllReadyH.nil
        clear hHeld
        go_simp
        go_at_call 72
        refine (HSb.out _).mono ?_
        rintro e Y4 ⟨rfl, hb⟩
        have HB4 := Lib.hid (HB8.out.trans (hb.mono HB8.out.size))
        have F_4 := Lib.hid ((hb.block _ (hp_lt F_n.out)).trans F_n.out)
        clear hb
        go_wp2_with fail
        refine hK.out _ _ ?_ (fun hHeld => ?_)
        · exact HB4.out
        clear hK K
        (try simp only [Act.put, List.setIfInBounds_toArray, List.set_cons_zero, List.set_cons_succ])
        refine wpAnyH_take (i := 5) (v := ?_) rfl (by kernel_rfl) (by kernel_rfl) (by kernel_rfl) (fun _ _ _ h => h) (Or.inl ⟨by kernel_rfl, ?_⟩) (by with_reducible assumption) ?_
        rotate_left
        · intro wz hSw
          (try dsimp only at hSw)
          go_simp
          (try with_reducible rfl)
        show wpAnyH _ _ _ _ _ _ _ (Act.put _ (some 13) _) _
        (try simp only [Act.put, List.setIfInBounds_toArray, List.set_cons_zero, List.set_cons_succ])
        refine wpAnyH_take (i := 6) (v := ?_) rfl (by kernel_rfl) (by kernel_rfl) (by kernel_rfl) (fun _ _ _ h => h) (Or.inl ⟨by kernel_rfl, ?_⟩) (by with_reducible assumption) ?_
        rotate_left
        · intro wz hSw
          (try dsimp only at hSw)
          go_simp
          (try with_reducible rfl)
        show wpAnyH _ _ _ _ _ _ _ (Act.put _ (some 19) _) _
        (try simp only [Act.put, List.setIfInBounds_toArray, List.set_cons_zero, List.set_cons_succ])
        refine wpAnyH_take (i := 7) (v := ?_) rfl (by kernel_rfl) (by kernel_rfl) (by kernel_rfl) (fun _ _ _ h => h) (Or.inl ⟨by kernel_rfl, ?_⟩) (by with_reducible assumption) ?_
        rotate_left
        · intro wz hSw
          (try dsimp only at hSw)
          go_simp
          (try with_reducible rfl)
        show wpAnyH _ _ _ _ _ _ _ (Act.put _ (some 20) _) _
        (try simp only [Act.put, List.setIfInBounds_toArray, List.set_cons_zero, List.set_cons_succ])
        refine wpAnyH_ready (rs := [9]) (by kernel_rfl) (by simp) ?_
        refine AllReadyH.cons rfl (fun K hK => ?_) AllReadyH.nil
        clear hHeld
        have c0 := (hp_cell (i := 0) F_4.out).trans rfl
        have g0 := hp_free (i := 0) F_4.out
        have c1 := (hp_cell (i := 1) F_4.out).trans rfl
        have g1 := hp_free (i := 1) F_4.out
        have c2 := (hp_cell (i := 2) F_4.out).trans rfl
        have g2 := hp_free (i := 2) F_4.out
        have c3 := (hp_cell (i := 3) F_4.out).trans rfl
        have g3 := hp_free (i := 3) F_4.out
        go_simp
        clear c0 c1 c2 c3 g0 g1 g2 g3
        have HB9 := Lib.hid (show Below Wa.heap.size Wa ((((Y4.setCell ⟨X, 0, none⟩ (.int .u64 (limb 0 0 : Nat))).setCell ⟨X, 1, none⟩ (.int .u64 (limb 0 1 : Nat))).setCell ⟨X, 2, none⟩ (.int .u64 (limb 0 2 : Nat))).setCell ⟨X, 3, none⟩ (.int .u64 (limb 0 3 : Nat))) from ((((HB4.out.setCell LX.out _).setCell LX.out _).setCell LX.out _).setCell LX.out _))
        have SX := Lib.hid (set4b (.int .u64 (limb 0 0 : Nat)) (.int .u64 (limb 0 1 : Nat)) (.int .u64 (limb 0 2 : Nat)) (.int .u64 (limb 0 3 : Nat)) F_4.out (rfl : ((((Y4.setCell ⟨X, 0, none⟩ (.int .u64 (limb 0 0 : Nat))).setCell ⟨X, 1, none⟩ (.int .u64 (limb 0 1 : Nat))).setCell ⟨X, 2, none⟩ (.int .u64 (limb 0 2 : Nat))).setCell ⟨X, 3, none⟩ (.int .u64 (limb 0 3 : Nat))) = _))
        go_wp2_with fail
        refine hK.out _ _ ?_ (fun hHeld => ?_)
        · exact HB9.out
        clear hK K
        (try simp only [Act.put, List.setIfInBounds_toArray, List.set_cons_zero, List.set_cons_succ])
        generalize (((Y4.setCell ⟨X, 0, none⟩ (.int .u64 (limb 0 0 : Nat))).setCell ⟨X, 1, none⟩ (.int .u64 (limb 0 1 : Nat))).setCell ⟨X, 2, none⟩ (.int .u64 (limb 0 2 : Nat))).setCell ⟨X, 3, none⟩ (.int .u64 (limb 0 3 : Nat)) = Y9 at HB9 SX hHeld ⊢
        refine wpAnyH_take (i := 10) (v := ?_) rfl (by kernel_rfl) (by kernel_rfl) (by kernel_rfl) (fun _ _ _ h => h) (Or.inl ⟨by kernel_rfl, ?_⟩) (by with_reducible assumption) ?_
        rotate_left
        · intro wz hSw
          (try dsimp only at hSw)
          go_simp
          (try with_reducible rfl)
        show wpAnyH _ _ _ _ _ _ _ (Act.put _ (some 10) _) _
        (try simp only [Act.put, List.setIfInBounds_toArray, List.set_cons_zero, List.set_cons_succ])
        refine wpAnyH_done (by kernel_rfl) ?_ _
        go_wp2_with fail
        go_meet
        case rel => exact ⟨X, rfl, rfl, SX.out, HB9.out⟩
    · clear hHeld
      go_simp
      have HB8 := Lib.hid (HY0.out.alloc HY0.out.size (.cells #[.int .u64 0, .int .u64 0, .int .u64 0, .int .u64 0] 33))
      have F_n := Lib.hid (heap_alloc_new Y0 (.cells #[.int .u64 0, .int .u64 0, .int .u64 0, .int .u64 0] 33))
      obtain ⟨X, eX⟩ : ∃ y, y = Y0.heap.size := ⟨_, rfl⟩
      go_wp2_with fail
      refine hK.out _ _ ?_ (fun hHeld => ?_)
      · exact HB8.out
      clear hK K
      (try simp only [Act.put, List.setIfInBounds_toArray, List.set_cons_zero, List.set_cons_succ])
      rw [← eX] at F_n ⊢
      have LX := Lib.hid (show Wa.heap.size ≤ X from by rw [eX]; exact HY0.out.size)
      clear eX
      generalize Y0.alloc (.cells #[.int .u64 0, .int .u64 0, .int .u64 0, .int .u64 0] 33) = Y8 at HB8 F_n hHeld ⊢
      refine wpAnyH_ready (rs := [2]) (by kernel_rfl) (by simp) ?_
      refine AllReadyH.cons rfl (fun K hK => ?_) AllReadyH.nil
      clear hHeld
      go_simp
      go_at_call 21
      refine (HA.out _ (HB0.out.trans (HB8.out.mono HB0.out.size))).mono ?_
      rintro e Y2 ⟨rfl, hb⟩
      have HB2 := Lib.hid (HB8.out.trans (hb.mono HB8.out.size))
      have F_2 := Lib.hid ((hb.block _ (hp_lt F_n.out)).trans F_n.out)
      clear hb
      go_wp2_with fail
      refine hK.out _ _ ?_ (fun hHeld => ?_)
      · exact HB2.out
      clear hK K
      (try simp only [Act.put, List.setIfInBounds_toArray, List.set_cons_zero, List.set_cons_succ])
      refine wpAnyH_ready (rs := [4]) (by kernel_rfl) (by simp) ?_
      refine AllReadyH.cons rfl (fun K hK => ?_) AllReadyH.nil
      clear hHeld
      go_simp
      go_at_call 72
      refine (HSb.out _).mono ?_
      rintro e Y4 ⟨rfl, hb⟩
      have HB4 := Lib.hid (HB2.out.trans (hb.mono HB2.out.size))
      have F_4 := Lib.hid ((hb.block _ (hp_lt F_2.out)).trans F_2.out)
      clear hb
      go_wp2_with fail
      refine hK.out _ _ ?_ (fun hHeld => ?_)
      · exact HB4.out
      clear hK K
      (try simp only [Act.put, List.setIfInBounds_toArray, List.set_cons_zero, List.set_cons_succ])
      refine wpAnyH_take (i := 5) (v := ?_) rfl (by kernel_rfl) (by kernel_rfl) (by kernel_rfl) (fun _ _ _ h => h) (Or.inl ⟨by kernel_rfl, ?_⟩) (by with_reducible assumption) ?_
      rotate_left
      · intro wz hSw
        (try dsimp only at hSw)
        go_simp
        (try with_reducible rfl)
      show wpAnyH _ _ _ _ _ _ _ (Act.put _ (some 13) _) _
      (try simp only [Act.put, List.setIfInBounds_toArray, List.set_cons_zero, List.set_cons_succ])
      refine wpAnyH_take (i := 6) (v := ?_) rfl (by kernel_rfl) (by kernel_rfl) (by kernel_rfl) (fun _ _ _ h => h) (Or.inl ⟨by kernel_rfl, ?_⟩) (by with_reducible assumption) ?_
      rotate_left
      · intro wz hSw
        (try dsimp only at hSw)
        go_simp
        (try with_reducible rfl)
      show wpAnyH _ _ _ _ _ _ _ (Act.put _ (some 19) _) _
      (try simp only [Act.put, List.setIfInBounds_toArray, List.set_cons_zero, List.set_cons_succ])
      refine wpAnyH_take (i := 7) (v := ?_) rfl (by kernel_rfl) (by kernel_rfl) (by kernel_rfl) (fun _ _ _ h => h) (Or.inl ⟨by kernel_rfl, ?_⟩) (by with_reducible assumption) ?_
      rotate_left
      · intro wz hSw
        (try dsimp only at hSw)
        go_simp
        (try with_reducible rfl)
      show wpAnyH _ _ _ _ _ _ _ (Act.put _ (some 20) _) _
      (try simp only [Act.put, List.setIfInBounds_toArray, List.set_cons_zero, List.set_cons_succ])
      refine wpAnyH_ready (rs := [9]) (by kernel_rfl) (by simp) ?_
      refine AllReadyH.cons rfl (fun K hK => ?_) AllReadyH.nil
      clear hHeld
      have c0 := (hp_cell (i := 0) F_4.out).trans rfl
      have g0 := hp_free (i := 0) F_4.out
      have c1 := (hp_cell (i := 1) F_4.out).trans rfl
      have g1 := hp_free (i := 1) F_4.out
      have c2 := (hp_cell (i := 2) F_4.out).trans rfl
      have g2 := hp_free (i := 2) F_4.out
      have c3 := (hp_cell (i := 3) F_4.out).trans rfl
      have g3 := hp_free (i := 3) F_4.out
      go_simp
      clear c0 c1 c2 c3 g0 g1 g2 g3
      have HB9 := Lib.hid (show Below Wa.heap.size Wa ((((Y4.setCell ⟨X, 0, none⟩ (.int .u64 (limb 0 0 : Nat))).setCell ⟨X, 1, none⟩ (.int .u64 (limb 0 1 : Nat))).setCell ⟨X, 2, none⟩ (.int .u64 (limb 0 2 : Nat))).setCell ⟨X, 3, none⟩ (.int .u64 (limb 0 3 : Nat))) from ((((HB4.out.setCell LX.out _).setCell LX.out _).setCell LX.out _).setCell LX.out _))
      have SX := Lib.hid (set4b (.int .u64 (limb 0 0 : Nat)) (.int .u64 (limb 0 1 : Nat)) (.int .u64 (limb 0 2 : Nat)) (.int .u64 (limb 0 3 : Nat)) F_4.out (rfl : ((((Y4.setCell ⟨X, 0, none⟩ (.int .u64 (limb 0 0 : Nat))).setCell ⟨X, 1, none⟩ (.int .u64 (limb 0 1 : Nat))).setCell ⟨X, 2, none⟩ (.int .u64 (limb 0 2 : Nat))).setCell ⟨X, 3, none⟩ (.int .u64 (limb 0 3 : Nat))) = _))
      go_wp2_with fail
      refine hK.out _ _ ?_ (fun hHeld => ?_)
      · exact HB9.out
      clear hK K
      (try simp only [Act.put, List.setIfInBounds_toArray, List.set_cons_zero, List.set_cons_succ])
      generalize (((Y4.setCell ⟨X, 0, none⟩ (.int .u64 (limb 0 0 : Nat))).setCell ⟨X, 1, none⟩ (.int .u64 (limb 0 1 : Nat))).setCell ⟨X, 2, none⟩ (.int .u64 (limb 0 2 : Nat))).setCell ⟨X, 3, none⟩ (.int .u64 (limb 0 3 : Nat)) = Y9 at HB9 SX hHeld ⊢
      refine wpAnyH_take (i := 10) (v := ?_) rfl (by kernel_rfl) (by kernel_rfl) (by kernel_rfl) (fun _ _ _ h => h) (Or.inl ⟨by kernel_rfl, ?_⟩) (by with_reducible assumption) ?_
      rotate_left
      · intro wz hSw
        (try dsimp only at hSw)
        go_simp
        (try with_reducible rfl)
      show wpAnyH _ _ _ _ _ _ _ (Act.put _ (some 10) _) _
      (try simp only [Act.put, List.setIfInBounds_toArray, List.set_cons_zero, List.set_cons_succ])
      refine wpAnyH_done (by kernel_rfl) ?_ _
      go_wp2_with fail
      go_meet
      case rel => exact ⟨X, rfl, rfl, SX.out, HB9.out⟩
  case rest =>
    obtain ⟨B1, rfl, rfl, hB1, hbc⟩ := hcut
    obtain ⟨Wb, hWb⟩ : ∃ Wb, Wb = wc := ⟨_, rfl⟩
    subst hWb
    have HBc := Lib.hid (HB0.out.trans (hbc.mono HB0.out.size))
    clear hB1 hbc
    go_wp2
    go_ret
    exact ⟨rfl, HD.out _ HBc.out⟩
set_option maxRecDepth 100000 in
set_option maxHeartbeats 4000000 in
theorem rmove_same (w W : World) (m : Nat) (L : SL) (R : List Ch) (k1 k2 : ByteArray) (x a : Nat) (h : DS w W m L R) (hr : Rising (skeys L)) (hN : L.length < 900000) (he : amtAt L k1 x) (hx : x < 2 ^ 256) (ha : a < 2 ^ 256) (hlt : a ≤ x) (hk : k1 = k2) :
    Calls Tryz.prog 46 #[.pointer (some ⟨m, 0, none⟩), .string k1, .string k2, U a] W fun e W' => e = .returned (.int .i64 0) ∧ DSTo w W W' m L R := by
  have hb0 := (Below.refl W.heap.size W).alloc (Nat.le_refl _) (.cells #[.int .u64 (limb a 0 : Nat), .int .u64 (limb a 1 : Nat), .int .u64 (limb a 2 : Nat), .int .u64 (limb a 3 : Nat)] 33)
  have r0 := heap_alloc_new W (.cells #[.int .u64 (limb a 0 : Nat), .int .u64 (limb a 1 : Nat), .int .u64 (limb a 2 : Nat), .int .u64 (limb a 3 : Nat)] 33)
  have HB0 := Lib.hid hb0
  have hA := fun (W1 : World) (hb : Below W.heap.size W W1) => ramount_at w W1 m L R k1 x (h.below hb) hr (by omega) he hx
  have hSb := fun W1 => rsub_walk x a W1 hx ha
  unfold subv subk at hSb
  rw [if_pos hlt, decide_eq_true hlt] at hSb
  have HD := Lib.hid (fun (W1 : World) (hb : Below W.heap.size W W1) => DSTo.of_below h hb)
  have q1 : (k1.toList == k2.toList) = true := by rw [hk]; exact beq_self_eq_true _
  obtain ⟨s, hs⟩ : ∃ s, s = x - a := ⟨_, rfl⟩
  rw [← hs] at hSb
  unfold U at hA hSb
  have HA := Lib.hid hA
  have HSb := Lib.hid hSb
  have HR0 := Lib.hid r0
  clear h hr hN he hx ha hb0 r0 hA hSb hlt hk hs
  unfold U
  go_enter Tryz.func46, Tryz.ntmps46
  go_upto_region 1 with fail
  obtain ⟨XB, hXB⟩ : ∃ XB, XB = W.heap.size := ⟨_, rfl⟩
  rw [← hXB] at HR0 ⊢
  have HBx := Lib.hid HR0.out
  have LB := Lib.hid (hp_lt HR0.out)
  clear hXB HR0
  generalize W.alloc (.cells #[.int .u64 (limb a 0 : Nat), .int .u64 (limb a 1 : Nat), .int .u64 (limb a 2 : Nat), .int .u64 (limb a 3 : Nat)] 33) = Wa at HB0 HBx LB ⊢
  go_cut [9, 10] (fun p q wx => ∃ B, p = .pointer (some ⟨B, 0, none⟩) ∧ q = .bool true ∧ wx.heap[B]? = some (.cells #[.int .u64 (limb s 0 : Nat), .int .u64 (limb s 1 : Nat), .int .u64 (limb s 2 : Nat), .int .u64 (limb s 3 : Nat)] 33 (0, 0)) ∧ Below Wa.heap.size Wa wx)
  case first =>
    refine wp_region_held_drew (S := fun w' => Below Wa.heap.size Wa w') (by kernel_rfl) ?_ (fun hHeld => ?_)
    · exact (Below.refl _ _).drew
    have HY0 := Lib.hid (show Below Wa.heap.size Wa Wa.drew from (Below.refl _ _).drew)
    generalize Wa.drew = Y0 at HY0 hHeld ⊢
    refine wpAnyH_take (i := 0) (v := ?_) rfl (by kernel_rfl) (by kernel_rfl) (by kernel_rfl) (fun _ _ _ h => h) (Or.inl ⟨by kernel_rfl, ?_⟩) (by with_reducible assumption) ?_
    rotate_left
    · intro wz hSw
      (try dsimp only at hSw)
      go_simp
      (try with_reducible rfl)
    show wpAnyH _ _ _ _ _ _ _ (Act.put _ (some 14) _) _
    (try simp only [Act.put, List.setIfInBounds_toArray, List.set_cons_zero, List.set_cons_succ])
    refine wpAnyH_take (i := 1) (v := ?_) rfl (by kernel_rfl) (by kernel_rfl) (by kernel_rfl) (fun _ _ _ h => h) (Or.inl ⟨by kernel_rfl, ?_⟩) (by with_reducible assumption) ?_
    rotate_left
    · intro wz hSw
      (try dsimp only at hSw)
      go_simp
      (try with_reducible rfl)
    show wpAnyH _ _ _ _ _ _ _ (Act.put _ (some 15) _) _
    (try simp only [Act.put, List.setIfInBounds_toArray, List.set_cons_zero, List.set_cons_succ])
    refine wpAnyH_take (i := 3) (v := .agg #[.int .u64 (limb a 0 : Nat), .int .u64 (limb a 1 : Nat), .int .u64 (limb a 2 : Nat), .int .u64 (limb a 3 : Nat)]) rfl (by kernel_rfl) (by kernel_rfl) (by kernel_rfl) (fun _ _ _ h => h) (Or.inl ⟨by kernel_rfl, ?_⟩) (by with_reducible assumption) ?_
    · intro wz hSw
      (try dsimp only at hSw)
      have z0 := (hSw.cell (p := ⟨XB, 0, none⟩) LB.out).trans ((hp_cell (i := 0) HBx.out).trans rfl)
      have z1 := (hSw.cell (p := ⟨XB, 1, none⟩) LB.out).trans ((hp_cell (i := 1) HBx.out).trans rfl)
      have z2 := (hSw.cell (p := ⟨XB, 2, none⟩) LB.out).trans ((hp_cell (i := 2) HBx.out).trans rfl)
      have z3 := (hSw.cell (p := ⟨XB, 3, none⟩) LB.out).trans ((hp_cell (i := 3) HBx.out).trans rfl)
      go_simp
      (try with_reducible rfl)
    show wpAnyH _ _ _ _ _ _ _ (Act.put _ (some 17) _) _
    (try simp only [Act.put, List.setIfInBounds_toArray, List.set_cons_zero, List.set_cons_succ])
    refine wpAnyH_ready (rs := [2, 8]) (by kernel_rfl) (by simp) ?_
    refine AllReadyH.cons rfl (fun K hK => ?_) (AllReadyH.cons rfl (fun K hK => ?_) AllReadyH.nil)
    · clear hHeld
      go_simp
      go_at_call 21
      refine (HA.out _ (HB0.out.trans (HY0.out.mono HB0.out.size))).mono ?_
      rintro e Y2 ⟨rfl, hb⟩
      have HB2 := Lib.hid (HY0.out.trans (hb.mono HY0.out.size))
      clear hb
      go_wp2_with fail
      refine hK.out _ _ ?_ (fun hHeld => ?_)
      · exact HB2.out
      clear hK K
      (try simp only [Act.put, List.setIfInBounds_toArray, List.set_cons_zero, List.set_cons_succ])
      refine wpAnyH_ready (rs := [4, 8]) (by kernel_rfl) (by simp) ?_
      refine AllReadyH.cons rfl (fun K hK => ?_) (AllReadyH.cons rfl (fun K hK => ?_) AllReadyH.nil)
      · clear hHeld
        go_simp
        go_at_call 72
        refine (HSb.out _).mono ?_
        rintro e Y4 ⟨rfl, hb⟩
        have HB4 := Lib.hid (HB2.out.trans (hb.mono HB2.out.size))
        clear hb
        go_wp2_with fail
        refine hK.out _ _ ?_ (fun hHeld => ?_)
        · exact HB4.out
        clear hK K
        (try simp only [Act.put, List.setIfInBounds_toArray, List.set_cons_zero, List.set_cons_succ])
        refine wpAnyH_take (i := 5) (v := ?_) rfl (by kernel_rfl) (by kernel_rfl) (by kernel_rfl) (fun _ _ _ h => h) (Or.inl ⟨by kernel_rfl, ?_⟩) (by with_reducible assumption) ?_
        rotate_left
        · intro wz hSw
          (try dsimp only at hSw)
          go_simp
          (try with_reducible rfl)
        show wpAnyH _ _ _ _ _ _ _ (Act.put _ (some 13) _) _
        (try simp only [Act.put, List.setIfInBounds_toArray, List.set_cons_zero, List.set_cons_succ])
        refine wpAnyH_take (i := 6) (v := ?_) rfl (by kernel_rfl) (by kernel_rfl) (by kernel_rfl) (fun _ _ _ h => h) (Or.inl ⟨by kernel_rfl, ?_⟩) (by with_reducible assumption) ?_
        rotate_left
        · intro wz hSw
          (try dsimp only at hSw)
          go_simp
          (try with_reducible rfl)
        show wpAnyH _ _ _ _ _ _ _ (Act.put _ (some 19) _) _
        (try simp only [Act.put, List.setIfInBounds_toArray, List.set_cons_zero, List.set_cons_succ])
        refine wpAnyH_take (i := 7) (v := ?_) rfl (by kernel_rfl) (by kernel_rfl) (by kernel_rfl) (fun _ _ _ h => h) (Or.inl ⟨by kernel_rfl, ?_⟩) (by with_reducible assumption) ?_
        rotate_left
        · intro wz hSw
          (try dsimp only at hSw)
          go_simp
          (try with_reducible rfl)
        show wpAnyH _ _ _ _ _ _ _ (Act.put _ (some 20) _) _
        (try simp only [Act.put, List.setIfInBounds_toArray, List.set_cons_zero, List.set_cons_succ])
        refine wpAnyH_ready (rs := [8]) (by kernel_rfl) (by simp) ?_
        refine AllReadyH.cons rfl (fun K hK => ?_) AllReadyH.nil
        clear hHeld
        go_simp
        have HB8 := Lib.hid (HB4.out.alloc HB4.out.size (.cells #[.int .u64 0, .int .u64 0, .int .u64 0, .int .u64 0] 33))
        have F_n := Lib.hid (heap_alloc_new Y4 (.cells #[.int .u64 0, .int .u64 0, .int .u64 0, .int .u64 0] 33))
        obtain ⟨X, eX⟩ : ∃ y, y = Y4.heap.size := ⟨_, rfl⟩
        go_wp2_with fail
        refine hK.out _ _ ?_ (fun hHeld => ?_)
        · exact HB8.out
        clear hK K
        (try simp only [Act.put, List.setIfInBounds_toArray, List.set_cons_zero, List.set_cons_succ])
        rw [← eX] at F_n ⊢
        have LX := Lib.hid (show Wa.heap.size ≤ X from by rw [eX]; exact HB4.out.size)
        clear eX
        generalize Y4.alloc (.cells #[.int .u64 0, .int .u64 0, .int .u64 0, .int .u64 0] 33) = Y8 at HB8 F_n hHeld ⊢
        refine wpAnyH_ready (rs := [9]) (by kernel_rfl) (by simp) ?_
        refine AllReadyH.cons rfl (fun K hK => ?_) AllReadyH.nil
        clear hHeld
        have c0 := (hp_cell (i := 0) F_n.out).trans rfl
        have g0 := hp_free (i := 0) F_n.out
        have c1 := (hp_cell (i := 1) F_n.out).trans rfl
        have g1 := hp_free (i := 1) F_n.out
        have c2 := (hp_cell (i := 2) F_n.out).trans rfl
        have g2 := hp_free (i := 2) F_n.out
        have c3 := (hp_cell (i := 3) F_n.out).trans rfl
        have g3 := hp_free (i := 3) F_n.out
        go_simp
        clear c0 c1 c2 c3 g0 g1 g2 g3
        have HB9 := Lib.hid (show Below Wa.heap.size Wa ((((Y8.setCell ⟨X, 0, none⟩ (.int .u64 (limb s 0 : Nat))).setCell ⟨X, 1, none⟩ (.int .u64 (limb s 1 : Nat))).setCell ⟨X, 2, none⟩ (.int .u64 (limb s 2 : Nat))).setCell ⟨X, 3, none⟩ (.int .u64 (limb s 3 : Nat))) from ((((HB8.out.setCell LX.out _).setCell LX.out _).setCell LX.out _).setCell LX.out _))
        have SX := Lib.hid (set4b (.int .u64 (limb s 0 : Nat)) (.int .u64 (limb s 1 : Nat)) (.int .u64 (limb s 2 : Nat)) (.int .u64 (limb s 3 : Nat)) F_n.out (rfl : ((((Y8.setCell ⟨X, 0, none⟩ (.int .u64 (limb s 0 : Nat))).setCell ⟨X, 1, none⟩ (.int .u64 (limb s 1 : Nat))).setCell ⟨X, 2, none⟩ (.int .u64 (limb s 2 : Nat))).setCell ⟨X, 3, none⟩ (.int .u64 (limb s 3 : Nat))) = _))
        go_wp2_with fail
        refine hK.out _ _ ?_ (fun hHeld => ?_)
        · exact HB9.out
        clear hK K
        (try simp only [Act.put, List.setIfInBounds_toArray, List.set_cons_zero, List.set_cons_succ])
        generalize (((Y8.setCell ⟨X, 0, none⟩ (.int .u64 (limb s 0 : Nat))).setCell ⟨X, 1, none⟩ (.int .u64 (limb s 1 : Nat))).setCell ⟨X, 2, none⟩ (.int .u64 (limb s 2 : Nat))).setCell ⟨X, 3, none⟩ (.int .u64 (limb s 3 : Nat)) = Y9 at HB9 SX hHeld ⊢
        refine wpAnyH_take (i := 10) (v := ?_) rfl (by kernel_rfl) (by kernel_rfl) (by kernel_rfl) (fun _ _ _ h => h) (Or.inl ⟨by kernel_rfl, ?_⟩) (by with_reducible assumption) ?_
        rotate_left
        · intro wz hSw
          (try dsimp only at hSw)
          go_simp
          (try with_reducible rfl)
        show wpAnyH _ _ _ _ _ _ _ (Act.put _ (some 10) _) _
        (try simp only [Act.put, List.setIfInBounds_toArray, List.set_cons_zero, List.set_cons_succ])
        refine wpAnyH_done (by kernel_rfl) ?_ _
        go_wp2_with fail
        go_meet
        case rel => exact ⟨X, rfl, rfl, SX.out, HB9.out⟩
      · clear hHeld
        go_simp
        have HB8 := Lib.hid (HB2.out.alloc HB2.out.size (.cells #[.int .u64 0, .int .u64 0, .int .u64 0, .int .u64 0] 33))
        have F_n := Lib.hid (heap_alloc_new Y2 (.cells #[.int .u64 0, .int .u64 0, .int .u64 0, .int .u64 0] 33))
        obtain ⟨X, eX⟩ : ∃ y, y = Y2.heap.size := ⟨_, rfl⟩
        go_wp2_with fail
        refine hK.out _ _ ?_ (fun hHeld => ?_)
        · exact HB8.out
        clear hK K
        (try simp only [Act.put, List.setIfInBounds_toArray, List.set_cons_zero, List.set_cons_succ])
        rw [← eX] at F_n ⊢
        have LX := Lib.hid (show Wa.heap.size ≤ X from by rw [eX]; exact HB2.out.size)
        clear eX
        generalize Y2.alloc (.cells #[.int .u64 0, .int .u64 0, .int .u64 0, .int .u64 0] 33) = Y8 at HB8 F_n hHeld ⊢
        refine wpAnyH_ready (rs := [4]) (by kernel_rfl) (by simp) ?_
        refine AllReadyH.cons rfl (fun K hK => ?_) AllReadyH.nil
        clear hHeld
        go_simp
        go_at_call 72
        refine (HSb.out _).mono ?_
        rintro e Y4 ⟨rfl, hb⟩
        have HB4 := Lib.hid (HB8.out.trans (hb.mono HB8.out.size))
        have F_4 := Lib.hid ((hb.block _ (hp_lt F_n.out)).trans F_n.out)
        clear hb
        go_wp2_with fail
        refine hK.out _ _ ?_ (fun hHeld => ?_)
        · exact HB4.out
        clear hK K
        (try simp only [Act.put, List.setIfInBounds_toArray, List.set_cons_zero, List.set_cons_succ])
        refine wpAnyH_take (i := 5) (v := ?_) rfl (by kernel_rfl) (by kernel_rfl) (by kernel_rfl) (fun _ _ _ h => h) (Or.inl ⟨by kernel_rfl, ?_⟩) (by with_reducible assumption) ?_
        rotate_left
        · intro wz hSw
          (try dsimp only at hSw)
          go_simp
          (try with_reducible rfl)
        show wpAnyH _ _ _ _ _ _ _ (Act.put _ (some 13) _) _
        (try simp only [Act.put, List.setIfInBounds_toArray, List.set_cons_zero, List.set_cons_succ])
        refine wpAnyH_take (i := 6) (v := ?_) rfl (by kernel_rfl) (by kernel_rfl) (by kernel_rfl) (fun _ _ _ h => h) (Or.inl ⟨by kernel_rfl, ?_⟩) (by with_reducible assumption) ?_
        rotate_left
        · intro wz hSw
          (try dsimp only at hSw)
          go_simp
          (try with_reducible rfl)
        show wpAnyH _ _ _ _ _ _ _ (Act.put _ (some 19) _) _
        (try simp only [Act.put, List.setIfInBounds_toArray, List.set_cons_zero, List.set_cons_succ])
        refine wpAnyH_take (i := 7) (v := ?_) rfl (by kernel_rfl) (by kernel_rfl) (by kernel_rfl) (fun _ _ _ h => h) (Or.inl ⟨by kernel_rfl, ?_⟩) (by with_reducible assumption) ?_
        rotate_left
        · intro wz hSw
          (try dsimp only at hSw)
          go_simp
          (try with_reducible rfl)
        show wpAnyH _ _ _ _ _ _ _ (Act.put _ (some 20) _) _
        (try simp only [Act.put, List.setIfInBounds_toArray, List.set_cons_zero, List.set_cons_succ])
        refine wpAnyH_ready (rs := [9]) (by kernel_rfl) (by simp) ?_
        refine AllReadyH.cons rfl (fun K hK => ?_) AllReadyH.nil
        clear hHeld
        have c0 := (hp_cell (i := 0) F_4.out).trans rfl
        have g0 := hp_free (i := 0) F_4.out
        have c1 := (hp_cell (i := 1) F_4.out).trans rfl
        have g1 := hp_free (i := 1) F_4.out
        have c2 := (hp_cell (i := 2) F_4.out).trans rfl
        have g2 := hp_free (i := 2) F_4.out
        have c3 := (hp_cell (i := 3) F_4.out).trans rfl
        have g3 := hp_free (i := 3) F_4.out
        go_simp
        clear c0 c1 c2 c3 g0 g1 g2 g3
        have HB9 := Lib.hid (show Below Wa.heap.size Wa ((((Y4.setCell ⟨X, 0, none⟩ (.int .u64 (limb s 0 : Nat))).setCell ⟨X, 1, none⟩ (.int .u64 (limb s 1 : Nat))).setCell ⟨X, 2, none⟩ (.int .u64 (limb s 2 : Nat))).setCell ⟨X, 3, none⟩ (.int .u64 (limb s 3 : Nat))) from ((((HB4.out.setCell LX.out _).setCell LX.out _).setCell LX.out _).setCell LX.out _))
        have SX := Lib.hid (set4b (.int .u64 (limb s 0 : Nat)) (.int .u64 (limb s 1 : Nat)) (.int .u64 (limb s 2 : Nat)) (.int .u64 (limb s 3 : Nat)) F_4.out (rfl : ((((Y4.setCell ⟨X, 0, none⟩ (.int .u64 (limb s 0 : Nat))).setCell ⟨X, 1, none⟩ (.int .u64 (limb s 1 : Nat))).setCell ⟨X, 2, none⟩ (.int .u64 (limb s 2 : Nat))).setCell ⟨X, 3, none⟩ (.int .u64 (limb s 3 : Nat))) = _))
        go_wp2_with fail
        refine hK.out _ _ ?_ (fun hHeld => ?_)
        · exact HB9.out
        clear hK K
        (try simp only [Act.put, List.setIfInBounds_toArray, List.set_cons_zero, List.set_cons_succ])
        generalize (((Y4.setCell ⟨X, 0, none⟩ (.int .u64 (limb s 0 : Nat))).setCell ⟨X, 1, none⟩ (.int .u64 (limb s 1 : Nat))).setCell ⟨X, 2, none⟩ (.int .u64 (limb s 2 : Nat))).setCell ⟨X, 3, none⟩ (.int .u64 (limb s 3 : Nat)) = Y9 at HB9 SX hHeld ⊢
        refine wpAnyH_take (i := 10) (v := ?_) rfl (by kernel_rfl) (by kernel_rfl) (by kernel_rfl) (fun _ _ _ h => h) (Or.inl ⟨by kernel_rfl, ?_⟩) (by with_reducible assumption) ?_
        rotate_left
        · intro wz hSw
          (try dsimp only at hSw)
          go_simp
          (try with_reducible rfl)
        show wpAnyH _ _ _ _ _ _ _ (Act.put _ (some 10) _) _
        (try simp only [Act.put, List.setIfInBounds_toArray, List.set_cons_zero, List.set_cons_succ])
        refine wpAnyH_done (by kernel_rfl) ?_ _
        go_wp2_with fail
        go_meet
        case rel => exact ⟨X, rfl, rfl, SX.out, HB9.out⟩
    · clear hHeld
      go_simp
      have HB8 := Lib.hid (HY0.out.alloc HY0.out.size (.cells #[.int .u64 0, .int .u64 0, .int .u64 0, .int .u64 0] 33))
      have F_n := Lib.hid (heap_alloc_new Y0 (.cells #[.int .u64 0, .int .u64 0, .int .u64 0, .int .u64 0] 33))
      obtain ⟨X, eX⟩ : ∃ y, y = Y0.heap.size := ⟨_, rfl⟩
      go_wp2_with fail
      refine hK.out _ _ ?_ (fun hHeld => ?_)
      · exact HB8.out
      clear hK K
      (try simp only [Act.put, List.setIfInBounds_toArray, List.set_cons_zero, List.set_cons_succ])
      rw [← eX] at F_n ⊢
      have LX := Lib.hid (show Wa.heap.size ≤ X from by rw [eX]; exact HY0.out.size)
      clear eX
      generalize Y0.alloc (.cells #[.int .u64 0, .int .u64 0, .int .u64 0, .int .u64 0] 33) = Y8 at HB8 F_n hHeld ⊢
      refine wpAnyH_ready (rs := [2]) (by kernel_rfl) (by simp) ?_
      refine AllReadyH.cons rfl (fun K hK => ?_) AllReadyH.nil
      clear hHeld
      go_simp
      go_at_call 21
      refine (HA.out _ (HB0.out.trans (HB8.out.mono HB0.out.size))).mono ?_
      rintro e Y2 ⟨rfl, hb⟩
      have HB2 := Lib.hid (HB8.out.trans (hb.mono HB8.out.size))
      have F_2 := Lib.hid ((hb.block _ (hp_lt F_n.out)).trans F_n.out)
      clear hb
      go_wp2_with fail
      refine hK.out _ _ ?_ (fun hHeld => ?_)
      · exact HB2.out
      clear hK K
      (try simp only [Act.put, List.setIfInBounds_toArray, List.set_cons_zero, List.set_cons_succ])
      refine wpAnyH_ready (rs := [4]) (by kernel_rfl) (by simp) ?_
      refine AllReadyH.cons rfl (fun K hK => ?_) AllReadyH.nil
      clear hHeld
      go_simp
      go_at_call 72
      refine (HSb.out _).mono ?_
      rintro e Y4 ⟨rfl, hb⟩
      have HB4 := Lib.hid (HB2.out.trans (hb.mono HB2.out.size))
      have F_4 := Lib.hid ((hb.block _ (hp_lt F_2.out)).trans F_2.out)
      clear hb
      go_wp2_with fail
      refine hK.out _ _ ?_ (fun hHeld => ?_)
      · exact HB4.out
      clear hK K
      (try simp only [Act.put, List.setIfInBounds_toArray, List.set_cons_zero, List.set_cons_succ])
      refine wpAnyH_take (i := 5) (v := ?_) rfl (by kernel_rfl) (by kernel_rfl) (by kernel_rfl) (fun _ _ _ h => h) (Or.inl ⟨by kernel_rfl, ?_⟩) (by with_reducible assumption) ?_
      rotate_left
      · intro wz hSw
        (try dsimp only at hSw)
        go_simp
        (try with_reducible rfl)
      show wpAnyH _ _ _ _ _ _ _ (Act.put _ (some 13) _) _
      (try simp only [Act.put, List.setIfInBounds_toArray, List.set_cons_zero, List.set_cons_succ])
      refine wpAnyH_take (i := 6) (v := ?_) rfl (by kernel_rfl) (by kernel_rfl) (by kernel_rfl) (fun _ _ _ h => h) (Or.inl ⟨by kernel_rfl, ?_⟩) (by with_reducible assumption) ?_
      rotate_left
      · intro wz hSw
        (try dsimp only at hSw)
        go_simp
        (try with_reducible rfl)
      show wpAnyH _ _ _ _ _ _ _ (Act.put _ (some 19) _) _
      (try simp only [Act.put, List.setIfInBounds_toArray, List.set_cons_zero, List.set_cons_succ])
      refine wpAnyH_take (i := 7) (v := ?_) rfl (by kernel_rfl) (by kernel_rfl) (by kernel_rfl) (fun _ _ _ h => h) (Or.inl ⟨by kernel_rfl, ?_⟩) (by with_reducible assumption) ?_
      rotate_left
      · intro wz hSw
        (try dsimp only at hSw)
        go_simp
        (try with_reducible rfl)
      show wpAnyH _ _ _ _ _ _ _ (Act.put _ (some 20) _) _
      (try simp only [Act.put, List.setIfInBounds_toArray, List.set_cons_zero, List.set_cons_succ])
      refine wpAnyH_ready (rs := [9]) (by kernel_rfl) (by simp) ?_
      refine AllReadyH.cons rfl (fun K hK => ?_) AllReadyH.nil
      clear hHeld
      have c0 := (hp_cell (i := 0) F_4.out).trans rfl
      have g0 := hp_free (i := 0) F_4.out
      have c1 := (hp_cell (i := 1) F_4.out).trans rfl
      have g1 := hp_free (i := 1) F_4.out
      have c2 := (hp_cell (i := 2) F_4.out).trans rfl
      have g2 := hp_free (i := 2) F_4.out
      have c3 := (hp_cell (i := 3) F_4.out).trans rfl
      have g3 := hp_free (i := 3) F_4.out
      go_simp
      clear c0 c1 c2 c3 g0 g1 g2 g3
      have HB9 := Lib.hid (show Below Wa.heap.size Wa ((((Y4.setCell ⟨X, 0, none⟩ (.int .u64 (limb s 0 : Nat))).setCell ⟨X, 1, none⟩ (.int .u64 (limb s 1 : Nat))).setCell ⟨X, 2, none⟩ (.int .u64 (limb s 2 : Nat))).setCell ⟨X, 3, none⟩ (.int .u64 (limb s 3 : Nat))) from ((((HB4.out.setCell LX.out _).setCell LX.out _).setCell LX.out _).setCell LX.out _))
      have SX := Lib.hid (set4b (.int .u64 (limb s 0 : Nat)) (.int .u64 (limb s 1 : Nat)) (.int .u64 (limb s 2 : Nat)) (.int .u64 (limb s 3 : Nat)) F_4.out (rfl : ((((Y4.setCell ⟨X, 0, none⟩ (.int .u64 (limb s 0 : Nat))).setCell ⟨X, 1, none⟩ (.int .u64 (limb s 1 : Nat))).setCell ⟨X, 2, none⟩ (.int .u64 (limb s 2 : Nat))).setCell ⟨X, 3, none⟩ (.int .u64 (limb s 3 : Nat))) = _))
      go_wp2_with fail
      refine hK.out _ _ ?_ (fun hHeld => ?_)
      · exact HB9.out
      clear hK K
      (try simp only [Act.put, List.setIfInBounds_toArray, List.set_cons_zero, List.set_cons_succ])
      generalize (((Y4.setCell ⟨X, 0, none⟩ (.int .u64 (limb s 0 : Nat))).setCell ⟨X, 1, none⟩ (.int .u64 (limb s 1 : Nat))).setCell ⟨X, 2, none⟩ (.int .u64 (limb s 2 : Nat))).setCell ⟨X, 3, none⟩ (.int .u64 (limb s 3 : Nat)) = Y9 at HB9 SX hHeld ⊢
      refine wpAnyH_take (i := 10) (v := ?_) rfl (by kernel_rfl) (by kernel_rfl) (by kernel_rfl) (fun _ _ _ h => h) (Or.inl ⟨by kernel_rfl, ?_⟩) (by with_reducible assumption) ?_
      rotate_left
      · intro wz hSw
        (try dsimp only at hSw)
        go_simp
        (try with_reducible rfl)
      show wpAnyH _ _ _ _ _ _ _ (Act.put _ (some 10) _) _
      (try simp only [Act.put, List.setIfInBounds_toArray, List.set_cons_zero, List.set_cons_succ])
      refine wpAnyH_done (by kernel_rfl) ?_ _
      go_wp2_with fail
      go_meet
      case rel => exact ⟨X, rfl, rfl, SX.out, HB9.out⟩
  case rest =>
    obtain ⟨B1, rfl, rfl, hB1, hbc⟩ := hcut
    obtain ⟨Wb, hWb⟩ : ∃ Wb, Wb = wc := ⟨_, rfl⟩
    subst hWb
    have HBc := Lib.hid (HB0.out.trans (hbc.mono HB0.out.size))
    clear hB1 hbc
    go_wp2
    go_ret
    exact ⟨rfl, HD.out _ HBc.out⟩
set_option maxRecDepth 100000 in
set_option maxHeartbeats 4000000 in
theorem rmove_ok (w W : World) (m : Nat) (L : SL) (R : List Ch) (k1 k2 : ByteArray) (x a : Nat) (h : DS w W m L R) (hr : Rising (skeys L)) (hN : L.length < 900000) (he : amtAt L k1 x) (hx : x < 2 ^ 256) (ha : a < 2 ^ 256) (y : Nat) (hR : R.length < 900000) (hlt : a ≤ x) (hk : k1 ≠ k2) (hk10 : k1 ≠ ⟨#[]⟩) (hk20 : k2 ≠ ⟨#[]⟩) (he2 : amtAt L k2 y) (hy : y < 2 ^ 256) (hle : y + a ≤ MOST) :
    Calls Tryz.prog 46 #[.pointer (some ⟨m, 0, none⟩), .string k1, .string k2, U a] W fun e W' => e = .returned (.int .i64 0) ∧ DSTo w W W' m (setA (setA L k1 (x - a)) k2 (y + a)) (setAR (setA L k1 (x - a)) (setAR L R k1 (x - a)) k2 (y + a)) := by
  have hb0 := (Below.refl W.heap.size W).alloc (Nat.le_refl _) (.cells #[.int .u64 (limb a 0 : Nat), .int .u64 (limb a 1 : Nat), .int .u64 (limb a 2 : Nat), .int .u64 (limb a 3 : Nat)] 33)
  have r0 := heap_alloc_new W (.cells #[.int .u64 (limb a 0 : Nat), .int .u64 (limb a 1 : Nat), .int .u64 (limb a 2 : Nat), .int .u64 (limb a 3 : Nat)] 33)
  have HB0 := Lib.hid hb0
  have hA := fun (W1 : World) (hb : Below W.heap.size W W1) => ramount_at w W1 m L R k1 x (h.below hb) hr (by omega) he hx
  have hSb := fun W1 => rsub_walk x a W1 hx ha
  unfold subv subk at hSb
  rw [if_pos hlt, decide_eq_true hlt] at hSb
  have q1 : (k1.toList == k2.toList) = false := by
    rw [beq_eq_false_iff_ne]
    intro e
    rw [Lib.toList_data, Lib.toList_data] at e
    exact hk (lit_inj (congrArg Lit.string e))
  have hv : y + a < 2 ^ 256 := Nat.lt_of_le_of_lt hle MOST_lt
  have hA2 := fun (W1 : World) (hb : Below W.heap.size W W1) => ramount_at w W1 m L R k2 y (h.below hb) hr (by omega) he2 hy
  have hAd := fun W1 => radd_walk y a W1 hy ha
  unfold addv addk at hAd
  rw [if_pos hv, decide_eq_true hv] at hAd
  obtain ⟨s, hs⟩ : ∃ s, s = x - a := ⟨_, rfl⟩
  obtain ⟨v, hv2⟩ : ∃ v, v = y + a := ⟨_, rfl⟩
  rw [← hs] at hSb ⊢
  rw [← hv2] at hAd hv hle ⊢
  have hs2 : s < 2 ^ 256 := by omega
  have HAm := Lib.hid (fun W => amount_cc v W true hv (decide_eq_true hle))
  have hl1 := setA_le L k1 s
  have hr1 := rising_setA hr k1 s
  have hR1 := setAR_le L R k1 s
  have hS1 := fun (W1 : World) (hb : Below W.heap.size W W1) => rsetAmount_walk w W1 m L R k1 s (h.below hb) hk10 hr (by omega) (by omega) hs2
  have hS2 := fun (W1 : World) (hd : DS w W1 m (setA L k1 s) (setAR L R k1 s)) => rsetAmount_walk w W1 m _ _ k2 v hd hk20 hr1 (by omega) (by omega) hv
  have HPr := Lib.hid (fun (W1 W2 W3 : World) (hb : Below W.heap.size W W1) (h4 : DSTo w W1 W2 m (setA L k1 s) (setAR L R k1 s)) (h5 : DSTo w W2 W3 m (setA (setA L k1 s) k2 v) (setAR (setA L k1 s) (setAR L R k1 s) k2 v)) => (DSTo.pre h hb h4).trans h5)
  unfold U at hA2 hAd hS1 hS2
  have HA2 := Lib.hid hA2
  have HAd := Lib.hid hAd
  have HS1 := Lib.hid hS1
  have HS2 := Lib.hid hS2
  unfold U at hA hSb
  have HA := Lib.hid hA
  have HSb := Lib.hid hSb
  have HR0 := Lib.hid r0
  clear h hr hN he hx ha hb0 r0 hA hSb hlt hk hk10 hk20 he2 hy hle hv hA2 hAd hs hv2 hs2 hl1 hr1 hR1 hR hS1 hS2
  unfold U
  go_enter Tryz.func46, Tryz.ntmps46
  go_upto_region 1 with fail
  obtain ⟨XB, hXB⟩ : ∃ XB, XB = W.heap.size := ⟨_, rfl⟩
  rw [← hXB] at HR0 ⊢
  have HBx := Lib.hid HR0.out
  have LB := Lib.hid (hp_lt HR0.out)
  clear hXB HR0
  generalize W.alloc (.cells #[.int .u64 (limb a 0 : Nat), .int .u64 (limb a 1 : Nat), .int .u64 (limb a 2 : Nat), .int .u64 (limb a 3 : Nat)] 33) = Wa at HB0 HBx LB ⊢
  go_cut [9, 10] (fun p q wx => ∃ B, p = .pointer (some ⟨B, 0, none⟩) ∧ q = .bool true ∧ wx.heap[B]? = some (.cells #[.int .u64 (limb s 0 : Nat), .int .u64 (limb s 1 : Nat), .int .u64 (limb s 2 : Nat), .int .u64 (limb s 3 : Nat)] 33 (0, 0)) ∧ Below Wa.heap.size Wa wx)
  case first =>
    refine wp_region_held_drew (S := fun w' => Below Wa.heap.size Wa w') (by kernel_rfl) ?_ (fun hHeld => ?_)
    · exact (Below.refl _ _).drew
    have HY0 := Lib.hid (show Below Wa.heap.size Wa Wa.drew from (Below.refl _ _).drew)
    generalize Wa.drew = Y0 at HY0 hHeld ⊢
    refine wpAnyH_take (i := 0) (v := ?_) rfl (by kernel_rfl) (by kernel_rfl) (by kernel_rfl) (fun _ _ _ h => h) (Or.inl ⟨by kernel_rfl, ?_⟩) (by with_reducible assumption) ?_
    rotate_left
    · intro wz hSw
      (try dsimp only at hSw)
      go_simp
      (try with_reducible rfl)
    show wpAnyH _ _ _ _ _ _ _ (Act.put _ (some 14) _) _
    (try simp only [Act.put, List.setIfInBounds_toArray, List.set_cons_zero, List.set_cons_succ])
    refine wpAnyH_take (i := 1) (v := ?_) rfl (by kernel_rfl) (by kernel_rfl) (by kernel_rfl) (fun _ _ _ h => h) (Or.inl ⟨by kernel_rfl, ?_⟩) (by with_reducible assumption) ?_
    rotate_left
    · intro wz hSw
      (try dsimp only at hSw)
      go_simp
      (try with_reducible rfl)
    show wpAnyH _ _ _ _ _ _ _ (Act.put _ (some 15) _) _
    (try simp only [Act.put, List.setIfInBounds_toArray, List.set_cons_zero, List.set_cons_succ])
    refine wpAnyH_take (i := 3) (v := .agg #[.int .u64 (limb a 0 : Nat), .int .u64 (limb a 1 : Nat), .int .u64 (limb a 2 : Nat), .int .u64 (limb a 3 : Nat)]) rfl (by kernel_rfl) (by kernel_rfl) (by kernel_rfl) (fun _ _ _ h => h) (Or.inl ⟨by kernel_rfl, ?_⟩) (by with_reducible assumption) ?_
    · intro wz hSw
      (try dsimp only at hSw)
      have z0 := (hSw.cell (p := ⟨XB, 0, none⟩) LB.out).trans ((hp_cell (i := 0) HBx.out).trans rfl)
      have z1 := (hSw.cell (p := ⟨XB, 1, none⟩) LB.out).trans ((hp_cell (i := 1) HBx.out).trans rfl)
      have z2 := (hSw.cell (p := ⟨XB, 2, none⟩) LB.out).trans ((hp_cell (i := 2) HBx.out).trans rfl)
      have z3 := (hSw.cell (p := ⟨XB, 3, none⟩) LB.out).trans ((hp_cell (i := 3) HBx.out).trans rfl)
      go_simp
      (try with_reducible rfl)
    show wpAnyH _ _ _ _ _ _ _ (Act.put _ (some 17) _) _
    (try simp only [Act.put, List.setIfInBounds_toArray, List.set_cons_zero, List.set_cons_succ])
    refine wpAnyH_ready (rs := [2, 8]) (by kernel_rfl) (by simp) ?_
    refine AllReadyH.cons rfl (fun K hK => ?_) (AllReadyH.cons rfl (fun K hK => ?_) AllReadyH.nil)
    · clear hHeld
      go_simp
      go_at_call 21
      refine (HA.out _ (HB0.out.trans (HY0.out.mono HB0.out.size))).mono ?_
      rintro e Y2 ⟨rfl, hb⟩
      have HB2 := Lib.hid (HY0.out.trans (hb.mono HY0.out.size))
      clear hb
      go_wp2_with fail
      refine hK.out _ _ ?_ (fun hHeld => ?_)
      · exact HB2.out
      clear hK K
      (try simp only [Act.put, List.setIfInBounds_toArray, List.set_cons_zero, List.set_cons_succ])
      refine wpAnyH_ready (rs := [4, 8]) (by kernel_rfl) (by simp) ?_
      refine AllReadyH.cons rfl (fun K hK => ?_) (AllReadyH.cons rfl (fun K hK => ?_) AllReadyH.nil)
      · clear hHeld
        go_simp
        go_at_call 72
        refine (HSb.out _).mono ?_
        rintro e Y4 ⟨rfl, hb⟩
        have HB4 := Lib.hid (HB2.out.trans (hb.mono HB2.out.size))
        clear hb
        go_wp2_with fail
        refine hK.out _ _ ?_ (fun hHeld => ?_)
        · exact HB4.out
        clear hK K
        (try simp only [Act.put, List.setIfInBounds_toArray, List.set_cons_zero, List.set_cons_succ])
        refine wpAnyH_take (i := 5) (v := ?_) rfl (by kernel_rfl) (by kernel_rfl) (by kernel_rfl) (fun _ _ _ h => h) (Or.inl ⟨by kernel_rfl, ?_⟩) (by with_reducible assumption) ?_
        rotate_left
        · intro wz hSw
          (try dsimp only at hSw)
          go_simp
          (try with_reducible rfl)
        show wpAnyH _ _ _ _ _ _ _ (Act.put _ (some 13) _) _
        (try simp only [Act.put, List.setIfInBounds_toArray, List.set_cons_zero, List.set_cons_succ])
        refine wpAnyH_take (i := 6) (v := ?_) rfl (by kernel_rfl) (by kernel_rfl) (by kernel_rfl) (fun _ _ _ h => h) (Or.inl ⟨by kernel_rfl, ?_⟩) (by with_reducible assumption) ?_
        rotate_left
        · intro wz hSw
          (try dsimp only at hSw)
          go_simp
          (try with_reducible rfl)
        show wpAnyH _ _ _ _ _ _ _ (Act.put _ (some 19) _) _
        (try simp only [Act.put, List.setIfInBounds_toArray, List.set_cons_zero, List.set_cons_succ])
        refine wpAnyH_take (i := 7) (v := ?_) rfl (by kernel_rfl) (by kernel_rfl) (by kernel_rfl) (fun _ _ _ h => h) (Or.inl ⟨by kernel_rfl, ?_⟩) (by with_reducible assumption) ?_
        rotate_left
        · intro wz hSw
          (try dsimp only at hSw)
          go_simp
          (try with_reducible rfl)
        show wpAnyH _ _ _ _ _ _ _ (Act.put _ (some 20) _) _
        (try simp only [Act.put, List.setIfInBounds_toArray, List.set_cons_zero, List.set_cons_succ])
        refine wpAnyH_ready (rs := [8]) (by kernel_rfl) (by simp) ?_
        refine AllReadyH.cons rfl (fun K hK => ?_) AllReadyH.nil
        clear hHeld
        go_simp
        have HB8 := Lib.hid (HB4.out.alloc HB4.out.size (.cells #[.int .u64 0, .int .u64 0, .int .u64 0, .int .u64 0] 33))
        have F_n := Lib.hid (heap_alloc_new Y4 (.cells #[.int .u64 0, .int .u64 0, .int .u64 0, .int .u64 0] 33))
        obtain ⟨X, eX⟩ : ∃ y, y = Y4.heap.size := ⟨_, rfl⟩
        go_wp2_with fail
        refine hK.out _ _ ?_ (fun hHeld => ?_)
        · exact HB8.out
        clear hK K
        (try simp only [Act.put, List.setIfInBounds_toArray, List.set_cons_zero, List.set_cons_succ])
        rw [← eX] at F_n ⊢
        have LX := Lib.hid (show Wa.heap.size ≤ X from by rw [eX]; exact HB4.out.size)
        clear eX
        generalize Y4.alloc (.cells #[.int .u64 0, .int .u64 0, .int .u64 0, .int .u64 0] 33) = Y8 at HB8 F_n hHeld ⊢
        refine wpAnyH_ready (rs := [9]) (by kernel_rfl) (by simp) ?_
        refine AllReadyH.cons rfl (fun K hK => ?_) AllReadyH.nil
        clear hHeld
        have c0 := (hp_cell (i := 0) F_n.out).trans rfl
        have g0 := hp_free (i := 0) F_n.out
        have c1 := (hp_cell (i := 1) F_n.out).trans rfl
        have g1 := hp_free (i := 1) F_n.out
        have c2 := (hp_cell (i := 2) F_n.out).trans rfl
        have g2 := hp_free (i := 2) F_n.out
        have c3 := (hp_cell (i := 3) F_n.out).trans rfl
        have g3 := hp_free (i := 3) F_n.out
        go_simp
        clear c0 c1 c2 c3 g0 g1 g2 g3
        have HB9 := Lib.hid (show Below Wa.heap.size Wa ((((Y8.setCell ⟨X, 0, none⟩ (.int .u64 (limb s 0 : Nat))).setCell ⟨X, 1, none⟩ (.int .u64 (limb s 1 : Nat))).setCell ⟨X, 2, none⟩ (.int .u64 (limb s 2 : Nat))).setCell ⟨X, 3, none⟩ (.int .u64 (limb s 3 : Nat))) from ((((HB8.out.setCell LX.out _).setCell LX.out _).setCell LX.out _).setCell LX.out _))
        have SX := Lib.hid (set4b (.int .u64 (limb s 0 : Nat)) (.int .u64 (limb s 1 : Nat)) (.int .u64 (limb s 2 : Nat)) (.int .u64 (limb s 3 : Nat)) F_n.out (rfl : ((((Y8.setCell ⟨X, 0, none⟩ (.int .u64 (limb s 0 : Nat))).setCell ⟨X, 1, none⟩ (.int .u64 (limb s 1 : Nat))).setCell ⟨X, 2, none⟩ (.int .u64 (limb s 2 : Nat))).setCell ⟨X, 3, none⟩ (.int .u64 (limb s 3 : Nat))) = _))
        go_wp2_with fail
        refine hK.out _ _ ?_ (fun hHeld => ?_)
        · exact HB9.out
        clear hK K
        (try simp only [Act.put, List.setIfInBounds_toArray, List.set_cons_zero, List.set_cons_succ])
        generalize (((Y8.setCell ⟨X, 0, none⟩ (.int .u64 (limb s 0 : Nat))).setCell ⟨X, 1, none⟩ (.int .u64 (limb s 1 : Nat))).setCell ⟨X, 2, none⟩ (.int .u64 (limb s 2 : Nat))).setCell ⟨X, 3, none⟩ (.int .u64 (limb s 3 : Nat)) = Y9 at HB9 SX hHeld ⊢
        refine wpAnyH_take (i := 10) (v := ?_) rfl (by kernel_rfl) (by kernel_rfl) (by kernel_rfl) (fun _ _ _ h => h) (Or.inl ⟨by kernel_rfl, ?_⟩) (by with_reducible assumption) ?_
        rotate_left
        · intro wz hSw
          (try dsimp only at hSw)
          go_simp
          (try with_reducible rfl)
        show wpAnyH _ _ _ _ _ _ _ (Act.put _ (some 10) _) _
        (try simp only [Act.put, List.setIfInBounds_toArray, List.set_cons_zero, List.set_cons_succ])
        refine wpAnyH_done (by kernel_rfl) ?_ _
        go_wp2_with fail
        go_meet
        case rel => exact ⟨X, rfl, rfl, SX.out, HB9.out⟩
      · clear hHeld
        go_simp
        have HB8 := Lib.hid (HB2.out.alloc HB2.out.size (.cells #[.int .u64 0, .int .u64 0, .int .u64 0, .int .u64 0] 33))
        have F_n := Lib.hid (heap_alloc_new Y2 (.cells #[.int .u64 0, .int .u64 0, .int .u64 0, .int .u64 0] 33))
        obtain ⟨X, eX⟩ : ∃ y, y = Y2.heap.size := ⟨_, rfl⟩
        go_wp2_with fail
        refine hK.out _ _ ?_ (fun hHeld => ?_)
        · exact HB8.out
        clear hK K
        (try simp only [Act.put, List.setIfInBounds_toArray, List.set_cons_zero, List.set_cons_succ])
        rw [← eX] at F_n ⊢
        have LX := Lib.hid (show Wa.heap.size ≤ X from by rw [eX]; exact HB2.out.size)
        clear eX
        generalize Y2.alloc (.cells #[.int .u64 0, .int .u64 0, .int .u64 0, .int .u64 0] 33) = Y8 at HB8 F_n hHeld ⊢
        refine wpAnyH_ready (rs := [4]) (by kernel_rfl) (by simp) ?_
        refine AllReadyH.cons rfl (fun K hK => ?_) AllReadyH.nil
        clear hHeld
        go_simp
        go_at_call 72
        refine (HSb.out _).mono ?_
        rintro e Y4 ⟨rfl, hb⟩
        have HB4 := Lib.hid (HB8.out.trans (hb.mono HB8.out.size))
        have F_4 := Lib.hid ((hb.block _ (hp_lt F_n.out)).trans F_n.out)
        clear hb
        go_wp2_with fail
        refine hK.out _ _ ?_ (fun hHeld => ?_)
        · exact HB4.out
        clear hK K
        (try simp only [Act.put, List.setIfInBounds_toArray, List.set_cons_zero, List.set_cons_succ])
        refine wpAnyH_take (i := 5) (v := ?_) rfl (by kernel_rfl) (by kernel_rfl) (by kernel_rfl) (fun _ _ _ h => h) (Or.inl ⟨by kernel_rfl, ?_⟩) (by with_reducible assumption) ?_
        rotate_left
        · intro wz hSw
          (try dsimp only at hSw)
          go_simp
          (try with_reducible rfl)
        show wpAnyH _ _ _ _ _ _ _ (Act.put _ (some 13) _) _
        (try simp only [Act.put, List.setIfInBounds_toArray, List.set_cons_zero, List.set_cons_succ])
        refine wpAnyH_take (i := 6) (v := ?_) rfl (by kernel_rfl) (by kernel_rfl) (by kernel_rfl) (fun _ _ _ h => h) (Or.inl ⟨by kernel_rfl, ?_⟩) (by with_reducible assumption) ?_
        rotate_left
        · intro wz hSw
          (try dsimp only at hSw)
          go_simp
          (try with_reducible rfl)
        show wpAnyH _ _ _ _ _ _ _ (Act.put _ (some 19) _) _
        (try simp only [Act.put, List.setIfInBounds_toArray, List.set_cons_zero, List.set_cons_succ])
        refine wpAnyH_take (i := 7) (v := ?_) rfl (by kernel_rfl) (by kernel_rfl) (by kernel_rfl) (fun _ _ _ h => h) (Or.inl ⟨by kernel_rfl, ?_⟩) (by with_reducible assumption) ?_
        rotate_left
        · intro wz hSw
          (try dsimp only at hSw)
          go_simp
          (try with_reducible rfl)
        show wpAnyH _ _ _ _ _ _ _ (Act.put _ (some 20) _) _
        (try simp only [Act.put, List.setIfInBounds_toArray, List.set_cons_zero, List.set_cons_succ])
        refine wpAnyH_ready (rs := [9]) (by kernel_rfl) (by simp) ?_
        refine AllReadyH.cons rfl (fun K hK => ?_) AllReadyH.nil
        clear hHeld
        have c0 := (hp_cell (i := 0) F_4.out).trans rfl
        have g0 := hp_free (i := 0) F_4.out
        have c1 := (hp_cell (i := 1) F_4.out).trans rfl
        have g1 := hp_free (i := 1) F_4.out
        have c2 := (hp_cell (i := 2) F_4.out).trans rfl
        have g2 := hp_free (i := 2) F_4.out
        have c3 := (hp_cell (i := 3) F_4.out).trans rfl
        have g3 := hp_free (i := 3) F_4.out
        go_simp
        clear c0 c1 c2 c3 g0 g1 g2 g3
        have HB9 := Lib.hid (show Below Wa.heap.size Wa ((((Y4.setCell ⟨X, 0, none⟩ (.int .u64 (limb s 0 : Nat))).setCell ⟨X, 1, none⟩ (.int .u64 (limb s 1 : Nat))).setCell ⟨X, 2, none⟩ (.int .u64 (limb s 2 : Nat))).setCell ⟨X, 3, none⟩ (.int .u64 (limb s 3 : Nat))) from ((((HB4.out.setCell LX.out _).setCell LX.out _).setCell LX.out _).setCell LX.out _))
        have SX := Lib.hid (set4b (.int .u64 (limb s 0 : Nat)) (.int .u64 (limb s 1 : Nat)) (.int .u64 (limb s 2 : Nat)) (.int .u64 (limb s 3 : Nat)) F_4.out (rfl : ((((Y4.setCell ⟨X, 0, none⟩ (.int .u64 (limb s 0 : Nat))).setCell ⟨X, 1, none⟩ (.int .u64 (limb s 1 : Nat))).setCell ⟨X, 2, none⟩ (.int .u64 (limb s 2 : Nat))).setCell ⟨X, 3, none⟩ (.int .u64 (limb s 3 : Nat))) = _))
        go_wp2_with fail
        refine hK.out _ _ ?_ (fun hHeld => ?_)
        · exact HB9.out
        clear hK K
        (try simp only [Act.put, List.setIfInBounds_toArray, List.set_cons_zero, List.set_cons_succ])
        generalize (((Y4.setCell ⟨X, 0, none⟩ (.int .u64 (limb s 0 : Nat))).setCell ⟨X, 1, none⟩ (.int .u64 (limb s 1 : Nat))).setCell ⟨X, 2, none⟩ (.int .u64 (limb s 2 : Nat))).setCell ⟨X, 3, none⟩ (.int .u64 (limb s 3 : Nat)) = Y9 at HB9 SX hHeld ⊢
        refine wpAnyH_take (i := 10) (v := ?_) rfl (by kernel_rfl) (by kernel_rfl) (by kernel_rfl) (fun _ _ _ h => h) (Or.inl ⟨by kernel_rfl, ?_⟩) (by with_reducible assumption) ?_
        rotate_left
        · intro wz hSw
          (try dsimp only at hSw)
          go_simp
          (try with_reducible rfl)
        show wpAnyH _ _ _ _ _ _ _ (Act.put _ (some 10) _) _
        (try simp only [Act.put, List.setIfInBounds_toArray, List.set_cons_zero, List.set_cons_succ])
        refine wpAnyH_done (by kernel_rfl) ?_ _
        go_wp2_with fail
        go_meet
        case rel => exact ⟨X, rfl, rfl, SX.out, HB9.out⟩
    · clear hHeld
      go_simp
      have HB8 := Lib.hid (HY0.out.alloc HY0.out.size (.cells #[.int .u64 0, .int .u64 0, .int .u64 0, .int .u64 0] 33))
      have F_n := Lib.hid (heap_alloc_new Y0 (.cells #[.int .u64 0, .int .u64 0, .int .u64 0, .int .u64 0] 33))
      obtain ⟨X, eX⟩ : ∃ y, y = Y0.heap.size := ⟨_, rfl⟩
      go_wp2_with fail
      refine hK.out _ _ ?_ (fun hHeld => ?_)
      · exact HB8.out
      clear hK K
      (try simp only [Act.put, List.setIfInBounds_toArray, List.set_cons_zero, List.set_cons_succ])
      rw [← eX] at F_n ⊢
      have LX := Lib.hid (show Wa.heap.size ≤ X from by rw [eX]; exact HY0.out.size)
      clear eX
      generalize Y0.alloc (.cells #[.int .u64 0, .int .u64 0, .int .u64 0, .int .u64 0] 33) = Y8 at HB8 F_n hHeld ⊢
      refine wpAnyH_ready (rs := [2]) (by kernel_rfl) (by simp) ?_
      refine AllReadyH.cons rfl (fun K hK => ?_) AllReadyH.nil
      clear hHeld
      go_simp
      go_at_call 21
      refine (HA.out _ (HB0.out.trans (HB8.out.mono HB0.out.size))).mono ?_
      rintro e Y2 ⟨rfl, hb⟩
      have HB2 := Lib.hid (HB8.out.trans (hb.mono HB8.out.size))
      have F_2 := Lib.hid ((hb.block _ (hp_lt F_n.out)).trans F_n.out)
      clear hb
      go_wp2_with fail
      refine hK.out _ _ ?_ (fun hHeld => ?_)
      · exact HB2.out
      clear hK K
      (try simp only [Act.put, List.setIfInBounds_toArray, List.set_cons_zero, List.set_cons_succ])
      refine wpAnyH_ready (rs := [4]) (by kernel_rfl) (by simp) ?_
      refine AllReadyH.cons rfl (fun K hK => ?_) AllReadyH.nil
      clear hHeld
      go_simp
      go_at_call 72
      refine (HSb.out _).mono ?_
      rintro e Y4 ⟨rfl, hb⟩
      have HB4 := Lib.hid (HB2.out.trans (hb.mono HB2.out.size))
      have F_4 := Lib.hid ((hb.block _ (hp_lt F_2.out)).trans F_2.out)
      clear hb
      go_wp2_with fail
      refine hK.out _ _ ?_ (fun hHeld => ?_)
      · exact HB4.out
      clear hK K
      (try simp only [Act.put, List.setIfInBounds_toArray, List.set_cons_zero, List.set_cons_succ])
      refine wpAnyH_take (i := 5) (v := ?_) rfl (by kernel_rfl) (by kernel_rfl) (by kernel_rfl) (fun _ _ _ h => h) (Or.inl ⟨by kernel_rfl, ?_⟩) (by with_reducible assumption) ?_
      rotate_left
      · intro wz hSw
        (try dsimp only at hSw)
        go_simp
        (try with_reducible rfl)
      show wpAnyH _ _ _ _ _ _ _ (Act.put _ (some 13) _) _
      (try simp only [Act.put, List.setIfInBounds_toArray, List.set_cons_zero, List.set_cons_succ])
      refine wpAnyH_take (i := 6) (v := ?_) rfl (by kernel_rfl) (by kernel_rfl) (by kernel_rfl) (fun _ _ _ h => h) (Or.inl ⟨by kernel_rfl, ?_⟩) (by with_reducible assumption) ?_
      rotate_left
      · intro wz hSw
        (try dsimp only at hSw)
        go_simp
        (try with_reducible rfl)
      show wpAnyH _ _ _ _ _ _ _ (Act.put _ (some 19) _) _
      (try simp only [Act.put, List.setIfInBounds_toArray, List.set_cons_zero, List.set_cons_succ])
      refine wpAnyH_take (i := 7) (v := ?_) rfl (by kernel_rfl) (by kernel_rfl) (by kernel_rfl) (fun _ _ _ h => h) (Or.inl ⟨by kernel_rfl, ?_⟩) (by with_reducible assumption) ?_
      rotate_left
      · intro wz hSw
        (try dsimp only at hSw)
        go_simp
        (try with_reducible rfl)
      show wpAnyH _ _ _ _ _ _ _ (Act.put _ (some 20) _) _
      (try simp only [Act.put, List.setIfInBounds_toArray, List.set_cons_zero, List.set_cons_succ])
      refine wpAnyH_ready (rs := [9]) (by kernel_rfl) (by simp) ?_
      refine AllReadyH.cons rfl (fun K hK => ?_) AllReadyH.nil
      clear hHeld
      have c0 := (hp_cell (i := 0) F_4.out).trans rfl
      have g0 := hp_free (i := 0) F_4.out
      have c1 := (hp_cell (i := 1) F_4.out).trans rfl
      have g1 := hp_free (i := 1) F_4.out
      have c2 := (hp_cell (i := 2) F_4.out).trans rfl
      have g2 := hp_free (i := 2) F_4.out
      have c3 := (hp_cell (i := 3) F_4.out).trans rfl
      have g3 := hp_free (i := 3) F_4.out
      go_simp
      clear c0 c1 c2 c3 g0 g1 g2 g3
      have HB9 := Lib.hid (show Below Wa.heap.size Wa ((((Y4.setCell ⟨X, 0, none⟩ (.int .u64 (limb s 0 : Nat))).setCell ⟨X, 1, none⟩ (.int .u64 (limb s 1 : Nat))).setCell ⟨X, 2, none⟩ (.int .u64 (limb s 2 : Nat))).setCell ⟨X, 3, none⟩ (.int .u64 (limb s 3 : Nat))) from ((((HB4.out.setCell LX.out _).setCell LX.out _).setCell LX.out _).setCell LX.out _))
      have SX := Lib.hid (set4b (.int .u64 (limb s 0 : Nat)) (.int .u64 (limb s 1 : Nat)) (.int .u64 (limb s 2 : Nat)) (.int .u64 (limb s 3 : Nat)) F_4.out (rfl : ((((Y4.setCell ⟨X, 0, none⟩ (.int .u64 (limb s 0 : Nat))).setCell ⟨X, 1, none⟩ (.int .u64 (limb s 1 : Nat))).setCell ⟨X, 2, none⟩ (.int .u64 (limb s 2 : Nat))).setCell ⟨X, 3, none⟩ (.int .u64 (limb s 3 : Nat))) = _))
      go_wp2_with fail
      refine hK.out _ _ ?_ (fun hHeld => ?_)
      · exact HB9.out
      clear hK K
      (try simp only [Act.put, List.setIfInBounds_toArray, List.set_cons_zero, List.set_cons_succ])
      generalize (((Y4.setCell ⟨X, 0, none⟩ (.int .u64 (limb s 0 : Nat))).setCell ⟨X, 1, none⟩ (.int .u64 (limb s 1 : Nat))).setCell ⟨X, 2, none⟩ (.int .u64 (limb s 2 : Nat))).setCell ⟨X, 3, none⟩ (.int .u64 (limb s 3 : Nat)) = Y9 at HB9 SX hHeld ⊢
      refine wpAnyH_take (i := 10) (v := ?_) rfl (by kernel_rfl) (by kernel_rfl) (by kernel_rfl) (fun _ _ _ h => h) (Or.inl ⟨by kernel_rfl, ?_⟩) (by with_reducible assumption) ?_
      rotate_left
      · intro wz hSw
        (try dsimp only at hSw)
        go_simp
        (try with_reducible rfl)
      show wpAnyH _ _ _ _ _ _ _ (Act.put _ (some 10) _) _
      (try simp only [Act.put, List.setIfInBounds_toArray, List.set_cons_zero, List.set_cons_succ])
      refine wpAnyH_done (by kernel_rfl) ?_ _
      go_wp2_with fail
      go_meet
      case rel => exact ⟨X, rfl, rfl, SX.out, HB9.out⟩
  case rest =>
    obtain ⟨B1, rfl, rfl, hB1, hbc⟩ := hcut
    obtain ⟨Wb, hWb⟩ : ∃ Wb, Wb = wc := ⟨_, rfl⟩
    subst hWb
    have HBc := Lib.hid (HB0.out.trans (hbc.mono HB0.out.size))
    have HBx2 := Lib.hid ((hbc.block _ LB.out).trans HBx.out)
    have LB2 := Lib.hid (hp_lt HBx2.out)
    have HB1 := Lib.hid hB1
    clear hB1 hbc
    go_upto_region 6 with fail
    go_cut [11, 12] (fun p q wx => ∃ B, p = .pointer (some ⟨B, 0, none⟩) ∧ q = .bool true ∧ wx.heap[B]? = some (.cells #[.int .u64 (limb v 0 : Nat), .int .u64 (limb v 1 : Nat), .int .u64 (limb v 2 : Nat), .int .u64 (limb v 3 : Nat)] 33 (0, 0)) ∧ Below Wb.heap.size Wb wx)
    case first =>
      refine wp_region_held_drew (S := fun w' => Below Wb.heap.size Wb w') (by kernel_rfl) ?_ (fun hHeld => ?_)
      · exact (Below.refl _ _).drew
      have HY0 := Lib.hid (show Below Wb.heap.size Wb Wb.drew from (Below.refl _ _).drew)
      generalize Wb.drew = Y0 at HY0 hHeld ⊢
      refine wpAnyH_take (i := 0) (v := ?_) rfl (by kernel_rfl) (by kernel_rfl) (by kernel_rfl) (fun _ _ _ h => h) (Or.inl ⟨by kernel_rfl, ?_⟩) (by with_reducible assumption) ?_
      rotate_left
      · intro wz hSw
        (try dsimp only at hSw)
        go_simp
        (try with_reducible rfl)
      show wpAnyH _ _ _ _ _ _ _ (Act.put _ (some 27) _) _
      (try simp only [Act.put, List.setIfInBounds_toArray, List.set_cons_zero, List.set_cons_succ])
      refine wpAnyH_take (i := 1) (v := ?_) rfl (by kernel_rfl) (by kernel_rfl) (by kernel_rfl) (fun _ _ _ h => h) (Or.inl ⟨by kernel_rfl, ?_⟩) (by with_reducible assumption) ?_
      rotate_left
      · intro wz hSw
        (try dsimp only at hSw)
        go_simp
        (try with_reducible rfl)
      show wpAnyH _ _ _ _ _ _ _ (Act.put _ (some 28) _) _
      (try simp only [Act.put, List.setIfInBounds_toArray, List.set_cons_zero, List.set_cons_succ])
      refine wpAnyH_take (i := 3) (v := .agg #[.int .u64 (limb a 0 : Nat), .int .u64 (limb a 1 : Nat), .int .u64 (limb a 2 : Nat), .int .u64 (limb a 3 : Nat)]) rfl (by kernel_rfl) (by kernel_rfl) (by kernel_rfl) (fun _ _ _ h => h) (Or.inl ⟨by kernel_rfl, ?_⟩) (by with_reducible assumption) ?_
      · intro wz hSw
        (try dsimp only at hSw)
        have z0 := (hSw.cell (p := ⟨XB, 0, none⟩) LB2.out).trans ((hp_cell (i := 0) HBx2.out).trans rfl)
        have z1 := (hSw.cell (p := ⟨XB, 1, none⟩) LB2.out).trans ((hp_cell (i := 1) HBx2.out).trans rfl)
        have z2 := (hSw.cell (p := ⟨XB, 2, none⟩) LB2.out).trans ((hp_cell (i := 2) HBx2.out).trans rfl)
        have z3 := (hSw.cell (p := ⟨XB, 3, none⟩) LB2.out).trans ((hp_cell (i := 3) HBx2.out).trans rfl)
        go_simp
        (try with_reducible rfl)
      show wpAnyH _ _ _ _ _ _ _ (Act.put _ (some 30) _) _
      (try simp only [Act.put, List.setIfInBounds_toArray, List.set_cons_zero, List.set_cons_succ])
      refine wpAnyH_ready (rs := [2, 8]) (by kernel_rfl) (by simp) ?_
      refine AllReadyH.cons rfl (fun K hK => ?_) (AllReadyH.cons rfl (fun K hK => ?_) AllReadyH.nil)
      · clear hHeld
        go_simp
        go_at_call 21
        refine (HA2.out _ (HBc.out.trans (HY0.out.mono HBc.out.size))).mono ?_
        rintro e Y2 ⟨rfl, hb⟩
        have HB2 := Lib.hid (HY0.out.trans (hb.mono HY0.out.size))
        clear hb
        go_wp2_with fail
        refine hK.out _ _ ?_ (fun hHeld => ?_)
        · exact HB2.out
        clear hK K
        (try simp only [Act.put, List.setIfInBounds_toArray, List.set_cons_zero, List.set_cons_succ])
        refine wpAnyH_ready (rs := [4, 8]) (by kernel_rfl) (by simp) ?_
        refine AllReadyH.cons rfl (fun K hK => ?_) (AllReadyH.cons rfl (fun K hK => ?_) AllReadyH.nil)
        · clear hHeld
          go_simp
          go_at_call 33
          refine (HAd.out _).mono ?_
          rintro e Y4 ⟨rfl, hb⟩
          have HB4 := Lib.hid (HB2.out.trans (hb.mono HB2.out.size))
          clear hb
          go_wp2_with fail
          refine hK.out _ _ ?_ (fun hHeld => ?_)
          · exact HB4.out
          clear hK K
          (try simp only [Act.put, List.setIfInBounds_toArray, List.set_cons_zero, List.set_cons_succ])
          refine wpAnyH_take (i := 5) (v := ?_) rfl (by kernel_rfl) (by kernel_rfl) (by kernel_rfl) (fun _ _ _ h => h) (Or.inl ⟨by kernel_rfl, ?_⟩) (by with_reducible assumption) ?_
          rotate_left
          · intro wz hSw
            (try dsimp only at hSw)
            go_simp
            (try with_reducible rfl)
          show wpAnyH _ _ _ _ _ _ _ (Act.put _ (some 26) _) _
          (try simp only [Act.put, List.setIfInBounds_toArray, List.set_cons_zero, List.set_cons_succ])
          refine wpAnyH_take (i := 6) (v := ?_) rfl (by kernel_rfl) (by kernel_rfl) (by kernel_rfl) (fun _ _ _ h => h) (Or.inl ⟨by kernel_rfl, ?_⟩) (by with_reducible assumption) ?_
          rotate_left
          · intro wz hSw
            (try dsimp only at hSw)
            go_simp
            (try with_reducible rfl)
          show wpAnyH _ _ _ _ _ _ _ (Act.put _ (some 32) _) _
          (try simp only [Act.put, List.setIfInBounds_toArray, List.set_cons_zero, List.set_cons_succ])
          refine wpAnyH_take (i := 7) (v := ?_) rfl (by kernel_rfl) (by kernel_rfl) (by kernel_rfl) (fun _ _ _ h => h) (Or.inl ⟨by kernel_rfl, ?_⟩) (by with_reducible assumption) ?_
          rotate_left
          · intro wz hSw
            (try dsimp only at hSw)
            go_simp
            (try with_reducible rfl)
          show wpAnyH _ _ _ _ _ _ _ (Act.put _ (some 33) _) _
          (try simp only [Act.put, List.setIfInBounds_toArray, List.set_cons_zero, List.set_cons_succ])
          refine wpAnyH_ready (rs := [8]) (by kernel_rfl) (by simp) ?_
          refine AllReadyH.cons rfl (fun K hK => ?_) AllReadyH.nil
          clear hHeld
          go_simp
          have HB8 := Lib.hid (HB4.out.alloc HB4.out.size (.cells #[.int .u64 0, .int .u64 0, .int .u64 0, .int .u64 0] 33))
          have F_n := Lib.hid (heap_alloc_new Y4 (.cells #[.int .u64 0, .int .u64 0, .int .u64 0, .int .u64 0] 33))
          obtain ⟨X, eX⟩ : ∃ y, y = Y4.heap.size := ⟨_, rfl⟩
          go_wp2_with fail
          refine hK.out _ _ ?_ (fun hHeld => ?_)
          · exact HB8.out
          clear hK K
          (try simp only [Act.put, List.setIfInBounds_toArray, List.set_cons_zero, List.set_cons_succ])
          rw [← eX] at F_n ⊢
          have LX := Lib.hid (show Wb.heap.size ≤ X from by rw [eX]; exact HB4.out.size)
          clear eX
          generalize Y4.alloc (.cells #[.int .u64 0, .int .u64 0, .int .u64 0, .int .u64 0] 33) = Y8 at HB8 F_n hHeld ⊢
          refine wpAnyH_ready (rs := [9]) (by kernel_rfl) (by simp) ?_
          refine AllReadyH.cons rfl (fun K hK => ?_) AllReadyH.nil
          clear hHeld
          have c0 := (hp_cell (i := 0) F_n.out).trans rfl
          have g0 := hp_free (i := 0) F_n.out
          have c1 := (hp_cell (i := 1) F_n.out).trans rfl
          have g1 := hp_free (i := 1) F_n.out
          have c2 := (hp_cell (i := 2) F_n.out).trans rfl
          have g2 := hp_free (i := 2) F_n.out
          have c3 := (hp_cell (i := 3) F_n.out).trans rfl
          have g3 := hp_free (i := 3) F_n.out
          go_simp
          clear c0 c1 c2 c3 g0 g1 g2 g3
          have HB9 := Lib.hid (show Below Wb.heap.size Wb ((((Y8.setCell ⟨X, 0, none⟩ (.int .u64 (limb v 0 : Nat))).setCell ⟨X, 1, none⟩ (.int .u64 (limb v 1 : Nat))).setCell ⟨X, 2, none⟩ (.int .u64 (limb v 2 : Nat))).setCell ⟨X, 3, none⟩ (.int .u64 (limb v 3 : Nat))) from ((((HB8.out.setCell LX.out _).setCell LX.out _).setCell LX.out _).setCell LX.out _))
          have SX := Lib.hid (set4b (.int .u64 (limb v 0 : Nat)) (.int .u64 (limb v 1 : Nat)) (.int .u64 (limb v 2 : Nat)) (.int .u64 (limb v 3 : Nat)) F_n.out (rfl : ((((Y8.setCell ⟨X, 0, none⟩ (.int .u64 (limb v 0 : Nat))).setCell ⟨X, 1, none⟩ (.int .u64 (limb v 1 : Nat))).setCell ⟨X, 2, none⟩ (.int .u64 (limb v 2 : Nat))).setCell ⟨X, 3, none⟩ (.int .u64 (limb v 3 : Nat))) = _))
          go_wp2_with fail
          refine hK.out _ _ ?_ (fun hHeld => ?_)
          · exact HB9.out
          clear hK K
          (try simp only [Act.put, List.setIfInBounds_toArray, List.set_cons_zero, List.set_cons_succ])
          generalize (((Y8.setCell ⟨X, 0, none⟩ (.int .u64 (limb v 0 : Nat))).setCell ⟨X, 1, none⟩ (.int .u64 (limb v 1 : Nat))).setCell ⟨X, 2, none⟩ (.int .u64 (limb v 2 : Nat))).setCell ⟨X, 3, none⟩ (.int .u64 (limb v 3 : Nat)) = Y9 at HB9 SX hHeld ⊢
          refine wpAnyH_take (i := 10) (v := ?_) rfl (by kernel_rfl) (by kernel_rfl) (by kernel_rfl) (fun _ _ _ h => h) (Or.inl ⟨by kernel_rfl, ?_⟩) (by with_reducible assumption) ?_
          rotate_left
          · intro wz hSw
            (try dsimp only at hSw)
            go_simp
            (try with_reducible rfl)
          show wpAnyH _ _ _ _ _ _ _ (Act.put _ (some 12) _) _
          (try simp only [Act.put, List.setIfInBounds_toArray, List.set_cons_zero, List.set_cons_succ])
          refine wpAnyH_done (by kernel_rfl) ?_ _
          go_wp2_with fail
          go_meet
          case rel => exact ⟨X, rfl, rfl, SX.out, HB9.out⟩
        · clear hHeld
          go_simp
          have HB8 := Lib.hid (HB2.out.alloc HB2.out.size (.cells #[.int .u64 0, .int .u64 0, .int .u64 0, .int .u64 0] 33))
          have F_n := Lib.hid (heap_alloc_new Y2 (.cells #[.int .u64 0, .int .u64 0, .int .u64 0, .int .u64 0] 33))
          obtain ⟨X, eX⟩ : ∃ y, y = Y2.heap.size := ⟨_, rfl⟩
          go_wp2_with fail
          refine hK.out _ _ ?_ (fun hHeld => ?_)
          · exact HB8.out
          clear hK K
          (try simp only [Act.put, List.setIfInBounds_toArray, List.set_cons_zero, List.set_cons_succ])
          rw [← eX] at F_n ⊢
          have LX := Lib.hid (show Wb.heap.size ≤ X from by rw [eX]; exact HB2.out.size)
          clear eX
          generalize Y2.alloc (.cells #[.int .u64 0, .int .u64 0, .int .u64 0, .int .u64 0] 33) = Y8 at HB8 F_n hHeld ⊢
          refine wpAnyH_ready (rs := [4]) (by kernel_rfl) (by simp) ?_
          refine AllReadyH.cons rfl (fun K hK => ?_) AllReadyH.nil
          clear hHeld
          go_simp
          go_at_call 33
          refine (HAd.out _).mono ?_
          rintro e Y4 ⟨rfl, hb⟩
          have HB4 := Lib.hid (HB8.out.trans (hb.mono HB8.out.size))
          have F_4 := Lib.hid ((hb.block _ (hp_lt F_n.out)).trans F_n.out)
          clear hb
          go_wp2_with fail
          refine hK.out _ _ ?_ (fun hHeld => ?_)
          · exact HB4.out
          clear hK K
          (try simp only [Act.put, List.setIfInBounds_toArray, List.set_cons_zero, List.set_cons_succ])
          refine wpAnyH_take (i := 5) (v := ?_) rfl (by kernel_rfl) (by kernel_rfl) (by kernel_rfl) (fun _ _ _ h => h) (Or.inl ⟨by kernel_rfl, ?_⟩) (by with_reducible assumption) ?_
          rotate_left
          · intro wz hSw
            (try dsimp only at hSw)
            go_simp
            (try with_reducible rfl)
          show wpAnyH _ _ _ _ _ _ _ (Act.put _ (some 26) _) _
          (try simp only [Act.put, List.setIfInBounds_toArray, List.set_cons_zero, List.set_cons_succ])
          refine wpAnyH_take (i := 6) (v := ?_) rfl (by kernel_rfl) (by kernel_rfl) (by kernel_rfl) (fun _ _ _ h => h) (Or.inl ⟨by kernel_rfl, ?_⟩) (by with_reducible assumption) ?_
          rotate_left
          · intro wz hSw
            (try dsimp only at hSw)
            go_simp
            (try with_reducible rfl)
          show wpAnyH _ _ _ _ _ _ _ (Act.put _ (some 32) _) _
          (try simp only [Act.put, List.setIfInBounds_toArray, List.set_cons_zero, List.set_cons_succ])
          refine wpAnyH_take (i := 7) (v := ?_) rfl (by kernel_rfl) (by kernel_rfl) (by kernel_rfl) (fun _ _ _ h => h) (Or.inl ⟨by kernel_rfl, ?_⟩) (by with_reducible assumption) ?_
          rotate_left
          · intro wz hSw
            (try dsimp only at hSw)
            go_simp
            (try with_reducible rfl)
          show wpAnyH _ _ _ _ _ _ _ (Act.put _ (some 33) _) _
          (try simp only [Act.put, List.setIfInBounds_toArray, List.set_cons_zero, List.set_cons_succ])
          refine wpAnyH_ready (rs := [9]) (by kernel_rfl) (by simp) ?_
          refine AllReadyH.cons rfl (fun K hK => ?_) AllReadyH.nil
          clear hHeld
          have c0 := (hp_cell (i := 0) F_4.out).trans rfl
          have g0 := hp_free (i := 0) F_4.out
          have c1 := (hp_cell (i := 1) F_4.out).trans rfl
          have g1 := hp_free (i := 1) F_4.out
          have c2 := (hp_cell (i := 2) F_4.out).trans rfl
          have g2 := hp_free (i := 2) F_4.out
          have c3 := (hp_cell (i := 3) F_4.out).trans rfl
          have g3 := hp_free (i := 3) F_4.out
          go_simp
          clear c0 c1 c2 c3 g0 g1 g2 g3
          have HB9 := Lib.hid (show Below Wb.heap.size Wb ((((Y4.setCell ⟨X, 0, none⟩ (.int .u64 (limb v 0 : Nat))).setCell ⟨X, 1, none⟩ (.int .u64 (limb v 1 : Nat))).setCell ⟨X, 2, none⟩ (.int .u64 (limb v 2 : Nat))).setCell ⟨X, 3, none⟩ (.int .u64 (limb v 3 : Nat))) from ((((HB4.out.setCell LX.out _).setCell LX.out _).setCell LX.out _).setCell LX.out _))
          have SX := Lib.hid (set4b (.int .u64 (limb v 0 : Nat)) (.int .u64 (limb v 1 : Nat)) (.int .u64 (limb v 2 : Nat)) (.int .u64 (limb v 3 : Nat)) F_4.out (rfl : ((((Y4.setCell ⟨X, 0, none⟩ (.int .u64 (limb v 0 : Nat))).setCell ⟨X, 1, none⟩ (.int .u64 (limb v 1 : Nat))).setCell ⟨X, 2, none⟩ (.int .u64 (limb v 2 : Nat))).setCell ⟨X, 3, none⟩ (.int .u64 (limb v 3 : Nat))) = _))
          go_wp2_with fail
          refine hK.out _ _ ?_ (fun hHeld => ?_)
          · exact HB9.out
          clear hK K
          (try simp only [Act.put, List.setIfInBounds_toArray, List.set_cons_zero, List.set_cons_succ])
          generalize (((Y4.setCell ⟨X, 0, none⟩ (.int .u64 (limb v 0 : Nat))).setCell ⟨X, 1, none⟩ (.int .u64 (limb v 1 : Nat))).setCell ⟨X, 2, none⟩ (.int .u64 (limb v 2 : Nat))).setCell ⟨X, 3, none⟩ (.int .u64 (limb v 3 : Nat)) = Y9 at HB9 SX hHeld ⊢
          refine wpAnyH_take (i := 10) (v := ?_) rfl (by kernel_rfl) (by kernel_rfl) (by kernel_rfl) (fun _ _ _ h => h) (Or.inl ⟨by kernel_rfl, ?_⟩) (by with_reducible assumption) ?_
          rotate_left
          · intro wz hSw
            (try dsimp only at hSw)
            go_simp
            (try with_reducible rfl)
          show wpAnyH _ _ _ _ _ _ _ (Act.put _ (some 12) _) _
          (try simp only [Act.put, List.setIfInBounds_toArray, List.set_cons_zero, List.set_cons_succ])
          refine wpAnyH_done (by kernel_rfl) ?_ _
          go_wp2_with fail
          go_meet
          case rel => exact ⟨X, rfl, rfl, SX.out, HB9.out⟩
      · clear hHeld
        go_simp
        have HB8 := Lib.hid (HY0.out.alloc HY0.out.size (.cells #[.int .u64 0, .int .u64 0, .int .u64 0, .int .u64 0] 33))
        have F_n := Lib.hid (heap_alloc_new Y0 (.cells #[.int .u64 0, .int .u64 0, .int .u64 0, .int .u64 0] 33))
        obtain ⟨X, eX⟩ : ∃ y, y = Y0.heap.size := ⟨_, rfl⟩
        go_wp2_with fail
        refine hK.out _ _ ?_ (fun hHeld => ?_)
        · exact HB8.out
        clear hK K
        (try simp only [Act.put, List.setIfInBounds_toArray, List.set_cons_zero, List.set_cons_succ])
        rw [← eX] at F_n ⊢
        have LX := Lib.hid (show Wb.heap.size ≤ X from by rw [eX]; exact HY0.out.size)
        clear eX
        generalize Y0.alloc (.cells #[.int .u64 0, .int .u64 0, .int .u64 0, .int .u64 0] 33) = Y8 at HB8 F_n hHeld ⊢
        refine wpAnyH_ready (rs := [2]) (by kernel_rfl) (by simp) ?_
        refine AllReadyH.cons rfl (fun K hK => ?_) AllReadyH.nil
        clear hHeld
        go_simp
        go_at_call 21
        refine (HA2.out _ (HBc.out.trans (HB8.out.mono HBc.out.size))).mono ?_
        rintro e Y2 ⟨rfl, hb⟩
        have HB2 := Lib.hid (HB8.out.trans (hb.mono HB8.out.size))
        have F_2 := Lib.hid ((hb.block _ (hp_lt F_n.out)).trans F_n.out)
        clear hb
        go_wp2_with fail
        refine hK.out _ _ ?_ (fun hHeld => ?_)
        · exact HB2.out
        clear hK K
        (try simp only [Act.put, List.setIfInBounds_toArray, List.set_cons_zero, List.set_cons_succ])
        refine wpAnyH_ready (rs := [4]) (by kernel_rfl) (by simp) ?_
        refine AllReadyH.cons rfl (fun K hK => ?_) AllReadyH.nil
        clear hHeld
        go_simp
        go_at_call 33
        refine (HAd.out _).mono ?_
        rintro e Y4 ⟨rfl, hb⟩
        have HB4 := Lib.hid (HB2.out.trans (hb.mono HB2.out.size))
        have F_4 := Lib.hid ((hb.block _ (hp_lt F_2.out)).trans F_2.out)
        clear hb
        go_wp2_with fail
        refine hK.out _ _ ?_ (fun hHeld => ?_)
        · exact HB4.out
        clear hK K
        (try simp only [Act.put, List.setIfInBounds_toArray, List.set_cons_zero, List.set_cons_succ])
        refine wpAnyH_take (i := 5) (v := ?_) rfl (by kernel_rfl) (by kernel_rfl) (by kernel_rfl) (fun _ _ _ h => h) (Or.inl ⟨by kernel_rfl, ?_⟩) (by with_reducible assumption) ?_
        rotate_left
        · intro wz hSw
          (try dsimp only at hSw)
          go_simp
          (try with_reducible rfl)
        show wpAnyH _ _ _ _ _ _ _ (Act.put _ (some 26) _) _
        (try simp only [Act.put, List.setIfInBounds_toArray, List.set_cons_zero, List.set_cons_succ])
        refine wpAnyH_take (i := 6) (v := ?_) rfl (by kernel_rfl) (by kernel_rfl) (by kernel_rfl) (fun _ _ _ h => h) (Or.inl ⟨by kernel_rfl, ?_⟩) (by with_reducible assumption) ?_
        rotate_left
        · intro wz hSw
          (try dsimp only at hSw)
          go_simp
          (try with_reducible rfl)
        show wpAnyH _ _ _ _ _ _ _ (Act.put _ (some 32) _) _
        (try simp only [Act.put, List.setIfInBounds_toArray, List.set_cons_zero, List.set_cons_succ])
        refine wpAnyH_take (i := 7) (v := ?_) rfl (by kernel_rfl) (by kernel_rfl) (by kernel_rfl) (fun _ _ _ h => h) (Or.inl ⟨by kernel_rfl, ?_⟩) (by with_reducible assumption) ?_
        rotate_left
        · intro wz hSw
          (try dsimp only at hSw)
          go_simp
          (try with_reducible rfl)
        show wpAnyH _ _ _ _ _ _ _ (Act.put _ (some 33) _) _
        (try simp only [Act.put, List.setIfInBounds_toArray, List.set_cons_zero, List.set_cons_succ])
        refine wpAnyH_ready (rs := [9]) (by kernel_rfl) (by simp) ?_
        refine AllReadyH.cons rfl (fun K hK => ?_) AllReadyH.nil
        clear hHeld
        have c0 := (hp_cell (i := 0) F_4.out).trans rfl
        have g0 := hp_free (i := 0) F_4.out
        have c1 := (hp_cell (i := 1) F_4.out).trans rfl
        have g1 := hp_free (i := 1) F_4.out
        have c2 := (hp_cell (i := 2) F_4.out).trans rfl
        have g2 := hp_free (i := 2) F_4.out
        have c3 := (hp_cell (i := 3) F_4.out).trans rfl
        have g3 := hp_free (i := 3) F_4.out
        go_simp
        clear c0 c1 c2 c3 g0 g1 g2 g3
        have HB9 := Lib.hid (show Below Wb.heap.size Wb ((((Y4.setCell ⟨X, 0, none⟩ (.int .u64 (limb v 0 : Nat))).setCell ⟨X, 1, none⟩ (.int .u64 (limb v 1 : Nat))).setCell ⟨X, 2, none⟩ (.int .u64 (limb v 2 : Nat))).setCell ⟨X, 3, none⟩ (.int .u64 (limb v 3 : Nat))) from ((((HB4.out.setCell LX.out _).setCell LX.out _).setCell LX.out _).setCell LX.out _))
        have SX := Lib.hid (set4b (.int .u64 (limb v 0 : Nat)) (.int .u64 (limb v 1 : Nat)) (.int .u64 (limb v 2 : Nat)) (.int .u64 (limb v 3 : Nat)) F_4.out (rfl : ((((Y4.setCell ⟨X, 0, none⟩ (.int .u64 (limb v 0 : Nat))).setCell ⟨X, 1, none⟩ (.int .u64 (limb v 1 : Nat))).setCell ⟨X, 2, none⟩ (.int .u64 (limb v 2 : Nat))).setCell ⟨X, 3, none⟩ (.int .u64 (limb v 3 : Nat))) = _))
        go_wp2_with fail
        refine hK.out _ _ ?_ (fun hHeld => ?_)
        · exact HB9.out
        clear hK K
        (try simp only [Act.put, List.setIfInBounds_toArray, List.set_cons_zero, List.set_cons_succ])
        generalize (((Y4.setCell ⟨X, 0, none⟩ (.int .u64 (limb v 0 : Nat))).setCell ⟨X, 1, none⟩ (.int .u64 (limb v 1 : Nat))).setCell ⟨X, 2, none⟩ (.int .u64 (limb v 2 : Nat))).setCell ⟨X, 3, none⟩ (.int .u64 (limb v 3 : Nat)) = Y9 at HB9 SX hHeld ⊢
        refine wpAnyH_take (i := 10) (v := ?_) rfl (by kernel_rfl) (by kernel_rfl) (by kernel_rfl) (fun _ _ _ h => h) (Or.inl ⟨by kernel_rfl, ?_⟩) (by with_reducible assumption) ?_
        rotate_left
        · intro wz hSw
          (try dsimp only at hSw)
          go_simp
          (try with_reducible rfl)
        show wpAnyH _ _ _ _ _ _ _ (Act.put _ (some 12) _) _
        (try simp only [Act.put, List.setIfInBounds_toArray, List.set_cons_zero, List.set_cons_succ])
        refine wpAnyH_done (by kernel_rfl) ?_ _
        go_wp2_with fail
        go_meet
        case rel => exact ⟨X, rfl, rfl, SX.out, HB9.out⟩
    case rest =>
      obtain ⟨B2, rfl, rfl, hB2, hbd⟩ := hcut
      have HBd := Lib.hid (HBc.out.trans (hbd.mono HBc.out.size))
      have HBB := Lib.hid (And.intro ((hbd.block _ (hp_lt HB1.out)).trans HB1.out) hB2)
      have d0 := (hp_cell (i := 0) hB2).trans rfl
      have d1 := (hp_cell (i := 1) hB2).trans rfl
      have d2 := (hp_cell (i := 2) hB2).trans rfl
      have d3 := (hp_cell (i := 3) hB2).trans rfl
      clear hB2 hbd
      go_wp2_with (first
        | (go_at_call 70; have g5 := H4; clear g5; refine (HS2.out _ H4.out.s).mono ?_; rintro e w5 ⟨rfl, h5⟩; have H5 := Lib.hid h5; clear h5)
        | (go_at_call 70; refine (HS1.out _ H3.out.1).mono ?_; rintro e w4 ⟨rfl, h4⟩; have H4 := Lib.hid h4; have r4 := (h4.keepT ⟨by decide, by decide⟩).2 _ _ _ H3.out.2.2; have d0 := (hp_cell (i := 0) r4).trans rfl; have d1 := (hp_cell (i := 1) r4).trans rfl; have d2 := (hp_cell (i := 2) r4).trans rfl; have d3 := (hp_cell (i := 3) r4).trans rfl; clear h4 r4)
        | (go_at_call 42; refine (HAm.out _).mono ?_; rintro e w3 ⟨rfl, hb3⟩; have H3 := Lib.hid (And.intro (HBd.out.trans (hb3.mono HBd.out.size)) (And.intro ((hb3.block _ (hp_lt HBB.out.1)).trans HBB.out.1) ((hb3.block _ (hp_lt HBB.out.2)).trans HBB.out.2))); have r3 := H3.out.2.1; clear d0 d1 d2 d3; have c0 := (hp_cell (i := 0) r3).trans rfl; have c1 := (hp_cell (i := 1) r3).trans rfl; have c2 := (hp_cell (i := 2) r3).trans rfl; have c3 := (hp_cell (i := 3) r3).trans rfl; clear hb3 r3))
      go_ret
      exact ⟨rfl, HPr.out _ _ _ H3.out.1 H4.out H5.out⟩
end Go.Proofs.YtffipojlpdphiaaGreat

namespace Go.Proofs.YtffipojlpdphiaaGreat
open Go.RowKit Go.Maps Go.Sort

set_option maxRecDepth 100000 in
theorem ris17_walk (a : Int) (w : World) : Calls Tryz.prog 34 #[.int .i64 a] w fun e w' => e = .returned (.bool (decide (1 ≤ a ∧ a ≤ 4294967295))) ∧ w = w' := by
  by_cases h1 : 1 ≤ a
  · by_cases h2 : a ≤ 4294967295
    · rw [decide_eq_true ⟨h1, h2⟩]
      go_enter Tryz.func34, Tryz.ntmps34
      go_wp2
      go_ret
      first | exact ⟨rfl, rfl⟩ | exact ⟨by simp [h1, h2], rfl⟩
    · rw [decide_eq_false (fun h => h2 h.2)]
      go_enter Tryz.func34, Tryz.ntmps34
      go_wp2
      go_ret
      first | exact ⟨rfl, rfl⟩ | exact ⟨by simp [h1, h2], rfl⟩
  · rw [decide_eq_false (fun h => h1 h.1)]
    go_enter Tryz.func34, Tryz.ntmps34
    go_wp2
    go_ret
    first | exact ⟨rfl, rfl⟩ | exact ⟨by simp [h1], rfl⟩
set_option maxRecDepth 100000 in
theorem rgood17_walk (t a : Int) (w : World) : Calls Tryz.prog 12 #[.int .i64 t, .int .i64 a] w fun e w' => e = .returned (.bool (decide ((1 ≤ t ∧ t ≤ 1000) ∧ 1 ≤ a ∧ a ≤ 4294967295))) ∧ w = w' := by
  have HI := Lib.hid (ris17_walk a w)
  obtain ⟨B, hB⟩ : ∃ B, B = decide (1 ≤ a ∧ a ≤ 4294967295) := ⟨_, rfl⟩
  rw [← hB] at HI
  by_cases h1 : 1 ≤ t
  · by_cases h2 : t ≤ 1000
    · rw [show decide ((1 ≤ t ∧ t ≤ 1000) ∧ 1 ≤ a ∧ a ≤ 4294967295) = B from by rw [hB]; exact decide_eq_decide.2 ⟨fun h => h.2, fun h => ⟨⟨h1, h2⟩, h⟩⟩]
      clear hB
      go_enter Tryz.func12, Tryz.ntmps12
      go_wp2_with (go_at_call 34; with_reducible refine HI.out.mono ?_; rintro e w1 ⟨rfl, rfl⟩)
      go_ret
      exact ⟨rfl, rfl⟩
    · rw [decide_eq_false (fun h => h2 h.1.2)]
      clear hB
      go_enter Tryz.func12, Tryz.ntmps12
      go_wp2_with (go_at_call 34; with_reducible refine HI.out.mono ?_; rintro e w1 ⟨rfl, rfl⟩)
      go_ret
      first | exact ⟨rfl, rfl⟩ | exact ⟨by simp [h1, h2], rfl⟩
  · rw [decide_eq_false (fun h => h1 h.1.1)]
    clear hB
    go_enter Tryz.func12, Tryz.ntmps12
    go_wp2_with (go_at_call 34; with_reducible refine HI.out.mono ?_; rintro e w1 ⟨rfl, rfl⟩)
    go_ret
    first | exact ⟨rfl, rfl⟩ | exact ⟨by simp [h1], rfl⟩
theorem rkey_is (t : Int) (A : Option Addr) (n c : Nat) (f : Nat → Int) (K : ByteArray) (hK : keyStr t f n = K) (w : World) (hl : Il w A n f) (hn : n ≤ 100) : Calls Tryz.prog 31 #[.int .i64 t, .slice A n c] w fun e w' => e = .returned (.string K) ∧ Below w.heap.size w w' := by
  have hk := rkey9_walk t A n c f w hl hn
  unfold KeyPost at hk
  rwa [hK] at hk
set_option maxRecDepth 100000 in
theorem raccount_is (t a : Int) (K : ByteArray) (hK : keyStr 1 (two2 t a) 2 = K) (w : World) (ht : t < 2 ^ 63) (ha : a < 2 ^ 63) : Calls Tryz.prog 22 #[.int .i64 t, .int .i64 a] w fun e w' => e = .returned (.string K) ∧ Below w.heap.size w w' := by
  have HK := Lib.hid (rkey_is 1 (some ⟨w.heap.size, 0, none⟩) 2 2 (two2 t a) K hK _ (il2 t a w 3 ht ha) (by omega))
  have HB0 := Lib.hid ((Below.refl w.heap.size w).alloc (Nat.le_refl _) (.cells #[.int .i64 t, .int .i64 a] 3))
  clear hK ht ha
  go_enter Tryz.func22, Tryz.ntmps22
  go_wp2_with (go_at_call 31; refine HK.out.mono ?_; rintro e w1 ⟨rfl, hb1⟩; have HB1 := Lib.hid (HB0.out.trans (hb1.mono HB0.out.size)); clear hb1)
  go_ret
  exact ⟨rfl, HB1.out⟩
set_option maxRecDepth 100000 in
theorem rsupply_is (t : Int) (K : ByteArray) (hK : keyStr 2 (fun _ => t) 1 = K) (w : World) (ht : t < 2 ^ 63) : Calls Tryz.prog 44 #[.int .i64 t] w fun e w' => e = .returned (.string K) ∧ Below w.heap.size w w' := by
  have HK := Lib.hid (rkey_is 2 (some ⟨w.heap.size, 0, none⟩) 1 1 (fun _ => t) K hK _ (il1 t w 3 ht) (by omega))
  have HB0 := Lib.hid ((Below.refl w.heap.size w).alloc (Nat.le_refl _) (.cells #[.int .i64 t] 3))
  clear hK ht
  go_enter Tryz.func44, Tryz.ntmps44
  go_wp2_with (go_at_call 31; refine HK.out.mono ?_; rintro e w1 ⟨rfl, hb1⟩; have HB1 := Lib.hid (HB0.out.trans (hb1.mono HB0.out.size)); clear hb1)
  go_ret
  exact ⟨rfl, HB1.out⟩
set_option maxRecDepth 100000 in
set_option maxHeartbeats 2000000 in
theorem rbalance_walk (w W : World) (m : Nat) (L : SL) (R : List Ch) (t a : Int) (n : Nat) (K : ByteArray) (hK : keyStr 1 (two2 t a) 2 = K) (ht : t < 2 ^ 63) (ha : a < 2 ^ 63) (h : DS w W m L R) (hr : Rising (skeys L)) (hN : L.length ≤ 1000000) (he : amtAt L K n) (hn : n < 2 ^ 256) :
    Calls Tryz.prog 8 #[.pointer (some ⟨m, 0, none⟩), .int .i64 t, .int .i64 a] W fun e w' => e = .returned (U n) ∧ Below W.heap.size W w' := by
  have hb0 := (Below.refl W.heap.size W).alloc (Nat.le_refl _) (.cells #[.int .u64 0, .int .u64 0, .int .u64 0, .int .u64 0] 33)
  have r0 := heap_alloc_new W (.cells #[.int .u64 0, .int .u64 0, .int .u64 0, .int .u64 0] 33)
  have H0 := Lib.hid (And.intro hb0 r0)
  have HA := Lib.hid (fun W => raccount_is t a K hK W ht ha)
  have hC := fun (W1 : World) (hb : Below W.heap.size W W1) => ramount_at w W1 m L R K n (h.below hb) hr hN he hn
  unfold U at hC
  have HCs := Lib.hid hC
  clear hb0 r0 hC h hr hN he hn hK ht ha
  unfold U
  go_enter Tryz.func8, Tryz.ntmps8
  go_wp2_with (first
    | (go_at_call 21; with_reducible refine (HCs.out _ H1.out.1).mono ?_; rintro e w2 ⟨rfl, hb2⟩; have rx := (hb2.block _ (hp_lt H1.out.2)).trans H1.out.2; have H2 := Lib.hid (And.intro (H1.out.1.trans (hb2.mono H1.out.1.size)) rx); have d0 := (hp_cell (i := 0) rx).trans rfl; have d1 := (hp_cell (i := 1) rx).trans rfl; have d2 := (hp_cell (i := 2) rx).trans rfl; have d3 := (hp_cell (i := 3) rx).trans rfl; have f0 := hp_free (i := 0) rx; have f1 := hp_free (i := 1) rx; have f2 := hp_free (i := 2) rx; have f3 := hp_free (i := 3) rx; clear hb2 rx)
    | (go_at_call 22; with_reducible refine (HA.out _).mono ?_; rintro e w1 ⟨rfl, hb1⟩; have H1 := Lib.hid (And.intro (H0.out.1.trans (hb1.mono H0.out.1.size)) ((hb1.block _ (hp_lt H0.out.2)).trans H0.out.2)); clear hb1))
  obtain ⟨e0, e1, e2, e3⟩ := ((arr_zero H2.out.2).put4 (n := n)).cells4
  refine bodyPost_ret (v := .agg #[.int .u64 (limb n 0 : Nat), .int .u64 (limb n 1 : Nat), .int .u64 (limb n 2 : Nat), .int .u64 (limb n 3 : Nat)]) (by simp [results, Tryz.results8, go_sem, e0, e1, e2, e3]) rfl ⟨rfl, below_set4 H2.out.1 (Nat.le_refl _)⟩
set_option maxRecDepth 100000 in
set_option maxHeartbeats 2000000 in
theorem rmint_no (P : Value) (t a : Int) (n : Nat) (w : World) (hn : n < 2 ^ 256) (h : ¬ (((1 ≤ t ∧ t ≤ 1000) ∧ 1 ≤ a ∧ a ≤ 4294967295) ∧ n ≤ MOST)) :
    Calls Tryz.prog 17 #[P, .int .i64 t, .int .i64 a, U n] w fun e w' => e = .returned (.int .i64 2) ∧ Below w.heap.size w w' := by
  have hG := fun W => rgood17_walk t a W
  have hb0 := (Below.refl w.heap.size w).alloc (Nat.le_refl _) (.cells #[.int .u64 (limb n 0 : Nat), .int .u64 (limb n 1 : Nat), .int .u64 (limb n 2 : Nat), .int .u64 (limb n 3 : Nat)] 33)
  have HB0 := Lib.hid hb0
  by_cases hg : (1 ≤ t ∧ t ≤ 1000) ∧ 1 ≤ a ∧ a ≤ 4294967295
  · rw [decide_eq_true hg] at hG
    have hm : ¬ n ≤ MOST := fun hh => h ⟨hg, hh⟩
    have hAm := fun W => amount_cc n W false hn (decide_eq_false hm)
    have HG := Lib.hid hG
    have HAm := Lib.hid hAm
    have e0 := heap_alloc_new w (.cells #[.int .u64 (limb n 0 : Nat), .int .u64 (limb n 1 : Nat), .int .u64 (limb n 2 : Nat), .int .u64 (limb n 3 : Nat)] 33)
    have c0 := (hp_cell (i := 0) e0).trans rfl
    have c1 := (hp_cell (i := 1) e0).trans rfl
    have c2 := (hp_cell (i := 2) e0).trans rfl
    have c3 := (hp_cell (i := 3) e0).trans rfl
    clear hG hb0 hm hAm h hn hg e0
    unfold U
    go_enter Tryz.func17, Tryz.ntmps17
    go_wp2_with (first
      | (go_at_call 42; with_reducible refine (HAm.out _).mono ?_; rintro e w2 ⟨rfl, hb2⟩; have H2 := Lib.hid (HB0.out.trans (hb2.mono HB0.out.size)); clear hb2)
      | (go_at_call 12; with_reducible refine (HG.out _).mono ?_; rintro e w1 ⟨rfl, rfl⟩))
    go_ret
    exact ⟨rfl, H2.out⟩
  · rw [decide_eq_false hg] at hG
    have HG := Lib.hid hG
    clear hG hb0 h hn hg
    unfold U
    go_enter Tryz.func17, Tryz.ntmps17
    go_wp2_with (go_at_call 12; with_reducible refine (HG.out _).mono ?_; rintro e w1 ⟨rfl, rfl⟩)
    go_ret
    exact ⟨rfl, HB0.out⟩
theorem past_cell {w W : World} {m : Nat} {L : SL} {R : List Ch} (h : DS w W m L R) : ∃ A C, W.cell? ⟨m, 1, none⟩ = some (.slice A R.length C) ∧ m < W.heap.size := by
  obtain ⟨vL, vP, h1, h2, h3⟩ := h.ex
  rcases h3.2 with ⟨rfl, h0⟩ | ⟨g, cap, cur, rfl, _⟩
  · exact ⟨none, 0, by rw [h0]; exact (hp_cell (i := 1) h1).trans rfl, hp_lt h1⟩
  · exact ⟨_, _, (hp_cell (i := 1) h1).trans rfl, hp_lt h1⟩
set_option maxRecDepth 100000 in
set_option maxHeartbeats 4000000 in
/-- Mint, whatever the two Adds tell -/
theorem rmint_walk (w W : World) (m : Nat) (L L2 : SL) (R R2 : List Ch) (t a : Int) (n : Nat) (r1 : Int) (K2 K1 : ByteArray) (h : DS w W m L R) (hg : (1 ≤ t ∧ t ≤ 1000) ∧ 1 ≤ a ∧ a ≤ 4294967295) (hn : n ≤ MOST) (hK2 : keyStr 2 (fun _ => t) 1 = K2) (hK1 : keyStr 1 (two2 t a) 2 = K1)
    (E : Int → World → Prop) (HA1 : ∀ W1, Below W.heap.size W W1 → Calls Tryz.prog 43 #[.pointer (some ⟨m, 0, none⟩), .string K2, U n] W1 fun e w' => e = .returned (.int .i64 r1) ∧ DSTo w W1 w' m L2 R2)
    (hbad : r1 ≠ 0 → ∀ W1 w', Below W.heap.size W W1 → DSTo w W1 w' m L2 R2 → E r1 w')
    (HA2 : r1 = 0 → ∀ W1, DS w W1 m L2 R2 → Calls Tryz.prog 43 #[.pointer (some ⟨m, 0, none⟩), .string K1, U n] W1 fun e w' => e = .returned (.int .i64 0) ∧ ∀ W0 W2, Below W.heap.size W W0 → DSTo w W0 W2 m L2 R2 → Below W2.heap.size W2 W1 → E 0 w') :
    Calls Tryz.prog 17 #[.pointer (some ⟨m, 0, none⟩), .int .i64 t, .int .i64 a, U n] W fun e w' => e = .returned (.int .i64 r1) ∧ E r1 w' := by
  have hn2 : n < 2 ^ 256 := Nat.lt_of_le_of_lt hn MOST_lt
  have hG := fun W => rgood17_walk t a W
  rw [decide_eq_true hg] at hG
  have HG := Lib.hid hG
  have HAm := Lib.hid (fun W => amount_cc n W true hn2 (decide_eq_true hn))
  unfold U at HA1 HA2
  have HAd1 := Lib.hid HA1
  have HAd2 := Lib.hid HA2
  have HBad := Lib.hid hbad
  have HS := Lib.hid (fun W => rsupply_is t K2 hK2 W (by omega))
  have HAc := Lib.hid (fun W => raccount_is t a K1 hK1 W (by omega) (by omega))
  have hb0 := (Below.refl W.heap.size W).alloc (Nat.le_refl _) (.cells #[.int .u64 (limb n 0 : Nat), .int .u64 (limb n 1 : Nat), .int .u64 (limb n 2 : Nat), .int .u64 (limb n 3 : Nat)] 33)
  have e0 := heap_alloc_new W (.cells #[.int .u64 (limb n 0 : Nat), .int .u64 (limb n 1 : Nat), .int .u64 (limb n 2 : Nat), .int .u64 (limb n 3 : Nat)] 33)
  have HPa := Lib.hid (fun (W1 : World) (hb : Below W.heap.size W W1) => past_cell (h.below hb))
  have H0 := Lib.hid (And.intro hb0 e0)
  have c0 := (hp_cell (i := 0) e0).trans rfl
  have c1 := (hp_cell (i := 1) e0).trans rfl
  have c2 := (hp_cell (i := 2) e0).trans rfl
  have c3 := (hp_cell (i := 3) e0).trans rfl
  obtain ⟨XB, hXB⟩ : ∃ XB, XB = W.heap.size := ⟨_, rfl⟩
  have HXB := Lib.hid hXB
  clear h hg hn hK2 hK1 hn2 HA1 HA2 hbad hG hb0 e0 hXB
  unfold U
  go_enter Tryz.func17, Tryz.ntmps17
  go_upto_region 3 with (first
    | (go_at_call 42; with_reducible refine (HAm.out _).mono ?_; rintro e w2 ⟨rfl, hb2⟩; have H2 := Lib.hid (And.intro (H0.out.1.trans (hb2.mono H0.out.1.size)) ((hb2.block _ (hp_lt H0.out.2)).trans H0.out.2)); clear hb2)
    | (go_at_call 12; with_reducible refine (HG.out _).mono ?_; rintro e w1 ⟨rfl, rfl⟩))
  obtain ⟨PA, PC, pc, pm⟩ := HPa.out _ H2.out.1
  go_upto_region 4 with fail
  have e2 := H2.out.2
  have f0 := fun (dq : Nat) (osq : Array Obj) => cell_regrown ((hp_cell (i := 0) e2).trans rfl) dq osq
  have f1 := fun (dq : Nat) (osq : Array Obj) => cell_regrown ((hp_cell (i := 1) e2).trans rfl) dq osq
  have f2 := fun (dq : Nat) (osq : Array Obj) => cell_regrown ((hp_cell (i := 2) e2).trans rfl) dq osq
  have f3 := fun (dq : Nat) (osq : Array Obj) => cell_regrown ((hp_cell (i := 3) e2).trans rfl) dq osq
  clear c0 c1 c2 c3 e2 pc pm
  refine wp_region_quiet_tail 4 (by kernel_rfl) (by kernel_rfl) ?_
  simp only [List.take_succ_cons, List.take_zero]
  repeat (quiet_step (first | (go_at_call 44; with_reducible exact Calls.regrown_of (HS.out _))))
  refine wpQuiet_nil ?_
  intro _ hw'
  obtain ⟨⟨dq, osq⟩, hw''⟩ := hw'
  subst hw''
  have hb4 := below_regrown w2 dq osq
  have H4 := Lib.hid (And.intro (H2.out.1.trans (hb4.mono H2.out.1.size)) ((hb4.block _ (hp_lt H2.out.2)).trans H2.out.2))
  obtain ⟨W4, hW4⟩ : ∃ W4, W4 = grow (redrawn w2 dq) osq := ⟨_, rfl⟩
  rw [← hW4] at H4 ⊢
  clear hb4 hW4 f0 f1 f2 f3
  simp only [List.drop_succ_cons, List.drop_zero]
  by_cases hr : r1 = 0
  · subst hr
    have HAd2' := Lib.hid (HAd2.out rfl)
    go_upto_region 7 with (go_at_call 43; refine (HAd1.out _ H4.out.1).mono ?_; rintro e w5 ⟨rfl, h5⟩; have r5 := (h5.keepT ⟨by decide, by decide⟩).2 _ _ _ H4.out.2; have H5 := Lib.hid (And.intro h5 r5); clear h5 r5)
    have e5 := H5.out.2
    have f0 := fun (dq : Nat) (osq : Array Obj) => cell_regrown ((hp_cell (i := 0) e5).trans rfl) dq osq
    have f1 := fun (dq : Nat) (osq : Array Obj) => cell_regrown ((hp_cell (i := 1) e5).trans rfl) dq osq
    have f2 := fun (dq : Nat) (osq : Array Obj) => cell_regrown ((hp_cell (i := 2) e5).trans rfl) dq osq
    have f3 := fun (dq : Nat) (osq : Array Obj) => cell_regrown ((hp_cell (i := 3) e5).trans rfl) dq osq
    clear e5
    refine wp_region_quiet_tail 5 (by kernel_rfl) (by kernel_rfl) ?_
    simp only [List.take_succ_cons, List.take_zero]
    repeat (quiet_step (first | (go_at_call 22; with_reducible exact Calls.regrown_of (HAc.out _))))
    refine wpQuiet_nil ?_
    intro _ hw'
    obtain ⟨⟨dq, osq⟩, hw''⟩ := hw'
    subst hw''
    have hb6 := below_regrown w5 dq osq
    have H6 := Lib.hid hb6
    obtain ⟨W6, hW6⟩ : ∃ W6, W6 = grow (redrawn w5 dq) osq := ⟨_, rfl⟩
    rw [← hW6] at H6 ⊢
    clear hb6 hW6 f0 f1 f2 f3
    simp only [List.drop_succ_cons, List.drop_zero]
    go_wp2_with (go_at_call 43; refine (HAd2'.out _ (H5.out.1.s.below H6.out)).mono ?_; rintro e w7 ⟨rfl, h7⟩; have H7 := Lib.hid (h7 _ _ H4.out.1 H5.out.1 H6.out); clear h7)
    go_ret
    exact ⟨rfl, H7.out⟩
  · have p1 : (r1 == 0) = false := by rw [beq_eq_false_iff_ne]; exact hr
    have HBad' := Lib.hid (HBad.out hr)
    clear hr
    go_wp2_with (go_at_call 43; refine (HAd1.out _ H4.out.1).mono ?_; rintro e w5 ⟨rfl, h5⟩; have H5 := Lib.hid (HBad'.out _ _ H4.out.1 h5); clear h5)
    go_ret
    exact ⟨rfl, H5.out⟩
set_option maxRecDepth 100000 in
set_option maxHeartbeats 4000000 in
/-- Pay, whatever Move tells -/
theorem rpay_with (P : Option Addr) (W : World) (t a c : Int) (n : Nat) (r : Int) (K1 K2 : ByteArray) (R : World → Prop) (hg : (1 ≤ t ∧ t ≤ 1000) ∧ 1 ≤ a ∧ a ≤ 4294967295) (hg2 : (1 ≤ t ∧ t ≤ 1000) ∧ 1 ≤ c ∧ c ≤ 4294967295) (hK1 : keyStr 1 (two2 t a) 2 = K1) (hK2 : keyStr 1 (two2 t c) 2 = K2)
    (hMv : ∀ X : World, Below W.heap.size W X → Calls Tryz.prog 46 #[.pointer P, .string K1, .string K2, U n] X fun e W' => e = .returned (.int .i64 r) ∧ R W') :
    Calls Tryz.prog 18 #[.pointer P, .int .i64 t, .int .i64 a, .int .i64 c, U n] W fun e W' => e = .returned (.int .i64 r) ∧ R W' := by
  have hG1 := fun W => rgood17_walk t a W
  rw [decide_eq_true hg] at hG1
  have hG2 := fun W => rgood17_walk t c W
  rw [decide_eq_true hg2] at hG2
  unfold U at hMv
  have HG1 := Lib.hid hG1
  have HG2 := Lib.hid hG2
  have HMv := Lib.hid hMv
  have HA1 := Lib.hid (fun W => raccount_is t a K1 hK1 W (by omega) (by omega))
  have HA2 := Lib.hid (fun W => raccount_is t c K2 hK2 W (by omega) (by omega))
  have hb0 := (Below.refl W.heap.size W).alloc (Nat.le_refl _) (.cells #[.int .u64 (limb n 0 : Nat), .int .u64 (limb n 1 : Nat), .int .u64 (limb n 2 : Nat), .int .u64 (limb n 3 : Nat)] 33)
  have e0 := heap_alloc_new W (.cells #[.int .u64 (limb n 0 : Nat), .int .u64 (limb n 1 : Nat), .int .u64 (limb n 2 : Nat), .int .u64 (limb n 3 : Nat)] 33)
  obtain ⟨W1, hW1⟩ : ∃ X, X = W.alloc (.cells #[.int .u64 (limb n 0 : Nat), .int .u64 (limb n 1 : Nat), .int .u64 (limb n 2 : Nat), .int .u64 (limb n 3 : Nat)] 33) := ⟨_, rfl⟩
  rw [← hW1] at hb0 e0
  have HB0 := Lib.hid hb0
  have HW := Lib.hid hW1
  have f0 := fun (dq : Nat) (osq : Array Obj) => cell_regrown ((hp_cell (i := 0) e0).trans rfl) dq osq
  have f1 := fun (dq : Nat) (osq : Array Obj) => cell_regrown ((hp_cell (i := 1) e0).trans rfl) dq osq
  have f2 := fun (dq : Nat) (osq : Array Obj) => cell_regrown ((hp_cell (i := 2) e0).trans rfl) dq osq
  have f3 := fun (dq : Nat) (osq : Array Obj) => cell_regrown ((hp_cell (i := 3) e0).trans rfl) dq osq
  clear hG1 hG2 hMv hb0 hW1 hg hg2 hK1 hK2 e0
  unfold U
  go_enter Tryz.func18, Tryz.ntmps18
  go_upto_region 3 with (first
    | (go_at_call 12; with_reducible refine (HG1.out _).mono ?_; rintro e w1 ⟨rfl, rfl⟩)
    | (go_at_call 12; with_reducible refine (HG2.out _).mono ?_; rintro e w1 ⟨rfl, rfl⟩))
  rw [← HW.out]
  refine wp_region_quiet_tail 8 (by kernel_rfl) (by kernel_rfl) ?_
  simp only [List.take_succ_cons, List.take_zero]
  repeat (quiet_step (first
    | (go_at_call 22; with_reducible exact Calls.regrown_of (HA1.out _))
    | (go_at_call 22; with_reducible exact Calls.regrown_of (HA2.out _))))
  refine wpQuiet_nil ?_
  intro _ hw'
  obtain ⟨⟨dq, osq⟩, hw''⟩ := hw'
  subst hw''
  have H4 := Lib.hid (HB0.out.trans ((below_regrown W1 dq osq).mono HB0.out.size))
  clear f0 f1 f2 f3
  simp only [List.drop_succ_cons, List.drop_zero]
  go_wp2_with (first | (go_at_call 46; with_reducible refine (HMv.out _ H4.out).mono ?_; rintro e w5 ⟨rfl, h5⟩; have H5 := Lib.hid h5; clear h5))
  go_ret
  exact ⟨rfl, H5.out⟩
set_option maxRecDepth 100000 in
set_option maxHeartbeats 1000000 in
theorem rpay_no (P : Value) (W : World) (t a c : Int) (n : Nat) (h : ¬ (((1 ≤ t ∧ t ≤ 1000) ∧ 1 ≤ a ∧ a ≤ 4294967295) ∧ (1 ≤ t ∧ t ≤ 1000) ∧ 1 ≤ c ∧ c ≤ 4294967295)) :
    Calls Tryz.prog 18 #[P, .int .i64 t, .int .i64 a, .int .i64 c, U n] W fun e W' => e = .returned (.int .i64 2) ∧ Below W.heap.size W W' := by
  have hG1 := fun W => rgood17_walk t a W
  have hG2 := fun W => rgood17_walk t c W
  have HB0 := Lib.hid ((Below.refl W.heap.size W).alloc (Nat.le_refl _) (.cells #[.int .u64 (limb n 0 : Nat), .int .u64 (limb n 1 : Nat), .int .u64 (limb n 2 : Nat), .int .u64 (limb n 3 : Nat)] 33))
  by_cases hg : (1 ≤ t ∧ t ≤ 1000) ∧ 1 ≤ a ∧ a ≤ 4294967295
  · rw [decide_eq_true hg] at hG1
    rw [decide_eq_false (fun hh => h ⟨hg, hh⟩)] at hG2
    have HG1 := Lib.hid hG1
    have HG2 := Lib.hid hG2
    clear hG1 hG2 h hg
    unfold U
    go_enter Tryz.func18, Tryz.ntmps18
    go_wp2_with (first
      | (go_at_call 12; have g5 := HX1; clear g5; with_reducible refine (HG2.out _).mono ?_; rintro e w1 ⟨rfl, rfl⟩)
      | (go_at_call 12; with_reducible refine (HG1.out _).mono ?_; rintro e w1 ⟨rfl, rfl⟩; have HX1 := Lib.hid trivial))
    go_ret
    exact ⟨rfl, HB0.out⟩
  · rw [decide_eq_false hg] at hG1
    have HG1 := Lib.hid hG1
    clear hG1 hG2 h hg
    unfold U
    go_enter Tryz.func18, Tryz.ntmps18
    go_wp2_with (go_at_call 12; with_reducible refine (HG1.out _).mono ?_; rintro e w1 ⟨rfl, rfl⟩)
    go_ret
    exact ⟨rfl, HB0.out⟩
end Go.Proofs.YtffipojlpdphiaaGreat

namespace Go.Proofs.YtffipojlpdphiaaGreat
open Go.RowKit Go.Maps Go.Sort

set_option maxRecDepth 100000 in
set_option maxHeartbeats 1000000 in
theorem rtotal_no (P : Value) (t : Int) (w : World) (h : ¬ (1 ≤ t ∧ t ≤ 1000)) : Calls Tryz.prog 10 #[P, .int .i64 t] w fun e w' => e = .returned (.tuple #[U 0, .bool false]) ∧ Below w.heap.size w w' := by
  have hb : Below w.heap.size w ((w.alloc (.cells #[.int .u64 0, .int .u64 0, .int .u64 0, .int .u64 0] 33)).alloc (.cells #[.int .u64 0, .int .u64 0, .int .u64 0, .int .u64 0] 33)) := ((Below.refl _ _).alloc (Nat.le_refl _) _).alloc (by simp) _
  have HB := Lib.hid hb
  clear hb
  have part : t < 1 ∨ ¬ t < 1 ∧ 1000 < t := by omega
  clear h
  rcases part with h1 | ⟨h1, h2⟩
  · have p1 : ¬ 1 ≤ t := by omega
    go_enter Tryz.func10, Tryz.ntmps10
    go_wp2
    refine bodyPost_ret (v := .tuple #[.agg #[.int .u64 0, .int .u64 0, .int .u64 0, .int .u64 0], .bool false]) (by simp [results, Tryz.results10, go_sem]) rfl ⟨rfl, ?_⟩
    first | exact HB.out | exact below_set4 HB.out (Nat.le_refl _)
  · have p1 : 1 ≤ t := by omega
    have p2 : ¬ t ≤ 1000 := by omega
    go_enter Tryz.func10, Tryz.ntmps10
    go_wp2
    refine bodyPost_ret (v := .tuple #[.agg #[.int .u64 0, .int .u64 0, .int .u64 0, .int .u64 0], .bool false]) (by simp [results, Tryz.results10, go_sem]) rfl ⟨rfl, ?_⟩
    first | exact HB.out | exact below_set4 HB.out (Nat.le_refl _)
def tb4 : Nat → Int
  | 0 => 1
  | 1 => 3
  | 2 => 4
  | _ => 6
theorem tb4idx (j : Nat) (hj : j < 4) (w : World) : (Instr.index 65 (.agg #[.int .i64 1, .int .i64 3, .int .i64 4, .int .i64 6]) (.int .i64 (j : Nat))).run Tryz.prog w = .ok (.int .i64 (tb4 j)) w := by
  rcases (by omega : j = 0 ∨ j = 1 ∨ j = 2 ∨ j = 3) with rfl | rfl | rfl | rfl <;> kernel_rfl
theorem bgs_tb4 {t : Int} {k1 k3 k4 k6 : ByteArray} (h1 : keyStr 1 (fun _ => t) 1 = k1) (h3 : keyStr 3 (fun _ => t) 1 = k3) (h4 : keyStr 4 (fun _ => t) 1 = k4) (h6 : keyStr 6 (fun _ => t) 1 = k6) : ∀ j, j < 4 → keyStr (tb4 j) (fun _ => t) 1 = bgs k1 k3 k4 k6 j := by
  intro j hj
  rcases (by omega : j = 0 ∨ j = 1 ∨ j = 2 ∨ j = 3) with rfl | rfl | rfl | rfl
  · exact h1
  · exact h3
  · exact h4
  · exact h6
/-- between two rounds: the result's box, the sum's -/
structure RTot (w W wr : World) (m : Nat) (L : SL) (R : List Ch) (g4 g6 S : Nat) : Prop where
  d : DS w wr m L R
  z : wr.heap[g4]? = some (.cells #[.int .u64 0, .int .u64 0, .int .u64 0, .int .u64 0] 33 (0, 0))
  s : wr.heap[g6]? = some (.cells #[.int .u64 (limb S 0 : Nat), .int .u64 (limb S 1 : Nat), .int .u64 (limb S 2 : Nat), .int .u64 (limb S 3 : Nat)] 33 (0, 0))
  l : Below W.heap.size W wr
theorem RTot.below {w W wr wr' : World} {m : Nat} {L : SL} {R : List Ch} {g4 g6 S : Nat} (h : RTot w W wr m L R g4 g6 S) (hb : Below wr.heap.size wr wr') : RTot w W wr' m L R g4 g6 S :=
  ⟨h.d.below hb, (hb.block _ (hp_lt h.z)).trans h.z, (hb.block _ (hp_lt h.s)).trans h.s, h.l.trans (hb.mono h.l.size)⟩
theorem RTot.put {w W wr wr' : World} {m : Nat} {L : SL} {R : List Ch} {g4 g6 S : Nat} (h : RTot w W wr m L R g4 g6 S) (hne : g4 ≠ g6) (hg : W.heap.size ≤ g6) (hgw : w.heap.size ≤ g6) (S' : Nat)
    (hW : wr' = (((wr.setCell ⟨g6, 0, none⟩ (.int .u64 (limb S' 0 : Nat))).setCell ⟨g6, 1, none⟩ (.int .u64 (limb S' 1 : Nat))).setCell ⟨g6, 2, none⟩ (.int .u64 (limb S' 2 : Nat))).setCell ⟨g6, 3, none⟩ (.int .u64 (limb S' 3 : Nat))) : RTot w W wr' m L R g4 g6 S' := by
  have hs := set4b _ _ _ _ h.s hW
  refine ⟨?_, ?_, hs, by rw [hW]; exact below_set4 h.l hg⟩
  · refine h.d.keep (by rw [hW]; exact below_set4 h.d.l hgw) fun T hT => ?_
    have hT2 : T ≠ 33 := by rcases hT with rfl | rfl | rfl <;> decide
    rw [hW]
    have k1 := KeepT.setOther (T := T) (o := 0) (.int .u64 (limb S' 0 : Nat)) h.s hT2
    have h1 := heap_setCell_row (o := 0) h.s (.int .u64 (limb S' 0 : Nat))
    have k2 := KeepT.setOther (T := T) (o := 1) (.int .u64 (limb S' 1 : Nat)) h1 hT2
    have h2 := heap_setCell_row (o := 1) h1 (.int .u64 (limb S' 1 : Nat))
    have k3 := KeepT.setOther (T := T) (o := 2) (.int .u64 (limb S' 2 : Nat)) h2 hT2
    have h3 := heap_setCell_row (o := 2) h2 (.int .u64 (limb S' 2 : Nat))
    have k4 := KeepT.setOther (T := T) (o := 3) (.int .u64 (limb S' 3 : Nat)) h3 hT2
    exact ((k1.trans k2).trans k3).trans k4
  · rw [hW, heap_setCell_other _ _ _ _ hne, heap_setCell_other _ _ _ _ hne, heap_setCell_other _ _ _ _ hne, heap_setCell_other _ _ _ _ hne]
    exact h.z
theorem RTot.cells {w W wr : World} {m : Nat} {L : SL} {R : List Ch} {g4 g6 S : Nat} (h : RTot w W wr m L R g4 g6 S) : g6 < wr.heap.size := hp_lt h.s
set_option maxRecDepth 100000 in
set_option maxHeartbeats 4000000 in
theorem rtotal_yes (w W : World) (m : Nat) (L : SL) (R : List Ch) (t : Int) (k1 k3 k4 k6 : ByteArray) (h : DS w W m L R) (hN : L.length < 1000000) (ht : 1 ≤ t ∧ t ≤ 1000) (h1 : keyStr 1 (fun _ => t) 1 = k1) (h3 : keyStr 3 (fun _ => t) 1 = k3) (h4 : keyStr 4 (fun _ => t) 1 = k4) (h6 : keyStr 6 (fun _ => t) 1 = k6)
    (N : Nat) (hsum : amT (fun i => L.filter (hpre (bgs k1 k3 k4 k6 i))) 4 = N) (hN2 : N < 2 ^ 256) :
    Calls Tryz.prog 10 #[.pointer (some ⟨m, 0, none⟩), .int .i64 t] W fun e w' => e = .returned (.tuple #[U N, .bool true]) ∧ Below W.heap.size W w' := by
  subst hsum
  obtain ⟨Rf, eRf⟩ : ∃ Rf : Nat → SL, Rf = fun i => L.filter (hpre (bgs k1 k3 k4 k6 i)) := ⟨_, rfl⟩
  rw [← eRf] at hN2 ⊢
  have HKs := Lib.hid (fun (j : Nat) (hj : j < 4) (W1 : World) => rkey_is (tb4 j) (some ⟨W1.heap.size, 0, none⟩) 1 1 (fun _ => t) _ (bgs_tb4 h1 h3 h4 h6 j hj) _ (il1 t W1 3 (by omega)) (by omega))
  have HU := Lib.hid (fun (j : Nat) (W1 : World) (hd : DS w W1 m L R) => (runder_walk w W1 m L R (bgs k1 k3 k4 k6 j) hd hN).mono fun e W' hp => (show (∃ A C, e = .returned (.slice A (Rf j).length C) ∧ Pr W' A (Rf j) ∧ ∀ g, A = some ⟨g, 0, none⟩ → 0 < (Rf j).length → W1.heap.size ≤ g) ∧ Below W1.heap.size W1 W' from by
    obtain ⟨⟨v, he, ho⟩, hb⟩ := hp
    rw [eRf]
    obtain ⟨A, C, rfl, hp⟩ := Pr.of ho
    refine ⟨⟨A, C, he, hp, fun g hg h0 => ?_⟩, hb⟩
    rcases ho.2 with ⟨hv, h00⟩ | ⟨g', cap, cur, hv, hge, _⟩
    · simp only [Value.slice.injEq] at hv
      rw [hv.1] at hg; cases hg
    · simp only [Value.slice.injEq] at hv
      rw [hv.1] at hg; cases hg; exact hge))
  have HRl := Lib.hid (fun j => show (Rf j).length ≤ 1000000 from by rw [eRf]; have := List.length_filter_le (hpre (bgs k1 k3 k4 k6 j)) L; show (L.filter _).length ≤ 1000000; omega)
  have HSum := Lib.hid hN2
  obtain ⟨W0, hW0⟩ : ∃ W0, W0 = (W.alloc (.cells #[.int .u64 0, .int .u64 0, .int .u64 0, .int .u64 0] 33)).alloc (.cells #[.int .u64 0, .int .u64 0, .int .u64 0, .int .u64 0] 33) := ⟨_, rfl⟩
  have hb0 : Below W.heap.size W W0 := by rw [hW0]; exact ((Below.refl _ _).alloc (Nat.le_refl _) _).alloc (by simp) _
  obtain ⟨g4, e4⟩ : ∃ g, g = W.heap.size := ⟨_, rfl⟩
  obtain ⟨g6, e6⟩ : ∃ g, g = W.heap.size + 1 := ⟨_, rfl⟩
  have hT0 : RTot w W W0 m L R g4 g6 0 := ⟨h.below hb0, by rw [hW0, e4]; exact (heap_alloc_old _ _ (by simp)).trans (heap_alloc_new _ _), by rw [hW0, e6]; have := heap_alloc_new (W.alloc (.cells #[.int .u64 0, .int .u64 0, .int .u64 0, .int .u64 0] 33)) (.cells #[.int .u64 0, .int .u64 0, .int .u64 0, .int .u64 0] 33); rw [World.size_alloc] at this; exact this, hb0⟩
  have HT0 := Lib.hid hT0
  have HG := Lib.hid (show g4 ≠ g6 ∧ W.heap.size ≤ g6 ∧ w.heap.size ≤ g6 ∧ W.heap.size ≤ g4 from ⟨by omega, by omega, by have := h.l.size; omega, by omega⟩)
  have p1 : 1 ≤ t := ht.1
  have p2 : t ≤ 1000 := ht.2
  have HW0 := Lib.hid hW0
  have HE4 := Lib.hid e4
  have HE6 := Lib.hid e6
  clear h hN ht h1 h3 h4 h6 hN2 eRf hW0 hb0 hT0 e4 e6
  go_enter Tryz.func10, Tryz.ntmps10
  go_upto_region 5 with fail
  rw [← HW0.out, ← HE6.out, ← HE4.out]
  go_wp2
  go_loopw [27] (fun x wr => ∃ i : Nat, i ≤ 4 ∧ x = .int .i64 (i : Nat) ∧ RTot w W wr m L R g4 g6 (amT Rf i)) (fun x _ => 4 - (intOf x).toNat)
  case atStart => exact ⟨0, Nat.zero_le _, rfl, HT0.out⟩
  case round =>
    obtain ⟨i, hi, rfl, htot⟩ := hrel
    have HT := Lib.hid htot
    clear htot
    by_cases hlt : i < 4
    · have q1 : (i : Int) < 4 := by omega
      have hx := tb4idx i hlt
      have HK1 := Lib.hid (HKs.out i hlt)
      have HU1 := Lib.hid (HU.out i)
      have HLT := Lib.hid hlt
      have hrl := HRl.out i
      have hsi : amT Rf i + amS (Rf i) < 2 ^ 256 := Nat.lt_of_le_of_lt (amT_le Rf (i := i + 1) (by omega)) HSum.out
      obtain ⟨tb, etb⟩ : ∃ z, z = tb4 i := ⟨_, rfl⟩
      rw [← etb] at hx HK1
      obtain ⟨K, eK⟩ : ∃ z, z = bgs k1 k3 k4 k6 i := ⟨_, rfl⟩
      rw [← eK] at HK1 HU1
      obtain ⟨l, el⟩ : ∃ l, l = Rf i := ⟨_, rfl⟩
      have EL := Lib.hid el
      rw [← el] at HU1 hrl hsi
      have HSI := Lib.hid hsi
      obtain ⟨n, en⟩ : ∃ n, n = l.length := ⟨_, rfl⟩
      have EN := Lib.hid en
      rw [← en] at hrl HU1
      have hn8 : (n : Int) ≤ 1000000 := by omega
      clear hlt etb eK el hsi en hi hrl
      go_upto_region 9 with (first
        | (go_at_call 30; refine (HU1.out _ H1.out.d).mono ?_; rintro e w2 ⟨⟨A, C, rfl, hp, hge⟩, hb2⟩; have HP := Lib.hid hp; have HGe := Lib.hid hge; have H2 := Lib.hid (H1.out.below hb2); have HZ2 := Lib.hid (Nat.lt_of_lt_of_le H1.out.cells (Nat.le_refl _)); clear hp hge hb2)
        | (go_at_call 31; refine (HK1.out wr).mono ?_; rintro e w1 ⟨rfl, hb1⟩; have hbx := (Below.refl wr.heap.size wr).alloc (Nat.le_refl _) (.cells #[.int .i64 t] 3); have H1 := Lib.hid (HT.out.below (hbx.trans (hb1.mono hbx.size))); clear hb1 hbx))
      go_loopw [37] (fun x wr2 => ∃ j : Nat, j ≤ n ∧ x = .int .i64 (j : Nat) ∧ RTot w W wr2 m L R g4 g6 (amT Rf i + amS (l.take j)) ∧ Touch [g6] w2 wr2) (fun x _ => n - (intOf x).toNat)
      case atStart => exact ⟨0, Nat.zero_le _, rfl, H2.out, Touch.refl _ _⟩
      case round =>
        obtain ⟨j, hj, rfl, htot, htch⟩ := hrel
        by_cases hjn : j < n
        · have q2 : (j : Int) < (n : Int) := by omega
          have hjl : j < l.length := by have := EN.out; omega
          obtain ⟨g, rfl, hg1, hgc⟩ := HP.out (by omega)
          have hgn : g ∉ [g6] := by
            have h1 := HGe.out g rfl (by omega)
            have h2 := HZ2.out
            simp; omega
          have ck := cell_touch htch hgn (hgc j hjl).1
          have cv := cell_touch htch hgn (hgc j hjl).2
          have hS : amT Rf i + amS (l.take j) + fbv l[j].2 < 2 ^ 256 := by
            have h1 := amS_take_le l (j + 1)
            rw [amS_take l j hjl] at h1
            have := HSI.out
            omega
          have hnx : amT Rf i + amS (l.take j) + fbv l[j].2 = amT Rf i + amS (l.take (j + 1)) := by rw [amS_take l j hjl, Nat.add_assoc]
          have HNX := Lib.hid hnx
          obtain ⟨ky, eky⟩ : ∃ x, x = l[j].1 := ⟨_, rfl⟩
          obtain ⟨vl, evl⟩ : ∃ x, x = l[j].2 := ⟨_, rfl⟩
          rw [← eky] at ck
          rw [← evl] at cv hS HNX
          obtain ⟨S, eS⟩ : ∃ S, S = amT Rf i + amS (l.take j) := ⟨_, rfl⟩
          rw [← eS] at hS htot HNX
          obtain ⟨a, ea⟩ : ∃ a, a = fbv vl := ⟨_, rfl⟩
          rw [← ea] at hS HNX
          obtain ⟨ok, eok⟩ : ∃ ok, ok = decide (vl.size = 32) := ⟨_, rfl⟩
          have hTA := fun W' => rtoAmount_walk vl a ok W' ea.symm eok.symm
          have hAd := fun W' => radd_walk S a W' (by omega) (by omega)
          unfold addv addk at hAd
          rw [if_pos hS, decide_eq_true hS] at hAd
          obtain ⟨S2, eS2⟩ : ∃ S2, S2 = S + a := ⟨_, rfl⟩
          rw [← eS2] at hAd HNX
          unfold U at hTA hAd
          have HTA := Lib.hid hTA
          have HAd := Lib.hid hAd
          have HTt := Lib.hid htot
          have HCt := Lib.hid htch
          clear hTA hAd htot htch eok ea eS evl eky hS hnx hgc hgn hjl hj eS2
          go_wp2_with (first
            | (go_at_call 33; with_reducible refine (HAd.out _).mono ?_; rintro e w6 ⟨rfl, hb6⟩; have hbx4 := H4.out.alloc H4.out.size (.cells #[.int .u64 (limb a 0 : Nat), .int .u64 (limb a 1 : Nat), .int .u64 (limb a 2 : Nat), .int .u64 (limb a 3 : Nat)] 33); have hb46 := hbx4.trans (hb6.mono hbx4.size); have hbx6 := hb46.alloc hb46.size (.cells #[.int .u64 (limb S2 0 : Nat), .int .u64 (limb S2 1 : Nat), .int .u64 (limb S2 2 : Nat), .int .u64 (limb S2 3 : Nat)] 33); have HB6 := Lib.hid hbx6; have rx := (hbx6.block _ (hp_lt HTt.out.s)).trans HTt.out.s; have d0 := (hp_cell (i := 0) rx).trans rfl; have d1 := (hp_cell (i := 1) rx).trans rfl; have d2 := (hp_cell (i := 2) rx).trans rfl; have d3 := (hp_cell (i := 3) rx).trans rfl; have y0 := hp_free (i := 0) rx; have y1 := hp_free (i := 1) rx; have y2 := hp_free (i := 2) rx; have y3 := hp_free (i := 3) rx; clear c0 c1 c2 c3 hb6 hbx4 hb46 hbx6 rx)
            | (go_at_call 32; with_reducible refine (HTA.out _).mono ?_; rintro e w4 ⟨rfl, hb4⟩; have hbx := (Below.refl wr.heap.size wr).alloc (Nat.le_refl _) (.cells #[.string ky, .string vl] 70); have hb := hbx.trans (hb4.mono hbx.size); have H4 := Lib.hid hb; have hba := hb.alloc hb.size (.cells #[.int .u64 (limb a 0 : Nat), .int .u64 (limb a 1 : Nat), .int .u64 (limb a 2 : Nat), .int .u64 (limb a 3 : Nat)] 33); have r4 := (hba.block _ (hp_lt HTt.out.s)).trans HTt.out.s; have c0 := (hp_cell (i := 0) r4).trans rfl; have c1 := (hp_cell (i := 1) r4).trans rfl; have c2 := (hp_cell (i := 2) r4).trans rfl; have c3 := (hp_cell (i := 3) r4).trans rfl; clear hb4 hbx hb hba r4))
          have hput := (HTt.out.below HB6.out).put HG.out.1 HG.out.2.1 HG.out.2.2.1 S2 rfl
          refine ⟨⟨j + 1, by omega, by simp, ?_, ?_⟩, by simp [intOf]; omega⟩
          · rw [← HNX.out]
            exact hput
          · exact (HCt.out.trans (fun _ hk => .inl hk) (Touch.of_below HB6.out)).trans (fun _ hk => .inl hk) ((((Touch.setCell _ _ _ (by simp)).trans (fun _ hk => .inl hk) (Touch.setCell _ _ _ (by simp))).trans (fun _ hk => .inl hk) (Touch.setCell _ _ _ (by simp))).trans (fun _ hk => .inl hk) (Touch.setCell _ _ _ (by simp)))
        · obtain rfl : j = n := by omega
          have q2 : ¬ (j : Int) < (j : Int) := by omega
          have e1 : amT Rf i + amS (l.take j) = amT Rf (i + 1) := by rw [EN.out, List.take_length, EL.out]; rfl
          rw [e1] at htot
          have H9 := Lib.hid htot
          clear htot htch e1
          go_wp2
          exact ⟨⟨i + 1, HLT.out, by simp, H9.out⟩, by simp [intOf]; omega⟩
    · obtain rfl : i = 4 := by omega
      obtain ⟨S, eS⟩ : ∃ S, S = amT Rf 4 := ⟨_, rfl⟩
      have HES := Lib.hid eS
      rw [← eS] at HT
      have c0 := (hp_cell (i := 0) HT.out.s).trans rfl
      have c1 := (hp_cell (i := 1) HT.out.s).trans rfl
      have c2 := (hp_cell (i := 2) HT.out.s).trans rfl
      have c3 := (hp_cell (i := 3) HT.out.s).trans rfl
      have d0 := (hp_cell (i := 0) HT.out.z).trans rfl
      have d1 := (hp_cell (i := 1) HT.out.z).trans rfl
      have d2 := (hp_cell (i := 2) HT.out.z).trans rfl
      have d3 := (hp_cell (i := 3) HT.out.z).trans rfl
      have y0 := hp_free (i := 0) HT.out.z
      have y1 := hp_free (i := 1) HT.out.z
      have y2 := hp_free (i := 2) HT.out.z
      have y3 := hp_free (i := 3) HT.out.z
      clear eS
      go_wp2
      obtain ⟨e0, e1, e2, e3⟩ := ((arr_zero HT.out.z).put4 (n := S)).cells4
      refine bodyPost_ret (v := .tuple #[.agg #[.int .u64 (limb S 0 : Nat), .int .u64 (limb S 1 : Nat), .int .u64 (limb S 2 : Nat), .int .u64 (limb S 3 : Nat)], .bool true]) (by simp [results, Tryz.results10, go_sem, e0, e1, e2, e3]) rfl ⟨by rw [HES.out]; rfl, below_set4 HT.out.l HG.out.2.2.2⟩
end Go.Proofs.YtffipojlpdphiaaGreat
