/- The law BankActs, walked. -/
import Derived.Test.YtffipojlpdphiaaGreatG43
namespace Go.Proofs.YtffipojlpdphiaaGreat
open Go.RowKit Go.Maps Go.Sort

set_option maxRecDepth 100000 in
set_option maxHeartbeats 16000000 in
theorem bankActs_go (A : Option Addr) (N C : Nat) (x0 : Nat → Bool) (x1 x2 x3 : Nat → Int) (a4 : Nat → Nat) (w : World) (hr : act17sAt w A N x0 x1 x2 x3 a4) (hN : N ≤ 150) :
    Calls Tryz.prog 3 #[.slice A N C] w fun e w' => e = .returned (.bool true) ∧ Below w.heap.size w w' := by
  have HR := Lib.hid hr
  have HLv := Lib.hid (fun w => lives17_walk w)
  have hNI : (N : Int) ≤ 150 := by omega
  clear hr hN
  go_enter Tryz.func3, Tryz.ntmps3
  go_upto_region 4 with (go_at_call 5; with_reducible refine (SNew.new w _ (Below.refl _ _)).mono ?_; rintro e w3 ⟨b, F1, rfl, hs1, _, _⟩; have H3 := Lib.hid hs1; clear hs1)
  obtain ⟨m, hm⟩ : ∃ m, m = w3.heap.size := ⟨_, rfl⟩
  have hd4 := DS.new w w3 H3.out.l (.bool true) (.bool true) _ rfl
  have hb4 := (Below.refl w3.heap.size w3).alloc (Nat.le_refl _) (.cells #[.slice none 0 0, .slice none 0 0] 30)
  rw [← hm] at hd4
  rw [← hm]
  have H4 := Lib.hid (And.intro (H3.out.below hb4) hd4)
  clear hd4 hb4 hm
  generalize w3.alloc (.cells #[.slice none 0 0, .slice none 0 0] 30) = w4 at H4 ⊢
  go_wp2
  go_loopw [20] (fun i wr => ∃ (j : Nat) (F : List Nat) (q : Nat) (qs : List Value) (R : List Ch) (L : SL), j ≤ N ∧ i = .int .i64 (j : Nat) ∧ SNew w wr b F L q qs ∧ q ≤ 2 * j ∧ DS w wr m L R ∧ R.length ≤ 2 * j ∧ BM L ∧ L.length ≤ 2 * j) (fun i _ => N - (intOf i).toNat)
  case atStart => exact ⟨0, F1, 0, [], [], [], by omega, rfl, H4.out.1, by omega, H4.out.2, by simp, BM.nil, by simp⟩
  case round =>
    obtain ⟨j, F, q, qs, R, L, hj, rfl, hs, hq, hd, hR, hM, hL⟩ := hrel
    by_cases hlt : j < N
    · have p2 : (j : Int) < (N : Int) := by omega
      obtain ⟨g, o, rfl, hg, hc⟩ := (HR.out.rows.below hs.l) (by omega)
      have d0 := hc j hlt 0 _ rfl
      have d1 := hc j hlt 1 _ rfl
      have d2 := hc j hlt 2 _ rfl
      have d3 := hc j hlt 3 _ rfl
      have d4 := hc j hlt 4 _ rfl
      have d5 := hc j hlt 5 _ rfl
      have d6 := hc j hlt 6 _ rfl
      have d7 := hc j hlt 7 _ rfl
      simp only [Nat.add_zero] at d0
      have b1 := (HR.out.f0 j hlt).2
      have b2 := (HR.out.f1 j hlt).2
      have b3 := (HR.out.f2 j hlt).2
      have bn := HR.out.f3 j hlt
      obtain ⟨mt, em⟩ : ∃ y, y = x0 j := ⟨_, rfl⟩
      obtain ⟨t, et⟩ : ∃ y, y = x1 j := ⟨_, rfl⟩
      obtain ⟨f, ef⟩ : ∃ y, y = x2 j := ⟨_, rfl⟩
      obtain ⟨c, ec⟩ : ∃ y, y = x3 j := ⟨_, rfl⟩
      obtain ⟨n, en⟩ : ∃ y, y = a4 j := ⟨_, rfl⟩
      rw [← em] at d0
      rw [← et] at d1 b1
      rw [← ef] at d2
      rw [← ec] at d3 b3
      rw [← en] at d4 d5 d6 d7 bn
      have hact := fun (W1 : World) (hs1 : SNew w W1 b F L q qs) (hd1 : DS w W1 m L R) => act17_any w W1 b m L hM (by omega) F q qs R hs1 (by omega) hd1 (by omega) mt t f c n bn
      have HAct := Lib.hid hact
      have HQ := Lib.hid (And.intro hq (And.intro hR (And.intro hj hL)))
      have HTk := Lib.hid (And.intro b1 b3)
      have hbx := (Below.refl wr.heap.size wr).alloc (Nat.le_refl _) (.cells #[.bool mt, .int .i64 t, .int .i64 f, .int .i64 c, .int .u64 (limb n 0 : Nat), .int .u64 (limb n 1 : Nat), .int .u64 (limb n 2 : Nat), .int .u64 (limb n 3 : Nat)] 35)
      have hx0 := heap_alloc_new wr (.cells #[.bool mt, .int .i64 t, .int .i64 f, .int .i64 c, .int .u64 (limb n 0 : Nat), .int .u64 (limb n 1 : Nat), .int .u64 (limb n 2 : Nat), .int .u64 (limb n 3 : Nat)] 35)
      have HX0 := Lib.hid hx0
      have H6 := Lib.hid (And.intro (hs.below hbx) (hd.below hbx))
      clear hc hs hd hM hL hq hR hj hbx hx0 em et ef ec en hact b1 b2 b3 bn
      go_upto_region 7 with fail
      obtain ⟨X, hX⟩ : ∃ X, X = wr.heap.size := ⟨_, rfl⟩
      rw [← hX] at HX0 ⊢
      have H7 := Lib.hid (And.intro H6.out.1 (And.intro H6.out.2 HX0.out))
      clear hX HX0 H6 d0 d1 d2 d3 d4 d5 d6 d7
      generalize wr.alloc (.cells #[.bool mt, .int .i64 t, .int .i64 f, .int .i64 c, .int .u64 (limb n 0 : Nat), .int .u64 (limb n 1 : Nat), .int .u64 (limb n 2 : Nat), .int .u64 (limb n 3 : Nat)] 35) = Z7 at H7 ⊢
      refine wp_region_held_drew (S := fun w' => w'.heap[X]? = some (.cells #[.bool mt, .int .i64 t, .int .i64 f, .int .i64 c, .int .u64 (limb n 0 : Nat), .int .u64 (limb n 1 : Nat), .int .u64 (limb n 2 : Nat), .int .u64 (limb n 3 : Nat)] 35 (0, 0))) (by kernel_rfl) ?_ (fun hHeld => ?_)
      · exact H7.out.2.2
      have H7d := Lib.hid (And.intro (H7.out.1.below (Below.refl _ Z7).drew) (And.intro (H7.out.2.1.below (Below.refl _ Z7).drew) (show Z7.drew.heap[X]? = _ from H7.out.2.2)))
      clear H7
      generalize Z7.drew = Z7d at H7d hHeld ⊢
      refine wpAnyH_take (i := 0) (v := ?_) rfl (by kernel_rfl) (by kernel_rfl) (by kernel_rfl) (fun _ _ _ h => h) (Or.inl ⟨by kernel_rfl, ?_⟩) (by with_reducible assumption) ?_
      rotate_left
      · intro wz hSw
        (try dsimp only at hSw)
        go_simp
        (try with_reducible rfl)
      show wpAnyH _ _ _ _ _ _ _ (Act.put _ (some 24) _) _
      (try simp only [Act.put, List.setIfInBounds_toArray, List.set_cons_zero, List.set_cons_succ])
      refine wpAnyH_take (i := 1) (v := ?_) rfl (by kernel_rfl) (by kernel_rfl) (by kernel_rfl) (fun _ _ _ h => h) (Or.inl ⟨by kernel_rfl, ?_⟩) (by with_reducible assumption) ?_
      rotate_left
      · intro wz hSw
        (try dsimp only at hSw)
        go_simp
        (try with_reducible rfl)
      show wpAnyH _ _ _ _ _ _ _ (Act.put _ (some 25) _) _
      (try simp only [Act.put, List.setIfInBounds_toArray, List.set_cons_zero, List.set_cons_succ])
      refine wpAnyH_take (i := 2) (v := .agg #[.bool mt, .int .i64 t, .int .i64 f, .int .i64 c, .int .u64 (limb n 0 : Nat), .int .u64 (limb n 1 : Nat), .int .u64 (limb n 2 : Nat), .int .u64 (limb n 3 : Nat)]) rfl (by kernel_rfl) (by kernel_rfl) (by kernel_rfl) (fun _ _ _ h => h) (Or.inl ⟨by kernel_rfl, ?_⟩) (by with_reducible assumption) ?_
      · intro wz hSw
        (try dsimp only at hSw)
        have y0 := (hp_cell (i := 0) hSw).trans rfl
        have y1 := (hp_cell (i := 1) hSw).trans rfl
        have y2 := (hp_cell (i := 2) hSw).trans rfl
        have y3 := (hp_cell (i := 3) hSw).trans rfl
        have y4 := (hp_cell (i := 4) hSw).trans rfl
        have y5 := (hp_cell (i := 5) hSw).trans rfl
        have y6 := (hp_cell (i := 6) hSw).trans rfl
        have y7 := (hp_cell (i := 7) hSw).trans rfl
        go_simp
        (try with_reducible rfl)
      show wpAnyH _ _ _ _ _ _ _ (Act.put _ (some 26) _) _
      (try simp only [Act.put, List.setIfInBounds_toArray, List.set_cons_zero, List.set_cons_succ])
      refine wpAnyH_ready (rs := [3]) (by kernel_rfl) (by simp) ?_
      refine AllReadyH.cons rfl (fun K hK => ?_) AllReadyH.nil
      clear hHeld
      go_simp
      go_at_call 6
      refine (HAct.out _ H7d.out.1 H7d.out.2.1).mono ?_
      rintro e Z8 ⟨rfl, L2, hM2, hL2, hB2⟩
      obtain ⟨F8, q8, qs8, hs8, hq8⟩ := hB2.s
      obtain ⟨R8, hR8, hd8⟩ := hB2.d
      have r8 := hB2.k.2 _ _ _ H7d.out.2.2
      obtain ⟨bal1, bal2⟩ := bank_balance w b m L2 hM2 (by have := HQ.out.2.2.1; have := HQ.out.2.2.2; omega) t c HTk.out.1 HTk.out.2
      obtain ⟨tn, tok, htn, tot1, tot2⟩ := bank_total w b m L2 hM2 (by have := HQ.out.2.2.1; have := HQ.out.2.2.2; omega) t
      have hav := amt_lt L2 (kA t c)
      obtain ⟨av, eav⟩ : ∃ y, y = amt L2 (kA t c) := ⟨_, rfl⟩
      rw [← eav] at bal1 bal2 hav
      unfold U at bal1 bal2 tot1 tot2
      have e1 : ∀ w, (Op.equalIn 10000 33 (.agg #[.int .u64 (limb av 0 : Nat), .int .u64 (limb av 1 : Nat), .int .u64 (limb av 2 : Nat), .int .u64 (limb av 3 : Nat)]) (.agg #[.int .u64 (limb av 0 : Nat), .int .u64 (limb av 1 : Nat), .int .u64 (limb av 2 : Nat), .int .u64 (limb av 3 : Nat)])).run Tryz.prog w = .ok true w := fun w => by rw [eq_run hav hav]; simp
      have e2 : ∀ w, (Op.equalIn 10000 33 (.agg #[.int .u64 (limb tn 0 : Nat), .int .u64 (limb tn 1 : Nat), .int .u64 (limb tn 2 : Nat), .int .u64 (limb tn 3 : Nat)]) (.agg #[.int .u64 (limb tn 0 : Nat), .int .u64 (limb tn 1 : Nat), .int .u64 (limb tn 2 : Nat), .int .u64 (limb tn 3 : Nat)])).run Tryz.prog w = .ok true w := fun w => by rw [eq_run htn htn]; simp
      have HBal1 := Lib.hid bal1
      have HBal2 := Lib.hid bal2
      have HTot1 := Lib.hid tot1
      have HTot2 := Lib.hid tot2
      have H8 := Lib.hid (And.intro hs8 (And.intro hd8 r8))
      have HQ8 := Lib.hid (And.intro hq8 (And.intro hR8 (And.intro hM2 hL2)))
      clear hs8 hd8 r8 hq8 hR8 hM2 hL2 hB2 bal1 bal2 tot1 tot2 hav htn eav
      go_wp2_with fail
      refine hK.out _ _ ?_ (fun hHeld => ?_)
      · exact H8.out.2.2
      clear hK K
      (try simp only [Act.put, List.setIfInBounds_toArray, List.set_cons_zero, List.set_cons_succ])
      refine wpAnyH_take (i := 4) (v := ?_) rfl (by kernel_rfl) (by kernel_rfl) (by kernel_rfl) (fun _ _ _ h => h) (Or.inl ⟨by kernel_rfl, ?_⟩) (by with_reducible assumption) ?_
      rotate_left
      · intro wz hSw
        (try dsimp only at hSw)
        go_simp
        (try with_reducible rfl)
      show wpAnyH _ _ _ _ _ _ _ (Act.put _ (some 28) _) _
      (try simp only [Act.put, List.setIfInBounds_toArray, List.set_cons_zero, List.set_cons_succ])
      refine wpAnyH_take (i := 5) (v := ?_) rfl (by kernel_rfl) (by kernel_rfl) (by kernel_rfl) (fun _ _ _ h => h) (Or.inl ⟨by kernel_rfl, ?_⟩) (by with_reducible assumption) ?_
      rotate_left
      · intro wz hSw
        (try dsimp only at hSw)
        go_simp
        (try with_reducible rfl)
      show wpAnyH _ _ _ _ _ _ _ (Act.put _ (some 29) _) _
      (try simp only [Act.put, List.setIfInBounds_toArray, List.set_cons_zero, List.set_cons_succ])
      refine wpAnyH_take (i := 6) (v := ?_) rfl (by kernel_rfl) (by kernel_rfl) (by kernel_rfl) (fun _ _ _ h => h) (Or.inl ⟨by kernel_rfl, ?_⟩) (by with_reducible assumption) ?_
      rotate_left
      · intro wz hSw
        (try dsimp only at hSw)
        go_simp
        (try with_reducible rfl)
      show wpAnyH _ _ _ _ _ _ _ (Act.put _ (some 30) _) _
      (try simp only [Act.put, List.setIfInBounds_toArray, List.set_cons_zero, List.set_cons_succ])
      refine wpAnyH_take (i := 7) (v := ?_) rfl (by kernel_rfl) (by kernel_rfl) (by kernel_rfl) (fun _ _ _ h => h) (Or.inl ⟨by kernel_rfl, ?_⟩) (by with_reducible assumption) ?_
      rotate_left
      · intro wz hSw
        (try dsimp only at hSw)
        go_simp
        (try with_reducible rfl)
      show wpAnyH _ _ _ _ _ _ _ (Act.put _ (some 31) _) _
      (try simp only [Act.put, List.setIfInBounds_toArray, List.set_cons_zero, List.set_cons_succ])
      refine wpAnyH_take (i := 8) (v := .int .i64 t) rfl (by kernel_rfl) (by kernel_rfl) (by kernel_rfl) (fun _ _ _ h => h) (Or.inl ⟨by kernel_rfl, ?_⟩) (by with_reducible assumption) ?_
      · intro wz hSw
        (try dsimp only at hSw)
        have y0 := (hp_cell (i := 1) hSw).trans rfl
        go_simp
        (try with_reducible rfl)
      show wpAnyH _ _ _ _ _ _ _ (Act.put _ (some 32) _) _
      (try simp only [Act.put, List.setIfInBounds_toArray, List.set_cons_zero, List.set_cons_succ])
      refine wpAnyH_take (i := 9) (v := ?_) rfl (by kernel_rfl) (by kernel_rfl) (by kernel_rfl) (fun _ _ _ h => h) (Or.inl ⟨by kernel_rfl, ?_⟩) (by with_reducible assumption) ?_
      rotate_left
      · intro wz hSw
        (try dsimp only at hSw)
        go_simp
        (try with_reducible rfl)
      show wpAnyH _ _ _ _ _ _ _ (Act.put _ (some 33) _) _
      (try simp only [Act.put, List.setIfInBounds_toArray, List.set_cons_zero, List.set_cons_succ])
      refine wpAnyH_take (i := 10) (v := .int .i64 c) rfl (by kernel_rfl) (by kernel_rfl) (by kernel_rfl) (fun _ _ _ h => h) (Or.inl ⟨by kernel_rfl, ?_⟩) (by with_reducible assumption) ?_
      · intro wz hSw
        (try dsimp only at hSw)
        have y0 := (hp_cell (i := 3) hSw).trans rfl
        go_simp
        (try with_reducible rfl)
      show wpAnyH _ _ _ _ _ _ _ (Act.put _ (some 34) _) _
      (try simp only [Act.put, List.setIfInBounds_toArray, List.set_cons_zero, List.set_cons_succ])
      refine wpAnyH_take (i := 12) (v := ?_) rfl (by kernel_rfl) (by kernel_rfl) (by kernel_rfl) (fun _ _ _ h => h) (Or.inl ⟨by kernel_rfl, ?_⟩) (by with_reducible assumption) ?_
      rotate_left
      · intro wz hSw
        (try dsimp only at hSw)
        go_simp
        (try with_reducible rfl)
      show wpAnyH _ _ _ _ _ _ _ (Act.put _ (some 36) _) _
      (try simp only [Act.put, List.setIfInBounds_toArray, List.set_cons_zero, List.set_cons_succ])
      refine wpAnyH_take (i := 13) (v := ?_) rfl (by kernel_rfl) (by kernel_rfl) (by kernel_rfl) (fun _ _ _ h => h) (Or.inl ⟨by kernel_rfl, ?_⟩) (by with_reducible assumption) ?_
      rotate_left
      · intro wz hSw
        (try dsimp only at hSw)
        go_simp
        (try with_reducible rfl)
      show wpAnyH _ _ _ _ _ _ _ (Act.put _ (some 37) _) _
      (try simp only [Act.put, List.setIfInBounds_toArray, List.set_cons_zero, List.set_cons_succ])
      refine wpAnyH_take (i := 14) (v := .int .i64 t) rfl (by kernel_rfl) (by kernel_rfl) (by kernel_rfl) (fun _ _ _ h => h) (Or.inl ⟨by kernel_rfl, ?_⟩) (by with_reducible assumption) ?_
      · intro wz hSw
        (try dsimp only at hSw)
        have y0 := (hp_cell (i := 1) hSw).trans rfl
        go_simp
        (try with_reducible rfl)
      show wpAnyH _ _ _ _ _ _ _ (Act.put _ (some 38) _) _
      (try simp only [Act.put, List.setIfInBounds_toArray, List.set_cons_zero, List.set_cons_succ])
      refine wpAnyH_take (i := 15) (v := ?_) rfl (by kernel_rfl) (by kernel_rfl) (by kernel_rfl) (fun _ _ _ h => h) (Or.inl ⟨by kernel_rfl, ?_⟩) (by with_reducible assumption) ?_
      rotate_left
      · intro wz hSw
        (try dsimp only at hSw)
        go_simp
        (try with_reducible rfl)
      show wpAnyH _ _ _ _ _ _ _ (Act.put _ (some 39) _) _
      (try simp only [Act.put, List.setIfInBounds_toArray, List.set_cons_zero, List.set_cons_succ])
      refine wpAnyH_take (i := 16) (v := .int .i64 c) rfl (by kernel_rfl) (by kernel_rfl) (by kernel_rfl) (fun _ _ _ h => h) (Or.inl ⟨by kernel_rfl, ?_⟩) (by with_reducible assumption) ?_
      · intro wz hSw
        (try dsimp only at hSw)
        have y0 := (hp_cell (i := 3) hSw).trans rfl
        go_simp
        (try with_reducible rfl)
      show wpAnyH _ _ _ _ _ _ _ (Act.put _ (some 40) _) _
      (try simp only [Act.put, List.setIfInBounds_toArray, List.set_cons_zero, List.set_cons_succ])
      refine wpAnyH_ready (rs := [11]) (by kernel_rfl) (by simp) ?_
      refine AllReadyH.cons rfl (fun K hK => ?_) AllReadyH.nil
      clear hHeld
      go_simp
      go_at_call 7
      with_reducible refine (HBal1.out _ F8 q8 qs8 H8.out.1).mono ?_
      rintro e Z9 ⟨rfl, hb⟩
      have H9 := Lib.hid (And.intro (H8.out.1.below hb) (And.intro (H8.out.2.1.below hb) ((hb.block _ (hp_lt H8.out.2.2)).trans H8.out.2.2)))
      clear hb
      go_wp2_with fail
      refine hK.out _ _ ?_ (fun hHeld => ?_)
      · exact H9.out.2.2
      clear hK K
      (try simp only [Act.put, List.setIfInBounds_toArray, List.set_cons_zero, List.set_cons_succ])
      refine wpAnyH_ready (rs := [17]) (by kernel_rfl) (by simp) ?_
      refine AllReadyH.cons rfl (fun K hK => ?_) AllReadyH.nil
      clear hHeld
      go_simp
      go_at_call 8
      with_reducible refine (HBal2.out _ R8 H9.out.2.1).mono ?_
      rintro e Z10 ⟨rfl, hb⟩
      have H10 := Lib.hid (And.intro (H9.out.1.below hb) (And.intro (H9.out.2.1.below hb) ((hb.block _ (hp_lt H9.out.2.2)).trans H9.out.2.2)))
      clear hb
      go_wp2_with fail
      refine hK.out _ _ ?_ (fun hHeld => ?_)
      · exact H10.out.2.2
      clear hK K
      (try simp only [Act.put, List.setIfInBounds_toArray, List.set_cons_zero, List.set_cons_succ])
      refine wpAnyH_take (i := 18) (v := ?_) rfl (by kernel_rfl) (by kernel_rfl) (by kernel_rfl) (fun _ _ _ h => h) (Or.inl ⟨by kernel_rfl, ?_⟩) (by with_reducible assumption) ?_
      rotate_left
      · intro wz hSw
        (try dsimp only at hSw)
        go_simp
        (try with_reducible rfl)
      show wpAnyH _ _ _ _ _ _ _ (Act.put _ (some 42) _) _
      (try simp only [Act.put, List.setIfInBounds_toArray, List.set_cons_zero, List.set_cons_succ])
      refine wpAnyH_take (i := 19) (v := ?_) rfl (by kernel_rfl) (by kernel_rfl) (by kernel_rfl) (fun _ _ _ h => h) (Or.inl ⟨by kernel_rfl, ?_⟩) (by with_reducible assumption) ?_
      rotate_left
      · intro wz hSw
        (try dsimp only at hSw)
        go_simp
        (try with_reducible rfl)
      show wpAnyH _ _ _ _ _ _ _ (Act.put _ (some 43) _) _
      (try simp only [Act.put, List.setIfInBounds_toArray, List.set_cons_zero, List.set_cons_succ])
      refine wpAnyH_done (by kernel_rfl) ?_ _
      have y1 := (hp_cell (i := 1) H10.out.2.2).trans rfl
      go_upto_region 10 with (go_at_call 9; with_reducible refine (HTot1.out _ F8 q8 qs8 H10.out.1).mono ?_; rintro e w11 ⟨rfl, hb⟩; have H11 := Lib.hid (And.intro (H10.out.1.below hb) (And.intro (H10.out.2.1.below hb) ((hb.block _ (hp_lt H10.out.2.2)).trans H10.out.2.2))); clear hb)
      obtain ⟨B7, eB7⟩ : ∃ y, y = w11.heap.size := ⟨_, rfl⟩
      have hb12 := (Below.refl w11.heap.size w11).alloc (Nat.le_refl _) (.cells #[.int .u64 (limb tn 0 : Nat), .int .u64 (limb tn 1 : Nat), .int .u64 (limb tn 2 : Nat), .int .u64 (limb tn 3 : Nat)] 33)
      have hx12 := heap_alloc_new w11 (.cells #[.int .u64 (limb tn 0 : Nat), .int .u64 (limb tn 1 : Nat), .int .u64 (limb tn 2 : Nat), .int .u64 (limb tn 3 : Nat)] 33)
      rw [← eB7] at hx12 ⊢
      have H12 := Lib.hid (And.intro (H11.out.1.below hb12) (And.intro (H11.out.2.1.below hb12) (And.intro ((hb12.block _ (hp_lt H11.out.2.2)).trans H11.out.2.2) hx12)))
      clear hb12 hx12 eB7 y1
      generalize w11.alloc (.cells #[.int .u64 (limb tn 0 : Nat), .int .u64 (limb tn 1 : Nat), .int .u64 (limb tn 2 : Nat), .int .u64 (limb tn 3 : Nat)] 33) = Z12 at H12 ⊢
      have y1 := (hp_cell (i := 1) H12.out.2.2.1).trans rfl
      go_upto_region 11 with (go_at_call 10; with_reducible refine (HTot2.out _ R8 H12.out.2.1).mono ?_; rintro e w13 ⟨rfl, hb⟩; have H13 := Lib.hid (And.intro (H12.out.1.below hb) (And.intro (H12.out.2.1.below hb) (And.intro ((hb.block _ (hp_lt H12.out.2.2.1)).trans H12.out.2.2.1) ((hb.block _ (hp_lt H12.out.2.2.2)).trans H12.out.2.2.2)))); clear hb)
      obtain ⟨B9, eB9⟩ : ∃ y, y = w13.heap.size := ⟨_, rfl⟩
      have hb14 := (Below.refl w13.heap.size w13).alloc (Nat.le_refl _) (.cells #[.int .u64 (limb tn 0 : Nat), .int .u64 (limb tn 1 : Nat), .int .u64 (limb tn 2 : Nat), .int .u64 (limb tn 3 : Nat)] 33)
      have hx14 := heap_alloc_new w13 (.cells #[.int .u64 (limb tn 0 : Nat), .int .u64 (limb tn 1 : Nat), .int .u64 (limb tn 2 : Nat), .int .u64 (limb tn 3 : Nat)] 33)
      rw [← eB9] at hx14 ⊢
      have H14 := Lib.hid (And.intro (H13.out.1.below hb14) (And.intro (H13.out.2.1.below hb14) (And.intro ((hb14.block _ (hp_lt H13.out.2.2.1)).trans H13.out.2.2.1) (And.intro ((hb14.block _ (hp_lt H13.out.2.2.2)).trans H13.out.2.2.2) hx14))))
      clear hb14 hx14 eB9 y1
      generalize w13.alloc (.cells #[.int .u64 (limb tn 0 : Nat), .int .u64 (limb tn 1 : Nat), .int .u64 (limb tn 2 : Nat), .int .u64 (limb tn 3 : Nat)] 33) = Z14 at H14 ⊢
      have HG1 := Lib.hid (fun W => bgood_any t c W)
      have HG2 := Lib.hid (fun W => rgood17_walk t c W)
      obtain ⟨gd, egd⟩ : ∃ y, y = decide ((1 ≤ t ∧ t ≤ 1000) ∧ 1 ≤ c ∧ c ≤ 4294967295) := ⟨_, rfl⟩
      rw [← egd] at HG1 HG2
      clear egd
      have q2 : (tok == tok) = true := beq_self_eq_true _
      have q3 : (gd == gd) = true := beq_self_eq_true _
      have LX := Lib.hid (hp_lt H14.out.2.2.1)
      have L7 := Lib.hid (hp_lt H14.out.2.2.2.1)
      have L9 := Lib.hid (hp_lt H14.out.2.2.2.2)
      refine wp_region_held_drew (S := fun w' => Below Z14.heap.size Z14 w') (by kernel_rfl) ?_ (fun hHeld => ?_)
      · exact (Below.refl _ _).drew
      have HB0 := Lib.hid (show Below Z14.heap.size Z14 Z14.drew from (Below.refl _ _).drew)
      generalize Z14.drew = Y0 at HB0 hHeld ⊢
      refine wpAnyH_take (i := 0) (v := .agg #[.int .u64 (limb tn 0 : Nat), .int .u64 (limb tn 1 : Nat), .int .u64 (limb tn 2 : Nat), .int .u64 (limb tn 3 : Nat)]) rfl (by kernel_rfl) (by kernel_rfl) (by kernel_rfl) (fun _ _ _ h => h) (Or.inl ⟨by kernel_rfl, ?_⟩) (by with_reducible assumption) ?_
      · intro wz hSw
        (try dsimp only at hSw)
        have y0 := (hSw.cell (p := ⟨B7, 0, none⟩) L7.out).trans ((hp_cell (i := 0) H14.out.2.2.2.1).trans rfl)
        have y1 := (hSw.cell (p := ⟨B7, 1, none⟩) L7.out).trans ((hp_cell (i := 1) H14.out.2.2.2.1).trans rfl)
        have y2 := (hSw.cell (p := ⟨B7, 2, none⟩) L7.out).trans ((hp_cell (i := 2) H14.out.2.2.2.1).trans rfl)
        have y3 := (hSw.cell (p := ⟨B7, 3, none⟩) L7.out).trans ((hp_cell (i := 3) H14.out.2.2.2.1).trans rfl)
        go_simp
        (try with_reducible rfl)
      show wpAnyH _ _ _ _ _ _ _ (Act.put _ (some 58) _) _
      (try simp only [Act.put, List.setIfInBounds_toArray, List.set_cons_zero, List.set_cons_succ])
      refine wpAnyH_take (i := 1) (v := .agg #[.int .u64 (limb tn 0 : Nat), .int .u64 (limb tn 1 : Nat), .int .u64 (limb tn 2 : Nat), .int .u64 (limb tn 3 : Nat)]) rfl (by kernel_rfl) (by kernel_rfl) (by kernel_rfl) (fun _ _ _ h => h) (Or.inl ⟨by kernel_rfl, ?_⟩) (by with_reducible assumption) ?_
      · intro wz hSw
        (try dsimp only at hSw)
        have y0 := (hSw.cell (p := ⟨B9, 0, none⟩) L9.out).trans ((hp_cell (i := 0) H14.out.2.2.2.2).trans rfl)
        have y1 := (hSw.cell (p := ⟨B9, 1, none⟩) L9.out).trans ((hp_cell (i := 1) H14.out.2.2.2.2).trans rfl)
        have y2 := (hSw.cell (p := ⟨B9, 2, none⟩) L9.out).trans ((hp_cell (i := 2) H14.out.2.2.2.2).trans rfl)
        have y3 := (hSw.cell (p := ⟨B9, 3, none⟩) L9.out).trans ((hp_cell (i := 3) H14.out.2.2.2.2).trans rfl)
        go_simp
        (try with_reducible rfl)
      show wpAnyH _ _ _ _ _ _ _ (Act.put _ (some 59) _) _
      (try simp only [Act.put, List.setIfInBounds_toArray, List.set_cons_zero, List.set_cons_succ])
      refine wpAnyH_take (i := 2) (v := ?_) rfl (by kernel_rfl) (by kernel_rfl) (by kernel_rfl) (fun _ _ _ h => h) (Or.inl ⟨by kernel_rfl, ?_⟩) (by with_reducible assumption) ?_
      rotate_left
      · intro wz hSw
        (try dsimp only at hSw)
        go_simp
        (try with_reducible rfl)
      show wpAnyH _ _ _ _ _ _ _ (Act.put _ (some 60) _) _
      (try simp only [Act.put, List.setIfInBounds_toArray, List.set_cons_zero, List.set_cons_succ])
      refine wpAnyH_take (i := 3) (v := ?_) rfl (by kernel_rfl) (by kernel_rfl) (by kernel_rfl) (fun _ _ _ h => h) (Or.inl ⟨by kernel_rfl, ?_⟩) (by with_reducible assumption) ?_
      rotate_left
      · intro wz hSw
        (try dsimp only at hSw)
        go_simp
        (try with_reducible rfl)
      show wpAnyH _ _ _ _ _ _ _ (Act.put _ (some 61) _) _
      (try simp only [Act.put, List.setIfInBounds_toArray, List.set_cons_zero, List.set_cons_succ])
      refine wpAnyH_take (i := 4) (v := ?_) rfl (by kernel_rfl) (by kernel_rfl) (by kernel_rfl) (fun _ _ _ h => h) (Or.inl ⟨by kernel_rfl, ?_⟩) (by with_reducible assumption) ?_
      rotate_left
      · intro wz hSw
        (try dsimp only at hSw)
        go_simp
        (try with_reducible rfl)
      show wpAnyH _ _ _ _ _ _ _ (Act.put _ (some 62) _) _
      (try simp only [Act.put, List.setIfInBounds_toArray, List.set_cons_zero, List.set_cons_succ])
      refine wpAnyH_take (i := 5) (v := ?_) rfl (by kernel_rfl) (by kernel_rfl) (by kernel_rfl) (fun _ _ _ h => h) (Or.inl ⟨by kernel_rfl, ?_⟩) (by with_reducible assumption) ?_
      rotate_left
      · intro wz hSw
        (try dsimp only at hSw)
        go_simp
        (try with_reducible rfl)
      show wpAnyH _ _ _ _ _ _ _ (Act.put _ (some 63) _) _
      (try simp only [Act.put, List.setIfInBounds_toArray, List.set_cons_zero, List.set_cons_succ])
      refine wpAnyH_take (i := 6) (v := ?_) rfl (by kernel_rfl) (by kernel_rfl) (by kernel_rfl) (fun _ _ _ h => h) (Or.inl ⟨by kernel_rfl, ?_⟩) (by with_reducible assumption) ?_
      rotate_left
      · intro wz hSw
        (try dsimp only at hSw)
        go_simp
        (try with_reducible rfl)
      show wpAnyH _ _ _ _ _ _ _ (Act.put _ (some 64) _) _
      (try simp only [Act.put, List.setIfInBounds_toArray, List.set_cons_zero, List.set_cons_succ])
      refine wpAnyH_take (i := 7) (v := ?_) rfl (by kernel_rfl) (by kernel_rfl) (by kernel_rfl) (fun _ _ _ h => h) (Or.inl ⟨by kernel_rfl, ?_⟩) (by with_reducible assumption) ?_
      rotate_left
      · intro wz hSw
        (try dsimp only at hSw)
        go_simp
        (try with_reducible rfl)
      show wpAnyH _ _ _ _ _ _ _ (Act.put _ (some 65) _) _
      (try simp only [Act.put, List.setIfInBounds_toArray, List.set_cons_zero, List.set_cons_succ])
      refine wpAnyH_take (i := 8) (v := ?_) rfl (by kernel_rfl) (by kernel_rfl) (by kernel_rfl) (fun _ _ _ h => h) (Or.inl ⟨by kernel_rfl, ?_⟩) (by with_reducible assumption) ?_
      rotate_left
      · intro wz hSw
        (try dsimp only at hSw)
        go_simp
        (try with_reducible rfl)
      show wpAnyH _ _ _ _ _ _ _ (Act.put _ (some 66) _) _
      (try simp only [Act.put, List.setIfInBounds_toArray, List.set_cons_zero, List.set_cons_succ])
      refine wpAnyH_take (i := 9) (v := ?_) rfl (by kernel_rfl) (by kernel_rfl) (by kernel_rfl) (fun _ _ _ h => h) (Or.inl ⟨by kernel_rfl, ?_⟩) (by with_reducible assumption) ?_
      rotate_left
      · intro wz hSw
        (try dsimp only at hSw)
        go_simp
        (try with_reducible rfl)
      show wpAnyH _ _ _ _ _ _ _ (Act.put _ (some 67) _) _
      (try simp only [Act.put, List.setIfInBounds_toArray, List.set_cons_zero, List.set_cons_succ])
      refine wpAnyH_take (i := 10) (v := .int .i64 t) rfl (by kernel_rfl) (by kernel_rfl) (by kernel_rfl) (fun _ _ _ h => h) (Or.inl ⟨by kernel_rfl, ?_⟩) (by with_reducible assumption) ?_
      · intro wz hSw
        (try dsimp only at hSw)
        have y0 := (hSw.cell (p := ⟨X, 1, none⟩) LX.out).trans ((hp_cell (i := 1) H14.out.2.2.1).trans rfl)
        go_simp
        (try with_reducible rfl)
      show wpAnyH _ _ _ _ _ _ _ (Act.put _ (some 68) _) _
      (try simp only [Act.put, List.setIfInBounds_toArray, List.set_cons_zero, List.set_cons_succ])
      refine wpAnyH_take (i := 11) (v := ?_) rfl (by kernel_rfl) (by kernel_rfl) (by kernel_rfl) (fun _ _ _ h => h) (Or.inl ⟨by kernel_rfl, ?_⟩) (by with_reducible assumption) ?_
      rotate_left
      · intro wz hSw
        (try dsimp only at hSw)
        go_simp
        (try with_reducible rfl)
      show wpAnyH _ _ _ _ _ _ _ (Act.put _ (some 69) _) _
      (try simp only [Act.put, List.setIfInBounds_toArray, List.set_cons_zero, List.set_cons_succ])
      refine wpAnyH_take (i := 12) (v := .int .i64 c) rfl (by kernel_rfl) (by kernel_rfl) (by kernel_rfl) (fun _ _ _ h => h) (Or.inl ⟨by kernel_rfl, ?_⟩) (by with_reducible assumption) ?_
      · intro wz hSw
        (try dsimp only at hSw)
        have y0 := (hSw.cell (p := ⟨X, 3, none⟩) LX.out).trans ((hp_cell (i := 3) H14.out.2.2.1).trans rfl)
        go_simp
        (try with_reducible rfl)
      show wpAnyH _ _ _ _ _ _ _ (Act.put _ (some 70) _) _
      (try simp only [Act.put, List.setIfInBounds_toArray, List.set_cons_zero, List.set_cons_succ])
      refine wpAnyH_take (i := 14) (v := ?_) rfl (by kernel_rfl) (by kernel_rfl) (by kernel_rfl) (fun _ _ _ h => h) (Or.inl ⟨by kernel_rfl, ?_⟩) (by with_reducible assumption) ?_
      rotate_left
      · intro wz hSw
        (try dsimp only at hSw)
        go_simp
        (try with_reducible rfl)
      show wpAnyH _ _ _ _ _ _ _ (Act.put _ (some 72) _) _
      (try simp only [Act.put, List.setIfInBounds_toArray, List.set_cons_zero, List.set_cons_succ])
      refine wpAnyH_take (i := 15) (v := .int .i64 t) rfl (by kernel_rfl) (by kernel_rfl) (by kernel_rfl) (fun _ _ _ h => h) (Or.inl ⟨by kernel_rfl, ?_⟩) (by with_reducible assumption) ?_
      · intro wz hSw
        (try dsimp only at hSw)
        have y0 := (hSw.cell (p := ⟨X, 1, none⟩) LX.out).trans ((hp_cell (i := 1) H14.out.2.2.1).trans rfl)
        go_simp
        (try with_reducible rfl)
      show wpAnyH _ _ _ _ _ _ _ (Act.put _ (some 73) _) _
      (try simp only [Act.put, List.setIfInBounds_toArray, List.set_cons_zero, List.set_cons_succ])
      refine wpAnyH_take (i := 16) (v := ?_) rfl (by kernel_rfl) (by kernel_rfl) (by kernel_rfl) (fun _ _ _ h => h) (Or.inl ⟨by kernel_rfl, ?_⟩) (by with_reducible assumption) ?_
      rotate_left
      · intro wz hSw
        (try dsimp only at hSw)
        go_simp
        (try with_reducible rfl)
      show wpAnyH _ _ _ _ _ _ _ (Act.put _ (some 74) _) _
      (try simp only [Act.put, List.setIfInBounds_toArray, List.set_cons_zero, List.set_cons_succ])
      refine wpAnyH_take (i := 17) (v := .int .i64 c) rfl (by kernel_rfl) (by kernel_rfl) (by kernel_rfl) (fun _ _ _ h => h) (Or.inl ⟨by kernel_rfl, ?_⟩) (by with_reducible assumption) ?_
      · intro wz hSw
        (try dsimp only at hSw)
        have y0 := (hSw.cell (p := ⟨X, 3, none⟩) LX.out).trans ((hp_cell (i := 3) H14.out.2.2.1).trans rfl)
        go_simp
        (try with_reducible rfl)
      show wpAnyH _ _ _ _ _ _ _ (Act.put _ (some 75) _) _
      (try simp only [Act.put, List.setIfInBounds_toArray, List.set_cons_zero, List.set_cons_succ])
      refine wpAnyH_ready (rs := [13]) (by kernel_rfl) (by simp) ?_
      refine AllReadyH.cons rfl (fun K hK => ?_) AllReadyH.nil
      clear hHeld
      go_simp
      go_at_call 11
      with_reducible refine (HG1.out _).mono ?_
      rintro e Y13 ⟨rfl, hYw⟩
      subst hYw
      go_wp2_with fail
      refine hK.out _ _ ?_ (fun hHeld => ?_)
      · exact HB0.out
      clear hK K
      (try simp only [Act.put, List.setIfInBounds_toArray, List.set_cons_zero, List.set_cons_succ])
      refine wpAnyH_ready (rs := [18]) (by kernel_rfl) (by simp) ?_
      refine AllReadyH.cons rfl (fun K hK => ?_) AllReadyH.nil
      clear hHeld
      go_simp
      go_at_call 12
      with_reducible refine (HG2.out _).mono ?_
      rintro e Y18 ⟨rfl, hYw⟩
      subst hYw
      go_wp2_with fail
      refine hK.out _ _ ?_ (fun hHeld => ?_)
      · exact HB0.out
      clear hK K
      (try simp only [Act.put, List.setIfInBounds_toArray, List.set_cons_zero, List.set_cons_succ])
      refine wpAnyH_take (i := 19) (v := ?_) rfl (by kernel_rfl) (by kernel_rfl) (by kernel_rfl) (fun _ _ _ h => h) (Or.inl ⟨by kernel_rfl, ?_⟩) (by with_reducible assumption) ?_
      rotate_left
      · intro wz hSw
        (try dsimp only at hSw)
        go_simp
        (try with_reducible rfl)
      show wpAnyH _ _ _ _ _ _ _ (Act.put _ (some 77) _) _
      (try simp only [Act.put, List.setIfInBounds_toArray, List.set_cons_zero, List.set_cons_succ])
      refine wpAnyH_take (i := 20) (v := ?_) rfl (by kernel_rfl) (by kernel_rfl) (by kernel_rfl) (fun _ _ _ h => h) (Or.inl ⟨by kernel_rfl, ?_⟩) (by with_reducible assumption) ?_
      rotate_left
      · intro wz hSw
        (try dsimp only at hSw)
        go_simp
        (try with_reducible rfl)
      show wpAnyH _ _ _ _ _ _ _ (Act.put _ (some 78) _) _
      (try simp only [Act.put, List.setIfInBounds_toArray, List.set_cons_zero, List.set_cons_succ])
      refine wpAnyH_done (by kernel_rfl) ?_ _
      go_wp2_with fail
      exact ⟨⟨j + 1, F8, q8, qs8, R8, L2, by have := HQ.out.2.2.1; omega, by go_num, H14.out.1.below HB0.out, by have := HQ8.out.1; have := HQ.out.1; omega, H14.out.2.1.below HB0.out, by have := HQ8.out.2.1; have := HQ.out.2.1; omega, HQ8.out.2.2.1, by have := HQ8.out.2.2.2; have := HQ.out.2.2.2; omega⟩, by simp [intOf]; omega⟩
    · obtain rfl : j = N := by omega
      have p2 : ¬ (j : Int) < (j : Int) := by omega
      obtain ⟨Z, hZ⟩ : ∃ Z, Z = wr := ⟨wr, rfl⟩
      subst hZ
      obtain ⟨vL, vP, h1, h2, h3⟩ := hd.ex
      obtain ⟨Am, Cm, rfl, hpm⟩ := Pr.of h2
      have m0 := (hp_cell (i := 0) h1).trans rfl
      have hmw := hp_lt h1
      have HSs := Lib.hid hs
      have HMm := Lib.hid (And.intro hpm hmw)
      have HKs := Lib.hid (fun p hp => (hM.z p hp).1)
      have HLn := Lib.hid (show L.length < 1000000 by omega)
      clear hs hd h1 h2 h3 hpm hq hR hM hL
      go_upto_region 14 with fail
      refine wp_region_held_drew (S := fun w' => Below Z.heap.size Z w') (by kernel_rfl) ?_ (fun hHeld => ?_)
      · exact (Below.refl _ _).drew
      generalize Z.drew = Z0 at hHeld ⊢
      have HB0 := Lib.hid hHeld
      refine wpAnyH_take (i := 0) (v := ?_) rfl (by kernel_rfl) (by kernel_rfl) (by kernel_rfl) (fun _ _ _ h => h) (Or.inl ⟨by kernel_rfl, ?_⟩) (by with_reducible assumption) ?_
      rotate_left
      · intro wz hSw
        (try dsimp only at hSw)
        go_simp
        (try with_reducible rfl)
      show wpAnyH _ _ _ _ _ _ _ (Act.put _ (some 80) _) _
      (try simp only [Act.put, List.setIfInBounds_toArray, List.set_cons_zero, List.set_cons_succ])
      refine wpAnyH_take (i := 2) (v := ?_) rfl (by kernel_rfl) (by kernel_rfl) (by kernel_rfl) (fun _ _ _ h => h) (Or.inl ⟨by kernel_rfl, ?_⟩) (by with_reducible assumption) ?_
      rotate_left
      · intro wz hSw
        (try dsimp only at hSw)
        go_simp
        (try with_reducible rfl)
      show wpAnyH _ _ _ _ _ _ _ (Act.put _ (some 82) _) _
      (try simp only [Act.put, List.setIfInBounds_toArray, List.set_cons_zero, List.set_cons_succ])
      refine wpAnyH_take (i := 3) (v := ?_) rfl (by kernel_rfl) (by kernel_rfl) (by kernel_rfl) (fun _ _ _ h => h) (Or.inl ⟨by kernel_rfl, ?_⟩) (by with_reducible assumption) ?_
      rotate_left
      · intro wz hSw
        (try dsimp only at hSw)
        go_simp
        (try with_reducible rfl)
      show wpAnyH _ _ _ _ _ _ _ (Act.put _ (some 83) _) _
      (try simp only [Act.put, List.setIfInBounds_toArray, List.set_cons_zero, List.set_cons_succ])
      refine wpAnyH_take (i := 4) (v := ?_) rfl (by kernel_rfl) (by kernel_rfl) (by kernel_rfl) (fun _ _ _ h => h) (Or.inl ⟨by kernel_rfl, ?_⟩) (by with_reducible assumption) ?_
      rotate_left
      · intro wz hSw
        (try dsimp only at hSw)
        go_simp
        (try with_reducible rfl)
      show wpAnyH _ _ _ _ _ _ _ (Act.put _ (some 84) _) _
      (try simp only [Act.put, List.setIfInBounds_toArray, List.set_cons_zero, List.set_cons_succ])
      refine wpAnyH_take (i := 5) (v := .slice Am L.length Cm) rfl (by kernel_rfl) (by kernel_rfl) (by kernel_rfl) (fun _ _ _ h => h) (Or.inl ⟨by kernel_rfl, ?_⟩) (by with_reducible assumption) ?_
      · intro wz hSw
        (try dsimp only at hSw)
        have y0 := (hSw.cell (p := ⟨m, 0, none⟩) HMm.out.2).trans m0
        go_simp
        (try with_reducible rfl)
      show wpAnyH _ _ _ _ _ _ _ (Act.put _ (some 85) _) _
      (try simp only [Act.put, List.setIfInBounds_toArray, List.set_cons_zero, List.set_cons_succ])
      refine wpAnyH_ready (rs := [1]) (by kernel_rfl) (by simp) ?_
      refine AllReadyH.cons rfl (fun K hK => ?_) AllReadyH.nil
      clear hHeld
      go_simp
      go_at_call 14
      refine (all_live _ _ _ _ _ _ (HSs.out.below HB0.out).s HKs.out HLn.out).mono ?_
      rintro e Z1 ⟨⟨v4, rfl, ho4⟩, hb4⟩
      obtain ⟨A4, C4, rfl, hp4⟩ := Pr.of ho4
      have HB4 := Lib.hid (HB0.out.trans (hb4.mono HB0.out.size))
      have HP4 := Lib.hid hp4
      clear ho4 hp4 hb4
      go_wp2_with fail
      refine hK.out _ _ ?_ (fun hHeld => ?_)
      · exact HB4.out
      clear hK K
      (try simp only [Act.put, List.setIfInBounds_toArray, List.set_cons_zero, List.set_cons_succ])
      refine wpAnyH_ready (rs := [6]) (by kernel_rfl) (by simp) ?_
      refine AllReadyH.cons rfl (fun K hK => ?_) AllReadyH.nil
      clear hHeld
      go_simp
      go_at_call 13
      refine (same_walk A4 Am C4 Cm L L _ HP4.out (HMm.out.1.below HB4.out) HLn.out true ⟨fun _ => rfl, fun _ => rfl⟩).mono ?_
      rintro e Z6 ⟨rfl, hb9⟩
      have HB9 := Lib.hid (HB4.out.trans (hb9.mono HB4.out.size))
      clear hb9
      go_wp2_with fail
      refine hK.out _ _ ?_ (fun hHeld => ?_)
      · exact HB9.out
      clear hK K
      (try simp only [Act.put, List.setIfInBounds_toArray, List.set_cons_zero, List.set_cons_succ])
      refine wpAnyH_take (i := 7) (v := ?_) rfl (by kernel_rfl) (by kernel_rfl) (by kernel_rfl) (fun _ _ _ h => h) (Or.inl ⟨by kernel_rfl, ?_⟩) (by with_reducible assumption) ?_
      rotate_left
      · intro wz hSw
        (try dsimp only at hSw)
        go_simp
        (try with_reducible rfl)
      show wpAnyH _ _ _ _ _ _ _ (Act.put _ (some 87) _) _
      (try simp only [Act.put, List.setIfInBounds_toArray, List.set_cons_zero, List.set_cons_succ])
      refine wpAnyH_ready (rs := [8]) (by kernel_rfl) (by simp) ?_
      refine AllReadyH.cons rfl (fun K hK => ?_) AllReadyH.nil
      clear hHeld
      go_simp
      go_at_call 4
      refine (HLv.out _).mono ?_
      rintro e Z8 ⟨rfl, hb31⟩
      have HB31 := Lib.hid (HB9.out.trans (hb31.mono HB9.out.size))
      clear hb31
      go_wp2_with fail
      refine hK.out _ _ ?_ (fun hHeld => ?_)
      · exact HB31.out
      clear hK K
      (try simp only [Act.put, List.setIfInBounds_toArray, List.set_cons_zero, List.set_cons_succ])
      refine wpAnyH_take (i := 9) (v := ?_) rfl (by kernel_rfl) (by kernel_rfl) (by kernel_rfl) (fun _ _ _ h => h) (Or.inl ⟨by kernel_rfl, ?_⟩) (by with_reducible assumption) ?_
      rotate_left
      · intro wz hSw
        (try dsimp only at hSw)
        go_simp
        (try with_reducible rfl)
      show wpAnyH _ _ _ _ _ _ _ (Act.put _ (some 89) _) _
      (try simp only [Act.put, List.setIfInBounds_toArray, List.set_cons_zero, List.set_cons_succ])
      refine wpAnyH_take (i := 10) (v := ?_) rfl (by kernel_rfl) (by kernel_rfl) (by kernel_rfl) (fun _ _ _ h => h) (Or.inl ⟨by kernel_rfl, ?_⟩) (by with_reducible assumption) ?_
      rotate_left
      · intro wz hSw
        (try dsimp only at hSw)
        go_simp
        (try with_reducible rfl)
      show wpAnyH _ _ _ _ _ _ _ (Act.put _ (some 2) _) _
      (try simp only [Act.put, List.setIfInBounds_toArray, List.set_cons_zero, List.set_cons_succ])
      refine wpAnyH_done (by kernel_rfl) ?_ _
      go_wp2_with fail
      go_ret
      exact ⟨rfl, HSs.out.l.trans (HB31.out.mono HSs.out.l.size)⟩
  all_goals done
set_option maxRecDepth 100000 in
set_option maxHeartbeats 1000000 in
theorem bankActs_walk (A : Option Addr) (N C : Nat) (x0 : Nat → Bool) (x1 x2 x3 : Nat → Int) (a4 : Nat → Nat) (w : World) (hr : act17sAt w A N x0 x1 x2 x3 a4) (hN : (N : Int) ≤ 9223372036854775807) :
    Calls Tryz.prog 3 #[.slice A N C] w fun e w' => e = .returned (.bool true) ∧ Below w.heap.size w w' := by
  by_cases h : N ≤ 150
  · exact bankActs_go A N C x0 x1 x2 x3 a4 w hr h
  · have p1 : (150 : Int) < (N : Int) := by omega
    clear hr hN h
    go_enter Tryz.func3, Tryz.ntmps3
    go_wp2_with (go_at_call 4; refine (lives17_walk _).mono ?_; rintro e w2 ⟨rfl, hb⟩; have H2 := Lib.hid hb; clear hb)
    go_ret
    exact ⟨rfl, H2.out⟩
end Go.Proofs.YtffipojlpdphiaaGreat
