/- The law BankKeeps, walked. -/
import Derived.Test.YtffipojlpdphiaaG29
import Derived.Test.YtffipojlpdphiaaG30
import Derived.Test.YtffipojlpdphiaaG38
namespace Go.Proofs.Ytffipojlpdphiaa
open Go.RowKit Go.Maps Go.Sort

theorem setU4 {w : World} {g : Nat} {u0 u1 u2 u3 : Value} {T : TypeId} {fr : Nat × Nat} (v0 v1 v2 v3 : Value) (h : w.heap[g]? = some (.cells #[u0, u1, u2, u3] T fr))
  {W : World} (hW : W = (((w.setCell ⟨g, 0, none⟩ v0).setCell ⟨g, 1, none⟩ v1).setCell ⟨g, 2, none⟩ v2).setCell ⟨g, 3, none⟩ v3) :
  W.heap[g]? = some (.cells #[v0, v1, v2, v3] T fr) := by
 subst hW
 have := heap_setCell_row (o := 3) (heap_setCell_row (o := 2) (heap_setCell_row (o := 1) (heap_setCell_row (o := 0) h v0) v1) v2) v3
 simpa using this
set_option maxRecDepth 100000 in
set_option maxHeartbeats 16000000 in
theorem bankKeeps_go (A : Option Addr) (N C : Nat) (x0 : Nat → Bool) (x1 x2 x3 : Nat → Int) (a4 : Nat → Nat) (w : World) (hr : act17sAt w A N x0 x1 x2 x3 a4) (hN : N ≤ 150) :
  Calls Try.prog 4 #[.slice A N C] w fun e w' => e = .returned (.bool true) ∧ Below w.heap.size w w' := by
 have HR := Lib.hid hr
 have HLv := Lib.hid (fun w => lives17_walk w)
 have hNI : (N : Int) ≤ 150 := by omega
 clear hr hN
 go_enter Try.func4, Try.ntmps4
 go_upto_region 5 with (go_at_call 11; with_reducible refine (SNew.new w _ (Below.refl _ _)).mono ?_; rintro e w3 ⟨b, F1, rfl, hs1, _, _⟩; have H3 := Lib.hid hs1; clear hs1)
 obtain ⟨M, hM0⟩ : ∃ M, M = w3.heap.size := ⟨_, rfl⟩
 have hx4 := heap_alloc_new w3 (.cells #[.int .u64 0, .int .u64 0, .int .u64 0, .int .u64 0, .int .u64 0, .int .u64 0, .int .u64 0, .int .u64 0, .int .u64 0, .int .u64 0, .int .u64 0, .int .u64 0, .int .u64 0, .int .u64 0, .int .u64 0, .int .u64 0] 53)
 have hb4 := (Below.refl w3.heap.size w3).alloc (Nat.le_refl _) (.cells #[.int .u64 0, .int .u64 0, .int .u64 0, .int .u64 0, .int .u64 0, .int .u64 0, .int .u64 0, .int .u64 0, .int .u64 0, .int .u64 0, .int .u64 0, .int .u64 0, .int .u64 0, .int .u64 0, .int .u64 0, .int .u64 0] 53)
 rw [← hM0] at hx4 ⊢
 have HMg := Lib.hid (show w.heap.size ≤ M from by rw [hM0]; exact H3.out.l.size)
 have H4 := Lib.hid (And.intro (H3.out.below hb4) hx4)
 clear hx4 hb4 hM0
 generalize w3.alloc (.cells #[.int .u64 0, .int .u64 0, .int .u64 0, .int .u64 0, .int .u64 0, .int .u64 0, .int .u64 0, .int .u64 0, .int .u64 0, .int .u64 0, .int .u64 0, .int .u64 0, .int .u64 0, .int .u64 0, .int .u64 0, .int .u64 0] 53) = w4 at H4 ⊢
 go_wp2
 go_loopw [22] (fun i wr => ∃ (j : Nat) (F : List Nat) (q : Nat) (qs : List Value) (L : SL) (m1 m2 m3 : Nat), j ≤ N ∧ i = .int .i64 (j : Nat) ∧ SNew w wr b F L q qs ∧ q ≤ 2 * j ∧ BM L ∧ L.length ≤ 2 * j ∧ (m1 = amt L (kS 1) ∧ m2 = amt L (kS 2) ∧ m3 = amt L (kS 3)) ∧ wr.heap[M]? = some (.cells #[.int .u64 0, .int .u64 0, .int .u64 0, .int .u64 0, .int .u64 (limb m1 0 : Nat), .int .u64 (limb m1 1 : Nat), .int .u64 (limb m1 2 : Nat), .int .u64 (limb m1 3 : Nat), .int .u64 (limb m2 0 : Nat), .int .u64 (limb m2 1 : Nat), .int .u64 (limb m2 2 : Nat), .int .u64 (limb m2 3 : Nat), .int .u64 (limb m3 0 : Nat), .int .u64 (limb m3 1 : Nat), .int .u64 (limb m3 2 : Nat), .int .u64 (limb m3 3 : Nat)] 53 (0, 0))) (fun i _ => N - (intOf i).toNat)
 case atStart => exact ⟨0, F1, 0, [], [], 0, 0, 0, by omega, rfl, H4.out.1, by omega, BM.nil, by simp, ⟨by unfold amt; exact fbv_nil.symm, by unfold amt; exact fbv_nil.symm, by unfold amt; exact fbv_nil.symm⟩, H4.out.2⟩
 case round =>
  obtain ⟨j, F, q, qs, L, m1, m2, m3, hj, rfl, hs, hq, hM, hL, hms, hA⟩ := hrel
  by_cases hlt : j < N
  ·
   have p2 : (j : Int) < (N : Int) := by omega
   obtain ⟨g, o, rfl, hg, hc⟩ := (HR.out.rows.below hs.l) (by omega)
   have d0 := hc j hlt 0 _ rfl
   have d1 := hc j hlt 1 _ rfl
   have d2 := hc j hlt 2 _ rfl
   have d3 := hc j hlt 3 _ rfl
   have d4 := hc j hlt 4 _ rfl
   have d5 := hc j hlt 5 _ rfl
   have d6 := hc j hlt 6 _ rfl
   have d7 := hc j hlt 7 _ rfl
   simp only [Nat.add_zero] at d0
   have bn := HR.out.f3 j hlt
   obtain ⟨mt, em⟩ : ∃ y, y = x0 j := ⟨_, rfl⟩
   obtain ⟨t, et⟩ : ∃ y, y = x1 j := ⟨_, rfl⟩
   obtain ⟨f, ef⟩ : ∃ y, y = x2 j := ⟨_, rfl⟩
   obtain ⟨c, ec⟩ : ∃ y, y = x3 j := ⟨_, rfl⟩
   obtain ⟨n, en⟩ : ∃ y, y = a4 j := ⟨_, rfl⟩
   rw [← em] at d0
   rw [← et] at d1
   rw [← ef] at d2
   rw [← ec] at d3
   rw [← en] at d4 d5 d6 d7 bn
   have HQ := Lib.hid (And.intro hq (And.intro (show j < N ∧ N ≤ 150 by omega) hL))
   have HQ := Lib.hid (And.intro HQ.out.1 (And.intro (show j < 150 ∧ j < N by omega) HQ.out.2.2))
   have HSs := Lib.hid (And.intro hs (And.intro hM hA))
   have HMs := Lib.hid hms
   have HBn := Lib.hid bn
   clear hc hs hM hL hq hj em et ef ec en bn hA hms hlt
   by_cases hp : 1 ≤ t ∧ t ≤ 3
   ·
    have p3 : ¬ t < 1 := by omega
    have p4 : ¬ 3 < t := by omega
    have HPt := Lib.hid hp
    clear hp
    have hbx := (Below.refl wr.heap.size wr).alloc (Nat.le_refl _) (.cells #[.bool mt, .int .i64 t, .int .i64 f, .int .i64 c, .int .u64 (limb n 0 : Nat), .int .u64 (limb n 1 : Nat), .int .u64 (limb n 2 : Nat), .int .u64 (limb n 3 : Nat)] 55)
    have hx0 := heap_alloc_new wr (.cells #[.bool mt, .int .i64 t, .int .i64 f, .int .i64 c, .int .u64 (limb n 0 : Nat), .int .u64 (limb n 1 : Nat), .int .u64 (limb n 2 : Nat), .int .u64 (limb n 3 : Nat)] 55)
    have HX := Lib.hid (And.intro hbx hx0)
    clear hbx hx0
    cases mt
    ·
     -- Pay
     obtain ⟨er, L2, hM2, hL2, her, hsup, hO⟩ := keep_pay w b L HSs.out.2.1 (by have := HQ.out.2.2; have := HQ.out.2.1; omega) t f c n HBn.out
     have p9 : ¬ er < 0 := by omega
     unfold U at hO
     have HO := Lib.hid hO
     have HM2 := Lib.hid (And.intro hM2 hL2)
     have HNs := Lib.hid (show m1 = amt L2 (kS 1) ∧ m2 = amt L2 (kS 2) ∧ m3 = amt L2 (kS 3) from ⟨by rw [hsup 1 (by unfold okT; omega)]; exact HMs.out.1, by rw [hsup 2 (by unfold okT; omega)]; exact HMs.out.2.1, by rw [hsup 3 (by unfold okT; omega)]; exact HMs.out.2.2⟩)
     clear hO hM2 hL2 her hsup
     go_upto_region 16 with (go_at_call 26; refine (HO.out _ F q qs (HSs.out.1.below HX.out.1) (by have := HQ.out.1; have := HQ.out.2.1; omega)).mono ?_; rintro e w8 ⟨rfl, h2⟩; have k2 := LiveTo.keepT (HSs.out.1.below HX.out.1) h2 fArr17; obtain ⟨F2, q2, qs2, hs2, hq2, _⟩ := h2; have Hc := Lib.hid (And.intro hs2 (k2.2 _ _ _ ((HX.out.1.block _ (hp_lt HSs.out.2.2)).trans HSs.out.2.2))); have HQ2 := Lib.hid hq2; clear hs2 hq2 k2)
     obtain ⟨Wc, hWc⟩ : ∃ Wc, Wc = w8 := ⟨_, rfl⟩
     subst hWc
     go_wp2
     go_loopw [10] (fun x wi => ∃ k : Nat, 1 ≤ k ∧ k ≤ 4 ∧ x = .int .i64 (k : Nat) ∧ Below Wc.heap.size Wc wi) (fun x _ => 4 - (intOf x).toNat)
     case atStart => exact ⟨1, by omega, by omega, rfl, Below.refl _ _⟩
     case round =>
      obtain ⟨k, hk1, hk4, rfl, hbk⟩ := hrel
      have HBk := Lib.hid hbk
      clear hbk
      rcases (by omega : k = 4 ∨ k = 1 ∨ k = 2 ∨ k = 3) with rfl | rfl | rfl | rfl
      ·
       go_wp2
       exact ⟨⟨j + 1, F2, q2, qs2, L2, m1, m2, m3, by have := HQ.out.2.1; omega, by go_num, Hc.out.1.below HBk.out, by have := HQ2.out; have := HQ.out.1; omega, HM2.out.1, by have := HM2.out.2; have := HQ.out.2.2; omega, HNs.out, (HBk.out.block _ (hp_lt Hc.out.2)).trans Hc.out.2⟩, by simp [intOf]; omega⟩
      ·
       have hT := fun (W1 : World) (hb : Below Wc.heap.size Wc W1) => keep_total (Hc.out.1.below hb) HM2.out.1 (by have := HM2.out.2; have := HQ.out.2.2; have := HQ.out.2.1; omega) 1 (by unfold okT; omega) m1 HNs.out.1.symm
       obtain ⟨v, is, hv, hget⟩ := keep_get Hc.out.1 HM2.out.1 (kS 1) (kS_size 1)
       rw [← HNs.out.1] at hv
       have ha := amt_lt L2 (kS 1)
       rw [← HNs.out.1] at ha
       unfold U at hT
       have HT := Lib.hid hT
       have HG := Lib.hid hget
       have HS := Lib.hid (fun W => supply_is 1 (kS 1) rfl W (by omega))
       obtain ⟨K, eK⟩ : ∃ y, y = kS 1 := ⟨_, rfl⟩
       rw [← eK] at HG HS
       have e1 : ∀ w, (Op.equalIn 10000 52 (.agg #[.int .u64 (limb m1 0 : Nat), .int .u64 (limb m1 1 : Nat), .int .u64 (limb m1 2 : Nat), .int .u64 (limb m1 3 : Nat)]) (.agg #[.int .u64 (limb m1 0 : Nat), .int .u64 (limb m1 1 : Nat), .int .u64 (limb m1 2 : Nat), .int .u64 (limb m1 3 : Nat)])).run Try.prog w = .ok true w := fun w => by rw [eq_run ha ha]; simp
       have e2 := fun w => eq0_run ha w
       obtain ⟨ub, eub⟩ : ∃ y, y = decide (m1 = 0) := ⟨_, rfl⟩
       rw [← eub] at hv e2
       have q1 : (ub == ub) = true := beq_self_eq_true _
       clear hT hget eK ha eub
       go_upto_region 21 with (first
        | (go_at_call 28; refine (HG.out _ H3.out).mono ?_; rintro e w4 ⟨rfl, hb4⟩; have H4 := Lib.hid (H3.out.trans (hb4.mono H3.out.size)); have R4 := Lib.hid ((hb4.block _ (hp_lt R3.out)).trans R3.out); clear hb4)
        | (go_at_call 29; refine (HS.out _).mono ?_; rintro e w3 ⟨rfl, hb3⟩; have hbx := H2.out.alloc H2.out.size (.cells #[.int .u64 (limb m1 0 : Nat), .int .u64 (limb m1 1 : Nat), .int .u64 (limb m1 2 : Nat), .int .u64 (limb m1 3 : Nat)] 52); have H3 := Lib.hid (hbx.trans (hb3.mono hbx.size)); have R3 := Lib.hid ((hb3.block w2.heap.size (by simp)).trans (heap_alloc_new w2 (.cells #[.int .u64 (limb m1 0 : Nat), .int .u64 (limb m1 1 : Nat), .int .u64 (limb m1 2 : Nat), .int .u64 (limb m1 3 : Nat)] 52))); clear hb3 hbx)
        | (go_at_call 27; refine (HT.out _ HBk.out).mono ?_; rintro e w2 ⟨rfl, hb2⟩; have H2 := Lib.hid (HBk.out.trans (hb2.mono HBk.out.size)); clear hb2))
       obtain ⟨B, eB⟩ : ∃ y, y = w2.heap.size := ⟨_, rfl⟩
       rw [← eB] at R4 ⊢
       have LB := Lib.hid (hp_lt R4.out)
       have RM := Lib.hid ((H4.out.block _ (hp_lt Hc.out.2)).trans Hc.out.2)
       have LM := Lib.hid (hp_lt RM.out)
       clear eB
       refine wp_region_held_drew (S := fun w' => Below w4.heap.size w4 w') (by kernel_rfl) ?_ (fun hHeld => ?_)
       ·
        exact (Below.refl _ _).drew
       have HB0 := Lib.hid (show Below w4.heap.size w4 w4.drew from (Below.refl _ _).drew)
       generalize w4.drew = Y0 at HB0 hHeld ⊢
       refine wpAnyH_take (i := 0) (v := ?_) rfl (by kernel_rfl) (by kernel_rfl) (by kernel_rfl) (fun _ _ _ h => h) (Or.inl ⟨by kernel_rfl, ?_⟩) (by with_reducible assumption) ?_
       rotate_left
       ·
        intro wz hSw
        go_simp
        (try with_reducible rfl)
       show wpAnyH _ _ _ _ _ _ _ (Act.put _ (some 87) _) _
       (try simp only [Act.put, List.setIfInBounds_toArray, List.set_cons_zero, List.set_cons_succ])
       refine wpAnyH_take (i := 1) (v := ?_) rfl (by kernel_rfl) (by kernel_rfl) (by kernel_rfl) (fun _ _ _ h => h) (Or.inl ⟨by kernel_rfl, ?_⟩) (by with_reducible assumption) ?_
       rotate_left
       ·
        intro wz hSw
        go_simp
        (try with_reducible rfl)
       show wpAnyH _ _ _ _ _ _ _ (Act.put _ (some 88) _) _
       (try simp only [Act.put, List.setIfInBounds_toArray, List.set_cons_zero, List.set_cons_succ])
       refine wpAnyH_take (i := 2) (v := ?_) rfl (by kernel_rfl) (by kernel_rfl) (by kernel_rfl) (fun _ _ _ h => h) (Or.inl ⟨by kernel_rfl, ?_⟩) (by with_reducible assumption) ?_
       rotate_left
       ·
        intro wz hSw
        go_simp
        (try with_reducible rfl)
       show wpAnyH _ _ _ _ _ _ _ (Act.put _ (some 89) _) _
       (try simp only [Act.put, List.setIfInBounds_toArray, List.set_cons_zero, List.set_cons_succ])
       refine wpAnyH_take (i := 3) (v := .agg #[.int .u64 (limb m1 0 : Nat), .int .u64 (limb m1 1 : Nat), .int .u64 (limb m1 2 : Nat), .int .u64 (limb m1 3 : Nat)]) rfl (by kernel_rfl) (by kernel_rfl) (by kernel_rfl) (fun _ _ _ h => h) (Or.inl ⟨by kernel_rfl, ?_⟩) (by with_reducible assumption) ?_
       ·
        intro wz hSw
        (try dsimp only at hSw)
        have y0 := (hSw.cell (p := ⟨B, 0, none⟩) LB.out).trans ((hp_cell (i := 0) R4.out).trans rfl)
        have y1 := (hSw.cell (p := ⟨B, 1, none⟩) LB.out).trans ((hp_cell (i := 1) R4.out).trans rfl)
        have y2 := (hSw.cell (p := ⟨B, 2, none⟩) LB.out).trans ((hp_cell (i := 2) R4.out).trans rfl)
        have y3 := (hSw.cell (p := ⟨B, 3, none⟩) LB.out).trans ((hp_cell (i := 3) R4.out).trans rfl)
        go_simp
        (try with_reducible rfl)
       show wpAnyH _ _ _ _ _ _ _ (Act.put _ (some 90) _) _
       (try simp only [Act.put, List.setIfInBounds_toArray, List.set_cons_zero, List.set_cons_succ])
       refine wpAnyH_take (i := 4) (v := ?_) rfl (by kernel_rfl) (by kernel_rfl) (by kernel_rfl) (fun _ _ _ h => h) (Or.inl ⟨by kernel_rfl, ?_⟩) (by with_reducible assumption) ?_
       rotate_left
       ·
        intro wz hSw
        go_simp
        (try with_reducible rfl)
       show wpAnyH _ _ _ _ _ _ _ (Act.put _ (some 91) _) _
       (try simp only [Act.put, List.setIfInBounds_toArray, List.set_cons_zero, List.set_cons_succ])
       refine wpAnyH_take (i := 5) (v := ?_) rfl (by kernel_rfl) (by kernel_rfl) (by kernel_rfl) (fun _ _ _ h => h) (Or.inl ⟨by kernel_rfl, ?_⟩) (by with_reducible assumption) ?_
       rotate_left
       ·
        intro wz hSw
        go_simp
        (try with_reducible rfl)
       show wpAnyH _ _ _ _ _ _ _ (Act.put _ (some 92) _) _
       (try simp only [Act.put, List.setIfInBounds_toArray, List.set_cons_zero, List.set_cons_succ])
       refine wpAnyH_take (i := 6) (v := .agg #[.int .u64 (limb m1 0 : Nat), .int .u64 (limb m1 1 : Nat), .int .u64 (limb m1 2 : Nat), .int .u64 (limb m1 3 : Nat)]) rfl (by kernel_rfl) (by kernel_rfl) (by kernel_rfl) (fun _ _ _ h => h) (Or.inl ⟨by kernel_rfl, ?_⟩) (by with_reducible assumption) ?_
       ·
        intro wz hSw
        (try dsimp only at hSw)
        have y0 := (hSw.cell (p := ⟨M, 4, none⟩) LM.out).trans ((hp_cell (i := 4) RM.out).trans rfl)
        have y1 := (hSw.cell (p := ⟨M, 5, none⟩) LM.out).trans ((hp_cell (i := 5) RM.out).trans rfl)
        have y2 := (hSw.cell (p := ⟨M, 6, none⟩) LM.out).trans ((hp_cell (i := 6) RM.out).trans rfl)
        have y3 := (hSw.cell (p := ⟨M, 7, none⟩) LM.out).trans ((hp_cell (i := 7) RM.out).trans rfl)
        go_simp
        (try with_reducible rfl)
       show wpAnyH _ _ _ _ _ _ _ (Act.put _ (some 93) _) _
       (try simp only [Act.put, List.setIfInBounds_toArray, List.set_cons_zero, List.set_cons_succ])
       refine wpAnyH_take (i := 7) (v := ?_) rfl (by kernel_rfl) (by kernel_rfl) (by kernel_rfl) (fun _ _ _ h => h) (Or.inl ⟨by kernel_rfl, ?_⟩) (by with_reducible assumption) ?_
       rotate_left
       ·
        intro wz hSw
        go_simp
        (try with_reducible rfl)
       show wpAnyH _ _ _ _ _ _ _ (Act.put _ (some 94) _) _
       (try simp only [Act.put, List.setIfInBounds_toArray, List.set_cons_zero, List.set_cons_succ])
       refine wpAnyH_take (i := 8) (v := ?_) rfl (by kernel_rfl) (by kernel_rfl) (by kernel_rfl) (fun _ _ _ h => h) (Or.inl ⟨by kernel_rfl, ?_⟩) (by with_reducible assumption) ?_
       rotate_left
       ·
        intro wz hSw
        go_simp
        (try with_reducible rfl)
       show wpAnyH _ _ _ _ _ _ _ (Act.put _ (some 95) _) _
       (try simp only [Act.put, List.setIfInBounds_toArray, List.set_cons_zero, List.set_cons_succ])
       refine wpAnyH_take (i := 9) (v := ?_) rfl (by kernel_rfl) (by kernel_rfl) (by kernel_rfl) (fun _ _ _ h => h) (Or.inl ⟨by kernel_rfl, ?_⟩) (by with_reducible assumption) ?_
       rotate_left
       ·
        intro wz hSw
        go_simp
        (try with_reducible rfl)
       show wpAnyH _ _ _ _ _ _ _ (Act.put _ (some 96) _) _
       (try simp only [Act.put, List.setIfInBounds_toArray, List.set_cons_zero, List.set_cons_succ])
       refine wpAnyH_take (i := 10) (v := ?_) rfl (by kernel_rfl) (by kernel_rfl) (by kernel_rfl) (fun _ _ _ h => h) (Or.inl ⟨by kernel_rfl, ?_⟩) (by with_reducible assumption) ?_
       rotate_left
       ·
        intro wz hSw
        go_simp
        (try with_reducible rfl)
       show wpAnyH _ _ _ _ _ _ _ (Act.put _ (some 97) _) _
       (try simp only [Act.put, List.setIfInBounds_toArray, List.set_cons_zero, List.set_cons_succ])
       refine wpAnyH_take (i := 11) (v := ?_) rfl (by kernel_rfl) (by kernel_rfl) (by kernel_rfl) (fun _ _ _ h => h) (Or.inl ⟨by kernel_rfl, ?_⟩) (by with_reducible assumption) ?_
       rotate_left
       ·
        intro wz hSw
        go_simp
        (try with_reducible rfl)
       show wpAnyH _ _ _ _ _ _ _ (Act.put _ (some 98) _) _
       (try simp only [Act.put, List.setIfInBounds_toArray, List.set_cons_zero, List.set_cons_succ])
       refine wpAnyH_take (i := 12) (v := .agg #[.int .u64 (limb m1 0 : Nat), .int .u64 (limb m1 1 : Nat), .int .u64 (limb m1 2 : Nat), .int .u64 (limb m1 3 : Nat)]) rfl (by kernel_rfl) (by kernel_rfl) (by kernel_rfl) (fun _ _ _ h => h) (Or.inl ⟨by kernel_rfl, ?_⟩) (by with_reducible assumption) ?_
       ·
        intro wz hSw
        (try dsimp only at hSw)
        have y0 := (hSw.cell (p := ⟨B, 0, none⟩) LB.out).trans ((hp_cell (i := 0) R4.out).trans rfl)
        have y1 := (hSw.cell (p := ⟨B, 1, none⟩) LB.out).trans ((hp_cell (i := 1) R4.out).trans rfl)
        have y2 := (hSw.cell (p := ⟨B, 2, none⟩) LB.out).trans ((hp_cell (i := 2) R4.out).trans rfl)
        have y3 := (hSw.cell (p := ⟨B, 3, none⟩) LB.out).trans ((hp_cell (i := 3) R4.out).trans rfl)
        go_simp
        (try with_reducible rfl)
       show wpAnyH _ _ _ _ _ _ _ (Act.put _ (some 99) _) _
       (try simp only [Act.put, List.setIfInBounds_toArray, List.set_cons_zero, List.set_cons_succ])
       refine wpAnyH_take (i := 13) (v := ?_) rfl (by kernel_rfl) (by kernel_rfl) (by kernel_rfl) (fun _ _ _ h => h) (Or.inl ⟨by kernel_rfl, ?_⟩) (by with_reducible assumption) ?_
       rotate_left
       ·
        intro wz hSw
        go_simp
        (try with_reducible rfl)
       show wpAnyH _ _ _ _ _ _ _ (Act.put _ (some 100) _) _
       (try simp only [Act.put, List.setIfInBounds_toArray, List.set_cons_zero, List.set_cons_succ])
       refine wpAnyH_take (i := 14) (v := ?_) rfl (by kernel_rfl) (by kernel_rfl) (by kernel_rfl) (fun _ _ _ h => h) (Or.inl ⟨by kernel_rfl, ?_⟩) (by with_reducible assumption) ?_
       rotate_left
       ·
        intro wz hSw
        go_simp
        (try with_reducible rfl)
       show wpAnyH _ _ _ _ _ _ _ (Act.put _ (some 101) _) _
       (try simp only [Act.put, List.setIfInBounds_toArray, List.set_cons_zero, List.set_cons_succ])
       refine wpAnyH_take (i := 15) (v := ?_) rfl (by kernel_rfl) (by kernel_rfl) (by kernel_rfl) (fun _ _ _ h => h) (Or.inl ⟨by kernel_rfl, ?_⟩) (by with_reducible assumption) ?_
       rotate_left
       ·
        intro wz hSw
        go_simp
        (try with_reducible rfl)
       show wpAnyH _ _ _ _ _ _ _ (Act.put _ (some 102) _) _
       (try simp only [Act.put, List.setIfInBounds_toArray, List.set_cons_zero, List.set_cons_succ])
       refine wpAnyH_take (i := 16) (v := ?_) rfl (by kernel_rfl) (by kernel_rfl) (by kernel_rfl) (fun _ _ _ h => h) (Or.inl ⟨by kernel_rfl, ?_⟩) (by with_reducible assumption) ?_
       rotate_left
       ·
        intro wz hSw
        go_simp
        (try with_reducible rfl)
       show wpAnyH _ _ _ _ _ _ _ (Act.put _ (some 103) _) _
       (try simp only [Act.put, List.setIfInBounds_toArray, List.set_cons_zero, List.set_cons_succ])
       refine wpAnyH_take (i := 17) (v := ?_) rfl (by kernel_rfl) (by kernel_rfl) (by kernel_rfl) (fun _ _ _ h => h) (Or.inl ⟨by kernel_rfl, ?_⟩) (by with_reducible assumption) ?_
       rotate_left
       ·
        intro wz hSw
        go_simp
        (try with_reducible rfl)
       show wpAnyH _ _ _ _ _ _ _ (Act.put _ (some 104) _) _
       (try simp only [Act.put, List.setIfInBounds_toArray, List.set_cons_zero, List.set_cons_succ])
       refine wpAnyH_take (i := 18) (v := ?_) rfl (by kernel_rfl) (by kernel_rfl) (by kernel_rfl) (fun _ _ _ h => h) (Or.inl ⟨by kernel_rfl, ?_⟩) (by with_reducible assumption) ?_
       rotate_left
       ·
        intro wz hSw
        go_simp
        (try with_reducible rfl)
       show wpAnyH _ _ _ _ _ _ _ (Act.put _ (some 105) _) _
       (try simp only [Act.put, List.setIfInBounds_toArray, List.set_cons_zero, List.set_cons_succ])
       refine wpAnyH_take (i := 19) (v := ?_) rfl (by kernel_rfl) (by kernel_rfl) (by kernel_rfl) (fun _ _ _ h => h) (Or.inl ⟨by kernel_rfl, ?_⟩) (by with_reducible assumption) ?_
       rotate_left
       ·
        intro wz hSw
        go_simp
        (try with_reducible rfl)
       show wpAnyH _ _ _ _ _ _ _ (Act.put _ (some 106) _) _
       (try simp only [Act.put, List.setIfInBounds_toArray, List.set_cons_zero, List.set_cons_succ])
       refine wpAnyH_take (i := 20) (v := ?_) rfl (by kernel_rfl) (by kernel_rfl) (by kernel_rfl) (fun _ _ _ h => h) (Or.inl ⟨by kernel_rfl, ?_⟩) (by with_reducible assumption) ?_
       rotate_left
       ·
        intro wz hSw
        go_simp
        (try with_reducible rfl)
       show wpAnyH _ _ _ _ _ _ _ (Act.put _ (some 107) _) _
       (try simp only [Act.put, List.setIfInBounds_toArray, List.set_cons_zero, List.set_cons_succ])
       refine wpAnyH_done (by kernel_rfl) ?_ _
       go_wp2_with fail
       exact ⟨⟨2, by omega, by omega, by go_num, H4.out.trans (HB0.out.mono H4.out.size)⟩, by simp [intOf]⟩
      ·
       have hT := fun (W1 : World) (hb : Below Wc.heap.size Wc W1) => keep_total (Hc.out.1.below hb) HM2.out.1 (by have := HM2.out.2; have := HQ.out.2.2; have := HQ.out.2.1; omega) 2 (by unfold okT; omega) m2 HNs.out.2.1.symm
       obtain ⟨v, is, hv, hget⟩ := keep_get Hc.out.1 HM2.out.1 (kS 2) (kS_size 2)
       rw [← HNs.out.2.1] at hv
       have ha := amt_lt L2 (kS 2)
       rw [← HNs.out.2.1] at ha
       unfold U at hT
       have HT := Lib.hid hT
       have HG := Lib.hid hget
       have HS := Lib.hid (fun W => supply_is 2 (kS 2) rfl W (by omega))
       obtain ⟨K, eK⟩ : ∃ y, y = kS 2 := ⟨_, rfl⟩
       rw [← eK] at HG HS
       have e1 : ∀ w, (Op.equalIn 10000 52 (.agg #[.int .u64 (limb m2 0 : Nat), .int .u64 (limb m2 1 : Nat), .int .u64 (limb m2 2 : Nat), .int .u64 (limb m2 3 : Nat)]) (.agg #[.int .u64 (limb m2 0 : Nat), .int .u64 (limb m2 1 : Nat), .int .u64 (limb m2 2 : Nat), .int .u64 (limb m2 3 : Nat)])).run Try.prog w = .ok true w := fun w => by rw [eq_run ha ha]; simp
       have e2 := fun w => eq0_run ha w
       obtain ⟨ub, eub⟩ : ∃ y, y = decide (m2 = 0) := ⟨_, rfl⟩
       rw [← eub] at hv e2
       have q1 : (ub == ub) = true := beq_self_eq_true _
       clear hT hget eK ha eub
       go_upto_region 21 with (first
        | (go_at_call 28; refine (HG.out _ H3.out).mono ?_; rintro e w4 ⟨rfl, hb4⟩; have H4 := Lib.hid (H3.out.trans (hb4.mono H3.out.size)); have R4 := Lib.hid ((hb4.block _ (hp_lt R3.out)).trans R3.out); clear hb4)
        | (go_at_call 29; refine (HS.out _).mono ?_; rintro e w3 ⟨rfl, hb3⟩; have hbx := H2.out.alloc H2.out.size (.cells #[.int .u64 (limb m2 0 : Nat), .int .u64 (limb m2 1 : Nat), .int .u64 (limb m2 2 : Nat), .int .u64 (limb m2 3 : Nat)] 52); have H3 := Lib.hid (hbx.trans (hb3.mono hbx.size)); have R3 := Lib.hid ((hb3.block w2.heap.size (by simp)).trans (heap_alloc_new w2 (.cells #[.int .u64 (limb m2 0 : Nat), .int .u64 (limb m2 1 : Nat), .int .u64 (limb m2 2 : Nat), .int .u64 (limb m2 3 : Nat)] 52))); clear hb3 hbx)
        | (go_at_call 27; refine (HT.out _ HBk.out).mono ?_; rintro e w2 ⟨rfl, hb2⟩; have H2 := Lib.hid (HBk.out.trans (hb2.mono HBk.out.size)); clear hb2))
       obtain ⟨B, eB⟩ : ∃ y, y = w2.heap.size := ⟨_, rfl⟩
       rw [← eB] at R4 ⊢
       have LB := Lib.hid (hp_lt R4.out)
       have RM := Lib.hid ((H4.out.block _ (hp_lt Hc.out.2)).trans Hc.out.2)
       have LM := Lib.hid (hp_lt RM.out)
       clear eB
       refine wp_region_held_drew (S := fun w' => Below w4.heap.size w4 w') (by kernel_rfl) ?_ (fun hHeld => ?_)
       ·
        exact (Below.refl _ _).drew
       have HB0 := Lib.hid (show Below w4.heap.size w4 w4.drew from (Below.refl _ _).drew)
       generalize w4.drew = Y0 at HB0 hHeld ⊢
       refine wpAnyH_take (i := 0) (v := ?_) rfl (by kernel_rfl) (by kernel_rfl) (by kernel_rfl) (fun _ _ _ h => h) (Or.inl ⟨by kernel_rfl, ?_⟩) (by with_reducible assumption) ?_
       rotate_left
       ·
        intro wz hSw
        go_simp
        (try with_reducible rfl)
       show wpAnyH _ _ _ _ _ _ _ (Act.put _ (some 87) _) _
       (try simp only [Act.put, List.setIfInBounds_toArray, List.set_cons_zero, List.set_cons_succ])
       refine wpAnyH_take (i := 1) (v := ?_) rfl (by kernel_rfl) (by kernel_rfl) (by kernel_rfl) (fun _ _ _ h => h) (Or.inl ⟨by kernel_rfl, ?_⟩) (by with_reducible assumption) ?_
       rotate_left
       ·
        intro wz hSw
        go_simp
        (try with_reducible rfl)
       show wpAnyH _ _ _ _ _ _ _ (Act.put _ (some 88) _) _
       (try simp only [Act.put, List.setIfInBounds_toArray, List.set_cons_zero, List.set_cons_succ])
       refine wpAnyH_take (i := 2) (v := ?_) rfl (by kernel_rfl) (by kernel_rfl) (by kernel_rfl) (fun _ _ _ h => h) (Or.inl ⟨by kernel_rfl, ?_⟩) (by with_reducible assumption) ?_
       rotate_left
       ·
        intro wz hSw
        go_simp
        (try with_reducible rfl)
       show wpAnyH _ _ _ _ _ _ _ (Act.put _ (some 89) _) _
       (try simp only [Act.put, List.setIfInBounds_toArray, List.set_cons_zero, List.set_cons_succ])
       refine wpAnyH_take (i := 3) (v := .agg #[.int .u64 (limb m2 0 : Nat), .int .u64 (limb m2 1 : Nat), .int .u64 (limb m2 2 : Nat), .int .u64 (limb m2 3 : Nat)]) rfl (by kernel_rfl) (by kernel_rfl) (by kernel_rfl) (fun _ _ _ h => h) (Or.inl ⟨by kernel_rfl, ?_⟩) (by with_reducible assumption) ?_
       ·
        intro wz hSw
        (try dsimp only at hSw)
        have y0 := (hSw.cell (p := ⟨B, 0, none⟩) LB.out).trans ((hp_cell (i := 0) R4.out).trans rfl)
        have y1 := (hSw.cell (p := ⟨B, 1, none⟩) LB.out).trans ((hp_cell (i := 1) R4.out).trans rfl)
        have y2 := (hSw.cell (p := ⟨B, 2, none⟩) LB.out).trans ((hp_cell (i := 2) R4.out).trans rfl)
        have y3 := (hSw.cell (p := ⟨B, 3, none⟩) LB.out).trans ((hp_cell (i := 3) R4.out).trans rfl)
        go_simp
        (try with_reducible rfl)
       show wpAnyH _ _ _ _ _ _ _ (Act.put _ (some 90) _) _
       (try simp only [Act.put, List.setIfInBounds_toArray, List.set_cons_zero, List.set_cons_succ])
       refine wpAnyH_take (i := 4) (v := ?_) rfl (by kernel_rfl) (by kernel_rfl) (by kernel_rfl) (fun _ _ _ h => h) (Or.inl ⟨by kernel_rfl, ?_⟩) (by with_reducible assumption) ?_
       rotate_left
       ·
        intro wz hSw
        go_simp
        (try with_reducible rfl)
       show wpAnyH _ _ _ _ _ _ _ (Act.put _ (some 91) _) _
       (try simp only [Act.put, List.setIfInBounds_toArray, List.set_cons_zero, List.set_cons_succ])
       refine wpAnyH_take (i := 5) (v := ?_) rfl (by kernel_rfl) (by kernel_rfl) (by kernel_rfl) (fun _ _ _ h => h) (Or.inl ⟨by kernel_rfl, ?_⟩) (by with_reducible assumption) ?_
       rotate_left
       ·
        intro wz hSw
        go_simp
        (try with_reducible rfl)
       show wpAnyH _ _ _ _ _ _ _ (Act.put _ (some 92) _) _
       (try simp only [Act.put, List.setIfInBounds_toArray, List.set_cons_zero, List.set_cons_succ])
       refine wpAnyH_take (i := 6) (v := .agg #[.int .u64 (limb m2 0 : Nat), .int .u64 (limb m2 1 : Nat), .int .u64 (limb m2 2 : Nat), .int .u64 (limb m2 3 : Nat)]) rfl (by kernel_rfl) (by kernel_rfl) (by kernel_rfl) (fun _ _ _ h => h) (Or.inl ⟨by kernel_rfl, ?_⟩) (by with_reducible assumption) ?_
       ·
        intro wz hSw
        (try dsimp only at hSw)
        have y0 := (hSw.cell (p := ⟨M, 8, none⟩) LM.out).trans ((hp_cell (i := 8) RM.out).trans rfl)
        have y1 := (hSw.cell (p := ⟨M, 9, none⟩) LM.out).trans ((hp_cell (i := 9) RM.out).trans rfl)
        have y2 := (hSw.cell (p := ⟨M, 10, none⟩) LM.out).trans ((hp_cell (i := 10) RM.out).trans rfl)
        have y3 := (hSw.cell (p := ⟨M, 11, none⟩) LM.out).trans ((hp_cell (i := 11) RM.out).trans rfl)
        go_simp
        (try with_reducible rfl)
       show wpAnyH _ _ _ _ _ _ _ (Act.put _ (some 93) _) _
       (try simp only [Act.put, List.setIfInBounds_toArray, List.set_cons_zero, List.set_cons_succ])
       refine wpAnyH_take (i := 7) (v := ?_) rfl (by kernel_rfl) (by kernel_rfl) (by kernel_rfl) (fun _ _ _ h => h) (Or.inl ⟨by kernel_rfl, ?_⟩) (by with_reducible assumption) ?_
       rotate_left
       ·
        intro wz hSw
        go_simp
        (try with_reducible rfl)
       show wpAnyH _ _ _ _ _ _ _ (Act.put _ (some 94) _) _
       (try simp only [Act.put, List.setIfInBounds_toArray, List.set_cons_zero, List.set_cons_succ])
       refine wpAnyH_take (i := 8) (v := ?_) rfl (by kernel_rfl) (by kernel_rfl) (by kernel_rfl) (fun _ _ _ h => h) (Or.inl ⟨by kernel_rfl, ?_⟩) (by with_reducible assumption) ?_
       rotate_left
       ·
        intro wz hSw
        go_simp
        (try with_reducible rfl)
       show wpAnyH _ _ _ _ _ _ _ (Act.put _ (some 95) _) _
       (try simp only [Act.put, List.setIfInBounds_toArray, List.set_cons_zero, List.set_cons_succ])
       refine wpAnyH_take (i := 9) (v := ?_) rfl (by kernel_rfl) (by kernel_rfl) (by kernel_rfl) (fun _ _ _ h => h) (Or.inl ⟨by kernel_rfl, ?_⟩) (by with_reducible assumption) ?_
       rotate_left
       ·
        intro wz hSw
        go_simp
        (try with_reducible rfl)
       show wpAnyH _ _ _ _ _ _ _ (Act.put _ (some 96) _) _
       (try simp only [Act.put, List.setIfInBounds_toArray, List.set_cons_zero, List.set_cons_succ])
       refine wpAnyH_take (i := 10) (v := ?_) rfl (by kernel_rfl) (by kernel_rfl) (by kernel_rfl) (fun _ _ _ h => h) (Or.inl ⟨by kernel_rfl, ?_⟩) (by with_reducible assumption) ?_
       rotate_left
       ·
        intro wz hSw
        go_simp
        (try with_reducible rfl)
       show wpAnyH _ _ _ _ _ _ _ (Act.put _ (some 97) _) _
       (try simp only [Act.put, List.setIfInBounds_toArray, List.set_cons_zero, List.set_cons_succ])
       refine wpAnyH_take (i := 11) (v := ?_) rfl (by kernel_rfl) (by kernel_rfl) (by kernel_rfl) (fun _ _ _ h => h) (Or.inl ⟨by kernel_rfl, ?_⟩) (by with_reducible assumption) ?_
       rotate_left
       ·
        intro wz hSw
        go_simp
        (try with_reducible rfl)
       show wpAnyH _ _ _ _ _ _ _ (Act.put _ (some 98) _) _
       (try simp only [Act.put, List.setIfInBounds_toArray, List.set_cons_zero, List.set_cons_succ])
       refine wpAnyH_take (i := 12) (v := .agg #[.int .u64 (limb m2 0 : Nat), .int .u64 (limb m2 1 : Nat), .int .u64 (limb m2 2 : Nat), .int .u64 (limb m2 3 : Nat)]) rfl (by kernel_rfl) (by kernel_rfl) (by kernel_rfl) (fun _ _ _ h => h) (Or.inl ⟨by kernel_rfl, ?_⟩) (by with_reducible assumption) ?_
       ·
        intro wz hSw
        (try dsimp only at hSw)
        have y0 := (hSw.cell (p := ⟨B, 0, none⟩) LB.out).trans ((hp_cell (i := 0) R4.out).trans rfl)
        have y1 := (hSw.cell (p := ⟨B, 1, none⟩) LB.out).trans ((hp_cell (i := 1) R4.out).trans rfl)
        have y2 := (hSw.cell (p := ⟨B, 2, none⟩) LB.out).trans ((hp_cell (i := 2) R4.out).trans rfl)
        have y3 := (hSw.cell (p := ⟨B, 3, none⟩) LB.out).trans ((hp_cell (i := 3) R4.out).trans rfl)
        go_simp
        (try with_reducible rfl)
       show wpAnyH _ _ _ _ _ _ _ (Act.put _ (some 99) _) _
       (try simp only [Act.put, List.setIfInBounds_toArray, List.set_cons_zero, List.set_cons_succ])
       refine wpAnyH_take (i := 13) (v := ?_) rfl (by kernel_rfl) (by kernel_rfl) (by kernel_rfl) (fun _ _ _ h => h) (Or.inl ⟨by kernel_rfl, ?_⟩) (by with_reducible assumption) ?_
       rotate_left
       ·
        intro wz hSw
        go_simp
        (try with_reducible rfl)
       show wpAnyH _ _ _ _ _ _ _ (Act.put _ (some 100) _) _
       (try simp only [Act.put, List.setIfInBounds_toArray, List.set_cons_zero, List.set_cons_succ])
       refine wpAnyH_take (i := 14) (v := ?_) rfl (by kernel_rfl) (by kernel_rfl) (by kernel_rfl) (fun _ _ _ h => h) (Or.inl ⟨by kernel_rfl, ?_⟩) (by with_reducible assumption) ?_
       rotate_left
       ·
        intro wz hSw
        go_simp
        (try with_reducible rfl)
       show wpAnyH _ _ _ _ _ _ _ (Act.put _ (some 101) _) _
       (try simp only [Act.put, List.setIfInBounds_toArray, List.set_cons_zero, List.set_cons_succ])
       refine wpAnyH_take (i := 15) (v := ?_) rfl (by kernel_rfl) (by kernel_rfl) (by kernel_rfl) (fun _ _ _ h => h) (Or.inl ⟨by kernel_rfl, ?_⟩) (by with_reducible assumption) ?_
       rotate_left
       ·
        intro wz hSw
        go_simp
        (try with_reducible rfl)
       show wpAnyH _ _ _ _ _ _ _ (Act.put _ (some 102) _) _
       (try simp only [Act.put, List.setIfInBounds_toArray, List.set_cons_zero, List.set_cons_succ])
       refine wpAnyH_take (i := 16) (v := ?_) rfl (by kernel_rfl) (by kernel_rfl) (by kernel_rfl) (fun _ _ _ h => h) (Or.inl ⟨by kernel_rfl, ?_⟩) (by with_reducible assumption) ?_
       rotate_left
       ·
        intro wz hSw
        go_simp
        (try with_reducible rfl)
       show wpAnyH _ _ _ _ _ _ _ (Act.put _ (some 103) _) _
       (try simp only [Act.put, List.setIfInBounds_toArray, List.set_cons_zero, List.set_cons_succ])
       refine wpAnyH_take (i := 17) (v := ?_) rfl (by kernel_rfl) (by kernel_rfl) (by kernel_rfl) (fun _ _ _ h => h) (Or.inl ⟨by kernel_rfl, ?_⟩) (by with_reducible assumption) ?_
       rotate_left
       ·
        intro wz hSw
        go_simp
        (try with_reducible rfl)
       show wpAnyH _ _ _ _ _ _ _ (Act.put _ (some 104) _) _
       (try simp only [Act.put, List.setIfInBounds_toArray, List.set_cons_zero, List.set_cons_succ])
       refine wpAnyH_take (i := 18) (v := ?_) rfl (by kernel_rfl) (by kernel_rfl) (by kernel_rfl) (fun _ _ _ h => h) (Or.inl ⟨by kernel_rfl, ?_⟩) (by with_reducible assumption) ?_
       rotate_left
       ·
        intro wz hSw
        go_simp
        (try with_reducible rfl)
       show wpAnyH _ _ _ _ _ _ _ (Act.put _ (some 105) _) _
       (try simp only [Act.put, List.setIfInBounds_toArray, List.set_cons_zero, List.set_cons_succ])
       refine wpAnyH_take (i := 19) (v := ?_) rfl (by kernel_rfl) (by kernel_rfl) (by kernel_rfl) (fun _ _ _ h => h) (Or.inl ⟨by kernel_rfl, ?_⟩) (by with_reducible assumption) ?_
       rotate_left
       ·
        intro wz hSw
        go_simp
        (try with_reducible rfl)
       show wpAnyH _ _ _ _ _ _ _ (Act.put _ (some 106) _) _
       (try simp only [Act.put, List.setIfInBounds_toArray, List.set_cons_zero, List.set_cons_succ])
       refine wpAnyH_take (i := 20) (v := ?_) rfl (by kernel_rfl) (by kernel_rfl) (by kernel_rfl) (fun _ _ _ h => h) (Or.inl ⟨by kernel_rfl, ?_⟩) (by with_reducible assumption) ?_
       rotate_left
       ·
        intro wz hSw
        go_simp
        (try with_reducible rfl)
       show wpAnyH _ _ _ _ _ _ _ (Act.put _ (some 107) _) _
       (try simp only [Act.put, List.setIfInBounds_toArray, List.set_cons_zero, List.set_cons_succ])
       refine wpAnyH_done (by kernel_rfl) ?_ _
       go_wp2_with fail
       exact ⟨⟨3, by omega, by omega, by go_num, H4.out.trans (HB0.out.mono H4.out.size)⟩, by simp [intOf]⟩
      ·
       have hT := fun (W1 : World) (hb : Below Wc.heap.size Wc W1) => keep_total (Hc.out.1.below hb) HM2.out.1 (by have := HM2.out.2; have := HQ.out.2.2; have := HQ.out.2.1; omega) 3 (by unfold okT; omega) m3 HNs.out.2.2.symm
       obtain ⟨v, is, hv, hget⟩ := keep_get Hc.out.1 HM2.out.1 (kS 3) (kS_size 3)
       rw [← HNs.out.2.2] at hv
       have ha := amt_lt L2 (kS 3)
       rw [← HNs.out.2.2] at ha
       unfold U at hT
       have HT := Lib.hid hT
       have HG := Lib.hid hget
       have HS := Lib.hid (fun W => supply_is 3 (kS 3) rfl W (by omega))
       obtain ⟨K, eK⟩ : ∃ y, y = kS 3 := ⟨_, rfl⟩
       rw [← eK] at HG HS
       have e1 : ∀ w, (Op.equalIn 10000 52 (.agg #[.int .u64 (limb m3 0 : Nat), .int .u64 (limb m3 1 : Nat), .int .u64 (limb m3 2 : Nat), .int .u64 (limb m3 3 : Nat)]) (.agg #[.int .u64 (limb m3 0 : Nat), .int .u64 (limb m3 1 : Nat), .int .u64 (limb m3 2 : Nat), .int .u64 (limb m3 3 : Nat)])).run Try.prog w = .ok true w := fun w => by rw [eq_run ha ha]; simp
       have e2 := fun w => eq0_run ha w
       obtain ⟨ub, eub⟩ : ∃ y, y = decide (m3 = 0) := ⟨_, rfl⟩
       rw [← eub] at hv e2
       have q1 : (ub == ub) = true := beq_self_eq_true _
       clear hT hget eK ha eub
       go_upto_region 21 with (first
        | (go_at_call 28; refine (HG.out _ H3.out).mono ?_; rintro e w4 ⟨rfl, hb4⟩; have H4 := Lib.hid (H3.out.trans (hb4.mono H3.out.size)); have R4 := Lib.hid ((hb4.block _ (hp_lt R3.out)).trans R3.out); clear hb4)
        | (go_at_call 29; refine (HS.out _).mono ?_; rintro e w3 ⟨rfl, hb3⟩; have hbx := H2.out.alloc H2.out.size (.cells #[.int .u64 (limb m3 0 : Nat), .int .u64 (limb m3 1 : Nat), .int .u64 (limb m3 2 : Nat), .int .u64 (limb m3 3 : Nat)] 52); have H3 := Lib.hid (hbx.trans (hb3.mono hbx.size)); have R3 := Lib.hid ((hb3.block w2.heap.size (by simp)).trans (heap_alloc_new w2 (.cells #[.int .u64 (limb m3 0 : Nat), .int .u64 (limb m3 1 : Nat), .int .u64 (limb m3 2 : Nat), .int .u64 (limb m3 3 : Nat)] 52))); clear hb3 hbx)
        | (go_at_call 27; refine (HT.out _ HBk.out).mono ?_; rintro e w2 ⟨rfl, hb2⟩; have H2 := Lib.hid (HBk.out.trans (hb2.mono HBk.out.size)); clear hb2))
       obtain ⟨B, eB⟩ : ∃ y, y = w2.heap.size := ⟨_, rfl⟩
       rw [← eB] at R4 ⊢
       have LB := Lib.hid (hp_lt R4.out)
       have RM := Lib.hid ((H4.out.block _ (hp_lt Hc.out.2)).trans Hc.out.2)
       have LM := Lib.hid (hp_lt RM.out)
       clear eB
       refine wp_region_held_drew (S := fun w' => Below w4.heap.size w4 w') (by kernel_rfl) ?_ (fun hHeld => ?_)
       ·
        exact (Below.refl _ _).drew
       have HB0 := Lib.hid (show Below w4.heap.size w4 w4.drew from (Below.refl _ _).drew)
       generalize w4.drew = Y0 at HB0 hHeld ⊢
       refine wpAnyH_take (i := 0) (v := ?_) rfl (by kernel_rfl) (by kernel_rfl) (by kernel_rfl) (fun _ _ _ h => h) (Or.inl ⟨by kernel_rfl, ?_⟩) (by with_reducible assumption) ?_
       rotate_left
       ·
        intro wz hSw
        go_simp
        (try with_reducible rfl)
       show wpAnyH _ _ _ _ _ _ _ (Act.put _ (some 87) _) _
       (try simp only [Act.put, List.setIfInBounds_toArray, List.set_cons_zero, List.set_cons_succ])
       refine wpAnyH_take (i := 1) (v := ?_) rfl (by kernel_rfl) (by kernel_rfl) (by kernel_rfl) (fun _ _ _ h => h) (Or.inl ⟨by kernel_rfl, ?_⟩) (by with_reducible assumption) ?_
       rotate_left
       ·
        intro wz hSw
        go_simp
        (try with_reducible rfl)
       show wpAnyH _ _ _ _ _ _ _ (Act.put _ (some 88) _) _
       (try simp only [Act.put, List.setIfInBounds_toArray, List.set_cons_zero, List.set_cons_succ])
       refine wpAnyH_take (i := 2) (v := ?_) rfl (by kernel_rfl) (by kernel_rfl) (by kernel_rfl) (fun _ _ _ h => h) (Or.inl ⟨by kernel_rfl, ?_⟩) (by with_reducible assumption) ?_
       rotate_left
       ·
        intro wz hSw
        go_simp
        (try with_reducible rfl)
       show wpAnyH _ _ _ _ _ _ _ (Act.put _ (some 89) _) _
       (try simp only [Act.put, List.setIfInBounds_toArray, List.set_cons_zero, List.set_cons_succ])
       refine wpAnyH_take (i := 3) (v := .agg #[.int .u64 (limb m3 0 : Nat), .int .u64 (limb m3 1 : Nat), .int .u64 (limb m3 2 : Nat), .int .u64 (limb m3 3 : Nat)]) rfl (by kernel_rfl) (by kernel_rfl) (by kernel_rfl) (fun _ _ _ h => h) (Or.inl ⟨by kernel_rfl, ?_⟩) (by with_reducible assumption) ?_
       ·
        intro wz hSw
        (try dsimp only at hSw)
        have y0 := (hSw.cell (p := ⟨B, 0, none⟩) LB.out).trans ((hp_cell (i := 0) R4.out).trans rfl)
        have y1 := (hSw.cell (p := ⟨B, 1, none⟩) LB.out).trans ((hp_cell (i := 1) R4.out).trans rfl)
        have y2 := (hSw.cell (p := ⟨B, 2, none⟩) LB.out).trans ((hp_cell (i := 2) R4.out).trans rfl)
        have y3 := (hSw.cell (p := ⟨B, 3, none⟩) LB.out).trans ((hp_cell (i := 3) R4.out).trans rfl)
        go_simp
        (try with_reducible rfl)
       show wpAnyH _ _ _ _ _ _ _ (Act.put _ (some 90) _) _
       (try simp only [Act.put, List.setIfInBounds_toArray, List.set_cons_zero, List.set_cons_succ])
       refine wpAnyH_take (i := 4) (v := ?_) rfl (by kernel_rfl) (by kernel_rfl) (by kernel_rfl) (fun _ _ _ h => h) (Or.inl ⟨by kernel_rfl, ?_⟩) (by with_reducible assumption) ?_
       rotate_left
       ·
        intro wz hSw
        go_simp
        (try with_reducible rfl)
       show wpAnyH _ _ _ _ _ _ _ (Act.put _ (some 91) _) _
       (try simp only [Act.put, List.setIfInBounds_toArray, List.set_cons_zero, List.set_cons_succ])
       refine wpAnyH_take (i := 5) (v := ?_) rfl (by kernel_rfl) (by kernel_rfl) (by kernel_rfl) (fun _ _ _ h => h) (Or.inl ⟨by kernel_rfl, ?_⟩) (by with_reducible assumption) ?_
       rotate_left
       ·
        intro wz hSw
        go_simp
        (try with_reducible rfl)
       show wpAnyH _ _ _ _ _ _ _ (Act.put _ (some 92) _) _
       (try simp only [Act.put, List.setIfInBounds_toArray, List.set_cons_zero, List.set_cons_succ])
       refine wpAnyH_take (i := 6) (v := .agg #[.int .u64 (limb m3 0 : Nat), .int .u64 (limb m3 1 : Nat), .int .u64 (limb m3 2 : Nat), .int .u64 (limb m3 3 : Nat)]) rfl (by kernel_rfl) (by kernel_rfl) (by kernel_rfl) (fun _ _ _ h => h) (Or.inl ⟨by kernel_rfl, ?_⟩) (by with_reducible assumption) ?_
       ·
        intro wz hSw
        (try dsimp only at hSw)
        have y0 := (hSw.cell (p := ⟨M, 12, none⟩) LM.out).trans ((hp_cell (i := 12) RM.out).trans rfl)
        have y1 := (hSw.cell (p := ⟨M, 13, none⟩) LM.out).trans ((hp_cell (i := 13) RM.out).trans rfl)
        have y2 := (hSw.cell (p := ⟨M, 14, none⟩) LM.out).trans ((hp_cell (i := 14) RM.out).trans rfl)
        have y3 := (hSw.cell (p := ⟨M, 15, none⟩) LM.out).trans ((hp_cell (i := 15) RM.out).trans rfl)
        go_simp
        (try with_reducible rfl)
       show wpAnyH _ _ _ _ _ _ _ (Act.put _ (some 93) _) _
       (try simp only [Act.put, List.setIfInBounds_toArray, List.set_cons_zero, List.set_cons_succ])
       refine wpAnyH_take (i := 7) (v := ?_) rfl (by kernel_rfl) (by kernel_rfl) (by kernel_rfl) (fun _ _ _ h => h) (Or.inl ⟨by kernel_rfl, ?_⟩) (by with_reducible assumption) ?_
       rotate_left
       ·
        intro wz hSw
        go_simp
        (try with_reducible rfl)
       show wpAnyH _ _ _ _ _ _ _ (Act.put _ (some 94) _) _
       (try simp only [Act.put, List.setIfInBounds_toArray, List.set_cons_zero, List.set_cons_succ])
       refine wpAnyH_take (i := 8) (v := ?_) rfl (by kernel_rfl) (by kernel_rfl) (by kernel_rfl) (fun _ _ _ h => h) (Or.inl ⟨by kernel_rfl, ?_⟩) (by with_reducible assumption) ?_
       rotate_left
       ·
        intro wz hSw
        go_simp
        (try with_reducible rfl)
       show wpAnyH _ _ _ _ _ _ _ (Act.put _ (some 95) _) _
       (try simp only [Act.put, List.setIfInBounds_toArray, List.set_cons_zero, List.set_cons_succ])
       refine wpAnyH_take (i := 9) (v := ?_) rfl (by kernel_rfl) (by kernel_rfl) (by kernel_rfl) (fun _ _ _ h => h) (Or.inl ⟨by kernel_rfl, ?_⟩) (by with_reducible assumption) ?_
       rotate_left
       ·
        intro wz hSw
        go_simp
        (try with_reducible rfl)
       show wpAnyH _ _ _ _ _ _ _ (Act.put _ (some 96) _) _
       (try simp only [Act.put, List.setIfInBounds_toArray, List.set_cons_zero, List.set_cons_succ])
       refine wpAnyH_take (i := 10) (v := ?_) rfl (by kernel_rfl) (by kernel_rfl) (by kernel_rfl) (fun _ _ _ h => h) (Or.inl ⟨by kernel_rfl, ?_⟩) (by with_reducible assumption) ?_
       rotate_left
       ·
        intro wz hSw
        go_simp
        (try with_reducible rfl)
       show wpAnyH _ _ _ _ _ _ _ (Act.put _ (some 97) _) _
       (try simp only [Act.put, List.setIfInBounds_toArray, List.set_cons_zero, List.set_cons_succ])
       refine wpAnyH_take (i := 11) (v := ?_) rfl (by kernel_rfl) (by kernel_rfl) (by kernel_rfl) (fun _ _ _ h => h) (Or.inl ⟨by kernel_rfl, ?_⟩) (by with_reducible assumption) ?_
       rotate_left
       ·
        intro wz hSw
        go_simp
        (try with_reducible rfl)
       show wpAnyH _ _ _ _ _ _ _ (Act.put _ (some 98) _) _
       (try simp only [Act.put, List.setIfInBounds_toArray, List.set_cons_zero, List.set_cons_succ])
       refine wpAnyH_take (i := 12) (v := .agg #[.int .u64 (limb m3 0 : Nat), .int .u64 (limb m3 1 : Nat), .int .u64 (limb m3 2 : Nat), .int .u64 (limb m3 3 : Nat)]) rfl (by kernel_rfl) (by kernel_rfl) (by kernel_rfl) (fun _ _ _ h => h) (Or.inl ⟨by kernel_rfl, ?_⟩) (by with_reducible assumption) ?_
       ·
        intro wz hSw
        (try dsimp only at hSw)
        have y0 := (hSw.cell (p := ⟨B, 0, none⟩) LB.out).trans ((hp_cell (i := 0) R4.out).trans rfl)
        have y1 := (hSw.cell (p := ⟨B, 1, none⟩) LB.out).trans ((hp_cell (i := 1) R4.out).trans rfl)
        have y2 := (hSw.cell (p := ⟨B, 2, none⟩) LB.out).trans ((hp_cell (i := 2) R4.out).trans rfl)
        have y3 := (hSw.cell (p := ⟨B, 3, none⟩) LB.out).trans ((hp_cell (i := 3) R4.out).trans rfl)
        go_simp
        (try with_reducible rfl)
       show wpAnyH _ _ _ _ _ _ _ (Act.put _ (some 99) _) _
       (try simp only [Act.put, List.setIfInBounds_toArray, List.set_cons_zero, List.set_cons_succ])
       refine wpAnyH_take (i := 13) (v := ?_) rfl (by kernel_rfl) (by kernel_rfl) (by kernel_rfl) (fun _ _ _ h => h) (Or.inl ⟨by kernel_rfl, ?_⟩) (by with_reducible assumption) ?_
       rotate_left
       ·
        intro wz hSw
        go_simp
        (try with_reducible rfl)
       show wpAnyH _ _ _ _ _ _ _ (Act.put _ (some 100) _) _
       (try simp only [Act.put, List.setIfInBounds_toArray, List.set_cons_zero, List.set_cons_succ])
       refine wpAnyH_take (i := 14) (v := ?_) rfl (by kernel_rfl) (by kernel_rfl) (by kernel_rfl) (fun _ _ _ h => h) (Or.inl ⟨by kernel_rfl, ?_⟩) (by with_reducible assumption) ?_
       rotate_left
       ·
        intro wz hSw
        go_simp
        (try with_reducible rfl)
       show wpAnyH _ _ _ _ _ _ _ (Act.put _ (some 101) _) _
       (try simp only [Act.put, List.setIfInBounds_toArray, List.set_cons_zero, List.set_cons_succ])
       refine wpAnyH_take (i := 15) (v := ?_) rfl (by kernel_rfl) (by kernel_rfl) (by kernel_rfl) (fun _ _ _ h => h) (Or.inl ⟨by kernel_rfl, ?_⟩) (by with_reducible assumption) ?_
       rotate_left
       ·
        intro wz hSw
        go_simp
        (try with_reducible rfl)
       show wpAnyH _ _ _ _ _ _ _ (Act.put _ (some 102) _) _
       (try simp only [Act.put, List.setIfInBounds_toArray, List.set_cons_zero, List.set_cons_succ])
       refine wpAnyH_take (i := 16) (v := ?_) rfl (by kernel_rfl) (by kernel_rfl) (by kernel_rfl) (fun _ _ _ h => h) (Or.inl ⟨by kernel_rfl, ?_⟩) (by with_reducible assumption) ?_
       rotate_left
       ·
        intro wz hSw
        go_simp
        (try with_reducible rfl)
       show wpAnyH _ _ _ _ _ _ _ (Act.put _ (some 103) _) _
       (try simp only [Act.put, List.setIfInBounds_toArray, List.set_cons_zero, List.set_cons_succ])
       refine wpAnyH_take (i := 17) (v := ?_) rfl (by kernel_rfl) (by kernel_rfl) (by kernel_rfl) (fun _ _ _ h => h) (Or.inl ⟨by kernel_rfl, ?_⟩) (by with_reducible assumption) ?_
       rotate_left
       ·
        intro wz hSw
        go_simp
        (try with_reducible rfl)
       show wpAnyH _ _ _ _ _ _ _ (Act.put _ (some 104) _) _
       (try simp only [Act.put, List.setIfInBounds_toArray, List.set_cons_zero, List.set_cons_succ])
       refine wpAnyH_take (i := 18) (v := ?_) rfl (by kernel_rfl) (by kernel_rfl) (by kernel_rfl) (fun _ _ _ h => h) (Or.inl ⟨by kernel_rfl, ?_⟩) (by with_reducible assumption) ?_
       rotate_left
       ·
        intro wz hSw
        go_simp
        (try with_reducible rfl)
       show wpAnyH _ _ _ _ _ _ _ (Act.put _ (some 105) _) _
       (try simp only [Act.put, List.setIfInBounds_toArray, List.set_cons_zero, List.set_cons_succ])
       refine wpAnyH_take (i := 19) (v := ?_) rfl (by kernel_rfl) (by kernel_rfl) (by kernel_rfl) (fun _ _ _ h => h) (Or.inl ⟨by kernel_rfl, ?_⟩) (by with_reducible assumption) ?_
       rotate_left
       ·
        intro wz hSw
        go_simp
        (try with_reducible rfl)
       show wpAnyH _ _ _ _ _ _ _ (Act.put _ (some 106) _) _
       (try simp only [Act.put, List.setIfInBounds_toArray, List.set_cons_zero, List.set_cons_succ])
       refine wpAnyH_take (i := 20) (v := ?_) rfl (by kernel_rfl) (by kernel_rfl) (by kernel_rfl) (fun _ _ _ h => h) (Or.inl ⟨by kernel_rfl, ?_⟩) (by with_reducible assumption) ?_
       rotate_left
       ·
        intro wz hSw
        go_simp
        (try with_reducible rfl)
       show wpAnyH _ _ _ _ _ _ _ (Act.put _ (some 107) _) _
       (try simp only [Act.put, List.setIfInBounds_toArray, List.set_cons_zero, List.set_cons_succ])
       refine wpAnyH_done (by kernel_rfl) ?_ _
       go_wp2_with fail
       exact ⟨⟨4, by omega, by omega, by go_num, H4.out.trans (HB0.out.mono H4.out.size)⟩, by simp [intOf]⟩
    ·
     -- Mint
     obtain ⟨er, L2, hM2, hL2, her, hok, hno, hO⟩ := keep_mint w b L HSs.out.2.1 (by have := HQ.out.2.2; have := HQ.out.2.1; omega) t c n HBn.out
     have p9 : ¬ er < 0 := by omega
     unfold U at hO
     have HO := Lib.hid hO
     have HM2 := Lib.hid (And.intro hM2 hL2)
     clear hO hM2 hL2 her
     by_cases he0 : er = 0
     ·
      subst he0
      obtain ⟨hlt2, hsup⟩ := hok rfl
      clear hok hno
      have HSup := Lib.hid hsup
      have HLt2 := Lib.hid hlt2
      clear hsup hlt2
      rcases (by have := HPt.out; omega : t = 1 ∨ t = 2 ∨ t = 3) with rfl | rfl | rfl
      ·
       have hlt2 := HLt2.out
       rw [← HMs.out.1] at hlt2
       obtain ⟨s, es⟩ : ∃ y, y = m1 + n := ⟨_, rfl⟩
       have hAd := fun W1 => radd_walk m1 n W1 (by omega) HBn.out
       unfold addv addk at hAd
       rw [if_pos hlt2, decide_eq_true hlt2, ← es] at hAd
       unfold U at hAd
       have HAd := Lib.hid hAd
       have HNs := Lib.hid (show s = amt L2 (kS 1) ∧ m2 = amt L2 (kS 2) ∧ m3 = amt L2 (kS 3) from ⟨by rw [HSup.out 1 (by unfold okT; omega)]; rw [if_pos rfl, ← HMs.out.1]; exact es, by rw [HSup.out 2 (by unfold okT; omega)]; rw [if_neg (by decide)]; exact HMs.out.2.1, by rw [HSup.out 3 (by unfold okT; omega)]; rw [if_neg (by decide)]; exact HMs.out.2.2⟩)
       clear hAd hlt2 es
       go_upto_region 13 with (go_at_call 24; refine (HO.out _ F q qs (HSs.out.1.below HX.out.1) (by have := HQ.out.1; have := HQ.out.2.1; omega)).mono ?_; rintro e w8 ⟨rfl, h2⟩; have k2 := LiveTo.keepT (HSs.out.1.below HX.out.1) h2 fArr17; have k3 := LiveTo.keepT (HSs.out.1.below HX.out.1) h2 fAct17k; obtain ⟨F2, q2, qs2, hs2, hq2, _⟩ := h2; have H8 := Lib.hid (And.intro hs2 (And.intro (k2.2 _ _ _ ((HX.out.1.block _ (hp_lt HSs.out.2.2)).trans HSs.out.2.2)) (k3.2 _ _ _ HX.out.2))); have HQ2 := Lib.hid hq2; clear hs2 hq2 k2 k3)
       obtain ⟨X, hX⟩ : ∃ X, X = wr.heap.size := ⟨_, rfl⟩
       rw [← hX] at H8 ⊢
       clear hX HX
       have LX := Lib.hid (hp_lt H8.out.2.2)
       have LM := Lib.hid (hp_lt H8.out.2.1)
       go_cut [8] (fun p wx => ∃ B, p = .pointer (some ⟨B, 0, none⟩) ∧ wx.heap[B]? = some (.cells #[.int .u64 (limb s 0 : Nat), .int .u64 (limb s 1 : Nat), .int .u64 (limb s 2 : Nat), .int .u64 (limb s 3 : Nat)] 52 (0, 0)) ∧ Below w8.heap.size w8 wx)
       case first =>
        refine wp_region_held_drew (S := fun w' => Below w8.heap.size w8 w') (by kernel_rfl) ?_ (fun hHeld => ?_)
        ·
         exact (Below.refl _ _).drew
        have HY0 := Lib.hid (show Below w8.heap.size w8 w8.drew from (Below.refl _ _).drew)
        generalize w8.drew = Y0 at HY0 hHeld ⊢
        refine wpAnyH_take (i := 0) (v := ?_) rfl (by kernel_rfl) (by kernel_rfl) (by kernel_rfl) (fun _ _ _ h => h) (Or.inl ⟨by kernel_rfl, ?_⟩) (by with_reducible assumption) ?_
        rotate_left
        ·
         intro wz hSw
         go_simp
         (try with_reducible rfl)
        show wpAnyH _ _ _ _ _ _ _ (Act.put _ (some 47) _) _
        (try simp only [Act.put, List.setIfInBounds_toArray, List.set_cons_zero, List.set_cons_succ])
        refine wpAnyH_take (i := 1) (v := .int .i64 1) rfl (by kernel_rfl) (by kernel_rfl) (by kernel_rfl) (fun _ _ _ h => h) (Or.inl ⟨by kernel_rfl, ?_⟩) (by with_reducible assumption) ?_
        ·
         intro wz hSw
         (try dsimp only at hSw)
         have y0 := (hSw.cell (p := ⟨X, 1, none⟩) LX.out).trans ((hp_cell (i := 1) H8.out.2.2).trans rfl)
         go_simp
         (try with_reducible rfl)
        show wpAnyH _ _ _ _ _ _ _ (Act.put _ (some 48) _) _
        (try simp only [Act.put, List.setIfInBounds_toArray, List.set_cons_zero, List.set_cons_succ])
        refine wpAnyH_take (i := 2) (v := ?_) rfl (by kernel_rfl) (by kernel_rfl) (by kernel_rfl) (fun _ _ _ h => h) (Or.inl ⟨by kernel_rfl, ?_⟩) (by with_reducible assumption) ?_
        rotate_left
        ·
         intro wz hSw
         go_simp
         (try with_reducible rfl)
        show wpAnyH _ _ _ _ _ _ _ (Act.put _ (some 49) _) _
        (try simp only [Act.put, List.setIfInBounds_toArray, List.set_cons_zero, List.set_cons_succ])
        refine wpAnyH_take (i := 3) (v := .agg #[.int .u64 (limb m1 0 : Nat), .int .u64 (limb m1 1 : Nat), .int .u64 (limb m1 2 : Nat), .int .u64 (limb m1 3 : Nat)]) rfl (by kernel_rfl) (by kernel_rfl) (by kernel_rfl) (fun _ _ _ h => h) (Or.inl ⟨by kernel_rfl, ?_⟩) (by with_reducible assumption) ?_
        ·
         intro wz hSw
         (try dsimp only at hSw)
         have y0 := (hSw.cell (p := ⟨M, 4, none⟩) LM.out).trans ((hp_cell (i := 4) H8.out.2.1).trans rfl)
         have y1 := (hSw.cell (p := ⟨M, 5, none⟩) LM.out).trans ((hp_cell (i := 5) H8.out.2.1).trans rfl)
         have y2 := (hSw.cell (p := ⟨M, 6, none⟩) LM.out).trans ((hp_cell (i := 6) H8.out.2.1).trans rfl)
         have y3 := (hSw.cell (p := ⟨M, 7, none⟩) LM.out).trans ((hp_cell (i := 7) H8.out.2.1).trans rfl)
         go_simp
         (try with_reducible rfl)
        show wpAnyH _ _ _ _ _ _ _ (Act.put _ (some 50) _) _
        (try simp only [Act.put, List.setIfInBounds_toArray, List.set_cons_zero, List.set_cons_succ])
        refine wpAnyH_take (i := 4) (v := ?_) rfl (by kernel_rfl) (by kernel_rfl) (by kernel_rfl) (fun _ _ _ h => h) (Or.inl ⟨by kernel_rfl, ?_⟩) (by with_reducible assumption) ?_
        rotate_left
        ·
         intro wz hSw
         go_simp
         (try with_reducible rfl)
        show wpAnyH _ _ _ _ _ _ _ (Act.put _ (some 51) _) _
        (try simp only [Act.put, List.setIfInBounds_toArray, List.set_cons_zero, List.set_cons_succ])
        refine wpAnyH_take (i := 5) (v := .agg #[.int .u64 (limb n 0 : Nat), .int .u64 (limb n 1 : Nat), .int .u64 (limb n 2 : Nat), .int .u64 (limb n 3 : Nat)]) rfl (by kernel_rfl) (by kernel_rfl) (by kernel_rfl) (fun _ _ _ h => h) (Or.inl ⟨by kernel_rfl, ?_⟩) (by with_reducible assumption) ?_
        ·
         intro wz hSw
         (try dsimp only at hSw)
         have y0 := (hSw.cell (p := ⟨X, 4, none⟩) LX.out).trans ((hp_cell (i := 4) H8.out.2.2).trans rfl)
         have y1 := (hSw.cell (p := ⟨X, 5, none⟩) LX.out).trans ((hp_cell (i := 5) H8.out.2.2).trans rfl)
         have y2 := (hSw.cell (p := ⟨X, 6, none⟩) LX.out).trans ((hp_cell (i := 6) H8.out.2.2).trans rfl)
         have y3 := (hSw.cell (p := ⟨X, 7, none⟩) LX.out).trans ((hp_cell (i := 7) H8.out.2.2).trans rfl)
         go_simp
         (try with_reducible rfl)
        show wpAnyH _ _ _ _ _ _ _ (Act.put _ (some 52) _) _
        (try simp only [Act.put, List.setIfInBounds_toArray, List.set_cons_zero, List.set_cons_succ])
        refine wpAnyH_ready (rs := [6, 10]) (by kernel_rfl) (by simp) ?_
        refine AllReadyH.cons rfl (fun K hK => ?_) (AllReadyH.cons rfl (fun K hK => ?_) AllReadyH.nil)
        ·
         clear hHeld
         go_simp
         go_at_call 25
         refine (HAd.out _).mono ?_
         rintro e Y6 ⟨rfl, hb⟩
         have HB6 := Lib.hid (HY0.out.trans (hb.mono HY0.out.size))
         clear hb
         go_wp2_with fail
         refine hK.out _ _ ?_ (fun hHeld => ?_)
         ·
          exact HB6.out
         clear hK K
         (try simp only [Act.put, List.setIfInBounds_toArray, List.set_cons_zero, List.set_cons_succ])
         refine wpAnyH_take (i := 7) (v := ?_) rfl (by kernel_rfl) (by kernel_rfl) (by kernel_rfl) (fun _ _ _ h => h) (Or.inl ⟨by kernel_rfl, ?_⟩) (by with_reducible assumption) ?_
         rotate_left
         ·
          intro wz hSw
          go_simp
          (try with_reducible rfl)
         show wpAnyH _ _ _ _ _ _ _ (Act.put _ (some 46) _) _
         (try simp only [Act.put, List.setIfInBounds_toArray, List.set_cons_zero, List.set_cons_succ])
         refine wpAnyH_take (i := 8) (v := ?_) rfl (by kernel_rfl) (by kernel_rfl) (by kernel_rfl) (fun _ _ _ h => h) (Or.inl ⟨by kernel_rfl, ?_⟩) (by with_reducible assumption) ?_
         rotate_left
         ·
          intro wz hSw
          go_simp
          (try with_reducible rfl)
         show wpAnyH _ _ _ _ _ _ _ (Act.put _ (some 54) _) _
         (try simp only [Act.put, List.setIfInBounds_toArray, List.set_cons_zero, List.set_cons_succ])
         refine wpAnyH_take (i := 9) (v := ?_) rfl (by kernel_rfl) (by kernel_rfl) (by kernel_rfl) (fun _ _ _ h => h) (Or.inl ⟨by kernel_rfl, ?_⟩) (by with_reducible assumption) ?_
         rotate_left
         ·
          intro wz hSw
          go_simp
          (try with_reducible rfl)
         show wpAnyH _ _ _ _ _ _ _ (Act.put _ (some 55) _) _
         (try simp only [Act.put, List.setIfInBounds_toArray, List.set_cons_zero, List.set_cons_succ])
         refine wpAnyH_ready (rs := [10]) (by kernel_rfl) (by simp) ?_
         refine AllReadyH.cons rfl (fun K hK => ?_) AllReadyH.nil
         clear hHeld
         go_simp
         have HB10 := Lib.hid (HB6.out.alloc HB6.out.size (.cells #[.int .u64 0, .int .u64 0, .int .u64 0, .int .u64 0] 52))
         have F_n := Lib.hid (heap_alloc_new Y6 (.cells #[.int .u64 0, .int .u64 0, .int .u64 0, .int .u64 0] 52))
         obtain ⟨XA, eX⟩ : ∃ y, y = Y6.heap.size := ⟨_, rfl⟩
         go_wp2_with fail
         refine hK.out _ _ ?_ (fun hHeld => ?_)
         ·
          exact HB10.out
         clear hK K
         (try simp only [Act.put, List.setIfInBounds_toArray, List.set_cons_zero, List.set_cons_succ])
         rw [← eX] at F_n ⊢
         have LA := Lib.hid (show w8.heap.size ≤ XA from by rw [eX]; exact HB6.out.size)
         clear eX
         generalize Y6.alloc (.cells #[.int .u64 0, .int .u64 0, .int .u64 0, .int .u64 0] 52) = Y10 at HB10 F_n hHeld ⊢
         refine wpAnyH_ready (rs := [11]) (by kernel_rfl) (by simp) ?_
         refine AllReadyH.cons rfl (fun K hK => ?_) AllReadyH.nil
         clear hHeld
         have c0 := (hp_cell (i := 0) F_n.out).trans rfl
         have g0 := hp_free (i := 0) F_n.out
         have c1 := (hp_cell (i := 1) F_n.out).trans rfl
         have g1 := hp_free (i := 1) F_n.out
         have c2 := (hp_cell (i := 2) F_n.out).trans rfl
         have g2 := hp_free (i := 2) F_n.out
         have c3 := (hp_cell (i := 3) F_n.out).trans rfl
         have g3 := hp_free (i := 3) F_n.out
         go_simp
         clear c0 c1 c2 c3 g0 g1 g2 g3
         have HB11 := Lib.hid (show Below w8.heap.size w8 ((((Y10.setCell ⟨XA, 0, none⟩ (.int .u64 (limb s 0 : Nat))).setCell ⟨XA, 1, none⟩ (.int .u64 (limb s 1 : Nat))).setCell ⟨XA, 2, none⟩ (.int .u64 (limb s 2 : Nat))).setCell ⟨XA, 3, none⟩ (.int .u64 (limb s 3 : Nat))) from ((((HB10.out.setCell LA.out _).setCell LA.out _).setCell LA.out _).setCell LA.out _))
         have SX := Lib.hid (setU4 (.int .u64 (limb s 0 : Nat)) (.int .u64 (limb s 1 : Nat)) (.int .u64 (limb s 2 : Nat)) (.int .u64 (limb s 3 : Nat)) F_n.out (rfl : ((((Y10.setCell ⟨XA, 0, none⟩ (.int .u64 (limb s 0 : Nat))).setCell ⟨XA, 1, none⟩ (.int .u64 (limb s 1 : Nat))).setCell ⟨XA, 2, none⟩ (.int .u64 (limb s 2 : Nat))).setCell ⟨XA, 3, none⟩ (.int .u64 (limb s 3 : Nat))) = _))
         go_wp2_with fail
         refine hK.out _ _ ?_ (fun hHeld => ?_)
         ·
          exact HB11.out
         clear hK K
         (try simp only [Act.put, List.setIfInBounds_toArray, List.set_cons_zero, List.set_cons_succ])
         generalize (((Y10.setCell ⟨XA, 0, none⟩ (.int .u64 (limb s 0 : Nat))).setCell ⟨XA, 1, none⟩ (.int .u64 (limb s 1 : Nat))).setCell ⟨XA, 2, none⟩ (.int .u64 (limb s 2 : Nat))).setCell ⟨XA, 3, none⟩ (.int .u64 (limb s 3 : Nat)) = Y11 at HB11 SX hHeld ⊢
         refine wpAnyH_take (i := 12) (v := ?_) rfl (by kernel_rfl) (by kernel_rfl) (by kernel_rfl) (fun _ _ _ h => h) (Or.inl ⟨by kernel_rfl, ?_⟩) (by with_reducible assumption) ?_
         rotate_left
         ·
          intro wz hSw
          go_simp
          (try with_reducible rfl)
         show wpAnyH _ _ _ _ _ _ _ (Act.put _ (some 9) _) _
         (try simp only [Act.put, List.setIfInBounds_toArray, List.set_cons_zero, List.set_cons_succ])
         refine wpAnyH_done (by kernel_rfl) ?_ _
         go_wp2_with fail
         go_meet
         case rel => exact ⟨XA, rfl, SX.out, HB11.out⟩
        ·
         clear hHeld
         go_simp
         have HB10 := Lib.hid (HY0.out.alloc HY0.out.size (.cells #[.int .u64 0, .int .u64 0, .int .u64 0, .int .u64 0] 52))
         have F_n := Lib.hid (heap_alloc_new Y0 (.cells #[.int .u64 0, .int .u64 0, .int .u64 0, .int .u64 0] 52))
         obtain ⟨XA, eX⟩ : ∃ y, y = Y0.heap.size := ⟨_, rfl⟩
         go_wp2_with fail
         refine hK.out _ _ ?_ (fun hHeld => ?_)
         ·
          exact HB10.out
         clear hK K
         (try simp only [Act.put, List.setIfInBounds_toArray, List.set_cons_zero, List.set_cons_succ])
         rw [← eX] at F_n ⊢
         have LA := Lib.hid (show w8.heap.size ≤ XA from by rw [eX]; exact HY0.out.size)
         clear eX
         generalize Y0.alloc (.cells #[.int .u64 0, .int .u64 0, .int .u64 0, .int .u64 0] 52) = Y10 at HB10 F_n hHeld ⊢
         refine wpAnyH_ready (rs := [6]) (by kernel_rfl) (by simp) ?_
         refine AllReadyH.cons rfl (fun K hK => ?_) AllReadyH.nil
         clear hHeld
         go_simp
         go_at_call 25
         refine (HAd.out _).mono ?_
         rintro e Y6 ⟨rfl, hb⟩
         have HB6 := Lib.hid (HB10.out.trans (hb.mono HB10.out.size))
         have F_6 := Lib.hid ((hb.block _ (hp_lt F_n.out)).trans F_n.out)
         clear hb
         go_wp2_with fail
         refine hK.out _ _ ?_ (fun hHeld => ?_)
         ·
          exact HB6.out
         clear hK K
         (try simp only [Act.put, List.setIfInBounds_toArray, List.set_cons_zero, List.set_cons_succ])
         refine wpAnyH_take (i := 7) (v := ?_) rfl (by kernel_rfl) (by kernel_rfl) (by kernel_rfl) (fun _ _ _ h => h) (Or.inl ⟨by kernel_rfl, ?_⟩) (by with_reducible assumption) ?_
         rotate_left
         ·
          intro wz hSw
          go_simp
          (try with_reducible rfl)
         show wpAnyH _ _ _ _ _ _ _ (Act.put _ (some 46) _) _
         (try simp only [Act.put, List.setIfInBounds_toArray, List.set_cons_zero, List.set_cons_succ])
         refine wpAnyH_take (i := 8) (v := ?_) rfl (by kernel_rfl) (by kernel_rfl) (by kernel_rfl) (fun _ _ _ h => h) (Or.inl ⟨by kernel_rfl, ?_⟩) (by with_reducible assumption) ?_
         rotate_left
         ·
          intro wz hSw
          go_simp
          (try with_reducible rfl)
         show wpAnyH _ _ _ _ _ _ _ (Act.put _ (some 54) _) _
         (try simp only [Act.put, List.setIfInBounds_toArray, List.set_cons_zero, List.set_cons_succ])
         refine wpAnyH_take (i := 9) (v := ?_) rfl (by kernel_rfl) (by kernel_rfl) (by kernel_rfl) (fun _ _ _ h => h) (Or.inl ⟨by kernel_rfl, ?_⟩) (by with_reducible assumption) ?_
         rotate_left
         ·
          intro wz hSw
          go_simp
          (try with_reducible rfl)
         show wpAnyH _ _ _ _ _ _ _ (Act.put _ (some 55) _) _
         (try simp only [Act.put, List.setIfInBounds_toArray, List.set_cons_zero, List.set_cons_succ])
         refine wpAnyH_ready (rs := [11]) (by kernel_rfl) (by simp) ?_
         refine AllReadyH.cons rfl (fun K hK => ?_) AllReadyH.nil
         clear hHeld
         have c0 := (hp_cell (i := 0) F_6.out).trans rfl
         have g0 := hp_free (i := 0) F_6.out
         have c1 := (hp_cell (i := 1) F_6.out).trans rfl
         have g1 := hp_free (i := 1) F_6.out
         have c2 := (hp_cell (i := 2) F_6.out).trans rfl
         have g2 := hp_free (i := 2) F_6.out
         have c3 := (hp_cell (i := 3) F_6.out).trans rfl
         have g3 := hp_free (i := 3) F_6.out
         go_simp
         clear c0 c1 c2 c3 g0 g1 g2 g3
         have HB11 := Lib.hid (show Below w8.heap.size w8 ((((Y6.setCell ⟨XA, 0, none⟩ (.int .u64 (limb s 0 : Nat))).setCell ⟨XA, 1, none⟩ (.int .u64 (limb s 1 : Nat))).setCell ⟨XA, 2, none⟩ (.int .u64 (limb s 2 : Nat))).setCell ⟨XA, 3, none⟩ (.int .u64 (limb s 3 : Nat))) from ((((HB6.out.setCell LA.out _).setCell LA.out _).setCell LA.out _).setCell LA.out _))
         have SX := Lib.hid (setU4 (.int .u64 (limb s 0 : Nat)) (.int .u64 (limb s 1 : Nat)) (.int .u64 (limb s 2 : Nat)) (.int .u64 (limb s 3 : Nat)) F_6.out (rfl : ((((Y6.setCell ⟨XA, 0, none⟩ (.int .u64 (limb s 0 : Nat))).setCell ⟨XA, 1, none⟩ (.int .u64 (limb s 1 : Nat))).setCell ⟨XA, 2, none⟩ (.int .u64 (limb s 2 : Nat))).setCell ⟨XA, 3, none⟩ (.int .u64 (limb s 3 : Nat))) = _))
         go_wp2_with fail
         refine hK.out _ _ ?_ (fun hHeld => ?_)
         ·
          exact HB11.out
         clear hK K
         (try simp only [Act.put, List.setIfInBounds_toArray, List.set_cons_zero, List.set_cons_succ])
         generalize (((Y6.setCell ⟨XA, 0, none⟩ (.int .u64 (limb s 0 : Nat))).setCell ⟨XA, 1, none⟩ (.int .u64 (limb s 1 : Nat))).setCell ⟨XA, 2, none⟩ (.int .u64 (limb s 2 : Nat))).setCell ⟨XA, 3, none⟩ (.int .u64 (limb s 3 : Nat)) = Y11 at HB11 SX hHeld ⊢
         refine wpAnyH_take (i := 12) (v := ?_) rfl (by kernel_rfl) (by kernel_rfl) (by kernel_rfl) (fun _ _ _ h => h) (Or.inl ⟨by kernel_rfl, ?_⟩) (by with_reducible assumption) ?_
         rotate_left
         ·
          intro wz hSw
          go_simp
          (try with_reducible rfl)
         show wpAnyH _ _ _ _ _ _ _ (Act.put _ (some 9) _) _
         (try simp only [Act.put, List.setIfInBounds_toArray, List.set_cons_zero, List.set_cons_succ])
         refine wpAnyH_done (by kernel_rfl) ?_ _
         go_wp2_with fail
         go_meet
         case rel => exact ⟨XA, rfl, SX.out, HB11.out⟩
       case rest =>
        obtain ⟨B, rfl, hB, hbc⟩ := hcut
        have RMc := Lib.hid ((hbc.block _ LM.out).trans H8.out.2.1)
        have rx := (hbc.block _ LX.out).trans H8.out.2.2
        have y1 := (hp_cell (i := 1) rx).trans rfl
        have c0 := (hp_cell (i := 0) hB).trans rfl
        have c1 := (hp_cell (i := 1) hB).trans rfl
        have c2 := (hp_cell (i := 2) hB).trans rfl
        have c3 := (hp_cell (i := 3) hB).trans rfl
        have z0 := (hp_cell (i := 4) RMc.out).trans rfl
        have g0 := hp_free (i := 4) RMc.out
        have z1 := (hp_cell (i := 5) RMc.out).trans rfl
        have g1 := hp_free (i := 5) RMc.out
        have z2 := (hp_cell (i := 6) RMc.out).trans rfl
        have g2 := hp_free (i := 6) RMc.out
        have z3 := (hp_cell (i := 7) RMc.out).trans rfl
        have g3 := hp_free (i := 7) RMc.out
        have HSc := Lib.hid (H8.out.1.below hbc)
        have lm := hp_lt RMc.out
        clear hB hbc rx
        go_upto_region 16 with fail
        obtain ⟨Wc, hWc⟩ : ∃ Wc, Wc = (((wc.setCell ⟨M, 4, none⟩ (.int .u64 (limb s 0 : Nat))).setCell ⟨M, 5, none⟩ (.int .u64 (limb s 1 : Nat))).setCell ⟨M, 6, none⟩ (.int .u64 (limb s 2 : Nat))).setCell ⟨M, 7, none⟩ (.int .u64 (limb s 3 : Nat)) := ⟨_, rfl⟩
        rw [← hWc]
        have hTch : Touch [M] wc Wc := by rw [hWc]; exact (((Touch.setCell _ _ _ (by simp)).trans (fun _ hk => .inl hk) (Touch.setCell _ _ _ (by simp))).trans (fun _ hk => .inl hk) (Touch.setCell _ _ _ (by simp))).trans (fun _ hk => .inl hk) (Touch.setCell _ _ _ (by simp))
        have hArr : Wc.heap[M]? = some (.cells #[.int .u64 0, .int .u64 0, .int .u64 0, .int .u64 0, .int .u64 (limb s 0 : Nat), .int .u64 (limb s 1 : Nat), .int .u64 (limb s 2 : Nat), .int .u64 (limb s 3 : Nat), .int .u64 (limb m2 0 : Nat), .int .u64 (limb m2 1 : Nat), .int .u64 (limb m2 2 : Nat), .int .u64 (limb m2 3 : Nat), .int .u64 (limb m3 0 : Nat), .int .u64 (limb m3 1 : Nat), .int .u64 (limb m3 2 : Nat), .int .u64 (limb m3 3 : Nat)] 53 (0, 0)) := by
         rw [hWc]
         have := heap_setCell_row (o := 7) (heap_setCell_row (o := 6) (heap_setCell_row (o := 5) (heap_setCell_row (o := 4) RMc.out (.int .u64 (limb s 0 : Nat))) (.int .u64 (limb s 1 : Nat))) (.int .u64 (limb s 2 : Nat))) (.int .u64 (limb s 3 : Nat))
         simpa using this
        have Hc := Lib.hid (And.intro (HSc.out.other [M] hTch (fun g hg => (by simp only [List.mem_singleton] at hg; subst hg; exact ⟨HMg.out, _, _, _, RMc.out, fArr17⟩))) hArr)
        clear y1 c0 c1 c2 c3 z0 z1 z2 z3 g0 g1 g2 g3 lm hTch hArr hWc
        go_wp2
        go_loopw [10] (fun x wi => ∃ k : Nat, 1 ≤ k ∧ k ≤ 4 ∧ x = .int .i64 (k : Nat) ∧ Below Wc.heap.size Wc wi) (fun x _ => 4 - (intOf x).toNat)
        case atStart => exact ⟨1, by omega, by omega, rfl, Below.refl _ _⟩
        case round =>
         obtain ⟨k, hk1, hk4, rfl, hbk⟩ := hrel
         have HBk := Lib.hid hbk
         clear hbk
         rcases (by omega : k = 4 ∨ k = 1 ∨ k = 2 ∨ k = 3) with rfl | rfl | rfl | rfl
         ·
          go_wp2
          exact ⟨⟨j + 1, F2, q2, qs2, L2, s, m2, m3, by have := HQ.out.2.1; omega, by go_num, Hc.out.1.below HBk.out, by have := HQ2.out; have := HQ.out.1; omega, HM2.out.1, by have := HM2.out.2; have := HQ.out.2.2; omega, HNs.out, (HBk.out.block _ (hp_lt Hc.out.2)).trans Hc.out.2⟩, by simp [intOf]; omega⟩
         ·
          have hT := fun (W1 : World) (hb : Below Wc.heap.size Wc W1) => keep_total (Hc.out.1.below hb) HM2.out.1 (by have := HM2.out.2; have := HQ.out.2.2; have := HQ.out.2.1; omega) 1 (by unfold okT; omega) s HNs.out.1.symm
          obtain ⟨v, is, hv, hget⟩ := keep_get Hc.out.1 HM2.out.1 (kS 1) (kS_size 1)
          rw [← HNs.out.1] at hv
          have ha := amt_lt L2 (kS 1)
          rw [← HNs.out.1] at ha
          unfold U at hT
          have HT := Lib.hid hT
          have HG := Lib.hid hget
          have HS := Lib.hid (fun W => supply_is 1 (kS 1) rfl W (by omega))
          obtain ⟨K, eK⟩ : ∃ y, y = kS 1 := ⟨_, rfl⟩
          rw [← eK] at HG HS
          have e1 : ∀ w, (Op.equalIn 10000 52 (.agg #[.int .u64 (limb s 0 : Nat), .int .u64 (limb s 1 : Nat), .int .u64 (limb s 2 : Nat), .int .u64 (limb s 3 : Nat)]) (.agg #[.int .u64 (limb s 0 : Nat), .int .u64 (limb s 1 : Nat), .int .u64 (limb s 2 : Nat), .int .u64 (limb s 3 : Nat)])).run Try.prog w = .ok true w := fun w => by rw [eq_run ha ha]; simp
          have e2 := fun w => eq0_run ha w
          obtain ⟨ub, eub⟩ : ∃ y, y = decide (s = 0) := ⟨_, rfl⟩
          rw [← eub] at hv e2
          have q1 : (ub == ub) = true := beq_self_eq_true _
          clear hT hget eK ha eub
          go_upto_region 21 with (first
           | (go_at_call 28; refine (HG.out _ H3.out).mono ?_; rintro e w4 ⟨rfl, hb4⟩; have H4 := Lib.hid (H3.out.trans (hb4.mono H3.out.size)); have R4 := Lib.hid ((hb4.block _ (hp_lt R3.out)).trans R3.out); clear hb4)
           | (go_at_call 29; refine (HS.out _).mono ?_; rintro e w3 ⟨rfl, hb3⟩; have hbx := H2.out.alloc H2.out.size (.cells #[.int .u64 (limb s 0 : Nat), .int .u64 (limb s 1 : Nat), .int .u64 (limb s 2 : Nat), .int .u64 (limb s 3 : Nat)] 52); have H3 := Lib.hid (hbx.trans (hb3.mono hbx.size)); have R3 := Lib.hid ((hb3.block w2.heap.size (by simp)).trans (heap_alloc_new w2 (.cells #[.int .u64 (limb s 0 : Nat), .int .u64 (limb s 1 : Nat), .int .u64 (limb s 2 : Nat), .int .u64 (limb s 3 : Nat)] 52))); clear hb3 hbx)
           | (go_at_call 27; refine (HT.out _ HBk.out).mono ?_; rintro e w2 ⟨rfl, hb2⟩; have H2 := Lib.hid (HBk.out.trans (hb2.mono HBk.out.size)); clear hb2))
          obtain ⟨B, eB⟩ : ∃ y, y = w2.heap.size := ⟨_, rfl⟩
          rw [← eB] at R4 ⊢
          have LB := Lib.hid (hp_lt R4.out)
          have RM := Lib.hid ((H4.out.block _ (hp_lt Hc.out.2)).trans Hc.out.2)
          have LM := Lib.hid (hp_lt RM.out)
          clear eB
          refine wp_region_held_drew (S := fun w' => Below w4.heap.size w4 w') (by kernel_rfl) ?_ (fun hHeld => ?_)
          ·
           exact (Below.refl _ _).drew
          have HB0 := Lib.hid (show Below w4.heap.size w4 w4.drew from (Below.refl _ _).drew)
          generalize w4.drew = Y0 at HB0 hHeld ⊢
          refine wpAnyH_take (i := 0) (v := ?_) rfl (by kernel_rfl) (by kernel_rfl) (by kernel_rfl) (fun _ _ _ h => h) (Or.inl ⟨by kernel_rfl, ?_⟩) (by with_reducible assumption) ?_
          rotate_left
          ·
           intro wz hSw
           go_simp
           (try with_reducible rfl)
          show wpAnyH _ _ _ _ _ _ _ (Act.put _ (some 87) _) _
          (try simp only [Act.put, List.setIfInBounds_toArray, List.set_cons_zero, List.set_cons_succ])
          refine wpAnyH_take (i := 1) (v := ?_) rfl (by kernel_rfl) (by kernel_rfl) (by kernel_rfl) (fun _ _ _ h => h) (Or.inl ⟨by kernel_rfl, ?_⟩) (by with_reducible assumption) ?_
          rotate_left
          ·
           intro wz hSw
           go_simp
           (try with_reducible rfl)
          show wpAnyH _ _ _ _ _ _ _ (Act.put _ (some 88) _) _
          (try simp only [Act.put, List.setIfInBounds_toArray, List.set_cons_zero, List.set_cons_succ])
          refine wpAnyH_take (i := 2) (v := ?_) rfl (by kernel_rfl) (by kernel_rfl) (by kernel_rfl) (fun _ _ _ h => h) (Or.inl ⟨by kernel_rfl, ?_⟩) (by with_reducible assumption) ?_
          rotate_left
          ·
           intro wz hSw
           go_simp
           (try with_reducible rfl)
          show wpAnyH _ _ _ _ _ _ _ (Act.put _ (some 89) _) _
          (try simp only [Act.put, List.setIfInBounds_toArray, List.set_cons_zero, List.set_cons_succ])
          refine wpAnyH_take (i := 3) (v := .agg #[.int .u64 (limb s 0 : Nat), .int .u64 (limb s 1 : Nat), .int .u64 (limb s 2 : Nat), .int .u64 (limb s 3 : Nat)]) rfl (by kernel_rfl) (by kernel_rfl) (by kernel_rfl) (fun _ _ _ h => h) (Or.inl ⟨by kernel_rfl, ?_⟩) (by with_reducible assumption) ?_
          ·
           intro wz hSw
           (try dsimp only at hSw)
           have y0 := (hSw.cell (p := ⟨B, 0, none⟩) LB.out).trans ((hp_cell (i := 0) R4.out).trans rfl)
           have y1 := (hSw.cell (p := ⟨B, 1, none⟩) LB.out).trans ((hp_cell (i := 1) R4.out).trans rfl)
           have y2 := (hSw.cell (p := ⟨B, 2, none⟩) LB.out).trans ((hp_cell (i := 2) R4.out).trans rfl)
           have y3 := (hSw.cell (p := ⟨B, 3, none⟩) LB.out).trans ((hp_cell (i := 3) R4.out).trans rfl)
           go_simp
           (try with_reducible rfl)
          show wpAnyH _ _ _ _ _ _ _ (Act.put _ (some 90) _) _
          (try simp only [Act.put, List.setIfInBounds_toArray, List.set_cons_zero, List.set_cons_succ])
          refine wpAnyH_take (i := 4) (v := ?_) rfl (by kernel_rfl) (by kernel_rfl) (by kernel_rfl) (fun _ _ _ h => h) (Or.inl ⟨by kernel_rfl, ?_⟩) (by with_reducible assumption) ?_
          rotate_left
          ·
           intro wz hSw
           go_simp
           (try with_reducible rfl)
          show wpAnyH _ _ _ _ _ _ _ (Act.put _ (some 91) _) _
          (try simp only [Act.put, List.setIfInBounds_toArray, List.set_cons_zero, List.set_cons_succ])
          refine wpAnyH_take (i := 5) (v := ?_) rfl (by kernel_rfl) (by kernel_rfl) (by kernel_rfl) (fun _ _ _ h => h) (Or.inl ⟨by kernel_rfl, ?_⟩) (by with_reducible assumption) ?_
          rotate_left
          ·
           intro wz hSw
           go_simp
           (try with_reducible rfl)
          show wpAnyH _ _ _ _ _ _ _ (Act.put _ (some 92) _) _
          (try simp only [Act.put, List.setIfInBounds_toArray, List.set_cons_zero, List.set_cons_succ])
          refine wpAnyH_take (i := 6) (v := .agg #[.int .u64 (limb s 0 : Nat), .int .u64 (limb s 1 : Nat), .int .u64 (limb s 2 : Nat), .int .u64 (limb s 3 : Nat)]) rfl (by kernel_rfl) (by kernel_rfl) (by kernel_rfl) (fun _ _ _ h => h) (Or.inl ⟨by kernel_rfl, ?_⟩) (by with_reducible assumption) ?_
          ·
           intro wz hSw
           (try dsimp only at hSw)
           have y0 := (hSw.cell (p := ⟨M, 4, none⟩) LM.out).trans ((hp_cell (i := 4) RM.out).trans rfl)
           have y1 := (hSw.cell (p := ⟨M, 5, none⟩) LM.out).trans ((hp_cell (i := 5) RM.out).trans rfl)
           have y2 := (hSw.cell (p := ⟨M, 6, none⟩) LM.out).trans ((hp_cell (i := 6) RM.out).trans rfl)
           have y3 := (hSw.cell (p := ⟨M, 7, none⟩) LM.out).trans ((hp_cell (i := 7) RM.out).trans rfl)
           go_simp
           (try with_reducible rfl)
          show wpAnyH _ _ _ _ _ _ _ (Act.put _ (some 93) _) _
          (try simp only [Act.put, List.setIfInBounds_toArray, List.set_cons_zero, List.set_cons_succ])
          refine wpAnyH_take (i := 7) (v := ?_) rfl (by kernel_rfl) (by kernel_rfl) (by kernel_rfl) (fun _ _ _ h => h) (Or.inl ⟨by kernel_rfl, ?_⟩) (by with_reducible assumption) ?_
          rotate_left
          ·
           intro wz hSw
           go_simp
           (try with_reducible rfl)
          show wpAnyH _ _ _ _ _ _ _ (Act.put _ (some 94) _) _
          (try simp only [Act.put, List.setIfInBounds_toArray, List.set_cons_zero, List.set_cons_succ])
          refine wpAnyH_take (i := 8) (v := ?_) rfl (by kernel_rfl) (by kernel_rfl) (by kernel_rfl) (fun _ _ _ h => h) (Or.inl ⟨by kernel_rfl, ?_⟩) (by with_reducible assumption) ?_
          rotate_left
          ·
           intro wz hSw
           go_simp
           (try with_reducible rfl)
          show wpAnyH _ _ _ _ _ _ _ (Act.put _ (some 95) _) _
          (try simp only [Act.put, List.setIfInBounds_toArray, List.set_cons_zero, List.set_cons_succ])
          refine wpAnyH_take (i := 9) (v := ?_) rfl (by kernel_rfl) (by kernel_rfl) (by kernel_rfl) (fun _ _ _ h => h) (Or.inl ⟨by kernel_rfl, ?_⟩) (by with_reducible assumption) ?_
          rotate_left
          ·
           intro wz hSw
           go_simp
           (try with_reducible rfl)
          show wpAnyH _ _ _ _ _ _ _ (Act.put _ (some 96) _) _
          (try simp only [Act.put, List.setIfInBounds_toArray, List.set_cons_zero, List.set_cons_succ])
          refine wpAnyH_take (i := 10) (v := ?_) rfl (by kernel_rfl) (by kernel_rfl) (by kernel_rfl) (fun _ _ _ h => h) (Or.inl ⟨by kernel_rfl, ?_⟩) (by with_reducible assumption) ?_
          rotate_left
          ·
           intro wz hSw
           go_simp
           (try with_reducible rfl)
          show wpAnyH _ _ _ _ _ _ _ (Act.put _ (some 97) _) _
          (try simp only [Act.put, List.setIfInBounds_toArray, List.set_cons_zero, List.set_cons_succ])
          refine wpAnyH_take (i := 11) (v := ?_) rfl (by kernel_rfl) (by kernel_rfl) (by kernel_rfl) (fun _ _ _ h => h) (Or.inl ⟨by kernel_rfl, ?_⟩) (by with_reducible assumption) ?_
          rotate_left
          ·
           intro wz hSw
           go_simp
           (try with_reducible rfl)
          show wpAnyH _ _ _ _ _ _ _ (Act.put _ (some 98) _) _
          (try simp only [Act.put, List.setIfInBounds_toArray, List.set_cons_zero, List.set_cons_succ])
          refine wpAnyH_take (i := 12) (v := .agg #[.int .u64 (limb s 0 : Nat), .int .u64 (limb s 1 : Nat), .int .u64 (limb s 2 : Nat), .int .u64 (limb s 3 : Nat)]) rfl (by kernel_rfl) (by kernel_rfl) (by kernel_rfl) (fun _ _ _ h => h) (Or.inl ⟨by kernel_rfl, ?_⟩) (by with_reducible assumption) ?_
          ·
           intro wz hSw
           (try dsimp only at hSw)
           have y0 := (hSw.cell (p := ⟨B, 0, none⟩) LB.out).trans ((hp_cell (i := 0) R4.out).trans rfl)
           have y1 := (hSw.cell (p := ⟨B, 1, none⟩) LB.out).trans ((hp_cell (i := 1) R4.out).trans rfl)
           have y2 := (hSw.cell (p := ⟨B, 2, none⟩) LB.out).trans ((hp_cell (i := 2) R4.out).trans rfl)
           have y3 := (hSw.cell (p := ⟨B, 3, none⟩) LB.out).trans ((hp_cell (i := 3) R4.out).trans rfl)
           go_simp
           (try with_reducible rfl)
          show wpAnyH _ _ _ _ _ _ _ (Act.put _ (some 99) _) _
          (try simp only [Act.put, List.setIfInBounds_toArray, List.set_cons_zero, List.set_cons_succ])
          refine wpAnyH_take (i := 13) (v := ?_) rfl (by kernel_rfl) (by kernel_rfl) (by kernel_rfl) (fun _ _ _ h => h) (Or.inl ⟨by kernel_rfl, ?_⟩) (by with_reducible assumption) ?_
          rotate_left
          ·
           intro wz hSw
           go_simp
           (try with_reducible rfl)
          show wpAnyH _ _ _ _ _ _ _ (Act.put _ (some 100) _) _
          (try simp only [Act.put, List.setIfInBounds_toArray, List.set_cons_zero, List.set_cons_succ])
          refine wpAnyH_take (i := 14) (v := ?_) rfl (by kernel_rfl) (by kernel_rfl) (by kernel_rfl) (fun _ _ _ h => h) (Or.inl ⟨by kernel_rfl, ?_⟩) (by with_reducible assumption) ?_
          rotate_left
          ·
           intro wz hSw
           go_simp
           (try with_reducible rfl)
          show wpAnyH _ _ _ _ _ _ _ (Act.put _ (some 101) _) _
          (try simp only [Act.put, List.setIfInBounds_toArray, List.set_cons_zero, List.set_cons_succ])
          refine wpAnyH_take (i := 15) (v := ?_) rfl (by kernel_rfl) (by kernel_rfl) (by kernel_rfl) (fun _ _ _ h => h) (Or.inl ⟨by kernel_rfl, ?_⟩) (by with_reducible assumption) ?_
          rotate_left
          ·
           intro wz hSw
           go_simp
           (try with_reducible rfl)
          show wpAnyH _ _ _ _ _ _ _ (Act.put _ (some 102) _) _
          (try simp only [Act.put, List.setIfInBounds_toArray, List.set_cons_zero, List.set_cons_succ])
          refine wpAnyH_take (i := 16) (v := ?_) rfl (by kernel_rfl) (by kernel_rfl) (by kernel_rfl) (fun _ _ _ h => h) (Or.inl ⟨by kernel_rfl, ?_⟩) (by with_reducible assumption) ?_
          rotate_left
          ·
           intro wz hSw
           go_simp
           (try with_reducible rfl)
          show wpAnyH _ _ _ _ _ _ _ (Act.put _ (some 103) _) _
          (try simp only [Act.put, List.setIfInBounds_toArray, List.set_cons_zero, List.set_cons_succ])
          refine wpAnyH_take (i := 17) (v := ?_) rfl (by kernel_rfl) (by kernel_rfl) (by kernel_rfl) (fun _ _ _ h => h) (Or.inl ⟨by kernel_rfl, ?_⟩) (by with_reducible assumption) ?_
          rotate_left
          ·
           intro wz hSw
           go_simp
           (try with_reducible rfl)
          show wpAnyH _ _ _ _ _ _ _ (Act.put _ (some 104) _) _
          (try simp only [Act.put, List.setIfInBounds_toArray, List.set_cons_zero, List.set_cons_succ])
          refine wpAnyH_take (i := 18) (v := ?_) rfl (by kernel_rfl) (by kernel_rfl) (by kernel_rfl) (fun _ _ _ h => h) (Or.inl ⟨by kernel_rfl, ?_⟩) (by with_reducible assumption) ?_
          rotate_left
          ·
           intro wz hSw
           go_simp
           (try with_reducible rfl)
          show wpAnyH _ _ _ _ _ _ _ (Act.put _ (some 105) _) _
          (try simp only [Act.put, List.setIfInBounds_toArray, List.set_cons_zero, List.set_cons_succ])
          refine wpAnyH_take (i := 19) (v := ?_) rfl (by kernel_rfl) (by kernel_rfl) (by kernel_rfl) (fun _ _ _ h => h) (Or.inl ⟨by kernel_rfl, ?_⟩) (by with_reducible assumption) ?_
          rotate_left
          ·
           intro wz hSw
           go_simp
           (try with_reducible rfl)
          show wpAnyH _ _ _ _ _ _ _ (Act.put _ (some 106) _) _
          (try simp only [Act.put, List.setIfInBounds_toArray, List.set_cons_zero, List.set_cons_succ])
          refine wpAnyH_take (i := 20) (v := ?_) rfl (by kernel_rfl) (by kernel_rfl) (by kernel_rfl) (fun _ _ _ h => h) (Or.inl ⟨by kernel_rfl, ?_⟩) (by with_reducible assumption) ?_
          rotate_left
          ·
           intro wz hSw
           go_simp
           (try with_reducible rfl)
          show wpAnyH _ _ _ _ _ _ _ (Act.put _ (some 107) _) _
          (try simp only [Act.put, List.setIfInBounds_toArray, List.set_cons_zero, List.set_cons_succ])
          refine wpAnyH_done (by kernel_rfl) ?_ _
          go_wp2_with fail
          exact ⟨⟨2, by omega, by omega, by go_num, H4.out.trans (HB0.out.mono H4.out.size)⟩, by simp [intOf]⟩
         ·
          have hT := fun (W1 : World) (hb : Below Wc.heap.size Wc W1) => keep_total (Hc.out.1.below hb) HM2.out.1 (by have := HM2.out.2; have := HQ.out.2.2; have := HQ.out.2.1; omega) 2 (by unfold okT; omega) m2 HNs.out.2.1.symm
          obtain ⟨v, is, hv, hget⟩ := keep_get Hc.out.1 HM2.out.1 (kS 2) (kS_size 2)
          rw [← HNs.out.2.1] at hv
          have ha := amt_lt L2 (kS 2)
          rw [← HNs.out.2.1] at ha
          unfold U at hT
          have HT := Lib.hid hT
          have HG := Lib.hid hget
          have HS := Lib.hid (fun W => supply_is 2 (kS 2) rfl W (by omega))
          obtain ⟨K, eK⟩ : ∃ y, y = kS 2 := ⟨_, rfl⟩
          rw [← eK] at HG HS
          have e1 : ∀ w, (Op.equalIn 10000 52 (.agg #[.int .u64 (limb m2 0 : Nat), .int .u64 (limb m2 1 : Nat), .int .u64 (limb m2 2 : Nat), .int .u64 (limb m2 3 : Nat)]) (.agg #[.int .u64 (limb m2 0 : Nat), .int .u64 (limb m2 1 : Nat), .int .u64 (limb m2 2 : Nat), .int .u64 (limb m2 3 : Nat)])).run Try.prog w = .ok true w := fun w => by rw [eq_run ha ha]; simp
          have e2 := fun w => eq0_run ha w
          obtain ⟨ub, eub⟩ : ∃ y, y = decide (m2 = 0) := ⟨_, rfl⟩
          rw [← eub] at hv e2
          have q1 : (ub == ub) = true := beq_self_eq_true _
          clear hT hget eK ha eub
          go_upto_region 21 with (first
           | (go_at_call 28; refine (HG.out _ H3.out).mono ?_; rintro e w4 ⟨rfl, hb4⟩; have H4 := Lib.hid (H3.out.trans (hb4.mono H3.out.size)); have R4 := Lib.hid ((hb4.block _ (hp_lt R3.out)).trans R3.out); clear hb4)
           | (go_at_call 29; refine (HS.out _).mono ?_; rintro e w3 ⟨rfl, hb3⟩; have hbx := H2.out.alloc H2.out.size (.cells #[.int .u64 (limb m2 0 : Nat), .int .u64 (limb m2 1 : Nat), .int .u64 (limb m2 2 : Nat), .int .u64 (limb m2 3 : Nat)] 52); have H3 := Lib.hid (hbx.trans (hb3.mono hbx.size)); have R3 := Lib.hid ((hb3.block w2.heap.size (by simp)).trans (heap_alloc_new w2 (.cells #[.int .u64 (limb m2 0 : Nat), .int .u64 (limb m2 1 : Nat), .int .u64 (limb m2 2 : Nat), .int .u64 (limb m2 3 : Nat)] 52))); clear hb3 hbx)
           | (go_at_call 27; refine (HT.out _ HBk.out).mono ?_; rintro e w2 ⟨rfl, hb2⟩; have H2 := Lib.hid (HBk.out.trans (hb2.mono HBk.out.size)); clear hb2))
          obtain ⟨B, eB⟩ : ∃ y, y = w2.heap.size := ⟨_, rfl⟩
          rw [← eB] at R4 ⊢
          have LB := Lib.hid (hp_lt R4.out)
          have RM := Lib.hid ((H4.out.block _ (hp_lt Hc.out.2)).trans Hc.out.2)
          have LM := Lib.hid (hp_lt RM.out)
          clear eB
          refine wp_region_held_drew (S := fun w' => Below w4.heap.size w4 w') (by kernel_rfl) ?_ (fun hHeld => ?_)
          ·
           exact (Below.refl _ _).drew
          have HB0 := Lib.hid (show Below w4.heap.size w4 w4.drew from (Below.refl _ _).drew)
          generalize w4.drew = Y0 at HB0 hHeld ⊢
          refine wpAnyH_take (i := 0) (v := ?_) rfl (by kernel_rfl) (by kernel_rfl) (by kernel_rfl) (fun _ _ _ h => h) (Or.inl ⟨by kernel_rfl, ?_⟩) (by with_reducible assumption) ?_
          rotate_left
          ·
           intro wz hSw
           go_simp
           (try with_reducible rfl)
          show wpAnyH _ _ _ _ _ _ _ (Act.put _ (some 87) _) _
          (try simp only [Act.put, List.setIfInBounds_toArray, List.set_cons_zero, List.set_cons_succ])
          refine wpAnyH_take (i := 1) (v := ?_) rfl (by kernel_rfl) (by kernel_rfl) (by kernel_rfl) (fun _ _ _ h => h) (Or.inl ⟨by kernel_rfl, ?_⟩) (by with_reducible assumption) ?_
          rotate_left
          ·
           intro wz hSw
           go_simp
           (try with_reducible rfl)
          show wpAnyH _ _ _ _ _ _ _ (Act.put _ (some 88) _) _
          (try simp only [Act.put, List.setIfInBounds_toArray, List.set_cons_zero, List.set_cons_succ])
          refine wpAnyH_take (i := 2) (v := ?_) rfl (by kernel_rfl) (by kernel_rfl) (by kernel_rfl) (fun _ _ _ h => h) (Or.inl ⟨by kernel_rfl, ?_⟩) (by with_reducible assumption) ?_
          rotate_left
          ·
           intro wz hSw
           go_simp
           (try with_reducible rfl)
          show wpAnyH _ _ _ _ _ _ _ (Act.put _ (some 89) _) _
          (try simp only [Act.put, List.setIfInBounds_toArray, List.set_cons_zero, List.set_cons_succ])
          refine wpAnyH_take (i := 3) (v := .agg #[.int .u64 (limb m2 0 : Nat), .int .u64 (limb m2 1 : Nat), .int .u64 (limb m2 2 : Nat), .int .u64 (limb m2 3 : Nat)]) rfl (by kernel_rfl) (by kernel_rfl) (by kernel_rfl) (fun _ _ _ h => h) (Or.inl ⟨by kernel_rfl, ?_⟩) (by with_reducible assumption) ?_
          ·
           intro wz hSw
           (try dsimp only at hSw)
           have y0 := (hSw.cell (p := ⟨B, 0, none⟩) LB.out).trans ((hp_cell (i := 0) R4.out).trans rfl)
           have y1 := (hSw.cell (p := ⟨B, 1, none⟩) LB.out).trans ((hp_cell (i := 1) R4.out).trans rfl)
           have y2 := (hSw.cell (p := ⟨B, 2, none⟩) LB.out).trans ((hp_cell (i := 2) R4.out).trans rfl)
           have y3 := (hSw.cell (p := ⟨B, 3, none⟩) LB.out).trans ((hp_cell (i := 3) R4.out).trans rfl)
           go_simp
           (try with_reducible rfl)
          show wpAnyH _ _ _ _ _ _ _ (Act.put _ (some 90) _) _
          (try simp only [Act.put, List.setIfInBounds_toArray, List.set_cons_zero, List.set_cons_succ])
          refine wpAnyH_take (i := 4) (v := ?_) rfl (by kernel_rfl) (by kernel_rfl) (by kernel_rfl) (fun _ _ _ h => h) (Or.inl ⟨by kernel_rfl, ?_⟩) (by with_reducible assumption) ?_
          rotate_left
          ·
           intro wz hSw
           go_simp
           (try with_reducible rfl)
          show wpAnyH _ _ _ _ _ _ _ (Act.put _ (some 91) _) _
          (try simp only [Act.put, List.setIfInBounds_toArray, List.set_cons_zero, List.set_cons_succ])
          refine wpAnyH_take (i := 5) (v := ?_) rfl (by kernel_rfl) (by kernel_rfl) (by kernel_rfl) (fun _ _ _ h => h) (Or.inl ⟨by kernel_rfl, ?_⟩) (by with_reducible assumption) ?_
          rotate_left
          ·
           intro wz hSw
           go_simp
           (try with_reducible rfl)
          show wpAnyH _ _ _ _ _ _ _ (Act.put _ (some 92) _) _
          (try simp only [Act.put, List.setIfInBounds_toArray, List.set_cons_zero, List.set_cons_succ])
          refine wpAnyH_take (i := 6) (v := .agg #[.int .u64 (limb m2 0 : Nat), .int .u64 (limb m2 1 : Nat), .int .u64 (limb m2 2 : Nat), .int .u64 (limb m2 3 : Nat)]) rfl (by kernel_rfl) (by kernel_rfl) (by kernel_rfl) (fun _ _ _ h => h) (Or.inl ⟨by kernel_rfl, ?_⟩) (by with_reducible assumption) ?_
          ·
           intro wz hSw
           (try dsimp only at hSw)
           have y0 := (hSw.cell (p := ⟨M, 8, none⟩) LM.out).trans ((hp_cell (i := 8) RM.out).trans rfl)
           have y1 := (hSw.cell (p := ⟨M, 9, none⟩) LM.out).trans ((hp_cell (i := 9) RM.out).trans rfl)
           have y2 := (hSw.cell (p := ⟨M, 10, none⟩) LM.out).trans ((hp_cell (i := 10) RM.out).trans rfl)
           have y3 := (hSw.cell (p := ⟨M, 11, none⟩) LM.out).trans ((hp_cell (i := 11) RM.out).trans rfl)
           go_simp
           (try with_reducible rfl)
          show wpAnyH _ _ _ _ _ _ _ (Act.put _ (some 93) _) _
          (try simp only [Act.put, List.setIfInBounds_toArray, List.set_cons_zero, List.set_cons_succ])
          refine wpAnyH_take (i := 7) (v := ?_) rfl (by kernel_rfl) (by kernel_rfl) (by kernel_rfl) (fun _ _ _ h => h) (Or.inl ⟨by kernel_rfl, ?_⟩) (by with_reducible assumption) ?_
          rotate_left
          ·
           intro wz hSw
           go_simp
           (try with_reducible rfl)
          show wpAnyH _ _ _ _ _ _ _ (Act.put _ (some 94) _) _
          (try simp only [Act.put, List.setIfInBounds_toArray, List.set_cons_zero, List.set_cons_succ])
          refine wpAnyH_take (i := 8) (v := ?_) rfl (by kernel_rfl) (by kernel_rfl) (by kernel_rfl) (fun _ _ _ h => h) (Or.inl ⟨by kernel_rfl, ?_⟩) (by with_reducible assumption) ?_
          rotate_left
          ·
           intro wz hSw
           go_simp
           (try with_reducible rfl)
          show wpAnyH _ _ _ _ _ _ _ (Act.put _ (some 95) _) _
          (try simp only [Act.put, List.setIfInBounds_toArray, List.set_cons_zero, List.set_cons_succ])
          refine wpAnyH_take (i := 9) (v := ?_) rfl (by kernel_rfl) (by kernel_rfl) (by kernel_rfl) (fun _ _ _ h => h) (Or.inl ⟨by kernel_rfl, ?_⟩) (by with_reducible assumption) ?_
          rotate_left
          ·
           intro wz hSw
           go_simp
           (try with_reducible rfl)
          show wpAnyH _ _ _ _ _ _ _ (Act.put _ (some 96) _) _
          (try simp only [Act.put, List.setIfInBounds_toArray, List.set_cons_zero, List.set_cons_succ])
          refine wpAnyH_take (i := 10) (v := ?_) rfl (by kernel_rfl) (by kernel_rfl) (by kernel_rfl) (fun _ _ _ h => h) (Or.inl ⟨by kernel_rfl, ?_⟩) (by with_reducible assumption) ?_
          rotate_left
          ·
           intro wz hSw
           go_simp
           (try with_reducible rfl)
          show wpAnyH _ _ _ _ _ _ _ (Act.put _ (some 97) _) _
          (try simp only [Act.put, List.setIfInBounds_toArray, List.set_cons_zero, List.set_cons_succ])
          refine wpAnyH_take (i := 11) (v := ?_) rfl (by kernel_rfl) (by kernel_rfl) (by kernel_rfl) (fun _ _ _ h => h) (Or.inl ⟨by kernel_rfl, ?_⟩) (by with_reducible assumption) ?_
          rotate_left
          ·
           intro wz hSw
           go_simp
           (try with_reducible rfl)
          show wpAnyH _ _ _ _ _ _ _ (Act.put _ (some 98) _) _
          (try simp only [Act.put, List.setIfInBounds_toArray, List.set_cons_zero, List.set_cons_succ])
          refine wpAnyH_take (i := 12) (v := .agg #[.int .u64 (limb m2 0 : Nat), .int .u64 (limb m2 1 : Nat), .int .u64 (limb m2 2 : Nat), .int .u64 (limb m2 3 : Nat)]) rfl (by kernel_rfl) (by kernel_rfl) (by kernel_rfl) (fun _ _ _ h => h) (Or.inl ⟨by kernel_rfl, ?_⟩) (by with_reducible assumption) ?_
          ·
           intro wz hSw
           (try dsimp only at hSw)
           have y0 := (hSw.cell (p := ⟨B, 0, none⟩) LB.out).trans ((hp_cell (i := 0) R4.out).trans rfl)
           have y1 := (hSw.cell (p := ⟨B, 1, none⟩) LB.out).trans ((hp_cell (i := 1) R4.out).trans rfl)
           have y2 := (hSw.cell (p := ⟨B, 2, none⟩) LB.out).trans ((hp_cell (i := 2) R4.out).trans rfl)
           have y3 := (hSw.cell (p := ⟨B, 3, none⟩) LB.out).trans ((hp_cell (i := 3) R4.out).trans rfl)
           go_simp
           (try with_reducible rfl)
          show wpAnyH _ _ _ _ _ _ _ (Act.put _ (some 99) _) _
          (try simp only [Act.put, List.setIfInBounds_toArray, List.set_cons_zero, List.set_cons_succ])
          refine wpAnyH_take (i := 13) (v := ?_) rfl (by kernel_rfl) (by kernel_rfl) (by kernel_rfl) (fun _ _ _ h => h) (Or.inl ⟨by kernel_rfl, ?_⟩) (by with_reducible assumption) ?_
          rotate_left
          ·
           intro wz hSw
           go_simp
           (try with_reducible rfl)
          show wpAnyH _ _ _ _ _ _ _ (Act.put _ (some 100) _) _
          (try simp only [Act.put, List.setIfInBounds_toArray, List.set_cons_zero, List.set_cons_succ])
          refine wpAnyH_take (i := 14) (v := ?_) rfl (by kernel_rfl) (by kernel_rfl) (by kernel_rfl) (fun _ _ _ h => h) (Or.inl ⟨by kernel_rfl, ?_⟩) (by with_reducible assumption) ?_
          rotate_left
          ·
           intro wz hSw
           go_simp
           (try with_reducible rfl)
          show wpAnyH _ _ _ _ _ _ _ (Act.put _ (some 101) _) _
          (try simp only [Act.put, List.setIfInBounds_toArray, List.set_cons_zero, List.set_cons_succ])
          refine wpAnyH_take (i := 15) (v := ?_) rfl (by kernel_rfl) (by kernel_rfl) (by kernel_rfl) (fun _ _ _ h => h) (Or.inl ⟨by kernel_rfl, ?_⟩) (by with_reducible assumption) ?_
          rotate_left
          ·
           intro wz hSw
           go_simp
           (try with_reducible rfl)
          show wpAnyH _ _ _ _ _ _ _ (Act.put _ (some 102) _) _
          (try simp only [Act.put, List.setIfInBounds_toArray, List.set_cons_zero, List.set_cons_succ])
          refine wpAnyH_take (i := 16) (v := ?_) rfl (by kernel_rfl) (by kernel_rfl) (by kernel_rfl) (fun _ _ _ h => h) (Or.inl ⟨by kernel_rfl, ?_⟩) (by with_reducible assumption) ?_
          rotate_left
          ·
           intro wz hSw
           go_simp
           (try with_reducible rfl)
          show wpAnyH _ _ _ _ _ _ _ (Act.put _ (some 103) _) _
          (try simp only [Act.put, List.setIfInBounds_toArray, List.set_cons_zero, List.set_cons_succ])
          refine wpAnyH_take (i := 17) (v := ?_) rfl (by kernel_rfl) (by kernel_rfl) (by kernel_rfl) (fun _ _ _ h => h) (Or.inl ⟨by kernel_rfl, ?_⟩) (by with_reducible assumption) ?_
          rotate_left
          ·
           intro wz hSw
           go_simp
           (try with_reducible rfl)
          show wpAnyH _ _ _ _ _ _ _ (Act.put _ (some 104) _) _
          (try simp only [Act.put, List.setIfInBounds_toArray, List.set_cons_zero, List.set_cons_succ])
          refine wpAnyH_take (i := 18) (v := ?_) rfl (by kernel_rfl) (by kernel_rfl) (by kernel_rfl) (fun _ _ _ h => h) (Or.inl ⟨by kernel_rfl, ?_⟩) (by with_reducible assumption) ?_
          rotate_left
          ·
           intro wz hSw
           go_simp
           (try with_reducible rfl)
          show wpAnyH _ _ _ _ _ _ _ (Act.put _ (some 105) _) _
          (try simp only [Act.put, List.setIfInBounds_toArray, List.set_cons_zero, List.set_cons_succ])
          refine wpAnyH_take (i := 19) (v := ?_) rfl (by kernel_rfl) (by kernel_rfl) (by kernel_rfl) (fun _ _ _ h => h) (Or.inl ⟨by kernel_rfl, ?_⟩) (by with_reducible assumption) ?_
          rotate_left
          ·
           intro wz hSw
           go_simp
           (try with_reducible rfl)
          show wpAnyH _ _ _ _ _ _ _ (Act.put _ (some 106) _) _
          (try simp only [Act.put, List.setIfInBounds_toArray, List.set_cons_zero, List.set_cons_succ])
          refine wpAnyH_take (i := 20) (v := ?_) rfl (by kernel_rfl) (by kernel_rfl) (by kernel_rfl) (fun _ _ _ h => h) (Or.inl ⟨by kernel_rfl, ?_⟩) (by with_reducible assumption) ?_
          rotate_left
          ·
           intro wz hSw
           go_simp
           (try with_reducible rfl)
          show wpAnyH _ _ _ _ _ _ _ (Act.put _ (some 107) _) _
          (try simp only [Act.put, List.setIfInBounds_toArray, List.set_cons_zero, List.set_cons_succ])
          refine wpAnyH_done (by kernel_rfl) ?_ _
          go_wp2_with fail
          exact ⟨⟨3, by omega, by omega, by go_num, H4.out.trans (HB0.out.mono H4.out.size)⟩, by simp [intOf]⟩
         ·
          have hT := fun (W1 : World) (hb : Below Wc.heap.size Wc W1) => keep_total (Hc.out.1.below hb) HM2.out.1 (by have := HM2.out.2; have := HQ.out.2.2; have := HQ.out.2.1; omega) 3 (by unfold okT; omega) m3 HNs.out.2.2.symm
          obtain ⟨v, is, hv, hget⟩ := keep_get Hc.out.1 HM2.out.1 (kS 3) (kS_size 3)
          rw [← HNs.out.2.2] at hv
          have ha := amt_lt L2 (kS 3)
          rw [← HNs.out.2.2] at ha
          unfold U at hT
          have HT := Lib.hid hT
          have HG := Lib.hid hget
          have HS := Lib.hid (fun W => supply_is 3 (kS 3) rfl W (by omega))
          obtain ⟨K, eK⟩ : ∃ y, y = kS 3 := ⟨_, rfl⟩
          rw [← eK] at HG HS
          have e1 : ∀ w, (Op.equalIn 10000 52 (.agg #[.int .u64 (limb m3 0 : Nat), .int .u64 (limb m3 1 : Nat), .int .u64 (limb m3 2 : Nat), .int .u64 (limb m3 3 : Nat)]) (.agg #[.int .u64 (limb m3 0 : Nat), .int .u64 (limb m3 1 : Nat), .int .u64 (limb m3 2 : Nat), .int .u64 (limb m3 3 : Nat)])).run Try.prog w = .ok true w := fun w => by rw [eq_run ha ha]; simp
          have e2 := fun w => eq0_run ha w
          obtain ⟨ub, eub⟩ : ∃ y, y = decide (m3 = 0) := ⟨_, rfl⟩
          rw [← eub] at hv e2
          have q1 : (ub == ub) = true := beq_self_eq_true _
          clear hT hget eK ha eub
          go_upto_region 21 with (first
           | (go_at_call 28; refine (HG.out _ H3.out).mono ?_; rintro e w4 ⟨rfl, hb4⟩; have H4 := Lib.hid (H3.out.trans (hb4.mono H3.out.size)); have R4 := Lib.hid ((hb4.block _ (hp_lt R3.out)).trans R3.out); clear hb4)
           | (go_at_call 29; refine (HS.out _).mono ?_; rintro e w3 ⟨rfl, hb3⟩; have hbx := H2.out.alloc H2.out.size (.cells #[.int .u64 (limb m3 0 : Nat), .int .u64 (limb m3 1 : Nat), .int .u64 (limb m3 2 : Nat), .int .u64 (limb m3 3 : Nat)] 52); have H3 := Lib.hid (hbx.trans (hb3.mono hbx.size)); have R3 := Lib.hid ((hb3.block w2.heap.size (by simp)).trans (heap_alloc_new w2 (.cells #[.int .u64 (limb m3 0 : Nat), .int .u64 (limb m3 1 : Nat), .int .u64 (limb m3 2 : Nat), .int .u64 (limb m3 3 : Nat)] 52))); clear hb3 hbx)
           | (go_at_call 27; refine (HT.out _ HBk.out).mono ?_; rintro e w2 ⟨rfl, hb2⟩; have H2 := Lib.hid (HBk.out.trans (hb2.mono HBk.out.size)); clear hb2))
          obtain ⟨B, eB⟩ : ∃ y, y = w2.heap.size := ⟨_, rfl⟩
          rw [← eB] at R4 ⊢
          have LB := Lib.hid (hp_lt R4.out)
          have RM := Lib.hid ((H4.out.block _ (hp_lt Hc.out.2)).trans Hc.out.2)
          have LM := Lib.hid (hp_lt RM.out)
          clear eB
          refine wp_region_held_drew (S := fun w' => Below w4.heap.size w4 w') (by kernel_rfl) ?_ (fun hHeld => ?_)
          ·
           exact (Below.refl _ _).drew
          have HB0 := Lib.hid (show Below w4.heap.size w4 w4.drew from (Below.refl _ _).drew)
          generalize w4.drew = Y0 at HB0 hHeld ⊢
          refine wpAnyH_take (i := 0) (v := ?_) rfl (by kernel_rfl) (by kernel_rfl) (by kernel_rfl) (fun _ _ _ h => h) (Or.inl ⟨by kernel_rfl, ?_⟩) (by with_reducible assumption) ?_
          rotate_left
          ·
           intro wz hSw
           go_simp
           (try with_reducible rfl)
          show wpAnyH _ _ _ _ _ _ _ (Act.put _ (some 87) _) _
          (try simp only [Act.put, List.setIfInBounds_toArray, List.set_cons_zero, List.set_cons_succ])
          refine wpAnyH_take (i := 1) (v := ?_) rfl (by kernel_rfl) (by kernel_rfl) (by kernel_rfl) (fun _ _ _ h => h) (Or.inl ⟨by kernel_rfl, ?_⟩) (by with_reducible assumption) ?_
          rotate_left
          ·
           intro wz hSw
           go_simp
           (try with_reducible rfl)
          show wpAnyH _ _ _ _ _ _ _ (Act.put _ (some 88) _) _
          (try simp only [Act.put, List.setIfInBounds_toArray, List.set_cons_zero, List.set_cons_succ])
          refine wpAnyH_take (i := 2) (v := ?_) rfl (by kernel_rfl) (by kernel_rfl) (by kernel_rfl) (fun _ _ _ h => h) (Or.inl ⟨by kernel_rfl, ?_⟩) (by with_reducible assumption) ?_
          rotate_left
          ·
           intro wz hSw
           go_simp
           (try with_reducible rfl)
          show wpAnyH _ _ _ _ _ _ _ (Act.put _ (some 89) _) _
          (try simp only [Act.put, List.setIfInBounds_toArray, List.set_cons_zero, List.set_cons_succ])
          refine wpAnyH_take (i := 3) (v := .agg #[.int .u64 (limb m3 0 : Nat), .int .u64 (limb m3 1 : Nat), .int .u64 (limb m3 2 : Nat), .int .u64 (limb m3 3 : Nat)]) rfl (by kernel_rfl) (by kernel_rfl) (by kernel_rfl) (fun _ _ _ h => h) (Or.inl ⟨by kernel_rfl, ?_⟩) (by with_reducible assumption) ?_
          ·
           intro wz hSw
           (try dsimp only at hSw)
           have y0 := (hSw.cell (p := ⟨B, 0, none⟩) LB.out).trans ((hp_cell (i := 0) R4.out).trans rfl)
           have y1 := (hSw.cell (p := ⟨B, 1, none⟩) LB.out).trans ((hp_cell (i := 1) R4.out).trans rfl)
           have y2 := (hSw.cell (p := ⟨B, 2, none⟩) LB.out).trans ((hp_cell (i := 2) R4.out).trans rfl)
           have y3 := (hSw.cell (p := ⟨B, 3, none⟩) LB.out).trans ((hp_cell (i := 3) R4.out).trans rfl)
           go_simp
           (try with_reducible rfl)
          show wpAnyH _ _ _ _ _ _ _ (Act.put _ (some 90) _) _
          (try simp only [Act.put, List.setIfInBounds_toArray, List.set_cons_zero, List.set_cons_succ])
          refine wpAnyH_take (i := 4) (v := ?_) rfl (by kernel_rfl) (by kernel_rfl) (by kernel_rfl) (fun _ _ _ h => h) (Or.inl ⟨by kernel_rfl, ?_⟩) (by with_reducible assumption) ?_
          rotate_left
          ·
           intro wz hSw
           go_simp
           (try with_reducible rfl)
          show wpAnyH _ _ _ _ _ _ _ (Act.put _ (some 91) _) _
          (try simp only [Act.put, List.setIfInBounds_toArray, List.set_cons_zero, List.set_cons_succ])
          refine wpAnyH_take (i := 5) (v := ?_) rfl (by kernel_rfl) (by kernel_rfl) (by kernel_rfl) (fun _ _ _ h => h) (Or.inl ⟨by kernel_rfl, ?_⟩) (by with_reducible assumption) ?_
          rotate_left
          ·
           intro wz hSw
           go_simp
           (try with_reducible rfl)
          show wpAnyH _ _ _ _ _ _ _ (Act.put _ (some 92) _) _
          (try simp only [Act.put, List.setIfInBounds_toArray, List.set_cons_zero, List.set_cons_succ])
          refine wpAnyH_take (i := 6) (v := .agg #[.int .u64 (limb m3 0 : Nat), .int .u64 (limb m3 1 : Nat), .int .u64 (limb m3 2 : Nat), .int .u64 (limb m3 3 : Nat)]) rfl (by kernel_rfl) (by kernel_rfl) (by kernel_rfl) (fun _ _ _ h => h) (Or.inl ⟨by kernel_rfl, ?_⟩) (by with_reducible assumption) ?_
          ·
           intro wz hSw
           (try dsimp only at hSw)
           have y0 := (hSw.cell (p := ⟨M, 12, none⟩) LM.out).trans ((hp_cell (i := 12) RM.out).trans rfl)
           have y1 := (hSw.cell (p := ⟨M, 13, none⟩) LM.out).trans ((hp_cell (i := 13) RM.out).trans rfl)
           have y2 := (hSw.cell (p := ⟨M, 14, none⟩) LM.out).trans ((hp_cell (i := 14) RM.out).trans rfl)
           have y3 := (hSw.cell (p := ⟨M, 15, none⟩) LM.out).trans ((hp_cell (i := 15) RM.out).trans rfl)
           go_simp
           (try with_reducible rfl)
          show wpAnyH _ _ _ _ _ _ _ (Act.put _ (some 93) _) _
          (try simp only [Act.put, List.setIfInBounds_toArray, List.set_cons_zero, List.set_cons_succ])
          refine wpAnyH_take (i := 7) (v := ?_) rfl (by kernel_rfl) (by kernel_rfl) (by kernel_rfl) (fun _ _ _ h => h) (Or.inl ⟨by kernel_rfl, ?_⟩) (by with_reducible assumption) ?_
          rotate_left
          ·
           intro wz hSw
           go_simp
           (try with_reducible rfl)
          show wpAnyH _ _ _ _ _ _ _ (Act.put _ (some 94) _) _
          (try simp only [Act.put, List.setIfInBounds_toArray, List.set_cons_zero, List.set_cons_succ])
          refine wpAnyH_take (i := 8) (v := ?_) rfl (by kernel_rfl) (by kernel_rfl) (by kernel_rfl) (fun _ _ _ h => h) (Or.inl ⟨by kernel_rfl, ?_⟩) (by with_reducible assumption) ?_
          rotate_left
          ·
           intro wz hSw
           go_simp
           (try with_reducible rfl)
          show wpAnyH _ _ _ _ _ _ _ (Act.put _ (some 95) _) _
          (try simp only [Act.put, List.setIfInBounds_toArray, List.set_cons_zero, List.set_cons_succ])
          refine wpAnyH_take (i := 9) (v := ?_) rfl (by kernel_rfl) (by kernel_rfl) (by kernel_rfl) (fun _ _ _ h => h) (Or.inl ⟨by kernel_rfl, ?_⟩) (by with_reducible assumption) ?_
          rotate_left
          ·
           intro wz hSw
           go_simp
           (try with_reducible rfl)
          show wpAnyH _ _ _ _ _ _ _ (Act.put _ (some 96) _) _
          (try simp only [Act.put, List.setIfInBounds_toArray, List.set_cons_zero, List.set_cons_succ])
          refine wpAnyH_take (i := 10) (v := ?_) rfl (by kernel_rfl) (by kernel_rfl) (by kernel_rfl) (fun _ _ _ h => h) (Or.inl ⟨by kernel_rfl, ?_⟩) (by with_reducible assumption) ?_
          rotate_left
          ·
           intro wz hSw
           go_simp
           (try with_reducible rfl)
          show wpAnyH _ _ _ _ _ _ _ (Act.put _ (some 97) _) _
          (try simp only [Act.put, List.setIfInBounds_toArray, List.set_cons_zero, List.set_cons_succ])
          refine wpAnyH_take (i := 11) (v := ?_) rfl (by kernel_rfl) (by kernel_rfl) (by kernel_rfl) (fun _ _ _ h => h) (Or.inl ⟨by kernel_rfl, ?_⟩) (by with_reducible assumption) ?_
          rotate_left
          ·
           intro wz hSw
           go_simp
           (try with_reducible rfl)
          show wpAnyH _ _ _ _ _ _ _ (Act.put _ (some 98) _) _
          (try simp only [Act.put, List.setIfInBounds_toArray, List.set_cons_zero, List.set_cons_succ])
          refine wpAnyH_take (i := 12) (v := .agg #[.int .u64 (limb m3 0 : Nat), .int .u64 (limb m3 1 : Nat), .int .u64 (limb m3 2 : Nat), .int .u64 (limb m3 3 : Nat)]) rfl (by kernel_rfl) (by kernel_rfl) (by kernel_rfl) (fun _ _ _ h => h) (Or.inl ⟨by kernel_rfl, ?_⟩) (by with_reducible assumption) ?_
          ·
           intro wz hSw
           (try dsimp only at hSw)
           have y0 := (hSw.cell (p := ⟨B, 0, none⟩) LB.out).trans ((hp_cell (i := 0) R4.out).trans rfl)
           have y1 := (hSw.cell (p := ⟨B, 1, none⟩) LB.out).trans ((hp_cell (i := 1) R4.out).trans rfl)
           have y2 := (hSw.cell (p := ⟨B, 2, none⟩) LB.out).trans ((hp_cell (i := 2) R4.out).trans rfl)
           have y3 := (hSw.cell (p := ⟨B, 3, none⟩) LB.out).trans ((hp_cell (i := 3) R4.out).trans rfl)
           go_simp
           (try with_reducible rfl)
          show wpAnyH _ _ _ _ _ _ _ (Act.put _ (some 99) _) _
          (try simp only [Act.put, List.setIfInBounds_toArray, List.set_cons_zero, List.set_cons_succ])
          refine wpAnyH_take (i := 13) (v := ?_) rfl (by kernel_rfl) (by kernel_rfl) (by kernel_rfl) (fun _ _ _ h => h) (Or.inl ⟨by kernel_rfl, ?_⟩) (by with_reducible assumption) ?_
          rotate_left
          ·
           intro wz hSw
           go_simp
           (try with_reducible rfl)
          show wpAnyH _ _ _ _ _ _ _ (Act.put _ (some 100) _) _
          (try simp only [Act.put, List.setIfInBounds_toArray, List.set_cons_zero, List.set_cons_succ])
          refine wpAnyH_take (i := 14) (v := ?_) rfl (by kernel_rfl) (by kernel_rfl) (by kernel_rfl) (fun _ _ _ h => h) (Or.inl ⟨by kernel_rfl, ?_⟩) (by with_reducible assumption) ?_
          rotate_left
          ·
           intro wz hSw
           go_simp
           (try with_reducible rfl)
          show wpAnyH _ _ _ _ _ _ _ (Act.put _ (some 101) _) _
          (try simp only [Act.put, List.setIfInBounds_toArray, List.set_cons_zero, List.set_cons_succ])
          refine wpAnyH_take (i := 15) (v := ?_) rfl (by kernel_rfl) (by kernel_rfl) (by kernel_rfl) (fun _ _ _ h => h) (Or.inl ⟨by kernel_rfl, ?_⟩) (by with_reducible assumption) ?_
          rotate_left
          ·
           intro wz hSw
           go_simp
           (try with_reducible rfl)
          show wpAnyH _ _ _ _ _ _ _ (Act.put _ (some 102) _) _
          (try simp only [Act.put, List.setIfInBounds_toArray, List.set_cons_zero, List.set_cons_succ])
          refine wpAnyH_take (i := 16) (v := ?_) rfl (by kernel_rfl) (by kernel_rfl) (by kernel_rfl) (fun _ _ _ h => h) (Or.inl ⟨by kernel_rfl, ?_⟩) (by with_reducible assumption) ?_
          rotate_left
          ·
           intro wz hSw
           go_simp
           (try with_reducible rfl)
          show wpAnyH _ _ _ _ _ _ _ (Act.put _ (some 103) _) _
          (try simp only [Act.put, List.setIfInBounds_toArray, List.set_cons_zero, List.set_cons_succ])
          refine wpAnyH_take (i := 17) (v := ?_) rfl (by kernel_rfl) (by kernel_rfl) (by kernel_rfl) (fun _ _ _ h => h) (Or.inl ⟨by kernel_rfl, ?_⟩) (by with_reducible assumption) ?_
          rotate_left
          ·
           intro wz hSw
           go_simp
           (try with_reducible rfl)
          show wpAnyH _ _ _ _ _ _ _ (Act.put _ (some 104) _) _
          (try simp only [Act.put, List.setIfInBounds_toArray, List.set_cons_zero, List.set_cons_succ])
          refine wpAnyH_take (i := 18) (v := ?_) rfl (by kernel_rfl) (by kernel_rfl) (by kernel_rfl) (fun _ _ _ h => h) (Or.inl ⟨by kernel_rfl, ?_⟩) (by with_reducible assumption) ?_
          rotate_left
          ·
           intro wz hSw
           go_simp
           (try with_reducible rfl)
          show wpAnyH _ _ _ _ _ _ _ (Act.put _ (some 105) _) _
          (try simp only [Act.put, List.setIfInBounds_toArray, List.set_cons_zero, List.set_cons_succ])
          refine wpAnyH_take (i := 19) (v := ?_) rfl (by kernel_rfl) (by kernel_rfl) (by kernel_rfl) (fun _ _ _ h => h) (Or.inl ⟨by kernel_rfl, ?_⟩) (by with_reducible assumption) ?_
          rotate_left
          ·
           intro wz hSw
           go_simp
           (try with_reducible rfl)
          show wpAnyH _ _ _ _ _ _ _ (Act.put _ (some 106) _) _
          (try simp only [Act.put, List.setIfInBounds_toArray, List.set_cons_zero, List.set_cons_succ])
          refine wpAnyH_take (i := 20) (v := ?_) rfl (by kernel_rfl) (by kernel_rfl) (by kernel_rfl) (fun _ _ _ h => h) (Or.inl ⟨by kernel_rfl, ?_⟩) (by with_reducible assumption) ?_
          rotate_left
          ·
           intro wz hSw
           go_simp
           (try with_reducible rfl)
          show wpAnyH _ _ _ _ _ _ _ (Act.put _ (some 107) _) _
          (try simp only [Act.put, List.setIfInBounds_toArray, List.set_cons_zero, List.set_cons_succ])
          refine wpAnyH_done (by kernel_rfl) ?_ _
          go_wp2_with fail
          exact ⟨⟨4, by omega, by omega, by go_num, H4.out.trans (HB0.out.mono H4.out.size)⟩, by simp [intOf]⟩
      ·
       have hlt2 := HLt2.out
       rw [← HMs.out.2.1] at hlt2
       obtain ⟨s, es⟩ : ∃ y, y = m2 + n := ⟨_, rfl⟩
       have hAd := fun W1 => radd_walk m2 n W1 (by omega) HBn.out
       unfold addv addk at hAd
       rw [if_pos hlt2, decide_eq_true hlt2, ← es] at hAd
       unfold U at hAd
       have HAd := Lib.hid hAd
       have HNs := Lib.hid (show m1 = amt L2 (kS 1) ∧ s = amt L2 (kS 2) ∧ m3 = amt L2 (kS 3) from ⟨by rw [HSup.out 1 (by unfold okT; omega)]; rw [if_neg (by decide)]; exact HMs.out.1, by rw [HSup.out 2 (by unfold okT; omega)]; rw [if_pos rfl, ← HMs.out.2.1]; exact es, by rw [HSup.out 3 (by unfold okT; omega)]; rw [if_neg (by decide)]; exact HMs.out.2.2⟩)
       clear hAd hlt2 es
       go_upto_region 13 with (go_at_call 24; refine (HO.out _ F q qs (HSs.out.1.below HX.out.1) (by have := HQ.out.1; have := HQ.out.2.1; omega)).mono ?_; rintro e w8 ⟨rfl, h2⟩; have k2 := LiveTo.keepT (HSs.out.1.below HX.out.1) h2 fArr17; have k3 := LiveTo.keepT (HSs.out.1.below HX.out.1) h2 fAct17k; obtain ⟨F2, q2, qs2, hs2, hq2, _⟩ := h2; have H8 := Lib.hid (And.intro hs2 (And.intro (k2.2 _ _ _ ((HX.out.1.block _ (hp_lt HSs.out.2.2)).trans HSs.out.2.2)) (k3.2 _ _ _ HX.out.2))); have HQ2 := Lib.hid hq2; clear hs2 hq2 k2 k3)
       obtain ⟨X, hX⟩ : ∃ X, X = wr.heap.size := ⟨_, rfl⟩
       rw [← hX] at H8 ⊢
       clear hX HX
       have LX := Lib.hid (hp_lt H8.out.2.2)
       have LM := Lib.hid (hp_lt H8.out.2.1)
       go_cut [8] (fun p wx => ∃ B, p = .pointer (some ⟨B, 0, none⟩) ∧ wx.heap[B]? = some (.cells #[.int .u64 (limb s 0 : Nat), .int .u64 (limb s 1 : Nat), .int .u64 (limb s 2 : Nat), .int .u64 (limb s 3 : Nat)] 52 (0, 0)) ∧ Below w8.heap.size w8 wx)
       case first =>
        refine wp_region_held_drew (S := fun w' => Below w8.heap.size w8 w') (by kernel_rfl) ?_ (fun hHeld => ?_)
        ·
         exact (Below.refl _ _).drew
        have HY0 := Lib.hid (show Below w8.heap.size w8 w8.drew from (Below.refl _ _).drew)
        generalize w8.drew = Y0 at HY0 hHeld ⊢
        refine wpAnyH_take (i := 0) (v := ?_) rfl (by kernel_rfl) (by kernel_rfl) (by kernel_rfl) (fun _ _ _ h => h) (Or.inl ⟨by kernel_rfl, ?_⟩) (by with_reducible assumption) ?_
        rotate_left
        ·
         intro wz hSw
         go_simp
         (try with_reducible rfl)
        show wpAnyH _ _ _ _ _ _ _ (Act.put _ (some 47) _) _
        (try simp only [Act.put, List.setIfInBounds_toArray, List.set_cons_zero, List.set_cons_succ])
        refine wpAnyH_take (i := 1) (v := .int .i64 2) rfl (by kernel_rfl) (by kernel_rfl) (by kernel_rfl) (fun _ _ _ h => h) (Or.inl ⟨by kernel_rfl, ?_⟩) (by with_reducible assumption) ?_
        ·
         intro wz hSw
         (try dsimp only at hSw)
         have y0 := (hSw.cell (p := ⟨X, 1, none⟩) LX.out).trans ((hp_cell (i := 1) H8.out.2.2).trans rfl)
         go_simp
         (try with_reducible rfl)
        show wpAnyH _ _ _ _ _ _ _ (Act.put _ (some 48) _) _
        (try simp only [Act.put, List.setIfInBounds_toArray, List.set_cons_zero, List.set_cons_succ])
        refine wpAnyH_take (i := 2) (v := ?_) rfl (by kernel_rfl) (by kernel_rfl) (by kernel_rfl) (fun _ _ _ h => h) (Or.inl ⟨by kernel_rfl, ?_⟩) (by with_reducible assumption) ?_
        rotate_left
        ·
         intro wz hSw
         go_simp
         (try with_reducible rfl)
        show wpAnyH _ _ _ _ _ _ _ (Act.put _ (some 49) _) _
        (try simp only [Act.put, List.setIfInBounds_toArray, List.set_cons_zero, List.set_cons_succ])
        refine wpAnyH_take (i := 3) (v := .agg #[.int .u64 (limb m2 0 : Nat), .int .u64 (limb m2 1 : Nat), .int .u64 (limb m2 2 : Nat), .int .u64 (limb m2 3 : Nat)]) rfl (by kernel_rfl) (by kernel_rfl) (by kernel_rfl) (fun _ _ _ h => h) (Or.inl ⟨by kernel_rfl, ?_⟩) (by with_reducible assumption) ?_
        ·
         intro wz hSw
         (try dsimp only at hSw)
         have y0 := (hSw.cell (p := ⟨M, 8, none⟩) LM.out).trans ((hp_cell (i := 8) H8.out.2.1).trans rfl)
         have y1 := (hSw.cell (p := ⟨M, 9, none⟩) LM.out).trans ((hp_cell (i := 9) H8.out.2.1).trans rfl)
         have y2 := (hSw.cell (p := ⟨M, 10, none⟩) LM.out).trans ((hp_cell (i := 10) H8.out.2.1).trans rfl)
         have y3 := (hSw.cell (p := ⟨M, 11, none⟩) LM.out).trans ((hp_cell (i := 11) H8.out.2.1).trans rfl)
         go_simp
         (try with_reducible rfl)
        show wpAnyH _ _ _ _ _ _ _ (Act.put _ (some 50) _) _
        (try simp only [Act.put, List.setIfInBounds_toArray, List.set_cons_zero, List.set_cons_succ])
        refine wpAnyH_take (i := 4) (v := ?_) rfl (by kernel_rfl) (by kernel_rfl) (by kernel_rfl) (fun _ _ _ h => h) (Or.inl ⟨by kernel_rfl, ?_⟩) (by with_reducible assumption) ?_
        rotate_left
        ·
         intro wz hSw
         go_simp
         (try with_reducible rfl)
        show wpAnyH _ _ _ _ _ _ _ (Act.put _ (some 51) _) _
        (try simp only [Act.put, List.setIfInBounds_toArray, List.set_cons_zero, List.set_cons_succ])
        refine wpAnyH_take (i := 5) (v := .agg #[.int .u64 (limb n 0 : Nat), .int .u64 (limb n 1 : Nat), .int .u64 (limb n 2 : Nat), .int .u64 (limb n 3 : Nat)]) rfl (by kernel_rfl) (by kernel_rfl) (by kernel_rfl) (fun _ _ _ h => h) (Or.inl ⟨by kernel_rfl, ?_⟩) (by with_reducible assumption) ?_
        ·
         intro wz hSw
         (try dsimp only at hSw)
         have y0 := (hSw.cell (p := ⟨X, 4, none⟩) LX.out).trans ((hp_cell (i := 4) H8.out.2.2).trans rfl)
         have y1 := (hSw.cell (p := ⟨X, 5, none⟩) LX.out).trans ((hp_cell (i := 5) H8.out.2.2).trans rfl)
         have y2 := (hSw.cell (p := ⟨X, 6, none⟩) LX.out).trans ((hp_cell (i := 6) H8.out.2.2).trans rfl)
         have y3 := (hSw.cell (p := ⟨X, 7, none⟩) LX.out).trans ((hp_cell (i := 7) H8.out.2.2).trans rfl)
         go_simp
         (try with_reducible rfl)
        show wpAnyH _ _ _ _ _ _ _ (Act.put _ (some 52) _) _
        (try simp only [Act.put, List.setIfInBounds_toArray, List.set_cons_zero, List.set_cons_succ])
        refine wpAnyH_ready (rs := [6, 10]) (by kernel_rfl) (by simp) ?_
        refine AllReadyH.cons rfl (fun K hK => ?_) (AllReadyH.cons rfl (fun K hK => ?_) AllReadyH.nil)
        ·
         clear hHeld
         go_simp
         go_at_call 25
         refine (HAd.out _).mono ?_
         rintro e Y6 ⟨rfl, hb⟩
         have HB6 := Lib.hid (HY0.out.trans (hb.mono HY0.out.size))
         clear hb
         go_wp2_with fail
         refine hK.out _ _ ?_ (fun hHeld => ?_)
         ·
          exact HB6.out
         clear hK K
         (try simp only [Act.put, List.setIfInBounds_toArray, List.set_cons_zero, List.set_cons_succ])
         refine wpAnyH_take (i := 7) (v := ?_) rfl (by kernel_rfl) (by kernel_rfl) (by kernel_rfl) (fun _ _ _ h => h) (Or.inl ⟨by kernel_rfl, ?_⟩) (by with_reducible assumption) ?_
         rotate_left
         ·
          intro wz hSw
          go_simp
          (try with_reducible rfl)
         show wpAnyH _ _ _ _ _ _ _ (Act.put _ (some 46) _) _
         (try simp only [Act.put, List.setIfInBounds_toArray, List.set_cons_zero, List.set_cons_succ])
         refine wpAnyH_take (i := 8) (v := ?_) rfl (by kernel_rfl) (by kernel_rfl) (by kernel_rfl) (fun _ _ _ h => h) (Or.inl ⟨by kernel_rfl, ?_⟩) (by with_reducible assumption) ?_
         rotate_left
         ·
          intro wz hSw
          go_simp
          (try with_reducible rfl)
         show wpAnyH _ _ _ _ _ _ _ (Act.put _ (some 54) _) _
         (try simp only [Act.put, List.setIfInBounds_toArray, List.set_cons_zero, List.set_cons_succ])
         refine wpAnyH_take (i := 9) (v := ?_) rfl (by kernel_rfl) (by kernel_rfl) (by kernel_rfl) (fun _ _ _ h => h) (Or.inl ⟨by kernel_rfl, ?_⟩) (by with_reducible assumption) ?_
         rotate_left
         ·
          intro wz hSw
          go_simp
          (try with_reducible rfl)
         show wpAnyH _ _ _ _ _ _ _ (Act.put _ (some 55) _) _
         (try simp only [Act.put, List.setIfInBounds_toArray, List.set_cons_zero, List.set_cons_succ])
         refine wpAnyH_ready (rs := [10]) (by kernel_rfl) (by simp) ?_
         refine AllReadyH.cons rfl (fun K hK => ?_) AllReadyH.nil
         clear hHeld
         go_simp
         have HB10 := Lib.hid (HB6.out.alloc HB6.out.size (.cells #[.int .u64 0, .int .u64 0, .int .u64 0, .int .u64 0] 52))
         have F_n := Lib.hid (heap_alloc_new Y6 (.cells #[.int .u64 0, .int .u64 0, .int .u64 0, .int .u64 0] 52))
         obtain ⟨XA, eX⟩ : ∃ y, y = Y6.heap.size := ⟨_, rfl⟩
         go_wp2_with fail
         refine hK.out _ _ ?_ (fun hHeld => ?_)
         ·
          exact HB10.out
         clear hK K
         (try simp only [Act.put, List.setIfInBounds_toArray, List.set_cons_zero, List.set_cons_succ])
         rw [← eX] at F_n ⊢
         have LA := Lib.hid (show w8.heap.size ≤ XA from by rw [eX]; exact HB6.out.size)
         clear eX
         generalize Y6.alloc (.cells #[.int .u64 0, .int .u64 0, .int .u64 0, .int .u64 0] 52) = Y10 at HB10 F_n hHeld ⊢
         refine wpAnyH_ready (rs := [11]) (by kernel_rfl) (by simp) ?_
         refine AllReadyH.cons rfl (fun K hK => ?_) AllReadyH.nil
         clear hHeld
         have c0 := (hp_cell (i := 0) F_n.out).trans rfl
         have g0 := hp_free (i := 0) F_n.out
         have c1 := (hp_cell (i := 1) F_n.out).trans rfl
         have g1 := hp_free (i := 1) F_n.out
         have c2 := (hp_cell (i := 2) F_n.out).trans rfl
         have g2 := hp_free (i := 2) F_n.out
         have c3 := (hp_cell (i := 3) F_n.out).trans rfl
         have g3 := hp_free (i := 3) F_n.out
         go_simp
         clear c0 c1 c2 c3 g0 g1 g2 g3
         have HB11 := Lib.hid (show Below w8.heap.size w8 ((((Y10.setCell ⟨XA, 0, none⟩ (.int .u64 (limb s 0 : Nat))).setCell ⟨XA, 1, none⟩ (.int .u64 (limb s 1 : Nat))).setCell ⟨XA, 2, none⟩ (.int .u64 (limb s 2 : Nat))).setCell ⟨XA, 3, none⟩ (.int .u64 (limb s 3 : Nat))) from ((((HB10.out.setCell LA.out _).setCell LA.out _).setCell LA.out _).setCell LA.out _))
         have SX := Lib.hid (setU4 (.int .u64 (limb s 0 : Nat)) (.int .u64 (limb s 1 : Nat)) (.int .u64 (limb s 2 : Nat)) (.int .u64 (limb s 3 : Nat)) F_n.out (rfl : ((((Y10.setCell ⟨XA, 0, none⟩ (.int .u64 (limb s 0 : Nat))).setCell ⟨XA, 1, none⟩ (.int .u64 (limb s 1 : Nat))).setCell ⟨XA, 2, none⟩ (.int .u64 (limb s 2 : Nat))).setCell ⟨XA, 3, none⟩ (.int .u64 (limb s 3 : Nat))) = _))
         go_wp2_with fail
         refine hK.out _ _ ?_ (fun hHeld => ?_)
         ·
          exact HB11.out
         clear hK K
         (try simp only [Act.put, List.setIfInBounds_toArray, List.set_cons_zero, List.set_cons_succ])
         generalize (((Y10.setCell ⟨XA, 0, none⟩ (.int .u64 (limb s 0 : Nat))).setCell ⟨XA, 1, none⟩ (.int .u64 (limb s 1 : Nat))).setCell ⟨XA, 2, none⟩ (.int .u64 (limb s 2 : Nat))).setCell ⟨XA, 3, none⟩ (.int .u64 (limb s 3 : Nat)) = Y11 at HB11 SX hHeld ⊢
         refine wpAnyH_take (i := 12) (v := ?_) rfl (by kernel_rfl) (by kernel_rfl) (by kernel_rfl) (fun _ _ _ h => h) (Or.inl ⟨by kernel_rfl, ?_⟩) (by with_reducible assumption) ?_
         rotate_left
         ·
          intro wz hSw
          go_simp
          (try with_reducible rfl)
         show wpAnyH _ _ _ _ _ _ _ (Act.put _ (some 9) _) _
         (try simp only [Act.put, List.setIfInBounds_toArray, List.set_cons_zero, List.set_cons_succ])
         refine wpAnyH_done (by kernel_rfl) ?_ _
         go_wp2_with fail
         go_meet
         case rel => exact ⟨XA, rfl, SX.out, HB11.out⟩
        ·
         clear hHeld
         go_simp
         have HB10 := Lib.hid (HY0.out.alloc HY0.out.size (.cells #[.int .u64 0, .int .u64 0, .int .u64 0, .int .u64 0] 52))
         have F_n := Lib.hid (heap_alloc_new Y0 (.cells #[.int .u64 0, .int .u64 0, .int .u64 0, .int .u64 0] 52))
         obtain ⟨XA, eX⟩ : ∃ y, y = Y0.heap.size := ⟨_, rfl⟩
         go_wp2_with fail
         refine hK.out _ _ ?_ (fun hHeld => ?_)
         ·
          exact HB10.out
         clear hK K
         (try simp only [Act.put, List.setIfInBounds_toArray, List.set_cons_zero, List.set_cons_succ])
         rw [← eX] at F_n ⊢
         have LA := Lib.hid (show w8.heap.size ≤ XA from by rw [eX]; exact HY0.out.size)
         clear eX
         generalize Y0.alloc (.cells #[.int .u64 0, .int .u64 0, .int .u64 0, .int .u64 0] 52) = Y10 at HB10 F_n hHeld ⊢
         refine wpAnyH_ready (rs := [6]) (by kernel_rfl) (by simp) ?_
         refine AllReadyH.cons rfl (fun K hK => ?_) AllReadyH.nil
         clear hHeld
         go_simp
         go_at_call 25
         refine (HAd.out _).mono ?_
         rintro e Y6 ⟨rfl, hb⟩
         have HB6 := Lib.hid (HB10.out.trans (hb.mono HB10.out.size))
         have F_6 := Lib.hid ((hb.block _ (hp_lt F_n.out)).trans F_n.out)
         clear hb
         go_wp2_with fail
         refine hK.out _ _ ?_ (fun hHeld => ?_)
         ·
          exact HB6.out
         clear hK K
         (try simp only [Act.put, List.setIfInBounds_toArray, List.set_cons_zero, List.set_cons_succ])
         refine wpAnyH_take (i := 7) (v := ?_) rfl (by kernel_rfl) (by kernel_rfl) (by kernel_rfl) (fun _ _ _ h => h) (Or.inl ⟨by kernel_rfl, ?_⟩) (by with_reducible assumption) ?_
         rotate_left
         ·
          intro wz hSw
          go_simp
          (try with_reducible rfl)
         show wpAnyH _ _ _ _ _ _ _ (Act.put _ (some 46) _) _
         (try simp only [Act.put, List.setIfInBounds_toArray, List.set_cons_zero, List.set_cons_succ])
         refine wpAnyH_take (i := 8) (v := ?_) rfl (by kernel_rfl) (by kernel_rfl) (by kernel_rfl) (fun _ _ _ h => h) (Or.inl ⟨by kernel_rfl, ?_⟩) (by with_reducible assumption) ?_
         rotate_left
         ·
          intro wz hSw
          go_simp
          (try with_reducible rfl)
         show wpAnyH _ _ _ _ _ _ _ (Act.put _ (some 54) _) _
         (try simp only [Act.put, List.setIfInBounds_toArray, List.set_cons_zero, List.set_cons_succ])
         refine wpAnyH_take (i := 9) (v := ?_) rfl (by kernel_rfl) (by kernel_rfl) (by kernel_rfl) (fun _ _ _ h => h) (Or.inl ⟨by kernel_rfl, ?_⟩) (by with_reducible assumption) ?_
         rotate_left
         ·
          intro wz hSw
          go_simp
          (try with_reducible rfl)
         show wpAnyH _ _ _ _ _ _ _ (Act.put _ (some 55) _) _
         (try simp only [Act.put, List.setIfInBounds_toArray, List.set_cons_zero, List.set_cons_succ])
         refine wpAnyH_ready (rs := [11]) (by kernel_rfl) (by simp) ?_
         refine AllReadyH.cons rfl (fun K hK => ?_) AllReadyH.nil
         clear hHeld
         have c0 := (hp_cell (i := 0) F_6.out).trans rfl
         have g0 := hp_free (i := 0) F_6.out
         have c1 := (hp_cell (i := 1) F_6.out).trans rfl
         have g1 := hp_free (i := 1) F_6.out
         have c2 := (hp_cell (i := 2) F_6.out).trans rfl
         have g2 := hp_free (i := 2) F_6.out
         have c3 := (hp_cell (i := 3) F_6.out).trans rfl
         have g3 := hp_free (i := 3) F_6.out
         go_simp
         clear c0 c1 c2 c3 g0 g1 g2 g3
         have HB11 := Lib.hid (show Below w8.heap.size w8 ((((Y6.setCell ⟨XA, 0, none⟩ (.int .u64 (limb s 0 : Nat))).setCell ⟨XA, 1, none⟩ (.int .u64 (limb s 1 : Nat))).setCell ⟨XA, 2, none⟩ (.int .u64 (limb s 2 : Nat))).setCell ⟨XA, 3, none⟩ (.int .u64 (limb s 3 : Nat))) from ((((HB6.out.setCell LA.out _).setCell LA.out _).setCell LA.out _).setCell LA.out _))
         have SX := Lib.hid (setU4 (.int .u64 (limb s 0 : Nat)) (.int .u64 (limb s 1 : Nat)) (.int .u64 (limb s 2 : Nat)) (.int .u64 (limb s 3 : Nat)) F_6.out (rfl : ((((Y6.setCell ⟨XA, 0, none⟩ (.int .u64 (limb s 0 : Nat))).setCell ⟨XA, 1, none⟩ (.int .u64 (limb s 1 : Nat))).setCell ⟨XA, 2, none⟩ (.int .u64 (limb s 2 : Nat))).setCell ⟨XA, 3, none⟩ (.int .u64 (limb s 3 : Nat))) = _))
         go_wp2_with fail
         refine hK.out _ _ ?_ (fun hHeld => ?_)
         ·
          exact HB11.out
         clear hK K
         (try simp only [Act.put, List.setIfInBounds_toArray, List.set_cons_zero, List.set_cons_succ])
         generalize (((Y6.setCell ⟨XA, 0, none⟩ (.int .u64 (limb s 0 : Nat))).setCell ⟨XA, 1, none⟩ (.int .u64 (limb s 1 : Nat))).setCell ⟨XA, 2, none⟩ (.int .u64 (limb s 2 : Nat))).setCell ⟨XA, 3, none⟩ (.int .u64 (limb s 3 : Nat)) = Y11 at HB11 SX hHeld ⊢
         refine wpAnyH_take (i := 12) (v := ?_) rfl (by kernel_rfl) (by kernel_rfl) (by kernel_rfl) (fun _ _ _ h => h) (Or.inl ⟨by kernel_rfl, ?_⟩) (by with_reducible assumption) ?_
         rotate_left
         ·
          intro wz hSw
          go_simp
          (try with_reducible rfl)
         show wpAnyH _ _ _ _ _ _ _ (Act.put _ (some 9) _) _
         (try simp only [Act.put, List.setIfInBounds_toArray, List.set_cons_zero, List.set_cons_succ])
         refine wpAnyH_done (by kernel_rfl) ?_ _
         go_wp2_with fail
         go_meet
         case rel => exact ⟨XA, rfl, SX.out, HB11.out⟩
       case rest =>
        obtain ⟨B, rfl, hB, hbc⟩ := hcut
        have RMc := Lib.hid ((hbc.block _ LM.out).trans H8.out.2.1)
        have rx := (hbc.block _ LX.out).trans H8.out.2.2
        have y1 := (hp_cell (i := 1) rx).trans rfl
        have c0 := (hp_cell (i := 0) hB).trans rfl
        have c1 := (hp_cell (i := 1) hB).trans rfl
        have c2 := (hp_cell (i := 2) hB).trans rfl
        have c3 := (hp_cell (i := 3) hB).trans rfl
        have z0 := (hp_cell (i := 8) RMc.out).trans rfl
        have g0 := hp_free (i := 8) RMc.out
        have z1 := (hp_cell (i := 9) RMc.out).trans rfl
        have g1 := hp_free (i := 9) RMc.out
        have z2 := (hp_cell (i := 10) RMc.out).trans rfl
        have g2 := hp_free (i := 10) RMc.out
        have z3 := (hp_cell (i := 11) RMc.out).trans rfl
        have g3 := hp_free (i := 11) RMc.out
        have HSc := Lib.hid (H8.out.1.below hbc)
        have lm := hp_lt RMc.out
        clear hB hbc rx
        go_upto_region 16 with fail
        obtain ⟨Wc, hWc⟩ : ∃ Wc, Wc = (((wc.setCell ⟨M, 8, none⟩ (.int .u64 (limb s 0 : Nat))).setCell ⟨M, 9, none⟩ (.int .u64 (limb s 1 : Nat))).setCell ⟨M, 10, none⟩ (.int .u64 (limb s 2 : Nat))).setCell ⟨M, 11, none⟩ (.int .u64 (limb s 3 : Nat)) := ⟨_, rfl⟩
        rw [← hWc]
        have hTch : Touch [M] wc Wc := by rw [hWc]; exact (((Touch.setCell _ _ _ (by simp)).trans (fun _ hk => .inl hk) (Touch.setCell _ _ _ (by simp))).trans (fun _ hk => .inl hk) (Touch.setCell _ _ _ (by simp))).trans (fun _ hk => .inl hk) (Touch.setCell _ _ _ (by simp))
        have hArr : Wc.heap[M]? = some (.cells #[.int .u64 0, .int .u64 0, .int .u64 0, .int .u64 0, .int .u64 (limb m1 0 : Nat), .int .u64 (limb m1 1 : Nat), .int .u64 (limb m1 2 : Nat), .int .u64 (limb m1 3 : Nat), .int .u64 (limb s 0 : Nat), .int .u64 (limb s 1 : Nat), .int .u64 (limb s 2 : Nat), .int .u64 (limb s 3 : Nat), .int .u64 (limb m3 0 : Nat), .int .u64 (limb m3 1 : Nat), .int .u64 (limb m3 2 : Nat), .int .u64 (limb m3 3 : Nat)] 53 (0, 0)) := by
         rw [hWc]
         have := heap_setCell_row (o := 11) (heap_setCell_row (o := 10) (heap_setCell_row (o := 9) (heap_setCell_row (o := 8) RMc.out (.int .u64 (limb s 0 : Nat))) (.int .u64 (limb s 1 : Nat))) (.int .u64 (limb s 2 : Nat))) (.int .u64 (limb s 3 : Nat))
         simpa using this
        have Hc := Lib.hid (And.intro (HSc.out.other [M] hTch (fun g hg => (by simp only [List.mem_singleton] at hg; subst hg; exact ⟨HMg.out, _, _, _, RMc.out, fArr17⟩))) hArr)
        clear y1 c0 c1 c2 c3 z0 z1 z2 z3 g0 g1 g2 g3 lm hTch hArr hWc
        go_wp2
        go_loopw [10] (fun x wi => ∃ k : Nat, 1 ≤ k ∧ k ≤ 4 ∧ x = .int .i64 (k : Nat) ∧ Below Wc.heap.size Wc wi) (fun x _ => 4 - (intOf x).toNat)
        case atStart => exact ⟨1, by omega, by omega, rfl, Below.refl _ _⟩
        case round =>
         obtain ⟨k, hk1, hk4, rfl, hbk⟩ := hrel
         have HBk := Lib.hid hbk
         clear hbk
         rcases (by omega : k = 4 ∨ k = 1 ∨ k = 2 ∨ k = 3) with rfl | rfl | rfl | rfl
         ·
          go_wp2
          exact ⟨⟨j + 1, F2, q2, qs2, L2, m1, s, m3, by have := HQ.out.2.1; omega, by go_num, Hc.out.1.below HBk.out, by have := HQ2.out; have := HQ.out.1; omega, HM2.out.1, by have := HM2.out.2; have := HQ.out.2.2; omega, HNs.out, (HBk.out.block _ (hp_lt Hc.out.2)).trans Hc.out.2⟩, by simp [intOf]; omega⟩
         ·
          have hT := fun (W1 : World) (hb : Below Wc.heap.size Wc W1) => keep_total (Hc.out.1.below hb) HM2.out.1 (by have := HM2.out.2; have := HQ.out.2.2; have := HQ.out.2.1; omega) 1 (by unfold okT; omega) m1 HNs.out.1.symm
          obtain ⟨v, is, hv, hget⟩ := keep_get Hc.out.1 HM2.out.1 (kS 1) (kS_size 1)
          rw [← HNs.out.1] at hv
          have ha := amt_lt L2 (kS 1)
          rw [← HNs.out.1] at ha
          unfold U at hT
          have HT := Lib.hid hT
          have HG := Lib.hid hget
          have HS := Lib.hid (fun W => supply_is 1 (kS 1) rfl W (by omega))
          obtain ⟨K, eK⟩ : ∃ y, y = kS 1 := ⟨_, rfl⟩
          rw [← eK] at HG HS
          have e1 : ∀ w, (Op.equalIn 10000 52 (.agg #[.int .u64 (limb m1 0 : Nat), .int .u64 (limb m1 1 : Nat), .int .u64 (limb m1 2 : Nat), .int .u64 (limb m1 3 : Nat)]) (.agg #[.int .u64 (limb m1 0 : Nat), .int .u64 (limb m1 1 : Nat), .int .u64 (limb m1 2 : Nat), .int .u64 (limb m1 3 : Nat)])).run Try.prog w = .ok true w := fun w => by rw [eq_run ha ha]; simp
          have e2 := fun w => eq0_run ha w
          obtain ⟨ub, eub⟩ : ∃ y, y = decide (m1 = 0) := ⟨_, rfl⟩
          rw [← eub] at hv e2
          have q1 : (ub == ub) = true := beq_self_eq_true _
          clear hT hget eK ha eub
          go_upto_region 21 with (first
           | (go_at_call 28; refine (HG.out _ H3.out).mono ?_; rintro e w4 ⟨rfl, hb4⟩; have H4 := Lib.hid (H3.out.trans (hb4.mono H3.out.size)); have R4 := Lib.hid ((hb4.block _ (hp_lt R3.out)).trans R3.out); clear hb4)
           | (go_at_call 29; refine (HS.out _).mono ?_; rintro e w3 ⟨rfl, hb3⟩; have hbx := H2.out.alloc H2.out.size (.cells #[.int .u64 (limb m1 0 : Nat), .int .u64 (limb m1 1 : Nat), .int .u64 (limb m1 2 : Nat), .int .u64 (limb m1 3 : Nat)] 52); have H3 := Lib.hid (hbx.trans (hb3.mono hbx.size)); have R3 := Lib.hid ((hb3.block w2.heap.size (by simp)).trans (heap_alloc_new w2 (.cells #[.int .u64 (limb m1 0 : Nat), .int .u64 (limb m1 1 : Nat), .int .u64 (limb m1 2 : Nat), .int .u64 (limb m1 3 : Nat)] 52))); clear hb3 hbx)
           | (go_at_call 27; refine (HT.out _ HBk.out).mono ?_; rintro e w2 ⟨rfl, hb2⟩; have H2 := Lib.hid (HBk.out.trans (hb2.mono HBk.out.size)); clear hb2))
          obtain ⟨B, eB⟩ : ∃ y, y = w2.heap.size := ⟨_, rfl⟩
          rw [← eB] at R4 ⊢
          have LB := Lib.hid (hp_lt R4.out)
          have RM := Lib.hid ((H4.out.block _ (hp_lt Hc.out.2)).trans Hc.out.2)
          have LM := Lib.hid (hp_lt RM.out)
          clear eB
          refine wp_region_held_drew (S := fun w' => Below w4.heap.size w4 w') (by kernel_rfl) ?_ (fun hHeld => ?_)
          ·
           exact (Below.refl _ _).drew
          have HB0 := Lib.hid (show Below w4.heap.size w4 w4.drew from (Below.refl _ _).drew)
          generalize w4.drew = Y0 at HB0 hHeld ⊢
          refine wpAnyH_take (i := 0) (v := ?_) rfl (by kernel_rfl) (by kernel_rfl) (by kernel_rfl) (fun _ _ _ h => h) (Or.inl ⟨by kernel_rfl, ?_⟩) (by with_reducible assumption) ?_
          rotate_left
          ·
           intro wz hSw
           go_simp
           (try with_reducible rfl)
          show wpAnyH _ _ _ _ _ _ _ (Act.put _ (some 87) _) _
          (try simp only [Act.put, List.setIfInBounds_toArray, List.set_cons_zero, List.set_cons_succ])
          refine wpAnyH_take (i := 1) (v := ?_) rfl (by kernel_rfl) (by kernel_rfl) (by kernel_rfl) (fun _ _ _ h => h) (Or.inl ⟨by kernel_rfl, ?_⟩) (by with_reducible assumption) ?_
          rotate_left
          ·
           intro wz hSw
           go_simp
           (try with_reducible rfl)
          show wpAnyH _ _ _ _ _ _ _ (Act.put _ (some 88) _) _
          (try simp only [Act.put, List.setIfInBounds_toArray, List.set_cons_zero, List.set_cons_succ])
          refine wpAnyH_take (i := 2) (v := ?_) rfl (by kernel_rfl) (by kernel_rfl) (by kernel_rfl) (fun _ _ _ h => h) (Or.inl ⟨by kernel_rfl, ?_⟩) (by with_reducible assumption) ?_
          rotate_left
          ·
           intro wz hSw
           go_simp
           (try with_reducible rfl)
          show wpAnyH _ _ _ _ _ _ _ (Act.put _ (some 89) _) _
          (try simp only [Act.put, List.setIfInBounds_toArray, List.set_cons_zero, List.set_cons_succ])
          refine wpAnyH_take (i := 3) (v := .agg #[.int .u64 (limb m1 0 : Nat), .int .u64 (limb m1 1 : Nat), .int .u64 (limb m1 2 : Nat), .int .u64 (limb m1 3 : Nat)]) rfl (by kernel_rfl) (by kernel_rfl) (by kernel_rfl) (fun _ _ _ h => h) (Or.inl ⟨by kernel_rfl, ?_⟩) (by with_reducible assumption) ?_
          ·
           intro wz hSw
           (try dsimp only at hSw)
           have y0 := (hSw.cell (p := ⟨B, 0, none⟩) LB.out).trans ((hp_cell (i := 0) R4.out).trans rfl)
           have y1 := (hSw.cell (p := ⟨B, 1, none⟩) LB.out).trans ((hp_cell (i := 1) R4.out).trans rfl)
           have y2 := (hSw.cell (p := ⟨B, 2, none⟩) LB.out).trans ((hp_cell (i := 2) R4.out).trans rfl)
           have y3 := (hSw.cell (p := ⟨B, 3, none⟩) LB.out).trans ((hp_cell (i := 3) R4.out).trans rfl)
           go_simp
           (try with_reducible rfl)
          show wpAnyH _ _ _ _ _ _ _ (Act.put _ (some 90) _) _
          (try simp only [Act.put, List.setIfInBounds_toArray, List.set_cons_zero, List.set_cons_succ])
          refine wpAnyH_take (i := 4) (v := ?_) rfl (by kernel_rfl) (by kernel_rfl) (by kernel_rfl) (fun _ _ _ h => h) (Or.inl ⟨by kernel_rfl, ?_⟩) (by with_reducible assumption) ?_
          rotate_left
          ·
           intro wz hSw
           go_simp
           (try with_reducible rfl)
          show wpAnyH _ _ _ _ _ _ _ (Act.put _ (some 91) _) _
          (try simp only [Act.put, List.setIfInBounds_toArray, List.set_cons_zero, List.set_cons_succ])
          refine wpAnyH_take (i := 5) (v := ?_) rfl (by kernel_rfl) (by kernel_rfl) (by kernel_rfl) (fun _ _ _ h => h) (Or.inl ⟨by kernel_rfl, ?_⟩) (by with_reducible assumption) ?_
          rotate_left
          ·
           intro wz hSw
           go_simp
           (try with_reducible rfl)
          show wpAnyH _ _ _ _ _ _ _ (Act.put _ (some 92) _) _
          (try simp only [Act.put, List.setIfInBounds_toArray, List.set_cons_zero, List.set_cons_succ])
          refine wpAnyH_take (i := 6) (v := .agg #[.int .u64 (limb m1 0 : Nat), .int .u64 (limb m1 1 : Nat), .int .u64 (limb m1 2 : Nat), .int .u64 (limb m1 3 : Nat)]) rfl (by kernel_rfl) (by kernel_rfl) (by kernel_rfl) (fun _ _ _ h => h) (Or.inl ⟨by kernel_rfl, ?_⟩) (by with_reducible assumption) ?_
          ·
           intro wz hSw
           (try dsimp only at hSw)
           have y0 := (hSw.cell (p := ⟨M, 4, none⟩) LM.out).trans ((hp_cell (i := 4) RM.out).trans rfl)
           have y1 := (hSw.cell (p := ⟨M, 5, none⟩) LM.out).trans ((hp_cell (i := 5) RM.out).trans rfl)
           have y2 := (hSw.cell (p := ⟨M, 6, none⟩) LM.out).trans ((hp_cell (i := 6) RM.out).trans rfl)
           have y3 := (hSw.cell (p := ⟨M, 7, none⟩) LM.out).trans ((hp_cell (i := 7) RM.out).trans rfl)
           go_simp
           (try with_reducible rfl)
          show wpAnyH _ _ _ _ _ _ _ (Act.put _ (some 93) _) _
          (try simp only [Act.put, List.setIfInBounds_toArray, List.set_cons_zero, List.set_cons_succ])
          refine wpAnyH_take (i := 7) (v := ?_) rfl (by kernel_rfl) (by kernel_rfl) (by kernel_rfl) (fun _ _ _ h => h) (Or.inl ⟨by kernel_rfl, ?_⟩) (by with_reducible assumption) ?_
          rotate_left
          ·
           intro wz hSw
           go_simp
           (try with_reducible rfl)
          show wpAnyH _ _ _ _ _ _ _ (Act.put _ (some 94) _) _
          (try simp only [Act.put, List.setIfInBounds_toArray, List.set_cons_zero, List.set_cons_succ])
          refine wpAnyH_take (i := 8) (v := ?_) rfl (by kernel_rfl) (by kernel_rfl) (by kernel_rfl) (fun _ _ _ h => h) (Or.inl ⟨by kernel_rfl, ?_⟩) (by with_reducible assumption) ?_
          rotate_left
          ·
           intro wz hSw
           go_simp
           (try with_reducible rfl)
          show wpAnyH _ _ _ _ _ _ _ (Act.put _ (some 95) _) _
          (try simp only [Act.put, List.setIfInBounds_toArray, List.set_cons_zero, List.set_cons_succ])
          refine wpAnyH_take (i := 9) (v := ?_) rfl (by kernel_rfl) (by kernel_rfl) (by kernel_rfl) (fun _ _ _ h => h) (Or.inl ⟨by kernel_rfl, ?_⟩) (by with_reducible assumption) ?_
          rotate_left
          ·
           intro wz hSw
           go_simp
           (try with_reducible rfl)
          show wpAnyH _ _ _ _ _ _ _ (Act.put _ (some 96) _) _
          (try simp only [Act.put, List.setIfInBounds_toArray, List.set_cons_zero, List.set_cons_succ])
          refine wpAnyH_take (i := 10) (v := ?_) rfl (by kernel_rfl) (by kernel_rfl) (by kernel_rfl) (fun _ _ _ h => h) (Or.inl ⟨by kernel_rfl, ?_⟩) (by with_reducible assumption) ?_
          rotate_left
          ·
           intro wz hSw
           go_simp
           (try with_reducible rfl)
          show wpAnyH _ _ _ _ _ _ _ (Act.put _ (some 97) _) _
          (try simp only [Act.put, List.setIfInBounds_toArray, List.set_cons_zero, List.set_cons_succ])
          refine wpAnyH_take (i := 11) (v := ?_) rfl (by kernel_rfl) (by kernel_rfl) (by kernel_rfl) (fun _ _ _ h => h) (Or.inl ⟨by kernel_rfl, ?_⟩) (by with_reducible assumption) ?_
          rotate_left
          ·
           intro wz hSw
           go_simp
           (try with_reducible rfl)
          show wpAnyH _ _ _ _ _ _ _ (Act.put _ (some 98) _) _
          (try simp only [Act.put, List.setIfInBounds_toArray, List.set_cons_zero, List.set_cons_succ])
          refine wpAnyH_take (i := 12) (v := .agg #[.int .u64 (limb m1 0 : Nat), .int .u64 (limb m1 1 : Nat), .int .u64 (limb m1 2 : Nat), .int .u64 (limb m1 3 : Nat)]) rfl (by kernel_rfl) (by kernel_rfl) (by kernel_rfl) (fun _ _ _ h => h) (Or.inl ⟨by kernel_rfl, ?_⟩) (by with_reducible assumption) ?_
          ·
           intro wz hSw
           (try dsimp only at hSw)
           have y0 := (hSw.cell (p := ⟨B, 0, none⟩) LB.out).trans ((hp_cell (i := 0) R4.out).trans rfl)
           have y1 := (hSw.cell (p := ⟨B, 1, none⟩) LB.out).trans ((hp_cell (i := 1) R4.out).trans rfl)
           have y2 := (hSw.cell (p := ⟨B, 2, none⟩) LB.out).trans ((hp_cell (i := 2) R4.out).trans rfl)
           have y3 := (hSw.cell (p := ⟨B, 3, none⟩) LB.out).trans ((hp_cell (i := 3) R4.out).trans rfl)
           go_simp
           (try with_reducible rfl)
          show wpAnyH _ _ _ _ _ _ _ (Act.put _ (some 99) _) _
          (try simp only [Act.put, List.setIfInBounds_toArray, List.set_cons_zero, List.set_cons_succ])
          refine wpAnyH_take (i := 13) (v := ?_) rfl (by kernel_rfl) (by kernel_rfl) (by kernel_rfl) (fun _ _ _ h => h) (Or.inl ⟨by kernel_rfl, ?_⟩) (by with_reducible assumption) ?_
          rotate_left
          ·
           intro wz hSw
           go_simp
           (try with_reducible rfl)
          show wpAnyH _ _ _ _ _ _ _ (Act.put _ (some 100) _) _
          (try simp only [Act.put, List.setIfInBounds_toArray, List.set_cons_zero, List.set_cons_succ])
          refine wpAnyH_take (i := 14) (v := ?_) rfl (by kernel_rfl) (by kernel_rfl) (by kernel_rfl) (fun _ _ _ h => h) (Or.inl ⟨by kernel_rfl, ?_⟩) (by with_reducible assumption) ?_
          rotate_left
          ·
           intro wz hSw
           go_simp
           (try with_reducible rfl)
          show wpAnyH _ _ _ _ _ _ _ (Act.put _ (some 101) _) _
          (try simp only [Act.put, List.setIfInBounds_toArray, List.set_cons_zero, List.set_cons_succ])
          refine wpAnyH_take (i := 15) (v := ?_) rfl (by kernel_rfl) (by kernel_rfl) (by kernel_rfl) (fun _ _ _ h => h) (Or.inl ⟨by kernel_rfl, ?_⟩) (by with_reducible assumption) ?_
          rotate_left
          ·
           intro wz hSw
           go_simp
           (try with_reducible rfl)
          show wpAnyH _ _ _ _ _ _ _ (Act.put _ (some 102) _) _
          (try simp only [Act.put, List.setIfInBounds_toArray, List.set_cons_zero, List.set_cons_succ])
          refine wpAnyH_take (i := 16) (v := ?_) rfl (by kernel_rfl) (by kernel_rfl) (by kernel_rfl) (fun _ _ _ h => h) (Or.inl ⟨by kernel_rfl, ?_⟩) (by with_reducible assumption) ?_
          rotate_left
          ·
           intro wz hSw
           go_simp
           (try with_reducible rfl)
          show wpAnyH _ _ _ _ _ _ _ (Act.put _ (some 103) _) _
          (try simp only [Act.put, List.setIfInBounds_toArray, List.set_cons_zero, List.set_cons_succ])
          refine wpAnyH_take (i := 17) (v := ?_) rfl (by kernel_rfl) (by kernel_rfl) (by kernel_rfl) (fun _ _ _ h => h) (Or.inl ⟨by kernel_rfl, ?_⟩) (by with_reducible assumption) ?_
          rotate_left
          ·
           intro wz hSw
           go_simp
           (try with_reducible rfl)
          show wpAnyH _ _ _ _ _ _ _ (Act.put _ (some 104) _) _
          (try simp only [Act.put, List.setIfInBounds_toArray, List.set_cons_zero, List.set_cons_succ])
          refine wpAnyH_take (i := 18) (v := ?_) rfl (by kernel_rfl) (by kernel_rfl) (by kernel_rfl) (fun _ _ _ h => h) (Or.inl ⟨by kernel_rfl, ?_⟩) (by with_reducible assumption) ?_
          rotate_left
          ·
           intro wz hSw
           go_simp
           (try with_reducible rfl)
          show wpAnyH _ _ _ _ _ _ _ (Act.put _ (some 105) _) _
          (try simp only [Act.put, List.setIfInBounds_toArray, List.set_cons_zero, List.set_cons_succ])
          refine wpAnyH_take (i := 19) (v := ?_) rfl (by kernel_rfl) (by kernel_rfl) (by kernel_rfl) (fun _ _ _ h => h) (Or.inl ⟨by kernel_rfl, ?_⟩) (by with_reducible assumption) ?_
          rotate_left
          ·
           intro wz hSw
           go_simp
           (try with_reducible rfl)
          show wpAnyH _ _ _ _ _ _ _ (Act.put _ (some 106) _) _
          (try simp only [Act.put, List.setIfInBounds_toArray, List.set_cons_zero, List.set_cons_succ])
          refine wpAnyH_take (i := 20) (v := ?_) rfl (by kernel_rfl) (by kernel_rfl) (by kernel_rfl) (fun _ _ _ h => h) (Or.inl ⟨by kernel_rfl, ?_⟩) (by with_reducible assumption) ?_
          rotate_left
          ·
           intro wz hSw
           go_simp
           (try with_reducible rfl)
          show wpAnyH _ _ _ _ _ _ _ (Act.put _ (some 107) _) _
          (try simp only [Act.put, List.setIfInBounds_toArray, List.set_cons_zero, List.set_cons_succ])
          refine wpAnyH_done (by kernel_rfl) ?_ _
          go_wp2_with fail
          exact ⟨⟨2, by omega, by omega, by go_num, H4.out.trans (HB0.out.mono H4.out.size)⟩, by simp [intOf]⟩
         ·
          have hT := fun (W1 : World) (hb : Below Wc.heap.size Wc W1) => keep_total (Hc.out.1.below hb) HM2.out.1 (by have := HM2.out.2; have := HQ.out.2.2; have := HQ.out.2.1; omega) 2 (by unfold okT; omega) s HNs.out.2.1.symm
          obtain ⟨v, is, hv, hget⟩ := keep_get Hc.out.1 HM2.out.1 (kS 2) (kS_size 2)
          rw [← HNs.out.2.1] at hv
          have ha := amt_lt L2 (kS 2)
          rw [← HNs.out.2.1] at ha
          unfold U at hT
          have HT := Lib.hid hT
          have HG := Lib.hid hget
          have HS := Lib.hid (fun W => supply_is 2 (kS 2) rfl W (by omega))
          obtain ⟨K, eK⟩ : ∃ y, y = kS 2 := ⟨_, rfl⟩
          rw [← eK] at HG HS
          have e1 : ∀ w, (Op.equalIn 10000 52 (.agg #[.int .u64 (limb s 0 : Nat), .int .u64 (limb s 1 : Nat), .int .u64 (limb s 2 : Nat), .int .u64 (limb s 3 : Nat)]) (.agg #[.int .u64 (limb s 0 : Nat), .int .u64 (limb s 1 : Nat), .int .u64 (limb s 2 : Nat), .int .u64 (limb s 3 : Nat)])).run Try.prog w = .ok true w := fun w => by rw [eq_run ha ha]; simp
          have e2 := fun w => eq0_run ha w
          obtain ⟨ub, eub⟩ : ∃ y, y = decide (s = 0) := ⟨_, rfl⟩
          rw [← eub] at hv e2
          have q1 : (ub == ub) = true := beq_self_eq_true _
          clear hT hget eK ha eub
          go_upto_region 21 with (first
           | (go_at_call 28; refine (HG.out _ H3.out).mono ?_; rintro e w4 ⟨rfl, hb4⟩; have H4 := Lib.hid (H3.out.trans (hb4.mono H3.out.size)); have R4 := Lib.hid ((hb4.block _ (hp_lt R3.out)).trans R3.out); clear hb4)
           | (go_at_call 29; refine (HS.out _).mono ?_; rintro e w3 ⟨rfl, hb3⟩; have hbx := H2.out.alloc H2.out.size (.cells #[.int .u64 (limb s 0 : Nat), .int .u64 (limb s 1 : Nat), .int .u64 (limb s 2 : Nat), .int .u64 (limb s 3 : Nat)] 52); have H3 := Lib.hid (hbx.trans (hb3.mono hbx.size)); have R3 := Lib.hid ((hb3.block w2.heap.size (by simp)).trans (heap_alloc_new w2 (.cells #[.int .u64 (limb s 0 : Nat), .int .u64 (limb s 1 : Nat), .int .u64 (limb s 2 : Nat), .int .u64 (limb s 3 : Nat)] 52))); clear hb3 hbx)
           | (go_at_call 27; refine (HT.out _ HBk.out).mono ?_; rintro e w2 ⟨rfl, hb2⟩; have H2 := Lib.hid (HBk.out.trans (hb2.mono HBk.out.size)); clear hb2))
          obtain ⟨B, eB⟩ : ∃ y, y = w2.heap.size := ⟨_, rfl⟩
          rw [← eB] at R4 ⊢
          have LB := Lib.hid (hp_lt R4.out)
          have RM := Lib.hid ((H4.out.block _ (hp_lt Hc.out.2)).trans Hc.out.2)
          have LM := Lib.hid (hp_lt RM.out)
          clear eB
          refine wp_region_held_drew (S := fun w' => Below w4.heap.size w4 w') (by kernel_rfl) ?_ (fun hHeld => ?_)
          ·
           exact (Below.refl _ _).drew
          have HB0 := Lib.hid (show Below w4.heap.size w4 w4.drew from (Below.refl _ _).drew)
          generalize w4.drew = Y0 at HB0 hHeld ⊢
          refine wpAnyH_take (i := 0) (v := ?_) rfl (by kernel_rfl) (by kernel_rfl) (by kernel_rfl) (fun _ _ _ h => h) (Or.inl ⟨by kernel_rfl, ?_⟩) (by with_reducible assumption) ?_
          rotate_left
          ·
           intro wz hSw
           go_simp
           (try with_reducible rfl)
          show wpAnyH _ _ _ _ _ _ _ (Act.put _ (some 87) _) _
          (try simp only [Act.put, List.setIfInBounds_toArray, List.set_cons_zero, List.set_cons_succ])
          refine wpAnyH_take (i := 1) (v := ?_) rfl (by kernel_rfl) (by kernel_rfl) (by kernel_rfl) (fun _ _ _ h => h) (Or.inl ⟨by kernel_rfl, ?_⟩) (by with_reducible assumption) ?_
          rotate_left
          ·
           intro wz hSw
           go_simp
           (try with_reducible rfl)
          show wpAnyH _ _ _ _ _ _ _ (Act.put _ (some 88) _) _
          (try simp only [Act.put, List.setIfInBounds_toArray, List.set_cons_zero, List.set_cons_succ])
          refine wpAnyH_take (i := 2) (v := ?_) rfl (by kernel_rfl) (by kernel_rfl) (by kernel_rfl) (fun _ _ _ h => h) (Or.inl ⟨by kernel_rfl, ?_⟩) (by with_reducible assumption) ?_
          rotate_left
          ·
           intro wz hSw
           go_simp
           (try with_reducible rfl)
          show wpAnyH _ _ _ _ _ _ _ (Act.put _ (some 89) _) _
          (try simp only [Act.put, List.setIfInBounds_toArray, List.set_cons_zero, List.set_cons_succ])
          refine wpAnyH_take (i := 3) (v := .agg #[.int .u64 (limb s 0 : Nat), .int .u64 (limb s 1 : Nat), .int .u64 (limb s 2 : Nat), .int .u64 (limb s 3 : Nat)]) rfl (by kernel_rfl) (by kernel_rfl) (by kernel_rfl) (fun _ _ _ h => h) (Or.inl ⟨by kernel_rfl, ?_⟩) (by with_reducible assumption) ?_
          ·
           intro wz hSw
           (try dsimp only at hSw)
           have y0 := (hSw.cell (p := ⟨B, 0, none⟩) LB.out).trans ((hp_cell (i := 0) R4.out).trans rfl)
           have y1 := (hSw.cell (p := ⟨B, 1, none⟩) LB.out).trans ((hp_cell (i := 1) R4.out).trans rfl)
           have y2 := (hSw.cell (p := ⟨B, 2, none⟩) LB.out).trans ((hp_cell (i := 2) R4.out).trans rfl)
           have y3 := (hSw.cell (p := ⟨B, 3, none⟩) LB.out).trans ((hp_cell (i := 3) R4.out).trans rfl)
           go_simp
           (try with_reducible rfl)
          show wpAnyH _ _ _ _ _ _ _ (Act.put _ (some 90) _) _
          (try simp only [Act.put, List.setIfInBounds_toArray, List.set_cons_zero, List.set_cons_succ])
          refine wpAnyH_take (i := 4) (v := ?_) rfl (by kernel_rfl) (by kernel_rfl) (by kernel_rfl) (fun _ _ _ h => h) (Or.inl ⟨by kernel_rfl, ?_⟩) (by with_reducible assumption) ?_
          rotate_left
          ·
           intro wz hSw
           go_simp
           (try with_reducible rfl)
          show wpAnyH _ _ _ _ _ _ _ (Act.put _ (some 91) _) _
          (try simp only [Act.put, List.setIfInBounds_toArray, List.set_cons_zero, List.set_cons_succ])
          refine wpAnyH_take (i := 5) (v := ?_) rfl (by kernel_rfl) (by kernel_rfl) (by kernel_rfl) (fun _ _ _ h => h) (Or.inl ⟨by kernel_rfl, ?_⟩) (by with_reducible assumption) ?_
          rotate_left
          ·
           intro wz hSw
           go_simp
           (try with_reducible rfl)
          show wpAnyH _ _ _ _ _ _ _ (Act.put _ (some 92) _) _
          (try simp only [Act.put, List.setIfInBounds_toArray, List.set_cons_zero, List.set_cons_succ])
          refine wpAnyH_take (i := 6) (v := .agg #[.int .u64 (limb s 0 : Nat), .int .u64 (limb s 1 : Nat), .int .u64 (limb s 2 : Nat), .int .u64 (limb s 3 : Nat)]) rfl (by kernel_rfl) (by kernel_rfl) (by kernel_rfl) (fun _ _ _ h => h) (Or.inl ⟨by kernel_rfl, ?_⟩) (by with_reducible assumption) ?_
          ·
           intro wz hSw
           (try dsimp only at hSw)
           have y0 := (hSw.cell (p := ⟨M, 8, none⟩) LM.out).trans ((hp_cell (i := 8) RM.out).trans rfl)
           have y1 := (hSw.cell (p := ⟨M, 9, none⟩) LM.out).trans ((hp_cell (i := 9) RM.out).trans rfl)
           have y2 := (hSw.cell (p := ⟨M, 10, none⟩) LM.out).trans ((hp_cell (i := 10) RM.out).trans rfl)
           have y3 := (hSw.cell (p := ⟨M, 11, none⟩) LM.out).trans ((hp_cell (i := 11) RM.out).trans rfl)
           go_simp
           (try with_reducible rfl)
          show wpAnyH _ _ _ _ _ _ _ (Act.put _ (some 93) _) _
          (try simp only [Act.put, List.setIfInBounds_toArray, List.set_cons_zero, List.set_cons_succ])
          refine wpAnyH_take (i := 7) (v := ?_) rfl (by kernel_rfl) (by kernel_rfl) (by kernel_rfl) (fun _ _ _ h => h) (Or.inl ⟨by kernel_rfl, ?_⟩) (by with_reducible assumption) ?_
          rotate_left
          ·
           intro wz hSw
           go_simp
           (try with_reducible rfl)
          show wpAnyH _ _ _ _ _ _ _ (Act.put _ (some 94) _) _
          (try simp only [Act.put, List.setIfInBounds_toArray, List.set_cons_zero, List.set_cons_succ])
          refine wpAnyH_take (i := 8) (v := ?_) rfl (by kernel_rfl) (by kernel_rfl) (by kernel_rfl) (fun _ _ _ h => h) (Or.inl ⟨by kernel_rfl, ?_⟩) (by with_reducible assumption) ?_
          rotate_left
          ·
           intro wz hSw
           go_simp
           (try with_reducible rfl)
          show wpAnyH _ _ _ _ _ _ _ (Act.put _ (some 95) _) _
          (try simp only [Act.put, List.setIfInBounds_toArray, List.set_cons_zero, List.set_cons_succ])
          refine wpAnyH_take (i := 9) (v := ?_) rfl (by kernel_rfl) (by kernel_rfl) (by kernel_rfl) (fun _ _ _ h => h) (Or.inl ⟨by kernel_rfl, ?_⟩) (by with_reducible assumption) ?_
          rotate_left
          ·
           intro wz hSw
           go_simp
           (try with_reducible rfl)
          show wpAnyH _ _ _ _ _ _ _ (Act.put _ (some 96) _) _
          (try simp only [Act.put, List.setIfInBounds_toArray, List.set_cons_zero, List.set_cons_succ])
          refine wpAnyH_take (i := 10) (v := ?_) rfl (by kernel_rfl) (by kernel_rfl) (by kernel_rfl) (fun _ _ _ h => h) (Or.inl ⟨by kernel_rfl, ?_⟩) (by with_reducible assumption) ?_
          rotate_left
          ·
           intro wz hSw
           go_simp
           (try with_reducible rfl)
          show wpAnyH _ _ _ _ _ _ _ (Act.put _ (some 97) _) _
          (try simp only [Act.put, List.setIfInBounds_toArray, List.set_cons_zero, List.set_cons_succ])
          refine wpAnyH_take (i := 11) (v := ?_) rfl (by kernel_rfl) (by kernel_rfl) (by kernel_rfl) (fun _ _ _ h => h) (Or.inl ⟨by kernel_rfl, ?_⟩) (by with_reducible assumption) ?_
          rotate_left
          ·
           intro wz hSw
           go_simp
           (try with_reducible rfl)
          show wpAnyH _ _ _ _ _ _ _ (Act.put _ (some 98) _) _
          (try simp only [Act.put, List.setIfInBounds_toArray, List.set_cons_zero, List.set_cons_succ])
          refine wpAnyH_take (i := 12) (v := .agg #[.int .u64 (limb s 0 : Nat), .int .u64 (limb s 1 : Nat), .int .u64 (limb s 2 : Nat), .int .u64 (limb s 3 : Nat)]) rfl (by kernel_rfl) (by kernel_rfl) (by kernel_rfl) (fun _ _ _ h => h) (Or.inl ⟨by kernel_rfl, ?_⟩) (by with_reducible assumption) ?_
          ·
           intro wz hSw
           (try dsimp only at hSw)
           have y0 := (hSw.cell (p := ⟨B, 0, none⟩) LB.out).trans ((hp_cell (i := 0) R4.out).trans rfl)
           have y1 := (hSw.cell (p := ⟨B, 1, none⟩) LB.out).trans ((hp_cell (i := 1) R4.out).trans rfl)
           have y2 := (hSw.cell (p := ⟨B, 2, none⟩) LB.out).trans ((hp_cell (i := 2) R4.out).trans rfl)
           have y3 := (hSw.cell (p := ⟨B, 3, none⟩) LB.out).trans ((hp_cell (i := 3) R4.out).trans rfl)
           go_simp
           (try with_reducible rfl)
          show wpAnyH _ _ _ _ _ _ _ (Act.put _ (some 99) _) _
          (try simp only [Act.put, List.setIfInBounds_toArray, List.set_cons_zero, List.set_cons_succ])
          refine wpAnyH_take (i := 13) (v := ?_) rfl (by kernel_rfl) (by kernel_rfl) (by kernel_rfl) (fun _ _ _ h => h) (Or.inl ⟨by kernel_rfl, ?_⟩) (by with_reducible assumption) ?_
          rotate_left
          ·
           intro wz hSw
           go_simp
           (try with_reducible rfl)
          show wpAnyH _ _ _ _ _ _ _ (Act.put _ (some 100) _) _
          (try simp only [Act.put, List.setIfInBounds_toArray, List.set_cons_zero, List.set_cons_succ])
          refine wpAnyH_take (i := 14) (v := ?_) rfl (by kernel_rfl) (by kernel_rfl) (by kernel_rfl) (fun _ _ _ h => h) (Or.inl ⟨by kernel_rfl, ?_⟩) (by with_reducible assumption) ?_
          rotate_left
          ·
           intro wz hSw
           go_simp
           (try with_reducible rfl)
          show wpAnyH _ _ _ _ _ _ _ (Act.put _ (some 101) _) _
          (try simp only [Act.put, List.setIfInBounds_toArray, List.set_cons_zero, List.set_cons_succ])
          refine wpAnyH_take (i := 15) (v := ?_) rfl (by kernel_rfl) (by kernel_rfl) (by kernel_rfl) (fun _ _ _ h => h) (Or.inl ⟨by kernel_rfl, ?_⟩) (by with_reducible assumption) ?_
          rotate_left
          ·
           intro wz hSw
           go_simp
           (try with_reducible rfl)
          show wpAnyH _ _ _ _ _ _ _ (Act.put _ (some 102) _) _
          (try simp only [Act.put, List.setIfInBounds_toArray, List.set_cons_zero, List.set_cons_succ])
          refine wpAnyH_take (i := 16) (v := ?_) rfl (by kernel_rfl) (by kernel_rfl) (by kernel_rfl) (fun _ _ _ h => h) (Or.inl ⟨by kernel_rfl, ?_⟩) (by with_reducible assumption) ?_
          rotate_left
          ·
           intro wz hSw
           go_simp
           (try with_reducible rfl)
          show wpAnyH _ _ _ _ _ _ _ (Act.put _ (some 103) _) _
          (try simp only [Act.put, List.setIfInBounds_toArray, List.set_cons_zero, List.set_cons_succ])
          refine wpAnyH_take (i := 17) (v := ?_) rfl (by kernel_rfl) (by kernel_rfl) (by kernel_rfl) (fun _ _ _ h => h) (Or.inl ⟨by kernel_rfl, ?_⟩) (by with_reducible assumption) ?_
          rotate_left
          ·
           intro wz hSw
           go_simp
           (try with_reducible rfl)
          show wpAnyH _ _ _ _ _ _ _ (Act.put _ (some 104) _) _
          (try simp only [Act.put, List.setIfInBounds_toArray, List.set_cons_zero, List.set_cons_succ])
          refine wpAnyH_take (i := 18) (v := ?_) rfl (by kernel_rfl) (by kernel_rfl) (by kernel_rfl) (fun _ _ _ h => h) (Or.inl ⟨by kernel_rfl, ?_⟩) (by with_reducible assumption) ?_
          rotate_left
          ·
           intro wz hSw
           go_simp
           (try with_reducible rfl)
          show wpAnyH _ _ _ _ _ _ _ (Act.put _ (some 105) _) _
          (try simp only [Act.put, List.setIfInBounds_toArray, List.set_cons_zero, List.set_cons_succ])
          refine wpAnyH_take (i := 19) (v := ?_) rfl (by kernel_rfl) (by kernel_rfl) (by kernel_rfl) (fun _ _ _ h => h) (Or.inl ⟨by kernel_rfl, ?_⟩) (by with_reducible assumption) ?_
          rotate_left
          ·
           intro wz hSw
           go_simp
           (try with_reducible rfl)
          show wpAnyH _ _ _ _ _ _ _ (Act.put _ (some 106) _) _
          (try simp only [Act.put, List.setIfInBounds_toArray, List.set_cons_zero, List.set_cons_succ])
          refine wpAnyH_take (i := 20) (v := ?_) rfl (by kernel_rfl) (by kernel_rfl) (by kernel_rfl) (fun _ _ _ h => h) (Or.inl ⟨by kernel_rfl, ?_⟩) (by with_reducible assumption) ?_
          rotate_left
          ·
           intro wz hSw
           go_simp
           (try with_reducible rfl)
          show wpAnyH _ _ _ _ _ _ _ (Act.put _ (some 107) _) _
          (try simp only [Act.put, List.setIfInBounds_toArray, List.set_cons_zero, List.set_cons_succ])
          refine wpAnyH_done (by kernel_rfl) ?_ _
          go_wp2_with fail
          exact ⟨⟨3, by omega, by omega, by go_num, H4.out.trans (HB0.out.mono H4.out.size)⟩, by simp [intOf]⟩
         ·
          have hT := fun (W1 : World) (hb : Below Wc.heap.size Wc W1) => keep_total (Hc.out.1.below hb) HM2.out.1 (by have := HM2.out.2; have := HQ.out.2.2; have := HQ.out.2.1; omega) 3 (by unfold okT; omega) m3 HNs.out.2.2.symm
          obtain ⟨v, is, hv, hget⟩ := keep_get Hc.out.1 HM2.out.1 (kS 3) (kS_size 3)
          rw [← HNs.out.2.2] at hv
          have ha := amt_lt L2 (kS 3)
          rw [← HNs.out.2.2] at ha
          unfold U at hT
          have HT := Lib.hid hT
          have HG := Lib.hid hget
          have HS := Lib.hid (fun W => supply_is 3 (kS 3) rfl W (by omega))
          obtain ⟨K, eK⟩ : ∃ y, y = kS 3 := ⟨_, rfl⟩
          rw [← eK] at HG HS
          have e1 : ∀ w, (Op.equalIn 10000 52 (.agg #[.int .u64 (limb m3 0 : Nat), .int .u64 (limb m3 1 : Nat), .int .u64 (limb m3 2 : Nat), .int .u64 (limb m3 3 : Nat)]) (.agg #[.int .u64 (limb m3 0 : Nat), .int .u64 (limb m3 1 : Nat), .int .u64 (limb m3 2 : Nat), .int .u64 (limb m3 3 : Nat)])).run Try.prog w = .ok true w := fun w => by rw [eq_run ha ha]; simp
          have e2 := fun w => eq0_run ha w
          obtain ⟨ub, eub⟩ : ∃ y, y = decide (m3 = 0) := ⟨_, rfl⟩
          rw [← eub] at hv e2
          have q1 : (ub == ub) = true := beq_self_eq_true _
          clear hT hget eK ha eub
          go_upto_region 21 with (first
           | (go_at_call 28; refine (HG.out _ H3.out).mono ?_; rintro e w4 ⟨rfl, hb4⟩; have H4 := Lib.hid (H3.out.trans (hb4.mono H3.out.size)); have R4 := Lib.hid ((hb4.block _ (hp_lt R3.out)).trans R3.out); clear hb4)
           | (go_at_call 29; refine (HS.out _).mono ?_; rintro e w3 ⟨rfl, hb3⟩; have hbx := H2.out.alloc H2.out.size (.cells #[.int .u64 (limb m3 0 : Nat), .int .u64 (limb m3 1 : Nat), .int .u64 (limb m3 2 : Nat), .int .u64 (limb m3 3 : Nat)] 52); have H3 := Lib.hid (hbx.trans (hb3.mono hbx.size)); have R3 := Lib.hid ((hb3.block w2.heap.size (by simp)).trans (heap_alloc_new w2 (.cells #[.int .u64 (limb m3 0 : Nat), .int .u64 (limb m3 1 : Nat), .int .u64 (limb m3 2 : Nat), .int .u64 (limb m3 3 : Nat)] 52))); clear hb3 hbx)
           | (go_at_call 27; refine (HT.out _ HBk.out).mono ?_; rintro e w2 ⟨rfl, hb2⟩; have H2 := Lib.hid (HBk.out.trans (hb2.mono HBk.out.size)); clear hb2))
          obtain ⟨B, eB⟩ : ∃ y, y = w2.heap.size := ⟨_, rfl⟩
          rw [← eB] at R4 ⊢
          have LB := Lib.hid (hp_lt R4.out)
          have RM := Lib.hid ((H4.out.block _ (hp_lt Hc.out.2)).trans Hc.out.2)
          have LM := Lib.hid (hp_lt RM.out)
          clear eB
          refine wp_region_held_drew (S := fun w' => Below w4.heap.size w4 w') (by kernel_rfl) ?_ (fun hHeld => ?_)
          ·
           exact (Below.refl _ _).drew
          have HB0 := Lib.hid (show Below w4.heap.size w4 w4.drew from (Below.refl _ _).drew)
          generalize w4.drew = Y0 at HB0 hHeld ⊢
          refine wpAnyH_take (i := 0) (v := ?_) rfl (by kernel_rfl) (by kernel_rfl) (by kernel_rfl) (fun _ _ _ h => h) (Or.inl ⟨by kernel_rfl, ?_⟩) (by with_reducible assumption) ?_
          rotate_left
          ·
           intro wz hSw
           go_simp
           (try with_reducible rfl)
          show wpAnyH _ _ _ _ _ _ _ (Act.put _ (some 87) _) _
          (try simp only [Act.put, List.setIfInBounds_toArray, List.set_cons_zero, List.set_cons_succ])
          refine wpAnyH_take (i := 1) (v := ?_) rfl (by kernel_rfl) (by kernel_rfl) (by kernel_rfl) (fun _ _ _ h => h) (Or.inl ⟨by kernel_rfl, ?_⟩) (by with_reducible assumption) ?_
          rotate_left
          ·
           intro wz hSw
           go_simp
           (try with_reducible rfl)
          show wpAnyH _ _ _ _ _ _ _ (Act.put _ (some 88) _) _
          (try simp only [Act.put, List.setIfInBounds_toArray, List.set_cons_zero, List.set_cons_succ])
          refine wpAnyH_take (i := 2) (v := ?_) rfl (by kernel_rfl) (by kernel_rfl) (by kernel_rfl) (fun _ _ _ h => h) (Or.inl ⟨by kernel_rfl, ?_⟩) (by with_reducible assumption) ?_
          rotate_left
          ·
           intro wz hSw
           go_simp
           (try with_reducible rfl)
          show wpAnyH _ _ _ _ _ _ _ (Act.put _ (some 89) _) _
          (try simp only [Act.put, List.setIfInBounds_toArray, List.set_cons_zero, List.set_cons_succ])
          refine wpAnyH_take (i := 3) (v := .agg #[.int .u64 (limb m3 0 : Nat), .int .u64 (limb m3 1 : Nat), .int .u64 (limb m3 2 : Nat), .int .u64 (limb m3 3 : Nat)]) rfl (by kernel_rfl) (by kernel_rfl) (by kernel_rfl) (fun _ _ _ h => h) (Or.inl ⟨by kernel_rfl, ?_⟩) (by with_reducible assumption) ?_
          ·
           intro wz hSw
           (try dsimp only at hSw)
           have y0 := (hSw.cell (p := ⟨B, 0, none⟩) LB.out).trans ((hp_cell (i := 0) R4.out).trans rfl)
           have y1 := (hSw.cell (p := ⟨B, 1, none⟩) LB.out).trans ((hp_cell (i := 1) R4.out).trans rfl)
           have y2 := (hSw.cell (p := ⟨B, 2, none⟩) LB.out).trans ((hp_cell (i := 2) R4.out).trans rfl)
           have y3 := (hSw.cell (p := ⟨B, 3, none⟩) LB.out).trans ((hp_cell (i := 3) R4.out).trans rfl)
           go_simp
           (try with_reducible rfl)
          show wpAnyH _ _ _ _ _ _ _ (Act.put _ (some 90) _) _
          (try simp only [Act.put, List.setIfInBounds_toArray, List.set_cons_zero, List.set_cons_succ])
          refine wpAnyH_take (i := 4) (v := ?_) rfl (by kernel_rfl) (by kernel_rfl) (by kernel_rfl) (fun _ _ _ h => h) (Or.inl ⟨by kernel_rfl, ?_⟩) (by with_reducible assumption) ?_
          rotate_left
          ·
           intro wz hSw
           go_simp
           (try with_reducible rfl)
          show wpAnyH _ _ _ _ _ _ _ (Act.put _ (some 91) _) _
          (try simp only [Act.put, List.setIfInBounds_toArray, List.set_cons_zero, List.set_cons_succ])
          refine wpAnyH_take (i := 5) (v := ?_) rfl (by kernel_rfl) (by kernel_rfl) (by kernel_rfl) (fun _ _ _ h => h) (Or.inl ⟨by kernel_rfl, ?_⟩) (by with_reducible assumption) ?_
          rotate_left
          ·
           intro wz hSw
           go_simp
           (try with_reducible rfl)
          show wpAnyH _ _ _ _ _ _ _ (Act.put _ (some 92) _) _
          (try simp only [Act.put, List.setIfInBounds_toArray, List.set_cons_zero, List.set_cons_succ])
          refine wpAnyH_take (i := 6) (v := .agg #[.int .u64 (limb m3 0 : Nat), .int .u64 (limb m3 1 : Nat), .int .u64 (limb m3 2 : Nat), .int .u64 (limb m3 3 : Nat)]) rfl (by kernel_rfl) (by kernel_rfl) (by kernel_rfl) (fun _ _ _ h => h) (Or.inl ⟨by kernel_rfl, ?_⟩) (by with_reducible assumption) ?_
          ·
           intro wz hSw
           (try dsimp only at hSw)
           have y0 := (hSw.cell (p := ⟨M, 12, none⟩) LM.out).trans ((hp_cell (i := 12) RM.out).trans rfl)
           have y1 := (hSw.cell (p := ⟨M, 13, none⟩) LM.out).trans ((hp_cell (i := 13) RM.out).trans rfl)
           have y2 := (hSw.cell (p := ⟨M, 14, none⟩) LM.out).trans ((hp_cell (i := 14) RM.out).trans rfl)
           have y3 := (hSw.cell (p := ⟨M, 15, none⟩) LM.out).trans ((hp_cell (i := 15) RM.out).trans rfl)
           go_simp
           (try with_reducible rfl)
          show wpAnyH _ _ _ _ _ _ _ (Act.put _ (some 93) _) _
          (try simp only [Act.put, List.setIfInBounds_toArray, List.set_cons_zero, List.set_cons_succ])
          refine wpAnyH_take (i := 7) (v := ?_) rfl (by kernel_rfl) (by kernel_rfl) (by kernel_rfl) (fun _ _ _ h => h) (Or.inl ⟨by kernel_rfl, ?_⟩) (by with_reducible assumption) ?_
          rotate_left
          ·
           intro wz hSw
           go_simp
           (try with_reducible rfl)
          show wpAnyH _ _ _ _ _ _ _ (Act.put _ (some 94) _) _
          (try simp only [Act.put, List.setIfInBounds_toArray, List.set_cons_zero, List.set_cons_succ])
          refine wpAnyH_take (i := 8) (v := ?_) rfl (by kernel_rfl) (by kernel_rfl) (by kernel_rfl) (fun _ _ _ h => h) (Or.inl ⟨by kernel_rfl, ?_⟩) (by with_reducible assumption) ?_
          rotate_left
          ·
           intro wz hSw
           go_simp
           (try with_reducible rfl)
          show wpAnyH _ _ _ _ _ _ _ (Act.put _ (some 95) _) _
          (try simp only [Act.put, List.setIfInBounds_toArray, List.set_cons_zero, List.set_cons_succ])
          refine wpAnyH_take (i := 9) (v := ?_) rfl (by kernel_rfl) (by kernel_rfl) (by kernel_rfl) (fun _ _ _ h => h) (Or.inl ⟨by kernel_rfl, ?_⟩) (by with_reducible assumption) ?_
          rotate_left
          ·
           intro wz hSw
           go_simp
           (try with_reducible rfl)
          show wpAnyH _ _ _ _ _ _ _ (Act.put _ (some 96) _) _
          (try simp only [Act.put, List.setIfInBounds_toArray, List.set_cons_zero, List.set_cons_succ])
          refine wpAnyH_take (i := 10) (v := ?_) rfl (by kernel_rfl) (by kernel_rfl) (by kernel_rfl) (fun _ _ _ h => h) (Or.inl ⟨by kernel_rfl, ?_⟩) (by with_reducible assumption) ?_
          rotate_left
          ·
           intro wz hSw
           go_simp
           (try with_reducible rfl)
          show wpAnyH _ _ _ _ _ _ _ (Act.put _ (some 97) _) _
          (try simp only [Act.put, List.setIfInBounds_toArray, List.set_cons_zero, List.set_cons_succ])
          refine wpAnyH_take (i := 11) (v := ?_) rfl (by kernel_rfl) (by kernel_rfl) (by kernel_rfl) (fun _ _ _ h => h) (Or.inl ⟨by kernel_rfl, ?_⟩) (by with_reducible assumption) ?_
          rotate_left
          ·
           intro wz hSw
           go_simp
           (try with_reducible rfl)
          show wpAnyH _ _ _ _ _ _ _ (Act.put _ (some 98) _) _
          (try simp only [Act.put, List.setIfInBounds_toArray, List.set_cons_zero, List.set_cons_succ])
          refine wpAnyH_take (i := 12) (v := .agg #[.int .u64 (limb m3 0 : Nat), .int .u64 (limb m3 1 : Nat), .int .u64 (limb m3 2 : Nat), .int .u64 (limb m3 3 : Nat)]) rfl (by kernel_rfl) (by kernel_rfl) (by kernel_rfl) (fun _ _ _ h => h) (Or.inl ⟨by kernel_rfl, ?_⟩) (by with_reducible assumption) ?_
          ·
           intro wz hSw
           (try dsimp only at hSw)
           have y0 := (hSw.cell (p := ⟨B, 0, none⟩) LB.out).trans ((hp_cell (i := 0) R4.out).trans rfl)
           have y1 := (hSw.cell (p := ⟨B, 1, none⟩) LB.out).trans ((hp_cell (i := 1) R4.out).trans rfl)
           have y2 := (hSw.cell (p := ⟨B, 2, none⟩) LB.out).trans ((hp_cell (i := 2) R4.out).trans rfl)
           have y3 := (hSw.cell (p := ⟨B, 3, none⟩) LB.out).trans ((hp_cell (i := 3) R4.out).trans rfl)
           go_simp
           (try with_reducible rfl)
          show wpAnyH _ _ _ _ _ _ _ (Act.put _ (some 99) _) _
          (try simp only [Act.put, List.setIfInBounds_toArray, List.set_cons_zero, List.set_cons_succ])
          refine wpAnyH_take (i := 13) (v := ?_) rfl (by kernel_rfl) (by kernel_rfl) (by kernel_rfl) (fun _ _ _ h => h) (Or.inl ⟨by kernel_rfl, ?_⟩) (by with_reducible assumption) ?_
          rotate_left
          ·
           intro wz hSw
           go_simp
           (try with_reducible rfl)
          show wpAnyH _ _ _ _ _ _ _ (Act.put _ (some 100) _) _
          (try simp only [Act.put, List.setIfInBounds_toArray, List.set_cons_zero, List.set_cons_succ])
          refine wpAnyH_take (i := 14) (v := ?_) rfl (by kernel_rfl) (by kernel_rfl) (by kernel_rfl) (fun _ _ _ h => h) (Or.inl ⟨by kernel_rfl, ?_⟩) (by with_reducible assumption) ?_
          rotate_left
          ·
           intro wz hSw
           go_simp
           (try with_reducible rfl)
          show wpAnyH _ _ _ _ _ _ _ (Act.put _ (some 101) _) _
          (try simp only [Act.put, List.setIfInBounds_toArray, List.set_cons_zero, List.set_cons_succ])
          refine wpAnyH_take (i := 15) (v := ?_) rfl (by kernel_rfl) (by kernel_rfl) (by kernel_rfl) (fun _ _ _ h => h) (Or.inl ⟨by kernel_rfl, ?_⟩) (by with_reducible assumption) ?_
          rotate_left
          ·
           intro wz hSw
           go_simp
           (try with_reducible rfl)
          show wpAnyH _ _ _ _ _ _ _ (Act.put _ (some 102) _) _
          (try simp only [Act.put, List.setIfInBounds_toArray, List.set_cons_zero, List.set_cons_succ])
          refine wpAnyH_take (i := 16) (v := ?_) rfl (by kernel_rfl) (by kernel_rfl) (by kernel_rfl) (fun _ _ _ h => h) (Or.inl ⟨by kernel_rfl, ?_⟩) (by with_reducible assumption) ?_
          rotate_left
          ·
           intro wz hSw
           go_simp
           (try with_reducible rfl)
          show wpAnyH _ _ _ _ _ _ _ (Act.put _ (some 103) _) _
          (try simp only [Act.put, List.setIfInBounds_toArray, List.set_cons_zero, List.set_cons_succ])
          refine wpAnyH_take (i := 17) (v := ?_) rfl (by kernel_rfl) (by kernel_rfl) (by kernel_rfl) (fun _ _ _ h => h) (Or.inl ⟨by kernel_rfl, ?_⟩) (by with_reducible assumption) ?_
          rotate_left
          ·
           intro wz hSw
           go_simp
           (try with_reducible rfl)
          show wpAnyH _ _ _ _ _ _ _ (Act.put _ (some 104) _) _
          (try simp only [Act.put, List.setIfInBounds_toArray, List.set_cons_zero, List.set_cons_succ])
          refine wpAnyH_take (i := 18) (v := ?_) rfl (by kernel_rfl) (by kernel_rfl) (by kernel_rfl) (fun _ _ _ h => h) (Or.inl ⟨by kernel_rfl, ?_⟩) (by with_reducible assumption) ?_
          rotate_left
          ·
           intro wz hSw
           go_simp
           (try with_reducible rfl)
          show wpAnyH _ _ _ _ _ _ _ (Act.put _ (some 105) _) _
          (try simp only [Act.put, List.setIfInBounds_toArray, List.set_cons_zero, List.set_cons_succ])
          refine wpAnyH_take (i := 19) (v := ?_) rfl (by kernel_rfl) (by kernel_rfl) (by kernel_rfl) (fun _ _ _ h => h) (Or.inl ⟨by kernel_rfl, ?_⟩) (by with_reducible assumption) ?_
          rotate_left
          ·
           intro wz hSw
           go_simp
           (try with_reducible rfl)
          show wpAnyH _ _ _ _ _ _ _ (Act.put _ (some 106) _) _
          (try simp only [Act.put, List.setIfInBounds_toArray, List.set_cons_zero, List.set_cons_succ])
          refine wpAnyH_take (i := 20) (v := ?_) rfl (by kernel_rfl) (by kernel_rfl) (by kernel_rfl) (fun _ _ _ h => h) (Or.inl ⟨by kernel_rfl, ?_⟩) (by with_reducible assumption) ?_
          rotate_left
          ·
           intro wz hSw
           go_simp
           (try with_reducible rfl)
          show wpAnyH _ _ _ _ _ _ _ (Act.put _ (some 107) _) _
          (try simp only [Act.put, List.setIfInBounds_toArray, List.set_cons_zero, List.set_cons_succ])
          refine wpAnyH_done (by kernel_rfl) ?_ _
          go_wp2_with fail
          exact ⟨⟨4, by omega, by omega, by go_num, H4.out.trans (HB0.out.mono H4.out.size)⟩, by simp [intOf]⟩
      ·
       have hlt2 := HLt2.out
       rw [← HMs.out.2.2] at hlt2
       obtain ⟨s, es⟩ : ∃ y, y = m3 + n := ⟨_, rfl⟩
       have hAd := fun W1 => radd_walk m3 n W1 (by omega) HBn.out
       unfold addv addk at hAd
       rw [if_pos hlt2, decide_eq_true hlt2, ← es] at hAd
       unfold U at hAd
       have HAd := Lib.hid hAd
       have HNs := Lib.hid (show m1 = amt L2 (kS 1) ∧ m2 = amt L2 (kS 2) ∧ s = amt L2 (kS 3) from ⟨by rw [HSup.out 1 (by unfold okT; omega)]; rw [if_neg (by decide)]; exact HMs.out.1, by rw [HSup.out 2 (by unfold okT; omega)]; rw [if_neg (by decide)]; exact HMs.out.2.1, by rw [HSup.out 3 (by unfold okT; omega)]; rw [if_pos rfl, ← HMs.out.2.2]; exact es⟩)
       clear hAd hlt2 es
       go_upto_region 13 with (go_at_call 24; refine (HO.out _ F q qs (HSs.out.1.below HX.out.1) (by have := HQ.out.1; have := HQ.out.2.1; omega)).mono ?_; rintro e w8 ⟨rfl, h2⟩; have k2 := LiveTo.keepT (HSs.out.1.below HX.out.1) h2 fArr17; have k3 := LiveTo.keepT (HSs.out.1.below HX.out.1) h2 fAct17k; obtain ⟨F2, q2, qs2, hs2, hq2, _⟩ := h2; have H8 := Lib.hid (And.intro hs2 (And.intro (k2.2 _ _ _ ((HX.out.1.block _ (hp_lt HSs.out.2.2)).trans HSs.out.2.2)) (k3.2 _ _ _ HX.out.2))); have HQ2 := Lib.hid hq2; clear hs2 hq2 k2 k3)
       obtain ⟨X, hX⟩ : ∃ X, X = wr.heap.size := ⟨_, rfl⟩
       rw [← hX] at H8 ⊢
       clear hX HX
       have LX := Lib.hid (hp_lt H8.out.2.2)
       have LM := Lib.hid (hp_lt H8.out.2.1)
       go_cut [8] (fun p wx => ∃ B, p = .pointer (some ⟨B, 0, none⟩) ∧ wx.heap[B]? = some (.cells #[.int .u64 (limb s 0 : Nat), .int .u64 (limb s 1 : Nat), .int .u64 (limb s 2 : Nat), .int .u64 (limb s 3 : Nat)] 52 (0, 0)) ∧ Below w8.heap.size w8 wx)
       case first =>
        refine wp_region_held_drew (S := fun w' => Below w8.heap.size w8 w') (by kernel_rfl) ?_ (fun hHeld => ?_)
        ·
         exact (Below.refl _ _).drew
        have HY0 := Lib.hid (show Below w8.heap.size w8 w8.drew from (Below.refl _ _).drew)
        generalize w8.drew = Y0 at HY0 hHeld ⊢
        refine wpAnyH_take (i := 0) (v := ?_) rfl (by kernel_rfl) (by kernel_rfl) (by kernel_rfl) (fun _ _ _ h => h) (Or.inl ⟨by kernel_rfl, ?_⟩) (by with_reducible assumption) ?_
        rotate_left
        ·
         intro wz hSw
         go_simp
         (try with_reducible rfl)
        show wpAnyH _ _ _ _ _ _ _ (Act.put _ (some 47) _) _
        (try simp only [Act.put, List.setIfInBounds_toArray, List.set_cons_zero, List.set_cons_succ])
        refine wpAnyH_take (i := 1) (v := .int .i64 3) rfl (by kernel_rfl) (by kernel_rfl) (by kernel_rfl) (fun _ _ _ h => h) (Or.inl ⟨by kernel_rfl, ?_⟩) (by with_reducible assumption) ?_
        ·
         intro wz hSw
         (try dsimp only at hSw)
         have y0 := (hSw.cell (p := ⟨X, 1, none⟩) LX.out).trans ((hp_cell (i := 1) H8.out.2.2).trans rfl)
         go_simp
         (try with_reducible rfl)
        show wpAnyH _ _ _ _ _ _ _ (Act.put _ (some 48) _) _
        (try simp only [Act.put, List.setIfInBounds_toArray, List.set_cons_zero, List.set_cons_succ])
        refine wpAnyH_take (i := 2) (v := ?_) rfl (by kernel_rfl) (by kernel_rfl) (by kernel_rfl) (fun _ _ _ h => h) (Or.inl ⟨by kernel_rfl, ?_⟩) (by with_reducible assumption) ?_
        rotate_left
        ·
         intro wz hSw
         go_simp
         (try with_reducible rfl)
        show wpAnyH _ _ _ _ _ _ _ (Act.put _ (some 49) _) _
        (try simp only [Act.put, List.setIfInBounds_toArray, List.set_cons_zero, List.set_cons_succ])
        refine wpAnyH_take (i := 3) (v := .agg #[.int .u64 (limb m3 0 : Nat), .int .u64 (limb m3 1 : Nat), .int .u64 (limb m3 2 : Nat), .int .u64 (limb m3 3 : Nat)]) rfl (by kernel_rfl) (by kernel_rfl) (by kernel_rfl) (fun _ _ _ h => h) (Or.inl ⟨by kernel_rfl, ?_⟩) (by with_reducible assumption) ?_
        ·
         intro wz hSw
         (try dsimp only at hSw)
         have y0 := (hSw.cell (p := ⟨M, 12, none⟩) LM.out).trans ((hp_cell (i := 12) H8.out.2.1).trans rfl)
         have y1 := (hSw.cell (p := ⟨M, 13, none⟩) LM.out).trans ((hp_cell (i := 13) H8.out.2.1).trans rfl)
         have y2 := (hSw.cell (p := ⟨M, 14, none⟩) LM.out).trans ((hp_cell (i := 14) H8.out.2.1).trans rfl)
         have y3 := (hSw.cell (p := ⟨M, 15, none⟩) LM.out).trans ((hp_cell (i := 15) H8.out.2.1).trans rfl)
         go_simp
         (try with_reducible rfl)
        show wpAnyH _ _ _ _ _ _ _ (Act.put _ (some 50) _) _
        (try simp only [Act.put, List.setIfInBounds_toArray, List.set_cons_zero, List.set_cons_succ])
        refine wpAnyH_take (i := 4) (v := ?_) rfl (by kernel_rfl) (by kernel_rfl) (by kernel_rfl) (fun _ _ _ h => h) (Or.inl ⟨by kernel_rfl, ?_⟩) (by with_reducible assumption) ?_
        rotate_left
        ·
         intro wz hSw
         go_simp
         (try with_reducible rfl)
        show wpAnyH _ _ _ _ _ _ _ (Act.put _ (some 51) _) _
        (try simp only [Act.put, List.setIfInBounds_toArray, List.set_cons_zero, List.set_cons_succ])
        refine wpAnyH_take (i := 5) (v := .agg #[.int .u64 (limb n 0 : Nat), .int .u64 (limb n 1 : Nat), .int .u64 (limb n 2 : Nat), .int .u64 (limb n 3 : Nat)]) rfl (by kernel_rfl) (by kernel_rfl) (by kernel_rfl) (fun _ _ _ h => h) (Or.inl ⟨by kernel_rfl, ?_⟩) (by with_reducible assumption) ?_
        ·
         intro wz hSw
         (try dsimp only at hSw)
         have y0 := (hSw.cell (p := ⟨X, 4, none⟩) LX.out).trans ((hp_cell (i := 4) H8.out.2.2).trans rfl)
         have y1 := (hSw.cell (p := ⟨X, 5, none⟩) LX.out).trans ((hp_cell (i := 5) H8.out.2.2).trans rfl)
         have y2 := (hSw.cell (p := ⟨X, 6, none⟩) LX.out).trans ((hp_cell (i := 6) H8.out.2.2).trans rfl)
         have y3 := (hSw.cell (p := ⟨X, 7, none⟩) LX.out).trans ((hp_cell (i := 7) H8.out.2.2).trans rfl)
         go_simp
         (try with_reducible rfl)
        show wpAnyH _ _ _ _ _ _ _ (Act.put _ (some 52) _) _
        (try simp only [Act.put, List.setIfInBounds_toArray, List.set_cons_zero, List.set_cons_succ])
        refine wpAnyH_ready (rs := [6, 10]) (by kernel_rfl) (by simp) ?_
        refine AllReadyH.cons rfl (fun K hK => ?_) (AllReadyH.cons rfl (fun K hK => ?_) AllReadyH.nil)
        ·
         clear hHeld
         go_simp
         go_at_call 25
         refine (HAd.out _).mono ?_
         rintro e Y6 ⟨rfl, hb⟩
         have HB6 := Lib.hid (HY0.out.trans (hb.mono HY0.out.size))
         clear hb
         go_wp2_with fail
         refine hK.out _ _ ?_ (fun hHeld => ?_)
         ·
          exact HB6.out
         clear hK K
         (try simp only [Act.put, List.setIfInBounds_toArray, List.set_cons_zero, List.set_cons_succ])
         refine wpAnyH_take (i := 7) (v := ?_) rfl (by kernel_rfl) (by kernel_rfl) (by kernel_rfl) (fun _ _ _ h => h) (Or.inl ⟨by kernel_rfl, ?_⟩) (by with_reducible assumption) ?_
         rotate_left
         ·
          intro wz hSw
          go_simp
          (try with_reducible rfl)
         show wpAnyH _ _ _ _ _ _ _ (Act.put _ (some 46) _) _
         (try simp only [Act.put, List.setIfInBounds_toArray, List.set_cons_zero, List.set_cons_succ])
         refine wpAnyH_take (i := 8) (v := ?_) rfl (by kernel_rfl) (by kernel_rfl) (by kernel_rfl) (fun _ _ _ h => h) (Or.inl ⟨by kernel_rfl, ?_⟩) (by with_reducible assumption) ?_
         rotate_left
         ·
          intro wz hSw
          go_simp
          (try with_reducible rfl)
         show wpAnyH _ _ _ _ _ _ _ (Act.put _ (some 54) _) _
         (try simp only [Act.put, List.setIfInBounds_toArray, List.set_cons_zero, List.set_cons_succ])
         refine wpAnyH_take (i := 9) (v := ?_) rfl (by kernel_rfl) (by kernel_rfl) (by kernel_rfl) (fun _ _ _ h => h) (Or.inl ⟨by kernel_rfl, ?_⟩) (by with_reducible assumption) ?_
         rotate_left
         ·
          intro wz hSw
          go_simp
          (try with_reducible rfl)
         show wpAnyH _ _ _ _ _ _ _ (Act.put _ (some 55) _) _
         (try simp only [Act.put, List.setIfInBounds_toArray, List.set_cons_zero, List.set_cons_succ])
         refine wpAnyH_ready (rs := [10]) (by kernel_rfl) (by simp) ?_
         refine AllReadyH.cons rfl (fun K hK => ?_) AllReadyH.nil
         clear hHeld
         go_simp
         have HB10 := Lib.hid (HB6.out.alloc HB6.out.size (.cells #[.int .u64 0, .int .u64 0, .int .u64 0, .int .u64 0] 52))
         have F_n := Lib.hid (heap_alloc_new Y6 (.cells #[.int .u64 0, .int .u64 0, .int .u64 0, .int .u64 0] 52))
         obtain ⟨XA, eX⟩ : ∃ y, y = Y6.heap.size := ⟨_, rfl⟩
         go_wp2_with fail
         refine hK.out _ _ ?_ (fun hHeld => ?_)
         ·
          exact HB10.out
         clear hK K
         (try simp only [Act.put, List.setIfInBounds_toArray, List.set_cons_zero, List.set_cons_succ])
         rw [← eX] at F_n ⊢
         have LA := Lib.hid (show w8.heap.size ≤ XA from by rw [eX]; exact HB6.out.size)
         clear eX
         generalize Y6.alloc (.cells #[.int .u64 0, .int .u64 0, .int .u64 0, .int .u64 0] 52) = Y10 at HB10 F_n hHeld ⊢
         refine wpAnyH_ready (rs := [11]) (by kernel_rfl) (by simp) ?_
         refine AllReadyH.cons rfl (fun K hK => ?_) AllReadyH.nil
         clear hHeld
         have c0 := (hp_cell (i := 0) F_n.out).trans rfl
         have g0 := hp_free (i := 0) F_n.out
         have c1 := (hp_cell (i := 1) F_n.out).trans rfl
         have g1 := hp_free (i := 1) F_n.out
         have c2 := (hp_cell (i := 2) F_n.out).trans rfl
         have g2 := hp_free (i := 2) F_n.out
         have c3 := (hp_cell (i := 3) F_n.out).trans rfl
         have g3 := hp_free (i := 3) F_n.out
         go_simp
         clear c0 c1 c2 c3 g0 g1 g2 g3
         have HB11 := Lib.hid (show Below w8.heap.size w8 ((((Y10.setCell ⟨XA, 0, none⟩ (.int .u64 (limb s 0 : Nat))).setCell ⟨XA, 1, none⟩ (.int .u64 (limb s 1 : Nat))).setCell ⟨XA, 2, none⟩ (.int .u64 (limb s 2 : Nat))).setCell ⟨XA, 3, none⟩ (.int .u64 (limb s 3 : Nat))) from ((((HB10.out.setCell LA.out _).setCell LA.out _).setCell LA.out _).setCell LA.out _))
         have SX := Lib.hid (setU4 (.int .u64 (limb s 0 : Nat)) (.int .u64 (limb s 1 : Nat)) (.int .u64 (limb s 2 : Nat)) (.int .u64 (limb s 3 : Nat)) F_n.out (rfl : ((((Y10.setCell ⟨XA, 0, none⟩ (.int .u64 (limb s 0 : Nat))).setCell ⟨XA, 1, none⟩ (.int .u64 (limb s 1 : Nat))).setCell ⟨XA, 2, none⟩ (.int .u64 (limb s 2 : Nat))).setCell ⟨XA, 3, none⟩ (.int .u64 (limb s 3 : Nat))) = _))
         go_wp2_with fail
         refine hK.out _ _ ?_ (fun hHeld => ?_)
         ·
          exact HB11.out
         clear hK K
         (try simp only [Act.put, List.setIfInBounds_toArray, List.set_cons_zero, List.set_cons_succ])
         generalize (((Y10.setCell ⟨XA, 0, none⟩ (.int .u64 (limb s 0 : Nat))).setCell ⟨XA, 1, none⟩ (.int .u64 (limb s 1 : Nat))).setCell ⟨XA, 2, none⟩ (.int .u64 (limb s 2 : Nat))).setCell ⟨XA, 3, none⟩ (.int .u64 (limb s 3 : Nat)) = Y11 at HB11 SX hHeld ⊢
         refine wpAnyH_take (i := 12) (v := ?_) rfl (by kernel_rfl) (by kernel_rfl) (by kernel_rfl) (fun _ _ _ h => h) (Or.inl ⟨by kernel_rfl, ?_⟩) (by with_reducible assumption) ?_
         rotate_left
         ·
          intro wz hSw
          go_simp
          (try with_reducible rfl)
         show wpAnyH _ _ _ _ _ _ _ (Act.put _ (some 9) _) _
         (try simp only [Act.put, List.setIfInBounds_toArray, List.set_cons_zero, List.set_cons_succ])
         refine wpAnyH_done (by kernel_rfl) ?_ _
         go_wp2_with fail
         go_meet
         case rel => exact ⟨XA, rfl, SX.out, HB11.out⟩
        ·
         clear hHeld
         go_simp
         have HB10 := Lib.hid (HY0.out.alloc HY0.out.size (.cells #[.int .u64 0, .int .u64 0, .int .u64 0, .int .u64 0] 52))
         have F_n := Lib.hid (heap_alloc_new Y0 (.cells #[.int .u64 0, .int .u64 0, .int .u64 0, .int .u64 0] 52))
         obtain ⟨XA, eX⟩ : ∃ y, y = Y0.heap.size := ⟨_, rfl⟩
         go_wp2_with fail
         refine hK.out _ _ ?_ (fun hHeld => ?_)
         ·
          exact HB10.out
         clear hK K
         (try simp only [Act.put, List.setIfInBounds_toArray, List.set_cons_zero, List.set_cons_succ])
         rw [← eX] at F_n ⊢
         have LA := Lib.hid (show w8.heap.size ≤ XA from by rw [eX]; exact HY0.out.size)
         clear eX
         generalize Y0.alloc (.cells #[.int .u64 0, .int .u64 0, .int .u64 0, .int .u64 0] 52) = Y10 at HB10 F_n hHeld ⊢
         refine wpAnyH_ready (rs := [6]) (by kernel_rfl) (by simp) ?_
         refine AllReadyH.cons rfl (fun K hK => ?_) AllReadyH.nil
         clear hHeld
         go_simp
         go_at_call 25
         refine (HAd.out _).mono ?_
         rintro e Y6 ⟨rfl, hb⟩
         have HB6 := Lib.hid (HB10.out.trans (hb.mono HB10.out.size))
         have F_6 := Lib.hid ((hb.block _ (hp_lt F_n.out)).trans F_n.out)
         clear hb
         go_wp2_with fail
         refine hK.out _ _ ?_ (fun hHeld => ?_)
         ·
          exact HB6.out
         clear hK K
         (try simp only [Act.put, List.setIfInBounds_toArray, List.set_cons_zero, List.set_cons_succ])
         refine wpAnyH_take (i := 7) (v := ?_) rfl (by kernel_rfl) (by kernel_rfl) (by kernel_rfl) (fun _ _ _ h => h) (Or.inl ⟨by kernel_rfl, ?_⟩) (by with_reducible assumption) ?_
         rotate_left
         ·
          intro wz hSw
          go_simp
          (try with_reducible rfl)
         show wpAnyH _ _ _ _ _ _ _ (Act.put _ (some 46) _) _
         (try simp only [Act.put, List.setIfInBounds_toArray, List.set_cons_zero, List.set_cons_succ])
         refine wpAnyH_take (i := 8) (v := ?_) rfl (by kernel_rfl) (by kernel_rfl) (by kernel_rfl) (fun _ _ _ h => h) (Or.inl ⟨by kernel_rfl, ?_⟩) (by with_reducible assumption) ?_
         rotate_left
         ·
          intro wz hSw
          go_simp
          (try with_reducible rfl)
         show wpAnyH _ _ _ _ _ _ _ (Act.put _ (some 54) _) _
         (try simp only [Act.put, List.setIfInBounds_toArray, List.set_cons_zero, List.set_cons_succ])
         refine wpAnyH_take (i := 9) (v := ?_) rfl (by kernel_rfl) (by kernel_rfl) (by kernel_rfl) (fun _ _ _ h => h) (Or.inl ⟨by kernel_rfl, ?_⟩) (by with_reducible assumption) ?_
         rotate_left
         ·
          intro wz hSw
          go_simp
          (try with_reducible rfl)
         show wpAnyH _ _ _ _ _ _ _ (Act.put _ (some 55) _) _
         (try simp only [Act.put, List.setIfInBounds_toArray, List.set_cons_zero, List.set_cons_succ])
         refine wpAnyH_ready (rs := [11]) (by kernel_rfl) (by simp) ?_
         refine AllReadyH.cons rfl (fun K hK => ?_) AllReadyH.nil
         clear hHeld
         have c0 := (hp_cell (i := 0) F_6.out).trans rfl
         have g0 := hp_free (i := 0) F_6.out
         have c1 := (hp_cell (i := 1) F_6.out).trans rfl
         have g1 := hp_free (i := 1) F_6.out
         have c2 := (hp_cell (i := 2) F_6.out).trans rfl
         have g2 := hp_free (i := 2) F_6.out
         have c3 := (hp_cell (i := 3) F_6.out).trans rfl
         have g3 := hp_free (i := 3) F_6.out
         go_simp
         clear c0 c1 c2 c3 g0 g1 g2 g3
         have HB11 := Lib.hid (show Below w8.heap.size w8 ((((Y6.setCell ⟨XA, 0, none⟩ (.int .u64 (limb s 0 : Nat))).setCell ⟨XA, 1, none⟩ (.int .u64 (limb s 1 : Nat))).setCell ⟨XA, 2, none⟩ (.int .u64 (limb s 2 : Nat))).setCell ⟨XA, 3, none⟩ (.int .u64 (limb s 3 : Nat))) from ((((HB6.out.setCell LA.out _).setCell LA.out _).setCell LA.out _).setCell LA.out _))
         have SX := Lib.hid (setU4 (.int .u64 (limb s 0 : Nat)) (.int .u64 (limb s 1 : Nat)) (.int .u64 (limb s 2 : Nat)) (.int .u64 (limb s 3 : Nat)) F_6.out (rfl : ((((Y6.setCell ⟨XA, 0, none⟩ (.int .u64 (limb s 0 : Nat))).setCell ⟨XA, 1, none⟩ (.int .u64 (limb s 1 : Nat))).setCell ⟨XA, 2, none⟩ (.int .u64 (limb s 2 : Nat))).setCell ⟨XA, 3, none⟩ (.int .u64 (limb s 3 : Nat))) = _))
         go_wp2_with fail
         refine hK.out _ _ ?_ (fun hHeld => ?_)
         ·
          exact HB11.out
         clear hK K
         (try simp only [Act.put, List.setIfInBounds_toArray, List.set_cons_zero, List.set_cons_succ])
         generalize (((Y6.setCell ⟨XA, 0, none⟩ (.int .u64 (limb s 0 : Nat))).setCell ⟨XA, 1, none⟩ (.int .u64 (limb s 1 : Nat))).setCell ⟨XA, 2, none⟩ (.int .u64 (limb s 2 : Nat))).setCell ⟨XA, 3, none⟩ (.int .u64 (limb s 3 : Nat)) = Y11 at HB11 SX hHeld ⊢
         refine wpAnyH_take (i := 12) (v := ?_) rfl (by kernel_rfl) (by kernel_rfl) (by kernel_rfl) (fun _ _ _ h => h) (Or.inl ⟨by kernel_rfl, ?_⟩) (by with_reducible assumption) ?_
         rotate_left
         ·
          intro wz hSw
          go_simp
          (try with_reducible rfl)
         show wpAnyH _ _ _ _ _ _ _ (Act.put _ (some 9) _) _
         (try simp only [Act.put, List.setIfInBounds_toArray, List.set_cons_zero, List.set_cons_succ])
         refine wpAnyH_done (by kernel_rfl) ?_ _
         go_wp2_with fail
         go_meet
         case rel => exact ⟨XA, rfl, SX.out, HB11.out⟩
       case rest =>
        obtain ⟨B, rfl, hB, hbc⟩ := hcut
        have RMc := Lib.hid ((hbc.block _ LM.out).trans H8.out.2.1)
        have rx := (hbc.block _ LX.out).trans H8.out.2.2
        have y1 := (hp_cell (i := 1) rx).trans rfl
        have c0 := (hp_cell (i := 0) hB).trans rfl
        have c1 := (hp_cell (i := 1) hB).trans rfl
        have c2 := (hp_cell (i := 2) hB).trans rfl
        have c3 := (hp_cell (i := 3) hB).trans rfl
        have z0 := (hp_cell (i := 12) RMc.out).trans rfl
        have g0 := hp_free (i := 12) RMc.out
        have z1 := (hp_cell (i := 13) RMc.out).trans rfl
        have g1 := hp_free (i := 13) RMc.out
        have z2 := (hp_cell (i := 14) RMc.out).trans rfl
        have g2 := hp_free (i := 14) RMc.out
        have z3 := (hp_cell (i := 15) RMc.out).trans rfl
        have g3 := hp_free (i := 15) RMc.out
        have HSc := Lib.hid (H8.out.1.below hbc)
        have lm := hp_lt RMc.out
        clear hB hbc rx
        go_upto_region 16 with fail
        obtain ⟨Wc, hWc⟩ : ∃ Wc, Wc = (((wc.setCell ⟨M, 12, none⟩ (.int .u64 (limb s 0 : Nat))).setCell ⟨M, 13, none⟩ (.int .u64 (limb s 1 : Nat))).setCell ⟨M, 14, none⟩ (.int .u64 (limb s 2 : Nat))).setCell ⟨M, 15, none⟩ (.int .u64 (limb s 3 : Nat)) := ⟨_, rfl⟩
        rw [← hWc]
        have hTch : Touch [M] wc Wc := by rw [hWc]; exact (((Touch.setCell _ _ _ (by simp)).trans (fun _ hk => .inl hk) (Touch.setCell _ _ _ (by simp))).trans (fun _ hk => .inl hk) (Touch.setCell _ _ _ (by simp))).trans (fun _ hk => .inl hk) (Touch.setCell _ _ _ (by simp))
        have hArr : Wc.heap[M]? = some (.cells #[.int .u64 0, .int .u64 0, .int .u64 0, .int .u64 0, .int .u64 (limb m1 0 : Nat), .int .u64 (limb m1 1 : Nat), .int .u64 (limb m1 2 : Nat), .int .u64 (limb m1 3 : Nat), .int .u64 (limb m2 0 : Nat), .int .u64 (limb m2 1 : Nat), .int .u64 (limb m2 2 : Nat), .int .u64 (limb m2 3 : Nat), .int .u64 (limb s 0 : Nat), .int .u64 (limb s 1 : Nat), .int .u64 (limb s 2 : Nat), .int .u64 (limb s 3 : Nat)] 53 (0, 0)) := by
         rw [hWc]
         have := heap_setCell_row (o := 15) (heap_setCell_row (o := 14) (heap_setCell_row (o := 13) (heap_setCell_row (o := 12) RMc.out (.int .u64 (limb s 0 : Nat))) (.int .u64 (limb s 1 : Nat))) (.int .u64 (limb s 2 : Nat))) (.int .u64 (limb s 3 : Nat))
         simpa using this
        have Hc := Lib.hid (And.intro (HSc.out.other [M] hTch (fun g hg => (by simp only [List.mem_singleton] at hg; subst hg; exact ⟨HMg.out, _, _, _, RMc.out, fArr17⟩))) hArr)
        clear y1 c0 c1 c2 c3 z0 z1 z2 z3 g0 g1 g2 g3 lm hTch hArr hWc
        go_wp2
        go_loopw [10] (fun x wi => ∃ k : Nat, 1 ≤ k ∧ k ≤ 4 ∧ x = .int .i64 (k : Nat) ∧ Below Wc.heap.size Wc wi) (fun x _ => 4 - (intOf x).toNat)
        case atStart => exact ⟨1, by omega, by omega, rfl, Below.refl _ _⟩
        case round =>
         obtain ⟨k, hk1, hk4, rfl, hbk⟩ := hrel
         have HBk := Lib.hid hbk
         clear hbk
         rcases (by omega : k = 4 ∨ k = 1 ∨ k = 2 ∨ k = 3) with rfl | rfl | rfl | rfl
         ·
          go_wp2
          exact ⟨⟨j + 1, F2, q2, qs2, L2, m1, m2, s, by have := HQ.out.2.1; omega, by go_num, Hc.out.1.below HBk.out, by have := HQ2.out; have := HQ.out.1; omega, HM2.out.1, by have := HM2.out.2; have := HQ.out.2.2; omega, HNs.out, (HBk.out.block _ (hp_lt Hc.out.2)).trans Hc.out.2⟩, by simp [intOf]; omega⟩
         ·
          have hT := fun (W1 : World) (hb : Below Wc.heap.size Wc W1) => keep_total (Hc.out.1.below hb) HM2.out.1 (by have := HM2.out.2; have := HQ.out.2.2; have := HQ.out.2.1; omega) 1 (by unfold okT; omega) m1 HNs.out.1.symm
          obtain ⟨v, is, hv, hget⟩ := keep_get Hc.out.1 HM2.out.1 (kS 1) (kS_size 1)
          rw [← HNs.out.1] at hv
          have ha := amt_lt L2 (kS 1)
          rw [← HNs.out.1] at ha
          unfold U at hT
          have HT := Lib.hid hT
          have HG := Lib.hid hget
          have HS := Lib.hid (fun W => supply_is 1 (kS 1) rfl W (by omega))
          obtain ⟨K, eK⟩ : ∃ y, y = kS 1 := ⟨_, rfl⟩
          rw [← eK] at HG HS
          have e1 : ∀ w, (Op.equalIn 10000 52 (.agg #[.int .u64 (limb m1 0 : Nat), .int .u64 (limb m1 1 : Nat), .int .u64 (limb m1 2 : Nat), .int .u64 (limb m1 3 : Nat)]) (.agg #[.int .u64 (limb m1 0 : Nat), .int .u64 (limb m1 1 : Nat), .int .u64 (limb m1 2 : Nat), .int .u64 (limb m1 3 : Nat)])).run Try.prog w = .ok true w := fun w => by rw [eq_run ha ha]; simp
          have e2 := fun w => eq0_run ha w
          obtain ⟨ub, eub⟩ : ∃ y, y = decide (m1 = 0) := ⟨_, rfl⟩
          rw [← eub] at hv e2
          have q1 : (ub == ub) = true := beq_self_eq_true _
          clear hT hget eK ha eub
          go_upto_region 21 with (first
           | (go_at_call 28; refine (HG.out _ H3.out).mono ?_; rintro e w4 ⟨rfl, hb4⟩; have H4 := Lib.hid (H3.out.trans (hb4.mono H3.out.size)); have R4 := Lib.hid ((hb4.block _ (hp_lt R3.out)).trans R3.out); clear hb4)
           | (go_at_call 29; refine (HS.out _).mono ?_; rintro e w3 ⟨rfl, hb3⟩; have hbx := H2.out.alloc H2.out.size (.cells #[.int .u64 (limb m1 0 : Nat), .int .u64 (limb m1 1 : Nat), .int .u64 (limb m1 2 : Nat), .int .u64 (limb m1 3 : Nat)] 52); have H3 := Lib.hid (hbx.trans (hb3.mono hbx.size)); have R3 := Lib.hid ((hb3.block w2.heap.size (by simp)).trans (heap_alloc_new w2 (.cells #[.int .u64 (limb m1 0 : Nat), .int .u64 (limb m1 1 : Nat), .int .u64 (limb m1 2 : Nat), .int .u64 (limb m1 3 : Nat)] 52))); clear hb3 hbx)
           | (go_at_call 27; refine (HT.out _ HBk.out).mono ?_; rintro e w2 ⟨rfl, hb2⟩; have H2 := Lib.hid (HBk.out.trans (hb2.mono HBk.out.size)); clear hb2))
          obtain ⟨B, eB⟩ : ∃ y, y = w2.heap.size := ⟨_, rfl⟩
          rw [← eB] at R4 ⊢
          have LB := Lib.hid (hp_lt R4.out)
          have RM := Lib.hid ((H4.out.block _ (hp_lt Hc.out.2)).trans Hc.out.2)
          have LM := Lib.hid (hp_lt RM.out)
          clear eB
          refine wp_region_held_drew (S := fun w' => Below w4.heap.size w4 w') (by kernel_rfl) ?_ (fun hHeld => ?_)
          ·
           exact (Below.refl _ _).drew
          have HB0 := Lib.hid (show Below w4.heap.size w4 w4.drew from (Below.refl _ _).drew)
          generalize w4.drew = Y0 at HB0 hHeld ⊢
          refine wpAnyH_take (i := 0) (v := ?_) rfl (by kernel_rfl) (by kernel_rfl) (by kernel_rfl) (fun _ _ _ h => h) (Or.inl ⟨by kernel_rfl, ?_⟩) (by with_reducible assumption) ?_
          rotate_left
          ·
           intro wz hSw
           go_simp
           (try with_reducible rfl)
          show wpAnyH _ _ _ _ _ _ _ (Act.put _ (some 87) _) _
          (try simp only [Act.put, List.setIfInBounds_toArray, List.set_cons_zero, List.set_cons_succ])
          refine wpAnyH_take (i := 1) (v := ?_) rfl (by kernel_rfl) (by kernel_rfl) (by kernel_rfl) (fun _ _ _ h => h) (Or.inl ⟨by kernel_rfl, ?_⟩) (by with_reducible assumption) ?_
          rotate_left
          ·
           intro wz hSw
           go_simp
           (try with_reducible rfl)
          show wpAnyH _ _ _ _ _ _ _ (Act.put _ (some 88) _) _
          (try simp only [Act.put, List.setIfInBounds_toArray, List.set_cons_zero, List.set_cons_succ])
          refine wpAnyH_take (i := 2) (v := ?_) rfl (by kernel_rfl) (by kernel_rfl) (by kernel_rfl) (fun _ _ _ h => h) (Or.inl ⟨by kernel_rfl, ?_⟩) (by with_reducible assumption) ?_
          rotate_left
          ·
           intro wz hSw
           go_simp
           (try with_reducible rfl)
          show wpAnyH _ _ _ _ _ _ _ (Act.put _ (some 89) _) _
          (try simp only [Act.put, List.setIfInBounds_toArray, List.set_cons_zero, List.set_cons_succ])
          refine wpAnyH_take (i := 3) (v := .agg #[.int .u64 (limb m1 0 : Nat), .int .u64 (limb m1 1 : Nat), .int .u64 (limb m1 2 : Nat), .int .u64 (limb m1 3 : Nat)]) rfl (by kernel_rfl) (by kernel_rfl) (by kernel_rfl) (fun _ _ _ h => h) (Or.inl ⟨by kernel_rfl, ?_⟩) (by with_reducible assumption) ?_
          ·
           intro wz hSw
           (try dsimp only at hSw)
           have y0 := (hSw.cell (p := ⟨B, 0, none⟩) LB.out).trans ((hp_cell (i := 0) R4.out).trans rfl)
           have y1 := (hSw.cell (p := ⟨B, 1, none⟩) LB.out).trans ((hp_cell (i := 1) R4.out).trans rfl)
           have y2 := (hSw.cell (p := ⟨B, 2, none⟩) LB.out).trans ((hp_cell (i := 2) R4.out).trans rfl)
           have y3 := (hSw.cell (p := ⟨B, 3, none⟩) LB.out).trans ((hp_cell (i := 3) R4.out).trans rfl)
           go_simp
           (try with_reducible rfl)
          show wpAnyH _ _ _ _ _ _ _ (Act.put _ (some 90) _) _
          (try simp only [Act.put, List.setIfInBounds_toArray, List.set_cons_zero, List.set_cons_succ])
          refine wpAnyH_take (i := 4) (v := ?_) rfl (by kernel_rfl) (by kernel_rfl) (by kernel_rfl) (fun _ _ _ h => h) (Or.inl ⟨by kernel_rfl, ?_⟩) (by with_reducible assumption) ?_
          rotate_left
          ·
           intro wz hSw
           go_simp
           (try with_reducible rfl)
          show wpAnyH _ _ _ _ _ _ _ (Act.put _ (some 91) _) _
          (try simp only [Act.put, List.setIfInBounds_toArray, List.set_cons_zero, List.set_cons_succ])
          refine wpAnyH_take (i := 5) (v := ?_) rfl (by kernel_rfl) (by kernel_rfl) (by kernel_rfl) (fun _ _ _ h => h) (Or.inl ⟨by kernel_rfl, ?_⟩) (by with_reducible assumption) ?_
          rotate_left
          ·
           intro wz hSw
           go_simp
           (try with_reducible rfl)
          show wpAnyH _ _ _ _ _ _ _ (Act.put _ (some 92) _) _
          (try simp only [Act.put, List.setIfInBounds_toArray, List.set_cons_zero, List.set_cons_succ])
          refine wpAnyH_take (i := 6) (v := .agg #[.int .u64 (limb m1 0 : Nat), .int .u64 (limb m1 1 : Nat), .int .u64 (limb m1 2 : Nat), .int .u64 (limb m1 3 : Nat)]) rfl (by kernel_rfl) (by kernel_rfl) (by kernel_rfl) (fun _ _ _ h => h) (Or.inl ⟨by kernel_rfl, ?_⟩) (by with_reducible assumption) ?_
          ·
           intro wz hSw
           (try dsimp only at hSw)
           have y0 := (hSw.cell (p := ⟨M, 4, none⟩) LM.out).trans ((hp_cell (i := 4) RM.out).trans rfl)
           have y1 := (hSw.cell (p := ⟨M, 5, none⟩) LM.out).trans ((hp_cell (i := 5) RM.out).trans rfl)
           have y2 := (hSw.cell (p := ⟨M, 6, none⟩) LM.out).trans ((hp_cell (i := 6) RM.out).trans rfl)
           have y3 := (hSw.cell (p := ⟨M, 7, none⟩) LM.out).trans ((hp_cell (i := 7) RM.out).trans rfl)
           go_simp
           (try with_reducible rfl)
          show wpAnyH _ _ _ _ _ _ _ (Act.put _ (some 93) _) _
          (try simp only [Act.put, List.setIfInBounds_toArray, List.set_cons_zero, List.set_cons_succ])
          refine wpAnyH_take (i := 7) (v := ?_) rfl (by kernel_rfl) (by kernel_rfl) (by kernel_rfl) (fun _ _ _ h => h) (Or.inl ⟨by kernel_rfl, ?_⟩) (by with_reducible assumption) ?_
          rotate_left
          ·
           intro wz hSw
           go_simp
           (try with_reducible rfl)
          show wpAnyH _ _ _ _ _ _ _ (Act.put _ (some 94) _) _
          (try simp only [Act.put, List.setIfInBounds_toArray, List.set_cons_zero, List.set_cons_succ])
          refine wpAnyH_take (i := 8) (v := ?_) rfl (by kernel_rfl) (by kernel_rfl) (by kernel_rfl) (fun _ _ _ h => h) (Or.inl ⟨by kernel_rfl, ?_⟩) (by with_reducible assumption) ?_
          rotate_left
          ·
           intro wz hSw
           go_simp
           (try with_reducible rfl)
          show wpAnyH _ _ _ _ _ _ _ (Act.put _ (some 95) _) _
          (try simp only [Act.put, List.setIfInBounds_toArray, List.set_cons_zero, List.set_cons_succ])
          refine wpAnyH_take (i := 9) (v := ?_) rfl (by kernel_rfl) (by kernel_rfl) (by kernel_rfl) (fun _ _ _ h => h) (Or.inl ⟨by kernel_rfl, ?_⟩) (by with_reducible assumption) ?_
          rotate_left
          ·
           intro wz hSw
           go_simp
           (try with_reducible rfl)
          show wpAnyH _ _ _ _ _ _ _ (Act.put _ (some 96) _) _
          (try simp only [Act.put, List.setIfInBounds_toArray, List.set_cons_zero, List.set_cons_succ])
          refine wpAnyH_take (i := 10) (v := ?_) rfl (by kernel_rfl) (by kernel_rfl) (by kernel_rfl) (fun _ _ _ h => h) (Or.inl ⟨by kernel_rfl, ?_⟩) (by with_reducible assumption) ?_
          rotate_left
          ·
           intro wz hSw
           go_simp
           (try with_reducible rfl)
          show wpAnyH _ _ _ _ _ _ _ (Act.put _ (some 97) _) _
          (try simp only [Act.put, List.setIfInBounds_toArray, List.set_cons_zero, List.set_cons_succ])
          refine wpAnyH_take (i := 11) (v := ?_) rfl (by kernel_rfl) (by kernel_rfl) (by kernel_rfl) (fun _ _ _ h => h) (Or.inl ⟨by kernel_rfl, ?_⟩) (by with_reducible assumption) ?_
          rotate_left
          ·
           intro wz hSw
           go_simp
           (try with_reducible rfl)
          show wpAnyH _ _ _ _ _ _ _ (Act.put _ (some 98) _) _
          (try simp only [Act.put, List.setIfInBounds_toArray, List.set_cons_zero, List.set_cons_succ])
          refine wpAnyH_take (i := 12) (v := .agg #[.int .u64 (limb m1 0 : Nat), .int .u64 (limb m1 1 : Nat), .int .u64 (limb m1 2 : Nat), .int .u64 (limb m1 3 : Nat)]) rfl (by kernel_rfl) (by kernel_rfl) (by kernel_rfl) (fun _ _ _ h => h) (Or.inl ⟨by kernel_rfl, ?_⟩) (by with_reducible assumption) ?_
          ·
           intro wz hSw
           (try dsimp only at hSw)
           have y0 := (hSw.cell (p := ⟨B, 0, none⟩) LB.out).trans ((hp_cell (i := 0) R4.out).trans rfl)
           have y1 := (hSw.cell (p := ⟨B, 1, none⟩) LB.out).trans ((hp_cell (i := 1) R4.out).trans rfl)
           have y2 := (hSw.cell (p := ⟨B, 2, none⟩) LB.out).trans ((hp_cell (i := 2) R4.out).trans rfl)
           have y3 := (hSw.cell (p := ⟨B, 3, none⟩) LB.out).trans ((hp_cell (i := 3) R4.out).trans rfl)
           go_simp
           (try with_reducible rfl)
          show wpAnyH _ _ _ _ _ _ _ (Act.put _ (some 99) _) _
          (try simp only [Act.put, List.setIfInBounds_toArray, List.set_cons_zero, List.set_cons_succ])
          refine wpAnyH_take (i := 13) (v := ?_) rfl (by kernel_rfl) (by kernel_rfl) (by kernel_rfl) (fun _ _ _ h => h) (Or.inl ⟨by kernel_rfl, ?_⟩) (by with_reducible assumption) ?_
          rotate_left
          ·
           intro wz hSw
           go_simp
           (try with_reducible rfl)
          show wpAnyH _ _ _ _ _ _ _ (Act.put _ (some 100) _) _
          (try simp only [Act.put, List.setIfInBounds_toArray, List.set_cons_zero, List.set_cons_succ])
          refine wpAnyH_take (i := 14) (v := ?_) rfl (by kernel_rfl) (by kernel_rfl) (by kernel_rfl) (fun _ _ _ h => h) (Or.inl ⟨by kernel_rfl, ?_⟩) (by with_reducible assumption) ?_
          rotate_left
          ·
           intro wz hSw
           go_simp
           (try with_reducible rfl)
          show wpAnyH _ _ _ _ _ _ _ (Act.put _ (some 101) _) _
          (try simp only [Act.put, List.setIfInBounds_toArray, List.set_cons_zero, List.set_cons_succ])
          refine wpAnyH_take (i := 15) (v := ?_) rfl (by kernel_rfl) (by kernel_rfl) (by kernel_rfl) (fun _ _ _ h => h) (Or.inl ⟨by kernel_rfl, ?_⟩) (by with_reducible assumption) ?_
          rotate_left
          ·
           intro wz hSw
           go_simp
           (try with_reducible rfl)
          show wpAnyH _ _ _ _ _ _ _ (Act.put _ (some 102) _) _
          (try simp only [Act.put, List.setIfInBounds_toArray, List.set_cons_zero, List.set_cons_succ])
          refine wpAnyH_take (i := 16) (v := ?_) rfl (by kernel_rfl) (by kernel_rfl) (by kernel_rfl) (fun _ _ _ h => h) (Or.inl ⟨by kernel_rfl, ?_⟩) (by with_reducible assumption) ?_
          rotate_left
          ·
           intro wz hSw
           go_simp
           (try with_reducible rfl)
          show wpAnyH _ _ _ _ _ _ _ (Act.put _ (some 103) _) _
          (try simp only [Act.put, List.setIfInBounds_toArray, List.set_cons_zero, List.set_cons_succ])
          refine wpAnyH_take (i := 17) (v := ?_) rfl (by kernel_rfl) (by kernel_rfl) (by kernel_rfl) (fun _ _ _ h => h) (Or.inl ⟨by kernel_rfl, ?_⟩) (by with_reducible assumption) ?_
          rotate_left
          ·
           intro wz hSw
           go_simp
           (try with_reducible rfl)
          show wpAnyH _ _ _ _ _ _ _ (Act.put _ (some 104) _) _
          (try simp only [Act.put, List.setIfInBounds_toArray, List.set_cons_zero, List.set_cons_succ])
          refine wpAnyH_take (i := 18) (v := ?_) rfl (by kernel_rfl) (by kernel_rfl) (by kernel_rfl) (fun _ _ _ h => h) (Or.inl ⟨by kernel_rfl, ?_⟩) (by with_reducible assumption) ?_
          rotate_left
          ·
           intro wz hSw
           go_simp
           (try with_reducible rfl)
          show wpAnyH _ _ _ _ _ _ _ (Act.put _ (some 105) _) _
          (try simp only [Act.put, List.setIfInBounds_toArray, List.set_cons_zero, List.set_cons_succ])
          refine wpAnyH_take (i := 19) (v := ?_) rfl (by kernel_rfl) (by kernel_rfl) (by kernel_rfl) (fun _ _ _ h => h) (Or.inl ⟨by kernel_rfl, ?_⟩) (by with_reducible assumption) ?_
          rotate_left
          ·
           intro wz hSw
           go_simp
           (try with_reducible rfl)
          show wpAnyH _ _ _ _ _ _ _ (Act.put _ (some 106) _) _
          (try simp only [Act.put, List.setIfInBounds_toArray, List.set_cons_zero, List.set_cons_succ])
          refine wpAnyH_take (i := 20) (v := ?_) rfl (by kernel_rfl) (by kernel_rfl) (by kernel_rfl) (fun _ _ _ h => h) (Or.inl ⟨by kernel_rfl, ?_⟩) (by with_reducible assumption) ?_
          rotate_left
          ·
           intro wz hSw
           go_simp
           (try with_reducible rfl)
          show wpAnyH _ _ _ _ _ _ _ (Act.put _ (some 107) _) _
          (try simp only [Act.put, List.setIfInBounds_toArray, List.set_cons_zero, List.set_cons_succ])
          refine wpAnyH_done (by kernel_rfl) ?_ _
          go_wp2_with fail
          exact ⟨⟨2, by omega, by omega, by go_num, H4.out.trans (HB0.out.mono H4.out.size)⟩, by simp [intOf]⟩
         ·
          have hT := fun (W1 : World) (hb : Below Wc.heap.size Wc W1) => keep_total (Hc.out.1.below hb) HM2.out.1 (by have := HM2.out.2; have := HQ.out.2.2; have := HQ.out.2.1; omega) 2 (by unfold okT; omega) m2 HNs.out.2.1.symm
          obtain ⟨v, is, hv, hget⟩ := keep_get Hc.out.1 HM2.out.1 (kS 2) (kS_size 2)
          rw [← HNs.out.2.1] at hv
          have ha := amt_lt L2 (kS 2)
          rw [← HNs.out.2.1] at ha
          unfold U at hT
          have HT := Lib.hid hT
          have HG := Lib.hid hget
          have HS := Lib.hid (fun W => supply_is 2 (kS 2) rfl W (by omega))
          obtain ⟨K, eK⟩ : ∃ y, y = kS 2 := ⟨_, rfl⟩
          rw [← eK] at HG HS
          have e1 : ∀ w, (Op.equalIn 10000 52 (.agg #[.int .u64 (limb m2 0 : Nat), .int .u64 (limb m2 1 : Nat), .int .u64 (limb m2 2 : Nat), .int .u64 (limb m2 3 : Nat)]) (.agg #[.int .u64 (limb m2 0 : Nat), .int .u64 (limb m2 1 : Nat), .int .u64 (limb m2 2 : Nat), .int .u64 (limb m2 3 : Nat)])).run Try.prog w = .ok true w := fun w => by rw [eq_run ha ha]; simp
          have e2 := fun w => eq0_run ha w
          obtain ⟨ub, eub⟩ : ∃ y, y = decide (m2 = 0) := ⟨_, rfl⟩
          rw [← eub] at hv e2
          have q1 : (ub == ub) = true := beq_self_eq_true _
          clear hT hget eK ha eub
          go_upto_region 21 with (first
           | (go_at_call 28; refine (HG.out _ H3.out).mono ?_; rintro e w4 ⟨rfl, hb4⟩; have H4 := Lib.hid (H3.out.trans (hb4.mono H3.out.size)); have R4 := Lib.hid ((hb4.block _ (hp_lt R3.out)).trans R3.out); clear hb4)
           | (go_at_call 29; refine (HS.out _).mono ?_; rintro e w3 ⟨rfl, hb3⟩; have hbx := H2.out.alloc H2.out.size (.cells #[.int .u64 (limb m2 0 : Nat), .int .u64 (limb m2 1 : Nat), .int .u64 (limb m2 2 : Nat), .int .u64 (limb m2 3 : Nat)] 52); have H3 := Lib.hid (hbx.trans (hb3.mono hbx.size)); have R3 := Lib.hid ((hb3.block w2.heap.size (by simp)).trans (heap_alloc_new w2 (.cells #[.int .u64 (limb m2 0 : Nat), .int .u64 (limb m2 1 : Nat), .int .u64 (limb m2 2 : Nat), .int .u64 (limb m2 3 : Nat)] 52))); clear hb3 hbx)
           | (go_at_call 27; refine (HT.out _ HBk.out).mono ?_; rintro e w2 ⟨rfl, hb2⟩; have H2 := Lib.hid (HBk.out.trans (hb2.mono HBk.out.size)); clear hb2))
          obtain ⟨B, eB⟩ : ∃ y, y = w2.heap.size := ⟨_, rfl⟩
          rw [← eB] at R4 ⊢
          have LB := Lib.hid (hp_lt R4.out)
          have RM := Lib.hid ((H4.out.block _ (hp_lt Hc.out.2)).trans Hc.out.2)
          have LM := Lib.hid (hp_lt RM.out)
          clear eB
          refine wp_region_held_drew (S := fun w' => Below w4.heap.size w4 w') (by kernel_rfl) ?_ (fun hHeld => ?_)
          ·
           exact (Below.refl _ _).drew
          have HB0 := Lib.hid (show Below w4.heap.size w4 w4.drew from (Below.refl _ _).drew)
          generalize w4.drew = Y0 at HB0 hHeld ⊢
          refine wpAnyH_take (i := 0) (v := ?_) rfl (by kernel_rfl) (by kernel_rfl) (by kernel_rfl) (fun _ _ _ h => h) (Or.inl ⟨by kernel_rfl, ?_⟩) (by with_reducible assumption) ?_
          rotate_left
          ·
           intro wz hSw
           go_simp
           (try with_reducible rfl)
          show wpAnyH _ _ _ _ _ _ _ (Act.put _ (some 87) _) _
          (try simp only [Act.put, List.setIfInBounds_toArray, List.set_cons_zero, List.set_cons_succ])
          refine wpAnyH_take (i := 1) (v := ?_) rfl (by kernel_rfl) (by kernel_rfl) (by kernel_rfl) (fun _ _ _ h => h) (Or.inl ⟨by kernel_rfl, ?_⟩) (by with_reducible assumption) ?_
          rotate_left
          ·
           intro wz hSw
           go_simp
           (try with_reducible rfl)
          show wpAnyH _ _ _ _ _ _ _ (Act.put _ (some 88) _) _
          (try simp only [Act.put, List.setIfInBounds_toArray, List.set_cons_zero, List.set_cons_succ])
          refine wpAnyH_take (i := 2) (v := ?_) rfl (by kernel_rfl) (by kernel_rfl) (by kernel_rfl) (fun _ _ _ h => h) (Or.inl ⟨by kernel_rfl, ?_⟩) (by with_reducible assumption) ?_
          rotate_left
          ·
           intro wz hSw
           go_simp
           (try with_reducible rfl)
          show wpAnyH _ _ _ _ _ _ _ (Act.put _ (some 89) _) _
          (try simp only [Act.put, List.setIfInBounds_toArray, List.set_cons_zero, List.set_cons_succ])
          refine wpAnyH_take (i := 3) (v := .agg #[.int .u64 (limb m2 0 : Nat), .int .u64 (limb m2 1 : Nat), .int .u64 (limb m2 2 : Nat), .int .u64 (limb m2 3 : Nat)]) rfl (by kernel_rfl) (by kernel_rfl) (by kernel_rfl) (fun _ _ _ h => h) (Or.inl ⟨by kernel_rfl, ?_⟩) (by with_reducible assumption) ?_
          ·
           intro wz hSw
           (try dsimp only at hSw)
           have y0 := (hSw.cell (p := ⟨B, 0, none⟩) LB.out).trans ((hp_cell (i := 0) R4.out).trans rfl)
           have y1 := (hSw.cell (p := ⟨B, 1, none⟩) LB.out).trans ((hp_cell (i := 1) R4.out).trans rfl)
           have y2 := (hSw.cell (p := ⟨B, 2, none⟩) LB.out).trans ((hp_cell (i := 2) R4.out).trans rfl)
           have y3 := (hSw.cell (p := ⟨B, 3, none⟩) LB.out).trans ((hp_cell (i := 3) R4.out).trans rfl)
           go_simp
           (try with_reducible rfl)
          show wpAnyH _ _ _ _ _ _ _ (Act.put _ (some 90) _) _
          (try simp only [Act.put, List.setIfInBounds_toArray, List.set_cons_zero, List.set_cons_succ])
          refine wpAnyH_take (i := 4) (v := ?_) rfl (by kernel_rfl) (by kernel_rfl) (by kernel_rfl) (fun _ _ _ h => h) (Or.inl ⟨by kernel_rfl, ?_⟩) (by with_reducible assumption) ?_
          rotate_left
          ·
           intro wz hSw
           go_simp
           (try with_reducible rfl)
          show wpAnyH _ _ _ _ _ _ _ (Act.put _ (some 91) _) _
          (try simp only [Act.put, List.setIfInBounds_toArray, List.set_cons_zero, List.set_cons_succ])
          refine wpAnyH_take (i := 5) (v := ?_) rfl (by kernel_rfl) (by kernel_rfl) (by kernel_rfl) (fun _ _ _ h => h) (Or.inl ⟨by kernel_rfl, ?_⟩) (by with_reducible assumption) ?_
          rotate_left
          ·
           intro wz hSw
           go_simp
           (try with_reducible rfl)
          show wpAnyH _ _ _ _ _ _ _ (Act.put _ (some 92) _) _
          (try simp only [Act.put, List.setIfInBounds_toArray, List.set_cons_zero, List.set_cons_succ])
          refine wpAnyH_take (i := 6) (v := .agg #[.int .u64 (limb m2 0 : Nat), .int .u64 (limb m2 1 : Nat), .int .u64 (limb m2 2 : Nat), .int .u64 (limb m2 3 : Nat)]) rfl (by kernel_rfl) (by kernel_rfl) (by kernel_rfl) (fun _ _ _ h => h) (Or.inl ⟨by kernel_rfl, ?_⟩) (by with_reducible assumption) ?_
          ·
           intro wz hSw
           (try dsimp only at hSw)
           have y0 := (hSw.cell (p := ⟨M, 8, none⟩) LM.out).trans ((hp_cell (i := 8) RM.out).trans rfl)
           have y1 := (hSw.cell (p := ⟨M, 9, none⟩) LM.out).trans ((hp_cell (i := 9) RM.out).trans rfl)
           have y2 := (hSw.cell (p := ⟨M, 10, none⟩) LM.out).trans ((hp_cell (i := 10) RM.out).trans rfl)
           have y3 := (hSw.cell (p := ⟨M, 11, none⟩) LM.out).trans ((hp_cell (i := 11) RM.out).trans rfl)
           go_simp
           (try with_reducible rfl)
          show wpAnyH _ _ _ _ _ _ _ (Act.put _ (some 93) _) _
          (try simp only [Act.put, List.setIfInBounds_toArray, List.set_cons_zero, List.set_cons_succ])
          refine wpAnyH_take (i := 7) (v := ?_) rfl (by kernel_rfl) (by kernel_rfl) (by kernel_rfl) (fun _ _ _ h => h) (Or.inl ⟨by kernel_rfl, ?_⟩) (by with_reducible assumption) ?_
          rotate_left
          ·
           intro wz hSw
           go_simp
           (try with_reducible rfl)
          show wpAnyH _ _ _ _ _ _ _ (Act.put _ (some 94) _) _
          (try simp only [Act.put, List.setIfInBounds_toArray, List.set_cons_zero, List.set_cons_succ])
          refine wpAnyH_take (i := 8) (v := ?_) rfl (by kernel_rfl) (by kernel_rfl) (by kernel_rfl) (fun _ _ _ h => h) (Or.inl ⟨by kernel_rfl, ?_⟩) (by with_reducible assumption) ?_
          rotate_left
          ·
           intro wz hSw
           go_simp
           (try with_reducible rfl)
          show wpAnyH _ _ _ _ _ _ _ (Act.put _ (some 95) _) _
          (try simp only [Act.put, List.setIfInBounds_toArray, List.set_cons_zero, List.set_cons_succ])
          refine wpAnyH_take (i := 9) (v := ?_) rfl (by kernel_rfl) (by kernel_rfl) (by kernel_rfl) (fun _ _ _ h => h) (Or.inl ⟨by kernel_rfl, ?_⟩) (by with_reducible assumption) ?_
          rotate_left
          ·
           intro wz hSw
           go_simp
           (try with_reducible rfl)
          show wpAnyH _ _ _ _ _ _ _ (Act.put _ (some 96) _) _
          (try simp only [Act.put, List.setIfInBounds_toArray, List.set_cons_zero, List.set_cons_succ])
          refine wpAnyH_take (i := 10) (v := ?_) rfl (by kernel_rfl) (by kernel_rfl) (by kernel_rfl) (fun _ _ _ h => h) (Or.inl ⟨by kernel_rfl, ?_⟩) (by with_reducible assumption) ?_
          rotate_left
          ·
           intro wz hSw
           go_simp
           (try with_reducible rfl)
          show wpAnyH _ _ _ _ _ _ _ (Act.put _ (some 97) _) _
          (try simp only [Act.put, List.setIfInBounds_toArray, List.set_cons_zero, List.set_cons_succ])
          refine wpAnyH_take (i := 11) (v := ?_) rfl (by kernel_rfl) (by kernel_rfl) (by kernel_rfl) (fun _ _ _ h => h) (Or.inl ⟨by kernel_rfl, ?_⟩) (by with_reducible assumption) ?_
          rotate_left
          ·
           intro wz hSw
           go_simp
           (try with_reducible rfl)
          show wpAnyH _ _ _ _ _ _ _ (Act.put _ (some 98) _) _
          (try simp only [Act.put, List.setIfInBounds_toArray, List.set_cons_zero, List.set_cons_succ])
          refine wpAnyH_take (i := 12) (v := .agg #[.int .u64 (limb m2 0 : Nat), .int .u64 (limb m2 1 : Nat), .int .u64 (limb m2 2 : Nat), .int .u64 (limb m2 3 : Nat)]) rfl (by kernel_rfl) (by kernel_rfl) (by kernel_rfl) (fun _ _ _ h => h) (Or.inl ⟨by kernel_rfl, ?_⟩) (by with_reducible assumption) ?_
          ·
           intro wz hSw
           (try dsimp only at hSw)
           have y0 := (hSw.cell (p := ⟨B, 0, none⟩) LB.out).trans ((hp_cell (i := 0) R4.out).trans rfl)
           have y1 := (hSw.cell (p := ⟨B, 1, none⟩) LB.out).trans ((hp_cell (i := 1) R4.out).trans rfl)
           have y2 := (hSw.cell (p := ⟨B, 2, none⟩) LB.out).trans ((hp_cell (i := 2) R4.out).trans rfl)
           have y3 := (hSw.cell (p := ⟨B, 3, none⟩) LB.out).trans ((hp_cell (i := 3) R4.out).trans rfl)
           go_simp
           (try with_reducible rfl)
          show wpAnyH _ _ _ _ _ _ _ (Act.put _ (some 99) _) _
          (try simp only [Act.put, List.setIfInBounds_toArray, List.set_cons_zero, List.set_cons_succ])
          refine wpAnyH_take (i := 13) (v := ?_) rfl (by kernel_rfl) (by kernel_rfl) (by kernel_rfl) (fun _ _ _ h => h) (Or.inl ⟨by kernel_rfl, ?_⟩) (by with_reducible assumption) ?_
          rotate_left
          ·
           intro wz hSw
           go_simp
           (try with_reducible rfl)
          show wpAnyH _ _ _ _ _ _ _ (Act.put _ (some 100) _) _
          (try simp only [Act.put, List.setIfInBounds_toArray, List.set_cons_zero, List.set_cons_succ])
          refine wpAnyH_take (i := 14) (v := ?_) rfl (by kernel_rfl) (by kernel_rfl) (by kernel_rfl) (fun _ _ _ h => h) (Or.inl ⟨by kernel_rfl, ?_⟩) (by with_reducible assumption) ?_
          rotate_left
          ·
           intro wz hSw
           go_simp
           (try with_reducible rfl)
          show wpAnyH _ _ _ _ _ _ _ (Act.put _ (some 101) _) _
          (try simp only [Act.put, List.setIfInBounds_toArray, List.set_cons_zero, List.set_cons_succ])
          refine wpAnyH_take (i := 15) (v := ?_) rfl (by kernel_rfl) (by kernel_rfl) (by kernel_rfl) (fun _ _ _ h => h) (Or.inl ⟨by kernel_rfl, ?_⟩) (by with_reducible assumption) ?_
          rotate_left
          ·
           intro wz hSw
           go_simp
           (try with_reducible rfl)
          show wpAnyH _ _ _ _ _ _ _ (Act.put _ (some 102) _) _
          (try simp only [Act.put, List.setIfInBounds_toArray, List.set_cons_zero, List.set_cons_succ])
          refine wpAnyH_take (i := 16) (v := ?_) rfl (by kernel_rfl) (by kernel_rfl) (by kernel_rfl) (fun _ _ _ h => h) (Or.inl ⟨by kernel_rfl, ?_⟩) (by with_reducible assumption) ?_
          rotate_left
          ·
           intro wz hSw
           go_simp
           (try with_reducible rfl)
          show wpAnyH _ _ _ _ _ _ _ (Act.put _ (some 103) _) _
          (try simp only [Act.put, List.setIfInBounds_toArray, List.set_cons_zero, List.set_cons_succ])
          refine wpAnyH_take (i := 17) (v := ?_) rfl (by kernel_rfl) (by kernel_rfl) (by kernel_rfl) (fun _ _ _ h => h) (Or.inl ⟨by kernel_rfl, ?_⟩) (by with_reducible assumption) ?_
          rotate_left
          ·
           intro wz hSw
           go_simp
           (try with_reducible rfl)
          show wpAnyH _ _ _ _ _ _ _ (Act.put _ (some 104) _) _
          (try simp only [Act.put, List.setIfInBounds_toArray, List.set_cons_zero, List.set_cons_succ])
          refine wpAnyH_take (i := 18) (v := ?_) rfl (by kernel_rfl) (by kernel_rfl) (by kernel_rfl) (fun _ _ _ h => h) (Or.inl ⟨by kernel_rfl, ?_⟩) (by with_reducible assumption) ?_
          rotate_left
          ·
           intro wz hSw
           go_simp
           (try with_reducible rfl)
          show wpAnyH _ _ _ _ _ _ _ (Act.put _ (some 105) _) _
          (try simp only [Act.put, List.setIfInBounds_toArray, List.set_cons_zero, List.set_cons_succ])
          refine wpAnyH_take (i := 19) (v := ?_) rfl (by kernel_rfl) (by kernel_rfl) (by kernel_rfl) (fun _ _ _ h => h) (Or.inl ⟨by kernel_rfl, ?_⟩) (by with_reducible assumption) ?_
          rotate_left
          ·
           intro wz hSw
           go_simp
           (try with_reducible rfl)
          show wpAnyH _ _ _ _ _ _ _ (Act.put _ (some 106) _) _
          (try simp only [Act.put, List.setIfInBounds_toArray, List.set_cons_zero, List.set_cons_succ])
          refine wpAnyH_take (i := 20) (v := ?_) rfl (by kernel_rfl) (by kernel_rfl) (by kernel_rfl) (fun _ _ _ h => h) (Or.inl ⟨by kernel_rfl, ?_⟩) (by with_reducible assumption) ?_
          rotate_left
          ·
           intro wz hSw
           go_simp
           (try with_reducible rfl)
          show wpAnyH _ _ _ _ _ _ _ (Act.put _ (some 107) _) _
          (try simp only [Act.put, List.setIfInBounds_toArray, List.set_cons_zero, List.set_cons_succ])
          refine wpAnyH_done (by kernel_rfl) ?_ _
          go_wp2_with fail
          exact ⟨⟨3, by omega, by omega, by go_num, H4.out.trans (HB0.out.mono H4.out.size)⟩, by simp [intOf]⟩
         ·
          have hT := fun (W1 : World) (hb : Below Wc.heap.size Wc W1) => keep_total (Hc.out.1.below hb) HM2.out.1 (by have := HM2.out.2; have := HQ.out.2.2; have := HQ.out.2.1; omega) 3 (by unfold okT; omega) s HNs.out.2.2.symm
          obtain ⟨v, is, hv, hget⟩ := keep_get Hc.out.1 HM2.out.1 (kS 3) (kS_size 3)
          rw [← HNs.out.2.2] at hv
          have ha := amt_lt L2 (kS 3)
          rw [← HNs.out.2.2] at ha
          unfold U at hT
          have HT := Lib.hid hT
          have HG := Lib.hid hget
          have HS := Lib.hid (fun W => supply_is 3 (kS 3) rfl W (by omega))
          obtain ⟨K, eK⟩ : ∃ y, y = kS 3 := ⟨_, rfl⟩
          rw [← eK] at HG HS
          have e1 : ∀ w, (Op.equalIn 10000 52 (.agg #[.int .u64 (limb s 0 : Nat), .int .u64 (limb s 1 : Nat), .int .u64 (limb s 2 : Nat), .int .u64 (limb s 3 : Nat)]) (.agg #[.int .u64 (limb s 0 : Nat), .int .u64 (limb s 1 : Nat), .int .u64 (limb s 2 : Nat), .int .u64 (limb s 3 : Nat)])).run Try.prog w = .ok true w := fun w => by rw [eq_run ha ha]; simp
          have e2 := fun w => eq0_run ha w
          obtain ⟨ub, eub⟩ : ∃ y, y = decide (s = 0) := ⟨_, rfl⟩
          rw [← eub] at hv e2
          have q1 : (ub == ub) = true := beq_self_eq_true _
          clear hT hget eK ha eub
          go_upto_region 21 with (first
           | (go_at_call 28; refine (HG.out _ H3.out).mono ?_; rintro e w4 ⟨rfl, hb4⟩; have H4 := Lib.hid (H3.out.trans (hb4.mono H3.out.size)); have R4 := Lib.hid ((hb4.block _ (hp_lt R3.out)).trans R3.out); clear hb4)
           | (go_at_call 29; refine (HS.out _).mono ?_; rintro e w3 ⟨rfl, hb3⟩; have hbx := H2.out.alloc H2.out.size (.cells #[.int .u64 (limb s 0 : Nat), .int .u64 (limb s 1 : Nat), .int .u64 (limb s 2 : Nat), .int .u64 (limb s 3 : Nat)] 52); have H3 := Lib.hid (hbx.trans (hb3.mono hbx.size)); have R3 := Lib.hid ((hb3.block w2.heap.size (by simp)).trans (heap_alloc_new w2 (.cells #[.int .u64 (limb s 0 : Nat), .int .u64 (limb s 1 : Nat), .int .u64 (limb s 2 : Nat), .int .u64 (limb s 3 : Nat)] 52))); clear hb3 hbx)
           | (go_at_call 27; refine (HT.out _ HBk.out).mono ?_; rintro e w2 ⟨rfl, hb2⟩; have H2 := Lib.hid (HBk.out.trans (hb2.mono HBk.out.size)); clear hb2))
          obtain ⟨B, eB⟩ : ∃ y, y = w2.heap.size := ⟨_, rfl⟩
          rw [← eB] at R4 ⊢
          have LB := Lib.hid (hp_lt R4.out)
          have RM := Lib.hid ((H4.out.block _ (hp_lt Hc.out.2)).trans Hc.out.2)
          have LM := Lib.hid (hp_lt RM.out)
          clear eB
          refine wp_region_held_drew (S := fun w' => Below w4.heap.size w4 w') (by kernel_rfl) ?_ (fun hHeld => ?_)
          ·
           exact (Below.refl _ _).drew
          have HB0 := Lib.hid (show Below w4.heap.size w4 w4.drew from (Below.refl _ _).drew)
          generalize w4.drew = Y0 at HB0 hHeld ⊢
          refine wpAnyH_take (i := 0) (v := ?_) rfl (by kernel_rfl) (by kernel_rfl) (by kernel_rfl) (fun _ _ _ h => h) (Or.inl ⟨by kernel_rfl, ?_⟩) (by with_reducible assumption) ?_
          rotate_left
          ·
           intro wz hSw
           go_simp
           (try with_reducible rfl)
          show wpAnyH _ _ _ _ _ _ _ (Act.put _ (some 87) _) _
          (try simp only [Act.put, List.setIfInBounds_toArray, List.set_cons_zero, List.set_cons_succ])
          refine wpAnyH_take (i := 1) (v := ?_) rfl (by kernel_rfl) (by kernel_rfl) (by kernel_rfl) (fun _ _ _ h => h) (Or.inl ⟨by kernel_rfl, ?_⟩) (by with_reducible assumption) ?_
          rotate_left
          ·
           intro wz hSw
           go_simp
           (try with_reducible rfl)
          show wpAnyH _ _ _ _ _ _ _ (Act.put _ (some 88) _) _
          (try simp only [Act.put, List.setIfInBounds_toArray, List.set_cons_zero, List.set_cons_succ])
          refine wpAnyH_take (i := 2) (v := ?_) rfl (by kernel_rfl) (by kernel_rfl) (by kernel_rfl) (fun _ _ _ h => h) (Or.inl ⟨by kernel_rfl, ?_⟩) (by with_reducible assumption) ?_
          rotate_left
          ·
           intro wz hSw
           go_simp
           (try with_reducible rfl)
          show wpAnyH _ _ _ _ _ _ _ (Act.put _ (some 89) _) _
          (try simp only [Act.put, List.setIfInBounds_toArray, List.set_cons_zero, List.set_cons_succ])
          refine wpAnyH_take (i := 3) (v := .agg #[.int .u64 (limb s 0 : Nat), .int .u64 (limb s 1 : Nat), .int .u64 (limb s 2 : Nat), .int .u64 (limb s 3 : Nat)]) rfl (by kernel_rfl) (by kernel_rfl) (by kernel_rfl) (fun _ _ _ h => h) (Or.inl ⟨by kernel_rfl, ?_⟩) (by with_reducible assumption) ?_
          ·
           intro wz hSw
           (try dsimp only at hSw)
           have y0 := (hSw.cell (p := ⟨B, 0, none⟩) LB.out).trans ((hp_cell (i := 0) R4.out).trans rfl)
           have y1 := (hSw.cell (p := ⟨B, 1, none⟩) LB.out).trans ((hp_cell (i := 1) R4.out).trans rfl)
           have y2 := (hSw.cell (p := ⟨B, 2, none⟩) LB.out).trans ((hp_cell (i := 2) R4.out).trans rfl)
           have y3 := (hSw.cell (p := ⟨B, 3, none⟩) LB.out).trans ((hp_cell (i := 3) R4.out).trans rfl)
           go_simp
           (try with_reducible rfl)
          show wpAnyH _ _ _ _ _ _ _ (Act.put _ (some 90) _) _
          (try simp only [Act.put, List.setIfInBounds_toArray, List.set_cons_zero, List.set_cons_succ])
          refine wpAnyH_take (i := 4) (v := ?_) rfl (by kernel_rfl) (by kernel_rfl) (by kernel_rfl) (fun _ _ _ h => h) (Or.inl ⟨by kernel_rfl, ?_⟩) (by with_reducible assumption) ?_
          rotate_left
          ·
           intro wz hSw
           go_simp
           (try with_reducible rfl)
          show wpAnyH _ _ _ _ _ _ _ (Act.put _ (some 91) _) _
          (try simp only [Act.put, List.setIfInBounds_toArray, List.set_cons_zero, List.set_cons_succ])
          refine wpAnyH_take (i := 5) (v := ?_) rfl (by kernel_rfl) (by kernel_rfl) (by kernel_rfl) (fun _ _ _ h => h) (Or.inl ⟨by kernel_rfl, ?_⟩) (by with_reducible assumption) ?_
          rotate_left
          ·
           intro wz hSw
           go_simp
           (try with_reducible rfl)
          show wpAnyH _ _ _ _ _ _ _ (Act.put _ (some 92) _) _
          (try simp only [Act.put, List.setIfInBounds_toArray, List.set_cons_zero, List.set_cons_succ])
          refine wpAnyH_take (i := 6) (v := .agg #[.int .u64 (limb s 0 : Nat), .int .u64 (limb s 1 : Nat), .int .u64 (limb s 2 : Nat), .int .u64 (limb s 3 : Nat)]) rfl (by kernel_rfl) (by kernel_rfl) (by kernel_rfl) (fun _ _ _ h => h) (Or.inl ⟨by kernel_rfl, ?_⟩) (by with_reducible assumption) ?_
          ·
           intro wz hSw
           (try dsimp only at hSw)
           have y0 := (hSw.cell (p := ⟨M, 12, none⟩) LM.out).trans ((hp_cell (i := 12) RM.out).trans rfl)
           have y1 := (hSw.cell (p := ⟨M, 13, none⟩) LM.out).trans ((hp_cell (i := 13) RM.out).trans rfl)
           have y2 := (hSw.cell (p := ⟨M, 14, none⟩) LM.out).trans ((hp_cell (i := 14) RM.out).trans rfl)
           have y3 := (hSw.cell (p := ⟨M, 15, none⟩) LM.out).trans ((hp_cell (i := 15) RM.out).trans rfl)
           go_simp
           (try with_reducible rfl)
          show wpAnyH _ _ _ _ _ _ _ (Act.put _ (some 93) _) _
          (try simp only [Act.put, List.setIfInBounds_toArray, List.set_cons_zero, List.set_cons_succ])
          refine wpAnyH_take (i := 7) (v := ?_) rfl (by kernel_rfl) (by kernel_rfl) (by kernel_rfl) (fun _ _ _ h => h) (Or.inl ⟨by kernel_rfl, ?_⟩) (by with_reducible assumption) ?_
          rotate_left
          ·
           intro wz hSw
           go_simp
           (try with_reducible rfl)
          show wpAnyH _ _ _ _ _ _ _ (Act.put _ (some 94) _) _
          (try simp only [Act.put, List.setIfInBounds_toArray, List.set_cons_zero, List.set_cons_succ])
          refine wpAnyH_take (i := 8) (v := ?_) rfl (by kernel_rfl) (by kernel_rfl) (by kernel_rfl) (fun _ _ _ h => h) (Or.inl ⟨by kernel_rfl, ?_⟩) (by with_reducible assumption) ?_
          rotate_left
          ·
           intro wz hSw
           go_simp
           (try with_reducible rfl)
          show wpAnyH _ _ _ _ _ _ _ (Act.put _ (some 95) _) _
          (try simp only [Act.put, List.setIfInBounds_toArray, List.set_cons_zero, List.set_cons_succ])
          refine wpAnyH_take (i := 9) (v := ?_) rfl (by kernel_rfl) (by kernel_rfl) (by kernel_rfl) (fun _ _ _ h => h) (Or.inl ⟨by kernel_rfl, ?_⟩) (by with_reducible assumption) ?_
          rotate_left
          ·
           intro wz hSw
           go_simp
           (try with_reducible rfl)
          show wpAnyH _ _ _ _ _ _ _ (Act.put _ (some 96) _) _
          (try simp only [Act.put, List.setIfInBounds_toArray, List.set_cons_zero, List.set_cons_succ])
          refine wpAnyH_take (i := 10) (v := ?_) rfl (by kernel_rfl) (by kernel_rfl) (by kernel_rfl) (fun _ _ _ h => h) (Or.inl ⟨by kernel_rfl, ?_⟩) (by with_reducible assumption) ?_
          rotate_left
          ·
           intro wz hSw
           go_simp
           (try with_reducible rfl)
          show wpAnyH _ _ _ _ _ _ _ (Act.put _ (some 97) _) _
          (try simp only [Act.put, List.setIfInBounds_toArray, List.set_cons_zero, List.set_cons_succ])
          refine wpAnyH_take (i := 11) (v := ?_) rfl (by kernel_rfl) (by kernel_rfl) (by kernel_rfl) (fun _ _ _ h => h) (Or.inl ⟨by kernel_rfl, ?_⟩) (by with_reducible assumption) ?_
          rotate_left
          ·
           intro wz hSw
           go_simp
           (try with_reducible rfl)
          show wpAnyH _ _ _ _ _ _ _ (Act.put _ (some 98) _) _
          (try simp only [Act.put, List.setIfInBounds_toArray, List.set_cons_zero, List.set_cons_succ])
          refine wpAnyH_take (i := 12) (v := .agg #[.int .u64 (limb s 0 : Nat), .int .u64 (limb s 1 : Nat), .int .u64 (limb s 2 : Nat), .int .u64 (limb s 3 : Nat)]) rfl (by kernel_rfl) (by kernel_rfl) (by kernel_rfl) (fun _ _ _ h => h) (Or.inl ⟨by kernel_rfl, ?_⟩) (by with_reducible assumption) ?_
          ·
           intro wz hSw
           (try dsimp only at hSw)
           have y0 := (hSw.cell (p := ⟨B, 0, none⟩) LB.out).trans ((hp_cell (i := 0) R4.out).trans rfl)
           have y1 := (hSw.cell (p := ⟨B, 1, none⟩) LB.out).trans ((hp_cell (i := 1) R4.out).trans rfl)
           have y2 := (hSw.cell (p := ⟨B, 2, none⟩) LB.out).trans ((hp_cell (i := 2) R4.out).trans rfl)
           have y3 := (hSw.cell (p := ⟨B, 3, none⟩) LB.out).trans ((hp_cell (i := 3) R4.out).trans rfl)
           go_simp
           (try with_reducible rfl)
          show wpAnyH _ _ _ _ _ _ _ (Act.put _ (some 99) _) _
          (try simp only [Act.put, List.setIfInBounds_toArray, List.set_cons_zero, List.set_cons_succ])
          refine wpAnyH_take (i := 13) (v := ?_) rfl (by kernel_rfl) (by kernel_rfl) (by kernel_rfl) (fun _ _ _ h => h) (Or.inl ⟨by kernel_rfl, ?_⟩) (by with_reducible assumption) ?_
          rotate_left
          ·
           intro wz hSw
           go_simp
           (try with_reducible rfl)
          show wpAnyH _ _ _ _ _ _ _ (Act.put _ (some 100) _) _
          (try simp only [Act.put, List.setIfInBounds_toArray, List.set_cons_zero, List.set_cons_succ])
          refine wpAnyH_take (i := 14) (v := ?_) rfl (by kernel_rfl) (by kernel_rfl) (by kernel_rfl) (fun _ _ _ h => h) (Or.inl ⟨by kernel_rfl, ?_⟩) (by with_reducible assumption) ?_
          rotate_left
          ·
           intro wz hSw
           go_simp
           (try with_reducible rfl)
          show wpAnyH _ _ _ _ _ _ _ (Act.put _ (some 101) _) _
          (try simp only [Act.put, List.setIfInBounds_toArray, List.set_cons_zero, List.set_cons_succ])
          refine wpAnyH_take (i := 15) (v := ?_) rfl (by kernel_rfl) (by kernel_rfl) (by kernel_rfl) (fun _ _ _ h => h) (Or.inl ⟨by kernel_rfl, ?_⟩) (by with_reducible assumption) ?_
          rotate_left
          ·
           intro wz hSw
           go_simp
           (try with_reducible rfl)
          show wpAnyH _ _ _ _ _ _ _ (Act.put _ (some 102) _) _
          (try simp only [Act.put, List.setIfInBounds_toArray, List.set_cons_zero, List.set_cons_succ])
          refine wpAnyH_take (i := 16) (v := ?_) rfl (by kernel_rfl) (by kernel_rfl) (by kernel_rfl) (fun _ _ _ h => h) (Or.inl ⟨by kernel_rfl, ?_⟩) (by with_reducible assumption) ?_
          rotate_left
          ·
           intro wz hSw
           go_simp
           (try with_reducible rfl)
          show wpAnyH _ _ _ _ _ _ _ (Act.put _ (some 103) _) _
          (try simp only [Act.put, List.setIfInBounds_toArray, List.set_cons_zero, List.set_cons_succ])
          refine wpAnyH_take (i := 17) (v := ?_) rfl (by kernel_rfl) (by kernel_rfl) (by kernel_rfl) (fun _ _ _ h => h) (Or.inl ⟨by kernel_rfl, ?_⟩) (by with_reducible assumption) ?_
          rotate_left
          ·
           intro wz hSw
           go_simp
           (try with_reducible rfl)
          show wpAnyH _ _ _ _ _ _ _ (Act.put _ (some 104) _) _
          (try simp only [Act.put, List.setIfInBounds_toArray, List.set_cons_zero, List.set_cons_succ])
          refine wpAnyH_take (i := 18) (v := ?_) rfl (by kernel_rfl) (by kernel_rfl) (by kernel_rfl) (fun _ _ _ h => h) (Or.inl ⟨by kernel_rfl, ?_⟩) (by with_reducible assumption) ?_
          rotate_left
          ·
           intro wz hSw
           go_simp
           (try with_reducible rfl)
          show wpAnyH _ _ _ _ _ _ _ (Act.put _ (some 105) _) _
          (try simp only [Act.put, List.setIfInBounds_toArray, List.set_cons_zero, List.set_cons_succ])
          refine wpAnyH_take (i := 19) (v := ?_) rfl (by kernel_rfl) (by kernel_rfl) (by kernel_rfl) (fun _ _ _ h => h) (Or.inl ⟨by kernel_rfl, ?_⟩) (by with_reducible assumption) ?_
          rotate_left
          ·
           intro wz hSw
           go_simp
           (try with_reducible rfl)
          show wpAnyH _ _ _ _ _ _ _ (Act.put _ (some 106) _) _
          (try simp only [Act.put, List.setIfInBounds_toArray, List.set_cons_zero, List.set_cons_succ])
          refine wpAnyH_take (i := 20) (v := ?_) rfl (by kernel_rfl) (by kernel_rfl) (by kernel_rfl) (fun _ _ _ h => h) (Or.inl ⟨by kernel_rfl, ?_⟩) (by with_reducible assumption) ?_
          rotate_left
          ·
           intro wz hSw
           go_simp
           (try with_reducible rfl)
          show wpAnyH _ _ _ _ _ _ _ (Act.put _ (some 107) _) _
          (try simp only [Act.put, List.setIfInBounds_toArray, List.set_cons_zero, List.set_cons_succ])
          refine wpAnyH_done (by kernel_rfl) ?_ _
          go_wp2_with fail
          exact ⟨⟨4, by omega, by omega, by go_num, H4.out.trans (HB0.out.mono H4.out.size)⟩, by simp [intOf]⟩
     ·
      have p8 : (er == 0) = false := by rw [beq_eq_false_iff_ne]; exact he0
      have hsup := hno he0
      have HNs := Lib.hid (show m1 = amt L2 (kS 1) ∧ m2 = amt L2 (kS 2) ∧ m3 = amt L2 (kS 3) from ⟨by rw [hsup 1 (by unfold okT; omega)]; exact HMs.out.1, by rw [hsup 2 (by unfold okT; omega)]; exact HMs.out.2.1, by rw [hsup 3 (by unfold okT; omega)]; exact HMs.out.2.2⟩)
      clear hsup hok hno he0
      go_upto_region 16 with (go_at_call 24; refine (HO.out _ F q qs (HSs.out.1.below HX.out.1) (by have := HQ.out.1; have := HQ.out.2.1; omega)).mono ?_; rintro e w8 ⟨rfl, h2⟩; have k2 := LiveTo.keepT (HSs.out.1.below HX.out.1) h2 fArr17; obtain ⟨F2, q2, qs2, hs2, hq2, _⟩ := h2; have Hc := Lib.hid (And.intro hs2 (k2.2 _ _ _ ((HX.out.1.block _ (hp_lt HSs.out.2.2)).trans HSs.out.2.2))); have HQ2 := Lib.hid hq2; clear hs2 hq2 k2)
      obtain ⟨Wc, hWc⟩ : ∃ Wc, Wc = w8 := ⟨_, rfl⟩
      subst hWc
      go_wp2
      go_loopw [10] (fun x wi => ∃ k : Nat, 1 ≤ k ∧ k ≤ 4 ∧ x = .int .i64 (k : Nat) ∧ Below Wc.heap.size Wc wi) (fun x _ => 4 - (intOf x).toNat)
      case atStart => exact ⟨1, by omega, by omega, rfl, Below.refl _ _⟩
      case round =>
       obtain ⟨k, hk1, hk4, rfl, hbk⟩ := hrel
       have HBk := Lib.hid hbk
       clear hbk
       rcases (by omega : k = 4 ∨ k = 1 ∨ k = 2 ∨ k = 3) with rfl | rfl | rfl | rfl
       ·
        go_wp2
        exact ⟨⟨j + 1, F2, q2, qs2, L2, m1, m2, m3, by have := HQ.out.2.1; omega, by go_num, Hc.out.1.below HBk.out, by have := HQ2.out; have := HQ.out.1; omega, HM2.out.1, by have := HM2.out.2; have := HQ.out.2.2; omega, HNs.out, (HBk.out.block _ (hp_lt Hc.out.2)).trans Hc.out.2⟩, by simp [intOf]; omega⟩
       ·
        have hT := fun (W1 : World) (hb : Below Wc.heap.size Wc W1) => keep_total (Hc.out.1.below hb) HM2.out.1 (by have := HM2.out.2; have := HQ.out.2.2; have := HQ.out.2.1; omega) 1 (by unfold okT; omega) m1 HNs.out.1.symm
        obtain ⟨v, is, hv, hget⟩ := keep_get Hc.out.1 HM2.out.1 (kS 1) (kS_size 1)
        rw [← HNs.out.1] at hv
        have ha := amt_lt L2 (kS 1)
        rw [← HNs.out.1] at ha
        unfold U at hT
        have HT := Lib.hid hT
        have HG := Lib.hid hget
        have HS := Lib.hid (fun W => supply_is 1 (kS 1) rfl W (by omega))
        obtain ⟨K, eK⟩ : ∃ y, y = kS 1 := ⟨_, rfl⟩
        rw [← eK] at HG HS
        have e1 : ∀ w, (Op.equalIn 10000 52 (.agg #[.int .u64 (limb m1 0 : Nat), .int .u64 (limb m1 1 : Nat), .int .u64 (limb m1 2 : Nat), .int .u64 (limb m1 3 : Nat)]) (.agg #[.int .u64 (limb m1 0 : Nat), .int .u64 (limb m1 1 : Nat), .int .u64 (limb m1 2 : Nat), .int .u64 (limb m1 3 : Nat)])).run Try.prog w = .ok true w := fun w => by rw [eq_run ha ha]; simp
        have e2 := fun w => eq0_run ha w
        obtain ⟨ub, eub⟩ : ∃ y, y = decide (m1 = 0) := ⟨_, rfl⟩
        rw [← eub] at hv e2
        have q1 : (ub == ub) = true := beq_self_eq_true _
        clear hT hget eK ha eub
        go_upto_region 21 with (first
         | (go_at_call 28; refine (HG.out _ H3.out).mono ?_; rintro e w4 ⟨rfl, hb4⟩; have H4 := Lib.hid (H3.out.trans (hb4.mono H3.out.size)); have R4 := Lib.hid ((hb4.block _ (hp_lt R3.out)).trans R3.out); clear hb4)
         | (go_at_call 29; refine (HS.out _).mono ?_; rintro e w3 ⟨rfl, hb3⟩; have hbx := H2.out.alloc H2.out.size (.cells #[.int .u64 (limb m1 0 : Nat), .int .u64 (limb m1 1 : Nat), .int .u64 (limb m1 2 : Nat), .int .u64 (limb m1 3 : Nat)] 52); have H3 := Lib.hid (hbx.trans (hb3.mono hbx.size)); have R3 := Lib.hid ((hb3.block w2.heap.size (by simp)).trans (heap_alloc_new w2 (.cells #[.int .u64 (limb m1 0 : Nat), .int .u64 (limb m1 1 : Nat), .int .u64 (limb m1 2 : Nat), .int .u64 (limb m1 3 : Nat)] 52))); clear hb3 hbx)
         | (go_at_call 27; refine (HT.out _ HBk.out).mono ?_; rintro e w2 ⟨rfl, hb2⟩; have H2 := Lib.hid (HBk.out.trans (hb2.mono HBk.out.size)); clear hb2))
        obtain ⟨B, eB⟩ : ∃ y, y = w2.heap.size := ⟨_, rfl⟩
        rw [← eB] at R4 ⊢
        have LB := Lib.hid (hp_lt R4.out)
        have RM := Lib.hid ((H4.out.block _ (hp_lt Hc.out.2)).trans Hc.out.2)
        have LM := Lib.hid (hp_lt RM.out)
        clear eB
        refine wp_region_held_drew (S := fun w' => Below w4.heap.size w4 w') (by kernel_rfl) ?_ (fun hHeld => ?_)
        ·
         exact (Below.refl _ _).drew
        have HB0 := Lib.hid (show Below w4.heap.size w4 w4.drew from (Below.refl _ _).drew)
        generalize w4.drew = Y0 at HB0 hHeld ⊢
        refine wpAnyH_take (i := 0) (v := ?_) rfl (by kernel_rfl) (by kernel_rfl) (by kernel_rfl) (fun _ _ _ h => h) (Or.inl ⟨by kernel_rfl, ?_⟩) (by with_reducible assumption) ?_
        rotate_left
        ·
         intro wz hSw
         go_simp
         (try with_reducible rfl)
        show wpAnyH _ _ _ _ _ _ _ (Act.put _ (some 87) _) _
        (try simp only [Act.put, List.setIfInBounds_toArray, List.set_cons_zero, List.set_cons_succ])
        refine wpAnyH_take (i := 1) (v := ?_) rfl (by kernel_rfl) (by kernel_rfl) (by kernel_rfl) (fun _ _ _ h => h) (Or.inl ⟨by kernel_rfl, ?_⟩) (by with_reducible assumption) ?_
        rotate_left
        ·
         intro wz hSw
         go_simp
         (try with_reducible rfl)
        show wpAnyH _ _ _ _ _ _ _ (Act.put _ (some 88) _) _
        (try simp only [Act.put, List.setIfInBounds_toArray, List.set_cons_zero, List.set_cons_succ])
        refine wpAnyH_take (i := 2) (v := ?_) rfl (by kernel_rfl) (by kernel_rfl) (by kernel_rfl) (fun _ _ _ h => h) (Or.inl ⟨by kernel_rfl, ?_⟩) (by with_reducible assumption) ?_
        rotate_left
        ·
         intro wz hSw
         go_simp
         (try with_reducible rfl)
        show wpAnyH _ _ _ _ _ _ _ (Act.put _ (some 89) _) _
        (try simp only [Act.put, List.setIfInBounds_toArray, List.set_cons_zero, List.set_cons_succ])
        refine wpAnyH_take (i := 3) (v := .agg #[.int .u64 (limb m1 0 : Nat), .int .u64 (limb m1 1 : Nat), .int .u64 (limb m1 2 : Nat), .int .u64 (limb m1 3 : Nat)]) rfl (by kernel_rfl) (by kernel_rfl) (by kernel_rfl) (fun _ _ _ h => h) (Or.inl ⟨by kernel_rfl, ?_⟩) (by with_reducible assumption) ?_
        ·
         intro wz hSw
         (try dsimp only at hSw)
         have y0 := (hSw.cell (p := ⟨B, 0, none⟩) LB.out).trans ((hp_cell (i := 0) R4.out).trans rfl)
         have y1 := (hSw.cell (p := ⟨B, 1, none⟩) LB.out).trans ((hp_cell (i := 1) R4.out).trans rfl)
         have y2 := (hSw.cell (p := ⟨B, 2, none⟩) LB.out).trans ((hp_cell (i := 2) R4.out).trans rfl)
         have y3 := (hSw.cell (p := ⟨B, 3, none⟩) LB.out).trans ((hp_cell (i := 3) R4.out).trans rfl)
         go_simp
         (try with_reducible rfl)
        show wpAnyH _ _ _ _ _ _ _ (Act.put _ (some 90) _) _
        (try simp only [Act.put, List.setIfInBounds_toArray, List.set_cons_zero, List.set_cons_succ])
        refine wpAnyH_take (i := 4) (v := ?_) rfl (by kernel_rfl) (by kernel_rfl) (by kernel_rfl) (fun _ _ _ h => h) (Or.inl ⟨by kernel_rfl, ?_⟩) (by with_reducible assumption) ?_
        rotate_left
        ·
         intro wz hSw
         go_simp
         (try with_reducible rfl)
        show wpAnyH _ _ _ _ _ _ _ (Act.put _ (some 91) _) _
        (try simp only [Act.put, List.setIfInBounds_toArray, List.set_cons_zero, List.set_cons_succ])
        refine wpAnyH_take (i := 5) (v := ?_) rfl (by kernel_rfl) (by kernel_rfl) (by kernel_rfl) (fun _ _ _ h => h) (Or.inl ⟨by kernel_rfl, ?_⟩) (by with_reducible assumption) ?_
        rotate_left
        ·
         intro wz hSw
         go_simp
         (try with_reducible rfl)
        show wpAnyH _ _ _ _ _ _ _ (Act.put _ (some 92) _) _
        (try simp only [Act.put, List.setIfInBounds_toArray, List.set_cons_zero, List.set_cons_succ])
        refine wpAnyH_take (i := 6) (v := .agg #[.int .u64 (limb m1 0 : Nat), .int .u64 (limb m1 1 : Nat), .int .u64 (limb m1 2 : Nat), .int .u64 (limb m1 3 : Nat)]) rfl (by kernel_rfl) (by kernel_rfl) (by kernel_rfl) (fun _ _ _ h => h) (Or.inl ⟨by kernel_rfl, ?_⟩) (by with_reducible assumption) ?_
        ·
         intro wz hSw
         (try dsimp only at hSw)
         have y0 := (hSw.cell (p := ⟨M, 4, none⟩) LM.out).trans ((hp_cell (i := 4) RM.out).trans rfl)
         have y1 := (hSw.cell (p := ⟨M, 5, none⟩) LM.out).trans ((hp_cell (i := 5) RM.out).trans rfl)
         have y2 := (hSw.cell (p := ⟨M, 6, none⟩) LM.out).trans ((hp_cell (i := 6) RM.out).trans rfl)
         have y3 := (hSw.cell (p := ⟨M, 7, none⟩) LM.out).trans ((hp_cell (i := 7) RM.out).trans rfl)
         go_simp
         (try with_reducible rfl)
        show wpAnyH _ _ _ _ _ _ _ (Act.put _ (some 93) _) _
        (try simp only [Act.put, List.setIfInBounds_toArray, List.set_cons_zero, List.set_cons_succ])
        refine wpAnyH_take (i := 7) (v := ?_) rfl (by kernel_rfl) (by kernel_rfl) (by kernel_rfl) (fun _ _ _ h => h) (Or.inl ⟨by kernel_rfl, ?_⟩) (by with_reducible assumption) ?_
        rotate_left
        ·
         intro wz hSw
         go_simp
         (try with_reducible rfl)
        show wpAnyH _ _ _ _ _ _ _ (Act.put _ (some 94) _) _
        (try simp only [Act.put, List.setIfInBounds_toArray, List.set_cons_zero, List.set_cons_succ])
        refine wpAnyH_take (i := 8) (v := ?_) rfl (by kernel_rfl) (by kernel_rfl) (by kernel_rfl) (fun _ _ _ h => h) (Or.inl ⟨by kernel_rfl, ?_⟩) (by with_reducible assumption) ?_
        rotate_left
        ·
         intro wz hSw
         go_simp
         (try with_reducible rfl)
        show wpAnyH _ _ _ _ _ _ _ (Act.put _ (some 95) _) _
        (try simp only [Act.put, List.setIfInBounds_toArray, List.set_cons_zero, List.set_cons_succ])
        refine wpAnyH_take (i := 9) (v := ?_) rfl (by kernel_rfl) (by kernel_rfl) (by kernel_rfl) (fun _ _ _ h => h) (Or.inl ⟨by kernel_rfl, ?_⟩) (by with_reducible assumption) ?_
        rotate_left
        ·
         intro wz hSw
         go_simp
         (try with_reducible rfl)
        show wpAnyH _ _ _ _ _ _ _ (Act.put _ (some 96) _) _
        (try simp only [Act.put, List.setIfInBounds_toArray, List.set_cons_zero, List.set_cons_succ])
        refine wpAnyH_take (i := 10) (v := ?_) rfl (by kernel_rfl) (by kernel_rfl) (by kernel_rfl) (fun _ _ _ h => h) (Or.inl ⟨by kernel_rfl, ?_⟩) (by with_reducible assumption) ?_
        rotate_left
        ·
         intro wz hSw
         go_simp
         (try with_reducible rfl)
        show wpAnyH _ _ _ _ _ _ _ (Act.put _ (some 97) _) _
        (try simp only [Act.put, List.setIfInBounds_toArray, List.set_cons_zero, List.set_cons_succ])
        refine wpAnyH_take (i := 11) (v := ?_) rfl (by kernel_rfl) (by kernel_rfl) (by kernel_rfl) (fun _ _ _ h => h) (Or.inl ⟨by kernel_rfl, ?_⟩) (by with_reducible assumption) ?_
        rotate_left
        ·
         intro wz hSw
         go_simp
         (try with_reducible rfl)
        show wpAnyH _ _ _ _ _ _ _ (Act.put _ (some 98) _) _
        (try simp only [Act.put, List.setIfInBounds_toArray, List.set_cons_zero, List.set_cons_succ])
        refine wpAnyH_take (i := 12) (v := .agg #[.int .u64 (limb m1 0 : Nat), .int .u64 (limb m1 1 : Nat), .int .u64 (limb m1 2 : Nat), .int .u64 (limb m1 3 : Nat)]) rfl (by kernel_rfl) (by kernel_rfl) (by kernel_rfl) (fun _ _ _ h => h) (Or.inl ⟨by kernel_rfl, ?_⟩) (by with_reducible assumption) ?_
        ·
         intro wz hSw
         (try dsimp only at hSw)
         have y0 := (hSw.cell (p := ⟨B, 0, none⟩) LB.out).trans ((hp_cell (i := 0) R4.out).trans rfl)
         have y1 := (hSw.cell (p := ⟨B, 1, none⟩) LB.out).trans ((hp_cell (i := 1) R4.out).trans rfl)
         have y2 := (hSw.cell (p := ⟨B, 2, none⟩) LB.out).trans ((hp_cell (i := 2) R4.out).trans rfl)
         have y3 := (hSw.cell (p := ⟨B, 3, none⟩) LB.out).trans ((hp_cell (i := 3) R4.out).trans rfl)
         go_simp
         (try with_reducible rfl)
        show wpAnyH _ _ _ _ _ _ _ (Act.put _ (some 99) _) _
        (try simp only [Act.put, List.setIfInBounds_toArray, List.set_cons_zero, List.set_cons_succ])
        refine wpAnyH_take (i := 13) (v := ?_) rfl (by kernel_rfl) (by kernel_rfl) (by kernel_rfl) (fun _ _ _ h => h) (Or.inl ⟨by kernel_rfl, ?_⟩) (by with_reducible assumption) ?_
        rotate_left
        ·
         intro wz hSw
         go_simp
         (try with_reducible rfl)
        show wpAnyH _ _ _ _ _ _ _ (Act.put _ (some 100) _) _
        (try simp only [Act.put, List.setIfInBounds_toArray, List.set_cons_zero, List.set_cons_succ])
        refine wpAnyH_take (i := 14) (v := ?_) rfl (by kernel_rfl) (by kernel_rfl) (by kernel_rfl) (fun _ _ _ h => h) (Or.inl ⟨by kernel_rfl, ?_⟩) (by with_reducible assumption) ?_
        rotate_left
        ·
         intro wz hSw
         go_simp
         (try with_reducible rfl)
        show wpAnyH _ _ _ _ _ _ _ (Act.put _ (some 101) _) _
        (try simp only [Act.put, List.setIfInBounds_toArray, List.set_cons_zero, List.set_cons_succ])
        refine wpAnyH_take (i := 15) (v := ?_) rfl (by kernel_rfl) (by kernel_rfl) (by kernel_rfl) (fun _ _ _ h => h) (Or.inl ⟨by kernel_rfl, ?_⟩) (by with_reducible assumption) ?_
        rotate_left
        ·
         intro wz hSw
         go_simp
         (try with_reducible rfl)
        show wpAnyH _ _ _ _ _ _ _ (Act.put _ (some 102) _) _
        (try simp only [Act.put, List.setIfInBounds_toArray, List.set_cons_zero, List.set_cons_succ])
        refine wpAnyH_take (i := 16) (v := ?_) rfl (by kernel_rfl) (by kernel_rfl) (by kernel_rfl) (fun _ _ _ h => h) (Or.inl ⟨by kernel_rfl, ?_⟩) (by with_reducible assumption) ?_
        rotate_left
        ·
         intro wz hSw
         go_simp
         (try with_reducible rfl)
        show wpAnyH _ _ _ _ _ _ _ (Act.put _ (some 103) _) _
        (try simp only [Act.put, List.setIfInBounds_toArray, List.set_cons_zero, List.set_cons_succ])
        refine wpAnyH_take (i := 17) (v := ?_) rfl (by kernel_rfl) (by kernel_rfl) (by kernel_rfl) (fun _ _ _ h => h) (Or.inl ⟨by kernel_rfl, ?_⟩) (by with_reducible assumption) ?_
        rotate_left
        ·
         intro wz hSw
         go_simp
         (try with_reducible rfl)
        show wpAnyH _ _ _ _ _ _ _ (Act.put _ (some 104) _) _
        (try simp only [Act.put, List.setIfInBounds_toArray, List.set_cons_zero, List.set_cons_succ])
        refine wpAnyH_take (i := 18) (v := ?_) rfl (by kernel_rfl) (by kernel_rfl) (by kernel_rfl) (fun _ _ _ h => h) (Or.inl ⟨by kernel_rfl, ?_⟩) (by with_reducible assumption) ?_
        rotate_left
        ·
         intro wz hSw
         go_simp
         (try with_reducible rfl)
        show wpAnyH _ _ _ _ _ _ _ (Act.put _ (some 105) _) _
        (try simp only [Act.put, List.setIfInBounds_toArray, List.set_cons_zero, List.set_cons_succ])
        refine wpAnyH_take (i := 19) (v := ?_) rfl (by kernel_rfl) (by kernel_rfl) (by kernel_rfl) (fun _ _ _ h => h) (Or.inl ⟨by kernel_rfl, ?_⟩) (by with_reducible assumption) ?_
        rotate_left
        ·
         intro wz hSw
         go_simp
         (try with_reducible rfl)
        show wpAnyH _ _ _ _ _ _ _ (Act.put _ (some 106) _) _
        (try simp only [Act.put, List.setIfInBounds_toArray, List.set_cons_zero, List.set_cons_succ])
        refine wpAnyH_take (i := 20) (v := ?_) rfl (by kernel_rfl) (by kernel_rfl) (by kernel_rfl) (fun _ _ _ h => h) (Or.inl ⟨by kernel_rfl, ?_⟩) (by with_reducible assumption) ?_
        rotate_left
        ·
         intro wz hSw
         go_simp
         (try with_reducible rfl)
        show wpAnyH _ _ _ _ _ _ _ (Act.put _ (some 107) _) _
        (try simp only [Act.put, List.setIfInBounds_toArray, List.set_cons_zero, List.set_cons_succ])
        refine wpAnyH_done (by kernel_rfl) ?_ _
        go_wp2_with fail
        exact ⟨⟨2, by omega, by omega, by go_num, H4.out.trans (HB0.out.mono H4.out.size)⟩, by simp [intOf]⟩
       ·
        have hT := fun (W1 : World) (hb : Below Wc.heap.size Wc W1) => keep_total (Hc.out.1.below hb) HM2.out.1 (by have := HM2.out.2; have := HQ.out.2.2; have := HQ.out.2.1; omega) 2 (by unfold okT; omega) m2 HNs.out.2.1.symm
        obtain ⟨v, is, hv, hget⟩ := keep_get Hc.out.1 HM2.out.1 (kS 2) (kS_size 2)
        rw [← HNs.out.2.1] at hv
        have ha := amt_lt L2 (kS 2)
        rw [← HNs.out.2.1] at ha
        unfold U at hT
        have HT := Lib.hid hT
        have HG := Lib.hid hget
        have HS := Lib.hid (fun W => supply_is 2 (kS 2) rfl W (by omega))
        obtain ⟨K, eK⟩ : ∃ y, y = kS 2 := ⟨_, rfl⟩
        rw [← eK] at HG HS
        have e1 : ∀ w, (Op.equalIn 10000 52 (.agg #[.int .u64 (limb m2 0 : Nat), .int .u64 (limb m2 1 : Nat), .int .u64 (limb m2 2 : Nat), .int .u64 (limb m2 3 : Nat)]) (.agg #[.int .u64 (limb m2 0 : Nat), .int .u64 (limb m2 1 : Nat), .int .u64 (limb m2 2 : Nat), .int .u64 (limb m2 3 : Nat)])).run Try.prog w = .ok true w := fun w => by rw [eq_run ha ha]; simp
        have e2 := fun w => eq0_run ha w
        obtain ⟨ub, eub⟩ : ∃ y, y = decide (m2 = 0) := ⟨_, rfl⟩
        rw [← eub] at hv e2
        have q1 : (ub == ub) = true := beq_self_eq_true _
        clear hT hget eK ha eub
        go_upto_region 21 with (first
         | (go_at_call 28; refine (HG.out _ H3.out).mono ?_; rintro e w4 ⟨rfl, hb4⟩; have H4 := Lib.hid (H3.out.trans (hb4.mono H3.out.size)); have R4 := Lib.hid ((hb4.block _ (hp_lt R3.out)).trans R3.out); clear hb4)
         | (go_at_call 29; refine (HS.out _).mono ?_; rintro e w3 ⟨rfl, hb3⟩; have hbx := H2.out.alloc H2.out.size (.cells #[.int .u64 (limb m2 0 : Nat), .int .u64 (limb m2 1 : Nat), .int .u64 (limb m2 2 : Nat), .int .u64 (limb m2 3 : Nat)] 52); have H3 := Lib.hid (hbx.trans (hb3.mono hbx.size)); have R3 := Lib.hid ((hb3.block w2.heap.size (by simp)).trans (heap_alloc_new w2 (.cells #[.int .u64 (limb m2 0 : Nat), .int .u64 (limb m2 1 : Nat), .int .u64 (limb m2 2 : Nat), .int .u64 (limb m2 3 : Nat)] 52))); clear hb3 hbx)
         | (go_at_call 27; refine (HT.out _ HBk.out).mono ?_; rintro e w2 ⟨rfl, hb2⟩; have H2 := Lib.hid (HBk.out.trans (hb2.mono HBk.out.size)); clear hb2))
        obtain ⟨B, eB⟩ : ∃ y, y = w2.heap.size := ⟨_, rfl⟩
        rw [← eB] at R4 ⊢
        have LB := Lib.hid (hp_lt R4.out)
        have RM := Lib.hid ((H4.out.block _ (hp_lt Hc.out.2)).trans Hc.out.2)
        have LM := Lib.hid (hp_lt RM.out)
        clear eB
        refine wp_region_held_drew (S := fun w' => Below w4.heap.size w4 w') (by kernel_rfl) ?_ (fun hHeld => ?_)
        ·
         exact (Below.refl _ _).drew
        have HB0 := Lib.hid (show Below w4.heap.size w4 w4.drew from (Below.refl _ _).drew)
        generalize w4.drew = Y0 at HB0 hHeld ⊢
        refine wpAnyH_take (i := 0) (v := ?_) rfl (by kernel_rfl) (by kernel_rfl) (by kernel_rfl) (fun _ _ _ h => h) (Or.inl ⟨by kernel_rfl, ?_⟩) (by with_reducible assumption) ?_
        rotate_left
        ·
         intro wz hSw
         go_simp
         (try with_reducible rfl)
        show wpAnyH _ _ _ _ _ _ _ (Act.put _ (some 87) _) _
        (try simp only [Act.put, List.setIfInBounds_toArray, List.set_cons_zero, List.set_cons_succ])
        refine wpAnyH_take (i := 1) (v := ?_) rfl (by kernel_rfl) (by kernel_rfl) (by kernel_rfl) (fun _ _ _ h => h) (Or.inl ⟨by kernel_rfl, ?_⟩) (by with_reducible assumption) ?_
        rotate_left
        ·
         intro wz hSw
         go_simp
         (try with_reducible rfl)
        show wpAnyH _ _ _ _ _ _ _ (Act.put _ (some 88) _) _
        (try simp only [Act.put, List.setIfInBounds_toArray, List.set_cons_zero, List.set_cons_succ])
        refine wpAnyH_take (i := 2) (v := ?_) rfl (by kernel_rfl) (by kernel_rfl) (by kernel_rfl) (fun _ _ _ h => h) (Or.inl ⟨by kernel_rfl, ?_⟩) (by with_reducible assumption) ?_
        rotate_left
        ·
         intro wz hSw
         go_simp
         (try with_reducible rfl)
        show wpAnyH _ _ _ _ _ _ _ (Act.put _ (some 89) _) _
        (try simp only [Act.put, List.setIfInBounds_toArray, List.set_cons_zero, List.set_cons_succ])
        refine wpAnyH_take (i := 3) (v := .agg #[.int .u64 (limb m2 0 : Nat), .int .u64 (limb m2 1 : Nat), .int .u64 (limb m2 2 : Nat), .int .u64 (limb m2 3 : Nat)]) rfl (by kernel_rfl) (by kernel_rfl) (by kernel_rfl) (fun _ _ _ h => h) (Or.inl ⟨by kernel_rfl, ?_⟩) (by with_reducible assumption) ?_
        ·
         intro wz hSw
         (try dsimp only at hSw)
         have y0 := (hSw.cell (p := ⟨B, 0, none⟩) LB.out).trans ((hp_cell (i := 0) R4.out).trans rfl)
         have y1 := (hSw.cell (p := ⟨B, 1, none⟩) LB.out).trans ((hp_cell (i := 1) R4.out).trans rfl)
         have y2 := (hSw.cell (p := ⟨B, 2, none⟩) LB.out).trans ((hp_cell (i := 2) R4.out).trans rfl)
         have y3 := (hSw.cell (p := ⟨B, 3, none⟩) LB.out).trans ((hp_cell (i := 3) R4.out).trans rfl)
         go_simp
         (try with_reducible rfl)
        show wpAnyH _ _ _ _ _ _ _ (Act.put _ (some 90) _) _
        (try simp only [Act.put, List.setIfInBounds_toArray, List.set_cons_zero, List.set_cons_succ])
        refine wpAnyH_take (i := 4) (v := ?_) rfl (by kernel_rfl) (by kernel_rfl) (by kernel_rfl) (fun _ _ _ h => h) (Or.inl ⟨by kernel_rfl, ?_⟩) (by with_reducible assumption) ?_
        rotate_left
        ·
         intro wz hSw
         go_simp
         (try with_reducible rfl)
        show wpAnyH _ _ _ _ _ _ _ (Act.put _ (some 91) _) _
        (try simp only [Act.put, List.setIfInBounds_toArray, List.set_cons_zero, List.set_cons_succ])
        refine wpAnyH_take (i := 5) (v := ?_) rfl (by kernel_rfl) (by kernel_rfl) (by kernel_rfl) (fun _ _ _ h => h) (Or.inl ⟨by kernel_rfl, ?_⟩) (by with_reducible assumption) ?_
        rotate_left
        ·
         intro wz hSw
         go_simp
         (try with_reducible rfl)
        show wpAnyH _ _ _ _ _ _ _ (Act.put _ (some 92) _) _
        (try simp only [Act.put, List.setIfInBounds_toArray, List.set_cons_zero, List.set_cons_succ])
        refine wpAnyH_take (i := 6) (v := .agg #[.int .u64 (limb m2 0 : Nat), .int .u64 (limb m2 1 : Nat), .int .u64 (limb m2 2 : Nat), .int .u64 (limb m2 3 : Nat)]) rfl (by kernel_rfl) (by kernel_rfl) (by kernel_rfl) (fun _ _ _ h => h) (Or.inl ⟨by kernel_rfl, ?_⟩) (by with_reducible assumption) ?_
        ·
         intro wz hSw
         (try dsimp only at hSw)
         have y0 := (hSw.cell (p := ⟨M, 8, none⟩) LM.out).trans ((hp_cell (i := 8) RM.out).trans rfl)
         have y1 := (hSw.cell (p := ⟨M, 9, none⟩) LM.out).trans ((hp_cell (i := 9) RM.out).trans rfl)
         have y2 := (hSw.cell (p := ⟨M, 10, none⟩) LM.out).trans ((hp_cell (i := 10) RM.out).trans rfl)
         have y3 := (hSw.cell (p := ⟨M, 11, none⟩) LM.out).trans ((hp_cell (i := 11) RM.out).trans rfl)
         go_simp
         (try with_reducible rfl)
        show wpAnyH _ _ _ _ _ _ _ (Act.put _ (some 93) _) _
        (try simp only [Act.put, List.setIfInBounds_toArray, List.set_cons_zero, List.set_cons_succ])
        refine wpAnyH_take (i := 7) (v := ?_) rfl (by kernel_rfl) (by kernel_rfl) (by kernel_rfl) (fun _ _ _ h => h) (Or.inl ⟨by kernel_rfl, ?_⟩) (by with_reducible assumption) ?_
        rotate_left
        ·
         intro wz hSw
         go_simp
         (try with_reducible rfl)
        show wpAnyH _ _ _ _ _ _ _ (Act.put _ (some 94) _) _
        (try simp only [Act.put, List.setIfInBounds_toArray, List.set_cons_zero, List.set_cons_succ])
        refine wpAnyH_take (i := 8) (v := ?_) rfl (by kernel_rfl) (by kernel_rfl) (by kernel_rfl) (fun _ _ _ h => h) (Or.inl ⟨by kernel_rfl, ?_⟩) (by with_reducible assumption) ?_
        rotate_left
        ·
         intro wz hSw
         go_simp
         (try with_reducible rfl)
        show wpAnyH _ _ _ _ _ _ _ (Act.put _ (some 95) _) _
        (try simp only [Act.put, List.setIfInBounds_toArray, List.set_cons_zero, List.set_cons_succ])
        refine wpAnyH_take (i := 9) (v := ?_) rfl (by kernel_rfl) (by kernel_rfl) (by kernel_rfl) (fun _ _ _ h => h) (Or.inl ⟨by kernel_rfl, ?_⟩) (by with_reducible assumption) ?_
        rotate_left
        ·
         intro wz hSw
         go_simp
         (try with_reducible rfl)
        show wpAnyH _ _ _ _ _ _ _ (Act.put _ (some 96) _) _
        (try simp only [Act.put, List.setIfInBounds_toArray, List.set_cons_zero, List.set_cons_succ])
        refine wpAnyH_take (i := 10) (v := ?_) rfl (by kernel_rfl) (by kernel_rfl) (by kernel_rfl) (fun _ _ _ h => h) (Or.inl ⟨by kernel_rfl, ?_⟩) (by with_reducible assumption) ?_
        rotate_left
        ·
         intro wz hSw
         go_simp
         (try with_reducible rfl)
        show wpAnyH _ _ _ _ _ _ _ (Act.put _ (some 97) _) _
        (try simp only [Act.put, List.setIfInBounds_toArray, List.set_cons_zero, List.set_cons_succ])
        refine wpAnyH_take (i := 11) (v := ?_) rfl (by kernel_rfl) (by kernel_rfl) (by kernel_rfl) (fun _ _ _ h => h) (Or.inl ⟨by kernel_rfl, ?_⟩) (by with_reducible assumption) ?_
        rotate_left
        ·
         intro wz hSw
         go_simp
         (try with_reducible rfl)
        show wpAnyH _ _ _ _ _ _ _ (Act.put _ (some 98) _) _
        (try simp only [Act.put, List.setIfInBounds_toArray, List.set_cons_zero, List.set_cons_succ])
        refine wpAnyH_take (i := 12) (v := .agg #[.int .u64 (limb m2 0 : Nat), .int .u64 (limb m2 1 : Nat), .int .u64 (limb m2 2 : Nat), .int .u64 (limb m2 3 : Nat)]) rfl (by kernel_rfl) (by kernel_rfl) (by kernel_rfl) (fun _ _ _ h => h) (Or.inl ⟨by kernel_rfl, ?_⟩) (by with_reducible assumption) ?_
        ·
         intro wz hSw
         (try dsimp only at hSw)
         have y0 := (hSw.cell (p := ⟨B, 0, none⟩) LB.out).trans ((hp_cell (i := 0) R4.out).trans rfl)
         have y1 := (hSw.cell (p := ⟨B, 1, none⟩) LB.out).trans ((hp_cell (i := 1) R4.out).trans rfl)
         have y2 := (hSw.cell (p := ⟨B, 2, none⟩) LB.out).trans ((hp_cell (i := 2) R4.out).trans rfl)
         have y3 := (hSw.cell (p := ⟨B, 3, none⟩) LB.out).trans ((hp_cell (i := 3) R4.out).trans rfl)
         go_simp
         (try with_reducible rfl)
        show wpAnyH _ _ _ _ _ _ _ (Act.put _ (some 99) _) _
        (try simp only [Act.put, List.setIfInBounds_toArray, List.set_cons_zero, List.set_cons_succ])
        refine wpAnyH_take (i := 13) (v := ?_) rfl (by kernel_rfl) (by kernel_rfl) (by kernel_rfl) (fun _ _ _ h => h) (Or.inl ⟨by kernel_rfl, ?_⟩) (by with_reducible assumption) ?_
        rotate_left
        ·
         intro wz hSw
         go_simp
         (try with_reducible rfl)
        show wpAnyH _ _ _ _ _ _ _ (Act.put _ (some 100) _) _
        (try simp only [Act.put, List.setIfInBounds_toArray, List.set_cons_zero, List.set_cons_succ])
        refine wpAnyH_take (i := 14) (v := ?_) rfl (by kernel_rfl) (by kernel_rfl) (by kernel_rfl) (fun _ _ _ h => h) (Or.inl ⟨by kernel_rfl, ?_⟩) (by with_reducible assumption) ?_
        rotate_left
        ·
         intro wz hSw
         go_simp
         (try with_reducible rfl)
        show wpAnyH _ _ _ _ _ _ _ (Act.put _ (some 101) _) _
        (try simp only [Act.put, List.setIfInBounds_toArray, List.set_cons_zero, List.set_cons_succ])
        refine wpAnyH_take (i := 15) (v := ?_) rfl (by kernel_rfl) (by kernel_rfl) (by kernel_rfl) (fun _ _ _ h => h) (Or.inl ⟨by kernel_rfl, ?_⟩) (by with_reducible assumption) ?_
        rotate_left
        ·
         intro wz hSw
         go_simp
         (try with_reducible rfl)
        show wpAnyH _ _ _ _ _ _ _ (Act.put _ (some 102) _) _
        (try simp only [Act.put, List.setIfInBounds_toArray, List.set_cons_zero, List.set_cons_succ])
        refine wpAnyH_take (i := 16) (v := ?_) rfl (by kernel_rfl) (by kernel_rfl) (by kernel_rfl) (fun _ _ _ h => h) (Or.inl ⟨by kernel_rfl, ?_⟩) (by with_reducible assumption) ?_
        rotate_left
        ·
         intro wz hSw
         go_simp
         (try with_reducible rfl)
        show wpAnyH _ _ _ _ _ _ _ (Act.put _ (some 103) _) _
        (try simp only [Act.put, List.setIfInBounds_toArray, List.set_cons_zero, List.set_cons_succ])
        refine wpAnyH_take (i := 17) (v := ?_) rfl (by kernel_rfl) (by kernel_rfl) (by kernel_rfl) (fun _ _ _ h => h) (Or.inl ⟨by kernel_rfl, ?_⟩) (by with_reducible assumption) ?_
        rotate_left
        ·
         intro wz hSw
         go_simp
         (try with_reducible rfl)
        show wpAnyH _ _ _ _ _ _ _ (Act.put _ (some 104) _) _
        (try simp only [Act.put, List.setIfInBounds_toArray, List.set_cons_zero, List.set_cons_succ])
        refine wpAnyH_take (i := 18) (v := ?_) rfl (by kernel_rfl) (by kernel_rfl) (by kernel_rfl) (fun _ _ _ h => h) (Or.inl ⟨by kernel_rfl, ?_⟩) (by with_reducible assumption) ?_
        rotate_left
        ·
         intro wz hSw
         go_simp
         (try with_reducible rfl)
        show wpAnyH _ _ _ _ _ _ _ (Act.put _ (some 105) _) _
        (try simp only [Act.put, List.setIfInBounds_toArray, List.set_cons_zero, List.set_cons_succ])
        refine wpAnyH_take (i := 19) (v := ?_) rfl (by kernel_rfl) (by kernel_rfl) (by kernel_rfl) (fun _ _ _ h => h) (Or.inl ⟨by kernel_rfl, ?_⟩) (by with_reducible assumption) ?_
        rotate_left
        ·
         intro wz hSw
         go_simp
         (try with_reducible rfl)
        show wpAnyH _ _ _ _ _ _ _ (Act.put _ (some 106) _) _
        (try simp only [Act.put, List.setIfInBounds_toArray, List.set_cons_zero, List.set_cons_succ])
        refine wpAnyH_take (i := 20) (v := ?_) rfl (by kernel_rfl) (by kernel_rfl) (by kernel_rfl) (fun _ _ _ h => h) (Or.inl ⟨by kernel_rfl, ?_⟩) (by with_reducible assumption) ?_
        rotate_left
        ·
         intro wz hSw
         go_simp
         (try with_reducible rfl)
        show wpAnyH _ _ _ _ _ _ _ (Act.put _ (some 107) _) _
        (try simp only [Act.put, List.setIfInBounds_toArray, List.set_cons_zero, List.set_cons_succ])
        refine wpAnyH_done (by kernel_rfl) ?_ _
        go_wp2_with fail
        exact ⟨⟨3, by omega, by omega, by go_num, H4.out.trans (HB0.out.mono H4.out.size)⟩, by simp [intOf]⟩
       ·
        have hT := fun (W1 : World) (hb : Below Wc.heap.size Wc W1) => keep_total (Hc.out.1.below hb) HM2.out.1 (by have := HM2.out.2; have := HQ.out.2.2; have := HQ.out.2.1; omega) 3 (by unfold okT; omega) m3 HNs.out.2.2.symm
        obtain ⟨v, is, hv, hget⟩ := keep_get Hc.out.1 HM2.out.1 (kS 3) (kS_size 3)
        rw [← HNs.out.2.2] at hv
        have ha := amt_lt L2 (kS 3)
        rw [← HNs.out.2.2] at ha
        unfold U at hT
        have HT := Lib.hid hT
        have HG := Lib.hid hget
        have HS := Lib.hid (fun W => supply_is 3 (kS 3) rfl W (by omega))
        obtain ⟨K, eK⟩ : ∃ y, y = kS 3 := ⟨_, rfl⟩
        rw [← eK] at HG HS
        have e1 : ∀ w, (Op.equalIn 10000 52 (.agg #[.int .u64 (limb m3 0 : Nat), .int .u64 (limb m3 1 : Nat), .int .u64 (limb m3 2 : Nat), .int .u64 (limb m3 3 : Nat)]) (.agg #[.int .u64 (limb m3 0 : Nat), .int .u64 (limb m3 1 : Nat), .int .u64 (limb m3 2 : Nat), .int .u64 (limb m3 3 : Nat)])).run Try.prog w = .ok true w := fun w => by rw [eq_run ha ha]; simp
        have e2 := fun w => eq0_run ha w
        obtain ⟨ub, eub⟩ : ∃ y, y = decide (m3 = 0) := ⟨_, rfl⟩
        rw [← eub] at hv e2
        have q1 : (ub == ub) = true := beq_self_eq_true _
        clear hT hget eK ha eub
        go_upto_region 21 with (first
         | (go_at_call 28; refine (HG.out _ H3.out).mono ?_; rintro e w4 ⟨rfl, hb4⟩; have H4 := Lib.hid (H3.out.trans (hb4.mono H3.out.size)); have R4 := Lib.hid ((hb4.block _ (hp_lt R3.out)).trans R3.out); clear hb4)
         | (go_at_call 29; refine (HS.out _).mono ?_; rintro e w3 ⟨rfl, hb3⟩; have hbx := H2.out.alloc H2.out.size (.cells #[.int .u64 (limb m3 0 : Nat), .int .u64 (limb m3 1 : Nat), .int .u64 (limb m3 2 : Nat), .int .u64 (limb m3 3 : Nat)] 52); have H3 := Lib.hid (hbx.trans (hb3.mono hbx.size)); have R3 := Lib.hid ((hb3.block w2.heap.size (by simp)).trans (heap_alloc_new w2 (.cells #[.int .u64 (limb m3 0 : Nat), .int .u64 (limb m3 1 : Nat), .int .u64 (limb m3 2 : Nat), .int .u64 (limb m3 3 : Nat)] 52))); clear hb3 hbx)
         | (go_at_call 27; refine (HT.out _ HBk.out).mono ?_; rintro e w2 ⟨rfl, hb2⟩; have H2 := Lib.hid (HBk.out.trans (hb2.mono HBk.out.size)); clear hb2))
        obtain ⟨B, eB⟩ : ∃ y, y = w2.heap.size := ⟨_, rfl⟩
        rw [← eB] at R4 ⊢
        have LB := Lib.hid (hp_lt R4.out)
        have RM := Lib.hid ((H4.out.block _ (hp_lt Hc.out.2)).trans Hc.out.2)
        have LM := Lib.hid (hp_lt RM.out)
        clear eB
        refine wp_region_held_drew (S := fun w' => Below w4.heap.size w4 w') (by kernel_rfl) ?_ (fun hHeld => ?_)
        ·
         exact (Below.refl _ _).drew
        have HB0 := Lib.hid (show Below w4.heap.size w4 w4.drew from (Below.refl _ _).drew)
        generalize w4.drew = Y0 at HB0 hHeld ⊢
        refine wpAnyH_take (i := 0) (v := ?_) rfl (by kernel_rfl) (by kernel_rfl) (by kernel_rfl) (fun _ _ _ h => h) (Or.inl ⟨by kernel_rfl, ?_⟩) (by with_reducible assumption) ?_
        rotate_left
        ·
         intro wz hSw
         go_simp
         (try with_reducible rfl)
        show wpAnyH _ _ _ _ _ _ _ (Act.put _ (some 87) _) _
        (try simp only [Act.put, List.setIfInBounds_toArray, List.set_cons_zero, List.set_cons_succ])
        refine wpAnyH_take (i := 1) (v := ?_) rfl (by kernel_rfl) (by kernel_rfl) (by kernel_rfl) (fun _ _ _ h => h) (Or.inl ⟨by kernel_rfl, ?_⟩) (by with_reducible assumption) ?_
        rotate_left
        ·
         intro wz hSw
         go_simp
         (try with_reducible rfl)
        show wpAnyH _ _ _ _ _ _ _ (Act.put _ (some 88) _) _
        (try simp only [Act.put, List.setIfInBounds_toArray, List.set_cons_zero, List.set_cons_succ])
        refine wpAnyH_take (i := 2) (v := ?_) rfl (by kernel_rfl) (by kernel_rfl) (by kernel_rfl) (fun _ _ _ h => h) (Or.inl ⟨by kernel_rfl, ?_⟩) (by with_reducible assumption) ?_
        rotate_left
        ·
         intro wz hSw
         go_simp
         (try with_reducible rfl)
        show wpAnyH _ _ _ _ _ _ _ (Act.put _ (some 89) _) _
        (try simp only [Act.put, List.setIfInBounds_toArray, List.set_cons_zero, List.set_cons_succ])
        refine wpAnyH_take (i := 3) (v := .agg #[.int .u64 (limb m3 0 : Nat), .int .u64 (limb m3 1 : Nat), .int .u64 (limb m3 2 : Nat), .int .u64 (limb m3 3 : Nat)]) rfl (by kernel_rfl) (by kernel_rfl) (by kernel_rfl) (fun _ _ _ h => h) (Or.inl ⟨by kernel_rfl, ?_⟩) (by with_reducible assumption) ?_
        ·
         intro wz hSw
         (try dsimp only at hSw)
         have y0 := (hSw.cell (p := ⟨B, 0, none⟩) LB.out).trans ((hp_cell (i := 0) R4.out).trans rfl)
         have y1 := (hSw.cell (p := ⟨B, 1, none⟩) LB.out).trans ((hp_cell (i := 1) R4.out).trans rfl)
         have y2 := (hSw.cell (p := ⟨B, 2, none⟩) LB.out).trans ((hp_cell (i := 2) R4.out).trans rfl)
         have y3 := (hSw.cell (p := ⟨B, 3, none⟩) LB.out).trans ((hp_cell (i := 3) R4.out).trans rfl)
         go_simp
         (try with_reducible rfl)
        show wpAnyH _ _ _ _ _ _ _ (Act.put _ (some 90) _) _
        (try simp only [Act.put, List.setIfInBounds_toArray, List.set_cons_zero, List.set_cons_succ])
        refine wpAnyH_take (i := 4) (v := ?_) rfl (by kernel_rfl) (by kernel_rfl) (by kernel_rfl) (fun _ _ _ h => h) (Or.inl ⟨by kernel_rfl, ?_⟩) (by with_reducible assumption) ?_
        rotate_left
        ·
         intro wz hSw
         go_simp
         (try with_reducible rfl)
        show wpAnyH _ _ _ _ _ _ _ (Act.put _ (some 91) _) _
        (try simp only [Act.put, List.setIfInBounds_toArray, List.set_cons_zero, List.set_cons_succ])
        refine wpAnyH_take (i := 5) (v := ?_) rfl (by kernel_rfl) (by kernel_rfl) (by kernel_rfl) (fun _ _ _ h => h) (Or.inl ⟨by kernel_rfl, ?_⟩) (by with_reducible assumption) ?_
        rotate_left
        ·
         intro wz hSw
         go_simp
         (try with_reducible rfl)
        show wpAnyH _ _ _ _ _ _ _ (Act.put _ (some 92) _) _
        (try simp only [Act.put, List.setIfInBounds_toArray, List.set_cons_zero, List.set_cons_succ])
        refine wpAnyH_take (i := 6) (v := .agg #[.int .u64 (limb m3 0 : Nat), .int .u64 (limb m3 1 : Nat), .int .u64 (limb m3 2 : Nat), .int .u64 (limb m3 3 : Nat)]) rfl (by kernel_rfl) (by kernel_rfl) (by kernel_rfl) (fun _ _ _ h => h) (Or.inl ⟨by kernel_rfl, ?_⟩) (by with_reducible assumption) ?_
        ·
         intro wz hSw
         (try dsimp only at hSw)
         have y0 := (hSw.cell (p := ⟨M, 12, none⟩) LM.out).trans ((hp_cell (i := 12) RM.out).trans rfl)
         have y1 := (hSw.cell (p := ⟨M, 13, none⟩) LM.out).trans ((hp_cell (i := 13) RM.out).trans rfl)
         have y2 := (hSw.cell (p := ⟨M, 14, none⟩) LM.out).trans ((hp_cell (i := 14) RM.out).trans rfl)
         have y3 := (hSw.cell (p := ⟨M, 15, none⟩) LM.out).trans ((hp_cell (i := 15) RM.out).trans rfl)
         go_simp
         (try with_reducible rfl)
        show wpAnyH _ _ _ _ _ _ _ (Act.put _ (some 93) _) _
        (try simp only [Act.put, List.setIfInBounds_toArray, List.set_cons_zero, List.set_cons_succ])
        refine wpAnyH_take (i := 7) (v := ?_) rfl (by kernel_rfl) (by kernel_rfl) (by kernel_rfl) (fun _ _ _ h => h) (Or.inl ⟨by kernel_rfl, ?_⟩) (by with_reducible assumption) ?_
        rotate_left
        ·
         intro wz hSw
         go_simp
         (try with_reducible rfl)
        show wpAnyH _ _ _ _ _ _ _ (Act.put _ (some 94) _) _
        (try simp only [Act.put, List.setIfInBounds_toArray, List.set_cons_zero, List.set_cons_succ])
        refine wpAnyH_take (i := 8) (v := ?_) rfl (by kernel_rfl) (by kernel_rfl) (by kernel_rfl) (fun _ _ _ h => h) (Or.inl ⟨by kernel_rfl, ?_⟩) (by with_reducible assumption) ?_
        rotate_left
        ·
         intro wz hSw
         go_simp
         (try with_reducible rfl)
        show wpAnyH _ _ _ _ _ _ _ (Act.put _ (some 95) _) _
        (try simp only [Act.put, List.setIfInBounds_toArray, List.set_cons_zero, List.set_cons_succ])
        refine wpAnyH_take (i := 9) (v := ?_) rfl (by kernel_rfl) (by kernel_rfl) (by kernel_rfl) (fun _ _ _ h => h) (Or.inl ⟨by kernel_rfl, ?_⟩) (by with_reducible assumption) ?_
        rotate_left
        ·
         intro wz hSw
         go_simp
         (try with_reducible rfl)
        show wpAnyH _ _ _ _ _ _ _ (Act.put _ (some 96) _) _
        (try simp only [Act.put, List.setIfInBounds_toArray, List.set_cons_zero, List.set_cons_succ])
        refine wpAnyH_take (i := 10) (v := ?_) rfl (by kernel_rfl) (by kernel_rfl) (by kernel_rfl) (fun _ _ _ h => h) (Or.inl ⟨by kernel_rfl, ?_⟩) (by with_reducible assumption) ?_
        rotate_left
        ·
         intro wz hSw
         go_simp
         (try with_reducible rfl)
        show wpAnyH _ _ _ _ _ _ _ (Act.put _ (some 97) _) _
        (try simp only [Act.put, List.setIfInBounds_toArray, List.set_cons_zero, List.set_cons_succ])
        refine wpAnyH_take (i := 11) (v := ?_) rfl (by kernel_rfl) (by kernel_rfl) (by kernel_rfl) (fun _ _ _ h => h) (Or.inl ⟨by kernel_rfl, ?_⟩) (by with_reducible assumption) ?_
        rotate_left
        ·
         intro wz hSw
         go_simp
         (try with_reducible rfl)
        show wpAnyH _ _ _ _ _ _ _ (Act.put _ (some 98) _) _
        (try simp only [Act.put, List.setIfInBounds_toArray, List.set_cons_zero, List.set_cons_succ])
        refine wpAnyH_take (i := 12) (v := .agg #[.int .u64 (limb m3 0 : Nat), .int .u64 (limb m3 1 : Nat), .int .u64 (limb m3 2 : Nat), .int .u64 (limb m3 3 : Nat)]) rfl (by kernel_rfl) (by kernel_rfl) (by kernel_rfl) (fun _ _ _ h => h) (Or.inl ⟨by kernel_rfl, ?_⟩) (by with_reducible assumption) ?_
        ·
         intro wz hSw
         (try dsimp only at hSw)
         have y0 := (hSw.cell (p := ⟨B, 0, none⟩) LB.out).trans ((hp_cell (i := 0) R4.out).trans rfl)
         have y1 := (hSw.cell (p := ⟨B, 1, none⟩) LB.out).trans ((hp_cell (i := 1) R4.out).trans rfl)
         have y2 := (hSw.cell (p := ⟨B, 2, none⟩) LB.out).trans ((hp_cell (i := 2) R4.out).trans rfl)
         have y3 := (hSw.cell (p := ⟨B, 3, none⟩) LB.out).trans ((hp_cell (i := 3) R4.out).trans rfl)
         go_simp
         (try with_reducible rfl)
        show wpAnyH _ _ _ _ _ _ _ (Act.put _ (some 99) _) _
        (try simp only [Act.put, List.setIfInBounds_toArray, List.set_cons_zero, List.set_cons_succ])
        refine wpAnyH_take (i := 13) (v := ?_) rfl (by kernel_rfl) (by kernel_rfl) (by kernel_rfl) (fun _ _ _ h => h) (Or.inl ⟨by kernel_rfl, ?_⟩) (by with_reducible assumption) ?_
        rotate_left
        ·
         intro wz hSw
         go_simp
         (try with_reducible rfl)
        show wpAnyH _ _ _ _ _ _ _ (Act.put _ (some 100) _) _
        (try simp only [Act.put, List.setIfInBounds_toArray, List.set_cons_zero, List.set_cons_succ])
        refine wpAnyH_take (i := 14) (v := ?_) rfl (by kernel_rfl) (by kernel_rfl) (by kernel_rfl) (fun _ _ _ h => h) (Or.inl ⟨by kernel_rfl, ?_⟩) (by with_reducible assumption) ?_
        rotate_left
        ·
         intro wz hSw
         go_simp
         (try with_reducible rfl)
        show wpAnyH _ _ _ _ _ _ _ (Act.put _ (some 101) _) _
        (try simp only [Act.put, List.setIfInBounds_toArray, List.set_cons_zero, List.set_cons_succ])
        refine wpAnyH_take (i := 15) (v := ?_) rfl (by kernel_rfl) (by kernel_rfl) (by kernel_rfl) (fun _ _ _ h => h) (Or.inl ⟨by kernel_rfl, ?_⟩) (by with_reducible assumption) ?_
        rotate_left
        ·
         intro wz hSw
         go_simp
         (try with_reducible rfl)
        show wpAnyH _ _ _ _ _ _ _ (Act.put _ (some 102) _) _
        (try simp only [Act.put, List.setIfInBounds_toArray, List.set_cons_zero, List.set_cons_succ])
        refine wpAnyH_take (i := 16) (v := ?_) rfl (by kernel_rfl) (by kernel_rfl) (by kernel_rfl) (fun _ _ _ h => h) (Or.inl ⟨by kernel_rfl, ?_⟩) (by with_reducible assumption) ?_
        rotate_left
        ·
         intro wz hSw
         go_simp
         (try with_reducible rfl)
        show wpAnyH _ _ _ _ _ _ _ (Act.put _ (some 103) _) _
        (try simp only [Act.put, List.setIfInBounds_toArray, List.set_cons_zero, List.set_cons_succ])
        refine wpAnyH_take (i := 17) (v := ?_) rfl (by kernel_rfl) (by kernel_rfl) (by kernel_rfl) (fun _ _ _ h => h) (Or.inl ⟨by kernel_rfl, ?_⟩) (by with_reducible assumption) ?_
        rotate_left
        ·
         intro wz hSw
         go_simp
         (try with_reducible rfl)
        show wpAnyH _ _ _ _ _ _ _ (Act.put _ (some 104) _) _
        (try simp only [Act.put, List.setIfInBounds_toArray, List.set_cons_zero, List.set_cons_succ])
        refine wpAnyH_take (i := 18) (v := ?_) rfl (by kernel_rfl) (by kernel_rfl) (by kernel_rfl) (fun _ _ _ h => h) (Or.inl ⟨by kernel_rfl, ?_⟩) (by with_reducible assumption) ?_
        rotate_left
        ·
         intro wz hSw
         go_simp
         (try with_reducible rfl)
        show wpAnyH _ _ _ _ _ _ _ (Act.put _ (some 105) _) _
        (try simp only [Act.put, List.setIfInBounds_toArray, List.set_cons_zero, List.set_cons_succ])
        refine wpAnyH_take (i := 19) (v := ?_) rfl (by kernel_rfl) (by kernel_rfl) (by kernel_rfl) (fun _ _ _ h => h) (Or.inl ⟨by kernel_rfl, ?_⟩) (by with_reducible assumption) ?_
        rotate_left
        ·
         intro wz hSw
         go_simp
         (try with_reducible rfl)
        show wpAnyH _ _ _ _ _ _ _ (Act.put _ (some 106) _) _
        (try simp only [Act.put, List.setIfInBounds_toArray, List.set_cons_zero, List.set_cons_succ])
        refine wpAnyH_take (i := 20) (v := ?_) rfl (by kernel_rfl) (by kernel_rfl) (by kernel_rfl) (fun _ _ _ h => h) (Or.inl ⟨by kernel_rfl, ?_⟩) (by with_reducible assumption) ?_
        rotate_left
        ·
         intro wz hSw
         go_simp
         (try with_reducible rfl)
        show wpAnyH _ _ _ _ _ _ _ (Act.put _ (some 107) _) _
        (try simp only [Act.put, List.setIfInBounds_toArray, List.set_cons_zero, List.set_cons_succ])
        refine wpAnyH_done (by kernel_rfl) ?_ _
        go_wp2_with fail
        exact ⟨⟨4, by omega, by omega, by go_num, H4.out.trans (HB0.out.mono H4.out.size)⟩, by simp [intOf]⟩
   ·
    rcases (by omega : t < 1 ∨ (¬ t < 1 ∧ 3 < t)) with h1 | ⟨h1, h2⟩
    all_goals
     clear hp
     go_wp2
     exact ⟨⟨j + 1, F, q, qs, L, m1, m2, m3, by have := HQ.out.2.1; omega, by go_num, HSs.out.1.below ((Below.refl wr.heap.size wr).alloc (Nat.le_refl _) _), by have := HQ.out.1; omega, HSs.out.2.1, by have := HQ.out.2.2; omega, HMs.out, (heap_alloc_old wr _ (hp_lt HSs.out.2.2)).trans HSs.out.2.2⟩, by simp [intOf]; have := HQ.out.2.1; omega⟩
  ·
   obtain rfl : j = N := by omega
   have p2 : ¬ (j : Int) < (j : Int) := by omega
   have HSs := Lib.hid hs
   clear hs hM hL hms hA hq hj
   have hd := DS.new w wr HSs.out.l (.bool true) (.bool true) _ rfl
   have hb9 := (Below.refl wr.heap.size wr).alloc (Nat.le_refl _) (.cells #[.slice none 0 0, .slice none 0 0] 31)
   have hAm := ramount_at w _ _ _ _ ⟨#[120]⟩ 0 hd List.Pairwise.nil (by simp) (.inl ⟨rfl, rfl⟩) (by decide)
   unfold U at hAm
   have HAm := Lib.hid hAm
   have e2 := fun w => eq0_run (a := 0) (by decide) w
   simp only [decide_true] at e2
   have H9 := Lib.hid (HSs.out.l.trans (hb9.mono HSs.out.l.size))
   clear hd hb9 hAm
   go_wp2_with (first
    | (go_at_call 23; refine (HLv.out _).mono ?_; rintro e w11 ⟨rfl, hb11⟩; have H11 := Lib.hid (H10.out.trans (hb11.mono H10.out.size)); clear hb11)
    | (go_at_call 30; refine HAm.out.mono ?_; rintro e w10 ⟨rfl, hb10⟩; have H10 := Lib.hid (H9.out.trans (hb10.mono H9.out.size)); clear hb10))
   go_ret
   exact ⟨rfl, H11.out⟩
set_option maxRecDepth 100000 in
set_option maxHeartbeats 1000000 in
theorem bankKeeps_walk (A : Option Addr) (N C : Nat) (x0 : Nat → Bool) (x1 x2 x3 : Nat → Int) (a4 : Nat → Nat) (w : World) (hr : act17sAt w A N x0 x1 x2 x3 a4) (hN : (N : Int) ≤ 9223372036854775807) :
  Calls Try.prog 4 #[.slice A N C] w fun e w' => e = .returned (.bool true) ∧ Below w.heap.size w w' := by
 by_cases h : N ≤ 150
 ·
  exact bankKeeps_go A N C x0 x1 x2 x3 a4 w hr h
 ·
  have p1 : (150 : Int) < (N : Int) := by omega
  clear hr hN h
  go_enter Try.func4, Try.ntmps4
  go_wp2_with (go_at_call 23; refine (lives17_walk _).mono ?_; rintro e w2 ⟨rfl, hb⟩; have H2 := Lib.hid hb; clear hb)
  go_ret
  exact ⟨rfl, H2.out⟩
end Go.Proofs.Ytffipojlpdphiaa
