/- The law StoreActs, walked. -/
import Derived.Test.YtbfmhafmncnhfaaG21
import Derived.Test.YtbfmhafmncnhfaaG22
namespace Go.Proofs.Ytbfmhafmncnhfaa
open Go.RowKit Go.Maps Go.Sort

theorem SH.copy {w W : World} {b : Nat} {F : List Nat} {L : SL} {R : List Ch} (h : SH w W b F L R) (hN : L.length < 1000000) (hR : R.length < 1000000) :
    Calls Try.prog 16 #[.pointer (some ⟨b, 0, none⟩)] W fun e W' => ∃ b' F', e = .returned (.pointer (some ⟨b', 0, none⟩)) ∧ SH W W' b' F' L R :=
  (copy_walk b F L R W h.s.s hN hR).mono fun e W' ⟨b', F', he, hs, hf, hb⟩ => ⟨b', F', he, ⟨hs, hf, hb⟩, h.o, h.z⟩
theorem DS.cells {w W : World} {m : Nat} {L : SL} {R : List Ch} (h : DS w W m L R) : ∃ A C A' C', W.cell? ⟨m, 0, none⟩ = some (.slice A L.length C) ∧ W.cell? ⟨m, 1, none⟩ = some (.slice A' R.length C') ∧ Pr W A L ∧ m < W.heap.size := by
  obtain ⟨vL, vP, h1, h2, h3⟩ := h.ex
  obtain ⟨A, C, rfl, hp⟩ := Pr.of h2
  obtain ⟨A', C', rfl⟩ := row_any h3
  exact ⟨A, C, A', C', (hp_cell (i := 0) h1).trans rfl, (hp_cell (i := 1) h1).trans rfl, hp, hp_lt h1⟩
set_option maxRecDepth 100000 in
set_option maxHeartbeats 16000000 in
theorem storeActs_go (A : Option Addr) (N C : Nat) (x0 : Nat → Int) (x1 x2 : Nat → ByteArray) (x3 : Nat → Int) (A' : Option Addr) (N' C' : Nat) (y0 : Nat → Int) (y1 y2 : Nat → ByteArray) (y3 : Nat → Int) (w : World)
    (hr : ARows w A N x0 x1 x2 x3) (hr' : ARows w A' N' y0 y1 y2 y3) (hN : N ≤ 300) (hacc : ∀ j, j < N → lacc x1 x2 (j + 1) ≤ 20000) (hN' : N' ≤ 300) (hacc' : ∀ j, j < N' → lacc y1 y2 (j + 1) ≤ 20000)
    (hk : ∀ i, i < N → (x1 i).size ≤ maxLen ∧ (x2 i).size ≤ maxLen ∧ -9223372036854775808 ≤ x3 i ∧ x3 i < 2 ^ 63) (hk' : ∀ i, i < N' → (y1 i).size ≤ maxLen ∧ (y2 i).size ≤ maxLen ∧ -9223372036854775808 ≤ y3 i ∧ y3 i < 2 ^ 63) :
    Calls Try.prog 3 #[.slice A N C, .slice A' N' C'] w fun e w' => e = .returned (.bool true) ∧ Below w.heap.size w w' := by
  have HL1 := Lib.hid (light08_rows A N C x0 x1 x2 x3 w hr (by omega) true ⟨fun _ => ⟨hN, hacc⟩, fun _ => rfl⟩)
  have HL2 : Hid (∀ w1, Below w.heap.size w w1 → _) := Lib.hid fun w1 hb => light08_rows A' N' C' y0 y1 y2 y3 w1 (RowsV.below hr' hb) (by omega) true ⟨fun _ => ⟨hN', hacc'⟩, fun _ => rfl⟩
  have HR := Lib.hid (And.intro hr hr')
  have HS := Lib.hid (And.intro hk hk')
  have hNI : (N : Int) ≤ 300 := by omega
  have hNI' : (N' : Int) ≤ 300 := by omega
  clear hr hr' hk hk' hacc hacc' hN hN'
  go_enter Try.func3, Try.ntmps3
  go_upto_region 3 with (first
    | (go_at_call 8; with_reducible refine (HL2.out _ H1.out).mono ?_; rintro e w2 ⟨rfl, hb2⟩; have H2 := Lib.hid (H1.out.trans (hb2.mono H1.out.size)); clear hb2)
    | (go_at_call 8; with_reducible refine HL1.out.mono ?_; rintro e w1 ⟨rfl, hb1⟩; have H1 := Lib.hid hb1; clear hb1))
  go_upto_region 4 with (go_at_call 10; with_reducible refine (SH.new w _ H2.out).mono ?_; rintro e w3 ⟨b, F1, rfl, hs1, _⟩; have H3 := Lib.hid hs1; clear hs1)
  obtain ⟨m, hm⟩ : ∃ m, m = w3.heap.size := ⟨_, rfl⟩
  have hd4 := DS.new w w3 H3.out.l (.bool true) (.bool true) _ rfl
  have hb4 := (Below.refl w3.heap.size w3).alloc (Nat.le_refl _) (.cells #[.slice none 0 0, .slice none 0 0] 31)
  rw [← hm] at hd4
  rw [← hm]
  have H4 := Lib.hid (And.intro (H3.out.below hb4) hd4)
  clear hd4 hb4 hm
  generalize w3.alloc (.cells #[.slice none 0 0, .slice none 0 0] 31) = w4 at H4 ⊢
  go_wp2
  go_loopw [31] (fun i wr => ∃ (j : Nat) (F : List Nat) (L : SL) (R : List Ch), j ≤ N ∧ i = .int .i64 (j : Nat) ∧ SH w wr b F L R ∧ DS w wr m L R ∧ L.length + R.length ≤ 2 * j) (fun i _ => N - (intOf i).toNat)
  case atStart => exact ⟨0, F1, [], [], by omega, rfl, H4.out.1, H4.out.2, by simp⟩
  case round =>
    obtain ⟨j, F, L, R, hj, rfl, hs, hd, hlen⟩ := hrel
    by_cases hlt : j < N
    · have p2 : (j : Int) < (N : Int) := by omega
      obtain ⟨g, o, rfl, hg, hc⟩ := (RowsV.below HR.out.1 hs.l) (by omega)
      have d0 := hc j hlt 0 _ rfl
      have d1 := hc j hlt 1 _ rfl
      have d2 := hc j hlt 2 _ rfl
      have d3 := hc j hlt 3 _ rfl
      simp only [Nat.add_zero] at d0
      have hsz := HS.out.1 j hlt
      obtain ⟨k, ek⟩ : ∃ y, y = x1 j := ⟨_, rfl⟩
      obtain ⟨v, ev⟩ : ∃ y, y = x2 j := ⟨_, rfl⟩
      obtain ⟨kd, ekd⟩ : ∃ y, y = x0 j := ⟨_, rfl⟩
      obtain ⟨n, en⟩ : ∃ y, y = x3 j := ⟨_, rfl⟩
      rw [← ek] at d1 hsz
      rw [← ev] at d2 hsz
      rw [← ekd] at d0
      rw [← en] at d3 hsz
      have HH := Lib.hid (And.intro hs (And.intro hd (And.intro hlen hsz)))
      clear hc ek ev ekd en hs hd hlen hsz
      go_upto_region 7 with fail
      have hb1 := (Below.refl wr.heap.size wr).alloc (Nat.le_refl _) (.cells #[.int .i64 kd, .string k, .string v, .int .i64 n] 33)
      have hx1 := heap_alloc_new wr (.cells #[.int .i64 kd, .string k, .string v, .int .i64 n] 33)
      generalize wr.alloc (.cells #[.int .i64 kd, .string k, .string v, .int .i64 n] 33) = W1 at hb1 hx1 ⊢
      have z0 := (hp_cell (i := 0) hx1).trans rfl
      have z1 := (hp_cell (i := 1) hx1).trans rfl
      have z2 := (hp_cell (i := 2) hx1).trans rfl
      have z3 := (hp_cell (i := 3) hx1).trans rfl
      have hAct := act_any w _ b m F L L R R kd k v n (HH.out.1.below hb1) (HH.out.2.1.below hb1) (SH.so HH.out.1) HH.out.2.2.2.1 HH.out.2.2.2.2.1 HH.out.2.2.2.2.2 (by have := HH.out.2.2.1; omega) (by have := HH.out.2.2.1; omega)
      have HAct := Lib.hid hAct
      have HX1 := Lib.hid hx1
      clear hAct hx1 hb1
      go_upto_region 9 with (go_at_call 11; refine HAct.out.mono ?_; rintro e W3 ⟨r, rfl, hr, hp⟩; obtain rfl := hr rfl rfl; have H5 := Lib.hid hp; have hx3 := (hp.2.2 _ fAct08 nAct08).2 _ _ _ HX1.out; have u1 := (hp_cell (i := 1) hx3).trans rfl; have HX3 := Lib.hid hx3; clear hp hx3)
      obtain ⟨F5, hs5⟩ := H5.out.1
      have hd5 := H5.out.2.1
      have hlen5 := aL_len kd L R k v n
      have hlen6 := HH.out.2.2.1
      obtain ⟨L5, hL5⟩ : ∃ y, y = aL kd L R k v n := ⟨_, rfl⟩
      obtain ⟨R5, hR5⟩ : ∃ y, y = aR kd L R k v n := ⟨_, rfl⟩
      rw [← hL5, ← hR5] at hs5 hd5 hlen5
      have H6 := Lib.hid (And.intro hs5 (And.intro hd5 (show L5.length + R5.length ≤ 2 * (j + 1) by omega)))
      have hGt := SH.get hs5 k HH.out.2.2.2.1
      obtain ⟨gv, hgv⟩ : ∃ y, y = (sget L5 k).getD ⟨#[]⟩ := ⟨_, rfl⟩
      obtain ⟨gs, hgs⟩ : ∃ y, y = (sget L5 k).isSome := ⟨_, rfl⟩
      rw [← hgv, ← hgs] at hGt
      have HGt := Lib.hid hGt
      have HGv := Lib.hid (And.intro hgv hgs)
      clear hs5 hd5 hL5 hR5 hGt hgv hgs hlen5 hlen6
      go_upto_region 10 with (go_at_call 12; refine HGt.out.mono ?_; rintro e W6 ⟨rfl, hb6⟩; have hx6 := (hb6.block wr.heap.size (hp_lt HX3.out)).trans HX3.out; have v1 := (hp_cell (i := 1) hx6).trans rfl; have H7 := Lib.hid (And.intro (H6.out.1.below hb6) (H6.out.2.1.below hb6)); clear hb6 hx6)
      have hRg := rget_walk m L5 k W6 H7.out.2.dl (SH.so H7.out.1) (by have := H6.out.2.2; omega)
      rw [← HGv.out.1, ← HGv.out.2] at hRg
      have HRg := Lib.hid hRg
      clear hRg
      go_upto_region 11 with (go_at_call 13; refine HRg.out.mono ?_; rintro e W7 ⟨rfl, rfl⟩)
      obtain ⟨Am, Cm, Ap, Cp, m0, m1, _, hmw⟩ := H7.out.2.cells
      have q1 : (gv.toList == gv.toList) = true := beq_self_eq_true _
      have q2 : (gs == gs) = true := beq_self_eq_true _
      obtain ⟨nR, hnR⟩ : ∃ y, y = R5.length := ⟨_, rfl⟩
      obtain ⟨nL, hnL⟩ : ∃ y, y = L5.length := ⟨_, rfl⟩
      rw [← hnR] at m1
      rw [← hnL] at m0
      have q3 : ((nR : Int) == (nR : Int)) = true := beq_self_eq_true _
      have q4 : ((nL : Int) == (nL : Int)) = true := beq_self_eq_true _
      have HMk : Hid (∀ n : Nat, Calls Try.prog 14 #[.pointer (some ⟨b, 0, none⟩)] (W6.drewN n) fun e w' => e = .returned (.int .i64 (nR : Nat)) ∧ w' = W6.drewN n) := Lib.hid fun n => by
        rw [hnR]
        exact (SH.mark (H7.out.1.below (below_drewN (Below.refl _ _) n))).mono fun e w' h => ⟨h.1, h.2.symm⟩
      have HLe : Hid (∀ n : Nat, Calls Try.prog 15 #[.pointer (some ⟨b, 0, none⟩)] (W6.drewN n) fun e w' => e = .returned (.int .i64 (nL : Nat)) ∧ w' = W6.drewN n) := Lib.hid fun n => by
        rw [hnL]
        exact (SH.len (H7.out.1.below (below_drewN (Below.refl _ _) n))).mono fun e w' h => ⟨h.1, h.2.symm⟩
      clear hnR hnL
      go_quiet (first | (go_at_call 14; with_reducible exact Calls.quiet_of_same (HMk.out _)) | (go_at_call 15; with_reducible exact Calls.quiet_of_same (HLe.out _)))
      go_wp2
      exact ⟨⟨j + 1, F5, L5, R5, by omega, by go_num, H7.out.1.below (below_drewN (Below.refl _ _) _), H7.out.2.below (below_drewN (Below.refl _ _) _), H6.out.2.2⟩, by simp [intOf]; omega⟩
    · obtain rfl : j = N := by omega
      have p2 : ¬ (j : Int) < (j : Int) := by omega
      obtain ⟨U, hU⟩ : ∃ U, U = wr := ⟨wr, rfl⟩
      subst hU
      have hCp := SH.copy hs (by omega) (by omega)
      have HCp := Lib.hid hCp
      have H0 := Lib.hid (And.intro hs (And.intro hd (And.intro hlen (RowsV.below HR.out.2 hs.l))))
      clear hCp hs hd hlen
      go_wp2_with (first
        | (go_at_call 17; refine (rcopy_walk w _ m L R HC1.out.2 (by have := H0.out.2.2.1; omega) (by have := H0.out.2.2.1; omega)).mono ?_; rintro e W2 ⟨md, rfl, hd2⟩; have HC2 := Lib.hid (And.intro (HC1.out.1.below hd2.l) (hd2.base HC1.out.1.l)); clear hd2)
        | (go_at_call 16; refine HCp.out.mono ?_; rintro e W1 ⟨bc, Fc, rfl, hsc⟩; have HC1 := Lib.hid (And.intro hsc (H0.out.2.1.below hsc.l)); clear hsc))
      go_loopw [89] (fun i wz => ∃ (t : Nat) (F2 : List Nat) (L2 : SL) (R2 : List Ch), t ≤ N' ∧ i = .int .i64 (t : Nat) ∧ SH U wz bc F2 L2 R2 ∧ DS U wz md L2 R2 ∧ L2.length + R2.length ≤ 2 * j + 2 * t) (fun i _ => N' - (intOf i).toNat)
      case atStart => exact ⟨0, Fc, L, R, by omega, rfl, HC2.out.1, HC2.out.2, by have := H0.out.2.2.1; omega⟩
      case round =>
        obtain ⟨t, F2, L2, R2, ht, rfl, hs, hd, hlen⟩ := hrel
        by_cases hlt : t < N'
        · have p3 : (t : Int) < (N' : Int) := by omega
          obtain ⟨g, o, rfl, hg, hc⟩ := (RowsV.below H0.out.2.2.2 hs.l) (by omega)
          have d0 := hc t hlt 0 _ rfl
          have d1 := hc t hlt 1 _ rfl
          have d2 := hc t hlt 2 _ rfl
          have d3 := hc t hlt 3 _ rfl
          simp only [Nat.add_zero] at d0
          have hsz := HS.out.2 t hlt
          obtain ⟨k, ek⟩ : ∃ y, y = y1 t := ⟨_, rfl⟩
          obtain ⟨v, ev⟩ : ∃ y, y = y2 t := ⟨_, rfl⟩
          obtain ⟨kd, ekd⟩ : ∃ y, y = y0 t := ⟨_, rfl⟩
          obtain ⟨n, en⟩ : ∃ y, y = y3 t := ⟨_, rfl⟩
          rw [← ek] at d1 hsz
          rw [← ev] at d2 hsz
          rw [← ekd] at d0
          rw [← en] at d3 hsz
          have HH := Lib.hid (And.intro hs (And.intro hd (And.intro hlen hsz)))
          clear hc ek ev ekd en hs hd hlen hsz
          go_upto_region 18 with fail
          have hb1 := (Below.refl wr.heap.size wr).alloc (Nat.le_refl _) (.cells #[.int .i64 kd, .string k, .string v, .int .i64 n] 33)
          have hx1 := heap_alloc_new wr (.cells #[.int .i64 kd, .string k, .string v, .int .i64 n] 33)
          generalize wr.alloc (.cells #[.int .i64 kd, .string k, .string v, .int .i64 n] 33) = W1 at hb1 hx1 ⊢
          have z0 := (hp_cell (i := 0) hx1).trans rfl
          have z1 := (hp_cell (i := 1) hx1).trans rfl
          have z2 := (hp_cell (i := 2) hx1).trans rfl
          have z3 := (hp_cell (i := 3) hx1).trans rfl
          have hAct := act_any U _ bc md F2 L2 L2 R2 R2 kd k v n (HH.out.1.below hb1) (HH.out.2.1.below hb1) (SH.so HH.out.1) HH.out.2.2.2.1 HH.out.2.2.2.2.1 HH.out.2.2.2.2.2 (by have := HH.out.2.2.1; omega) (by have := HH.out.2.2.1; omega)
          have HAct := Lib.hid hAct
          clear hAct hx1 hb1
          go_wp2_with (go_at_call 11; refine HAct.out.mono ?_; rintro e W3 ⟨r, rfl, hr, hp⟩; obtain rfl := hr rfl rfl; have H5 := Lib.hid hp; clear hp)
          obtain ⟨F5, hs5⟩ := H5.out.1
          have hlen5 := aL_len kd L2 R2 k v n
          exact ⟨⟨t + 1, F5, _, _, by omega, by go_num, hs5, H5.out.2.1, by have := HH.out.2.2.1; omega⟩, by simp [intOf]; omega⟩
        · obtain rfl : t = N' := by omega
          have p3 : ¬ (t : Int) < (t : Int) := by omega
          obtain ⟨Z, hZ⟩ : ∃ Z, Z = wr := ⟨wr, rfl⟩
          subst hZ
          have HSs := Lib.hid (H0.out.1.below hs.l)
          have HSc := Lib.hid hs
          obtain ⟨Am, Cm, Am1, Cm1, m0, _, hpm, hmw⟩ := (H0.out.2.1.below hs.l).cells
          obtain ⟨Ad, Cd, Ap2, Cp2, e0, e1, hpd, hdw⟩ := hd.cells
          have HMm := Lib.hid (And.intro m0 (And.intro hpm hmw))
          have HMd := Lib.hid (And.intro e0 (And.intro hpd hdw))
          have hl1 := H0.out.2.2.1
          obtain ⟨nR2, hnR⟩ : ∃ y, y = R2.length := ⟨_, rfl⟩
          rw [← hnR] at e1
          have HnR := Lib.hid hnR
          have hl2 : L2.length ≤ 100000 := by omega
          have q1 : ((nR2 : Int) == (nR2 : Int)) = true := beq_self_eq_true _
          clear hs hd hlen hpm hpd hnR
          go_upto_region 21 with fail
          refine wp_region_held_drew (S := fun w' => Below Z.heap.size Z w') (by kernel_rfl) ?_ (fun hHeld => ?_)
          · exact (Below.refl _ _).drew
          generalize Z.drew = Z0 at hHeld ⊢
          have HB0 := Lib.hid hHeld
          refine wpAnyH_take (i := 0) (v := ?_) rfl (by kernel_rfl) (by kernel_rfl) (by kernel_rfl) (fun _ _ _ h => h) (Or.inl ⟨by kernel_rfl, ?_⟩) (by with_reducible assumption) ?_
          rotate_left
          · intro wz hSw
            (try dsimp only at hSw)
            go_simp
            (try with_reducible rfl)
          show wpAnyH _ _ _ _ _ _ _ (Act.put _ (some 99) _) _
          (try simp only [Act.put, List.setIfInBounds_toArray, List.set_cons_zero, List.set_cons_succ])
          refine wpAnyH_ready (rs := [1]) (by kernel_rfl) (by simp) ?_
          refine AllReadyH.cons rfl (fun K hK => ?_) AllReadyH.nil
          clear hHeld
          go_simp
          go_at_call 18
          refine (made_live _ _ _ _ _ _ (HSs.out.below HB0.out).s.s).mono ?_
          rintro e Z1 ⟨rfl, rfl⟩
          go_wp2_with fail
          refine hK.out _ _ ?_ (fun hHeld => ?_)
          · exact HB0.out
          clear hK K
          (try simp only [Act.put, List.setIfInBounds_toArray, List.set_cons_zero, List.set_cons_succ])
          refine wpAnyH_take (i := 2) (v := ?_) rfl (by kernel_rfl) (by kernel_rfl) (by kernel_rfl) (fun _ _ _ h => h) (Or.inl ⟨by kernel_rfl, ?_⟩) (by with_reducible assumption) ?_
          rotate_left
          · intro wz hSw
            (try dsimp only at hSw)
            go_simp
            (try with_reducible rfl)
          show wpAnyH _ _ _ _ _ _ _ (Act.put _ (some 101) _) _
          (try simp only [Act.put, List.setIfInBounds_toArray, List.set_cons_zero, List.set_cons_succ])
          refine wpAnyH_take (i := 3) (v := ?_) rfl (by kernel_rfl) (by kernel_rfl) (by kernel_rfl) (fun _ _ _ h => h) (Or.inl ⟨by kernel_rfl, ?_⟩) (by with_reducible assumption) ?_
          rotate_left
          · intro wz hSw
            (try dsimp only at hSw)
            go_simp
            (try with_reducible rfl)
          show wpAnyH _ _ _ _ _ _ _ (Act.put _ (some 102) _) _
          (try simp only [Act.put, List.setIfInBounds_toArray, List.set_cons_zero, List.set_cons_succ])
          refine wpAnyH_take (i := 5) (v := ?_) rfl (by kernel_rfl) (by kernel_rfl) (by kernel_rfl) (fun _ _ _ h => h) (Or.inl ⟨by kernel_rfl, ?_⟩) (by with_reducible assumption) ?_
          rotate_left
          · intro wz hSw
            (try dsimp only at hSw)
            go_simp
            (try with_reducible rfl)
          show wpAnyH _ _ _ _ _ _ _ (Act.put _ (some 104) _) _
          (try simp only [Act.put, List.setIfInBounds_toArray, List.set_cons_zero, List.set_cons_succ])
          refine wpAnyH_take (i := 6) (v := ?_) rfl (by kernel_rfl) (by kernel_rfl) (by kernel_rfl) (fun _ _ _ h => h) (Or.inl ⟨by kernel_rfl, ?_⟩) (by with_reducible assumption) ?_
          rotate_left
          · intro wz hSw
            (try dsimp only at hSw)
            go_simp
            (try with_reducible rfl)
          show wpAnyH _ _ _ _ _ _ _ (Act.put _ (some 105) _) _
          (try simp only [Act.put, List.setIfInBounds_toArray, List.set_cons_zero, List.set_cons_succ])
          refine wpAnyH_take (i := 7) (v := ?_) rfl (by kernel_rfl) (by kernel_rfl) (by kernel_rfl) (fun _ _ _ h => h) (Or.inl ⟨by kernel_rfl, ?_⟩) (by with_reducible assumption) ?_
          rotate_left
          · intro wz hSw
            (try dsimp only at hSw)
            go_simp
            (try with_reducible rfl)
          show wpAnyH _ _ _ _ _ _ _ (Act.put _ (some 106) _) _
          (try simp only [Act.put, List.setIfInBounds_toArray, List.set_cons_zero, List.set_cons_succ])
          refine wpAnyH_take (i := 8) (v := .slice Am L.length Cm) rfl (by kernel_rfl) (by kernel_rfl) (by kernel_rfl) (fun _ _ _ h => h) (Or.inl ⟨by kernel_rfl, ?_⟩) (by with_reducible assumption) ?_
          · intro wz hSw
            (try dsimp only at hSw)
            have y0 := (hSw.cell (p := ⟨m, 0, none⟩) HMm.out.2.2).trans m0
            go_simp
            (try with_reducible rfl)
          show wpAnyH _ _ _ _ _ _ _ (Act.put _ (some 107) _) _
          (try simp only [Act.put, List.setIfInBounds_toArray, List.set_cons_zero, List.set_cons_succ])
          refine wpAnyH_ready (rs := [4]) (by kernel_rfl) (by simp) ?_
          refine AllReadyH.cons rfl (fun K hK => ?_) AllReadyH.nil
          clear hHeld
          go_simp
          go_at_call 20
          refine (SH.all (HSs.out.below HB0.out) (by omega)).mono ?_
          rintro e Z4 ⟨⟨v4, rfl, ho4⟩, hb4⟩
          obtain ⟨A4, C4, rfl, hp4⟩ := Pr.of ho4
          have HB4 := Lib.hid (HB0.out.trans (hb4.mono HB0.out.size))
          have HP4 := Lib.hid hp4
          clear ho4 hp4 hb4
          go_wp2_with fail
          refine hK.out _ _ ?_ (fun hHeld => ?_)
          · exact HB4.out
          clear hK K
          (try simp only [Act.put, List.setIfInBounds_toArray, List.set_cons_zero, List.set_cons_succ])
          refine wpAnyH_ready (rs := [9]) (by kernel_rfl) (by simp) ?_
          refine AllReadyH.cons rfl (fun K hK => ?_) AllReadyH.nil
          clear hHeld
          go_simp
          go_at_call 19
          refine (same_walk A4 Am C4 Cm L L _ HP4.out (HMm.out.2.1.below HB4.out) (by omega) true ⟨fun _ => rfl, fun _ => rfl⟩).mono ?_
          rintro e Z9 ⟨rfl, hb9⟩
          have HB9 := Lib.hid (HB4.out.trans (hb9.mono HB4.out.size))
          clear hb9
          go_wp2_with fail
          refine hK.out _ _ ?_ (fun hHeld => ?_)
          · exact HB9.out
          clear hK K
          (try simp only [Act.put, List.setIfInBounds_toArray, List.set_cons_zero, List.set_cons_succ])
          refine wpAnyH_take (i := 10) (v := ?_) rfl (by kernel_rfl) (by kernel_rfl) (by kernel_rfl) (fun _ _ _ h => h) (Or.inl ⟨by kernel_rfl, ?_⟩) (by with_reducible assumption) ?_
          rotate_left
          · intro wz hSw
            (try dsimp only at hSw)
            go_simp
            (try with_reducible rfl)
          show wpAnyH _ _ _ _ _ _ _ (Act.put _ (some 109) _) _
          (try simp only [Act.put, List.setIfInBounds_toArray, List.set_cons_zero, List.set_cons_succ])
          refine wpAnyH_take (i := 11) (v := ?_) rfl (by kernel_rfl) (by kernel_rfl) (by kernel_rfl) (fun _ _ _ h => h) (Or.inl ⟨by kernel_rfl, ?_⟩) (by with_reducible assumption) ?_
          rotate_left
          · intro wz hSw
            (try dsimp only at hSw)
            go_simp
            (try with_reducible rfl)
          show wpAnyH _ _ _ _ _ _ _ (Act.put _ (some 110) _) _
          (try simp only [Act.put, List.setIfInBounds_toArray, List.set_cons_zero, List.set_cons_succ])
          refine wpAnyH_take (i := 12) (v := ?_) rfl (by kernel_rfl) (by kernel_rfl) (by kernel_rfl) (fun _ _ _ h => h) (Or.inl ⟨by kernel_rfl, ?_⟩) (by with_reducible assumption) ?_
          rotate_left
          · intro wz hSw
            (try dsimp only at hSw)
            go_simp
            (try with_reducible rfl)
          show wpAnyH _ _ _ _ _ _ _ (Act.put _ (some 111) _) _
          (try simp only [Act.put, List.setIfInBounds_toArray, List.set_cons_zero, List.set_cons_succ])
          refine wpAnyH_take (i := 14) (v := ?_) rfl (by kernel_rfl) (by kernel_rfl) (by kernel_rfl) (fun _ _ _ h => h) (Or.inl ⟨by kernel_rfl, ?_⟩) (by with_reducible assumption) ?_
          rotate_left
          · intro wz hSw
            (try dsimp only at hSw)
            go_simp
            (try with_reducible rfl)
          show wpAnyH _ _ _ _ _ _ _ (Act.put _ (some 113) _) _
          (try simp only [Act.put, List.setIfInBounds_toArray, List.set_cons_zero, List.set_cons_succ])
          refine wpAnyH_take (i := 15) (v := ?_) rfl (by kernel_rfl) (by kernel_rfl) (by kernel_rfl) (fun _ _ _ h => h) (Or.inl ⟨by kernel_rfl, ?_⟩) (by with_reducible assumption) ?_
          rotate_left
          · intro wz hSw
            (try dsimp only at hSw)
            go_simp
            (try with_reducible rfl)
          show wpAnyH _ _ _ _ _ _ _ (Act.put _ (some 114) _) _
          (try simp only [Act.put, List.setIfInBounds_toArray, List.set_cons_zero, List.set_cons_succ])
          refine wpAnyH_take (i := 16) (v := ?_) rfl (by kernel_rfl) (by kernel_rfl) (by kernel_rfl) (fun _ _ _ h => h) (Or.inl ⟨by kernel_rfl, ?_⟩) (by with_reducible assumption) ?_
          rotate_left
          · intro wz hSw
            (try dsimp only at hSw)
            go_simp
            (try with_reducible rfl)
          show wpAnyH _ _ _ _ _ _ _ (Act.put _ (some 115) _) _
          (try simp only [Act.put, List.setIfInBounds_toArray, List.set_cons_zero, List.set_cons_succ])
          refine wpAnyH_take (i := 17) (v := .slice Ad L2.length Cd) rfl (by kernel_rfl) (by kernel_rfl) (by kernel_rfl) (fun _ _ _ h => h) (Or.inl ⟨by kernel_rfl, ?_⟩) (by with_reducible assumption) ?_
          · intro wz hSw
            (try dsimp only at hSw)
            have y0 := (hSw.cell (p := ⟨md, 0, none⟩) HMd.out.2.2).trans e0
            go_simp
            (try with_reducible rfl)
          show wpAnyH _ _ _ _ _ _ _ (Act.put _ (some 116) _) _
          (try simp only [Act.put, List.setIfInBounds_toArray, List.set_cons_zero, List.set_cons_succ])
          refine wpAnyH_ready (rs := [13]) (by kernel_rfl) (by simp) ?_
          refine AllReadyH.cons rfl (fun K hK => ?_) AllReadyH.nil
          clear hHeld
          go_simp
          go_at_call 20
          refine (SH.all (HSc.out.below HB9.out) (by omega)).mono ?_
          rintro e Z13 ⟨⟨v13, rfl, ho13⟩, hb13⟩
          obtain ⟨A13, C13, rfl, hp13⟩ := Pr.of ho13
          have HB13 := Lib.hid (HB9.out.trans (hb13.mono HB9.out.size))
          have HP13 := Lib.hid hp13
          clear ho13 hp13 hb13
          go_wp2_with fail
          refine hK.out _ _ ?_ (fun hHeld => ?_)
          · exact HB13.out
          clear hK K
          (try simp only [Act.put, List.setIfInBounds_toArray, List.set_cons_zero, List.set_cons_succ])
          refine wpAnyH_ready (rs := [18]) (by kernel_rfl) (by simp) ?_
          refine AllReadyH.cons rfl (fun K hK => ?_) AllReadyH.nil
          clear hHeld
          go_simp
          go_at_call 19
          refine (same_walk A13 Ad C13 Cd L2 L2 _ HP13.out (HMd.out.2.1.below HB13.out) (by omega) true ⟨fun _ => rfl, fun _ => rfl⟩).mono ?_
          rintro e Z18 ⟨rfl, hb18⟩
          have HB18 := Lib.hid (HB13.out.trans (hb18.mono HB13.out.size))
          clear hb18
          go_wp2_with fail
          refine hK.out _ _ ?_ (fun hHeld => ?_)
          · exact HB18.out
          clear hK K
          (try simp only [Act.put, List.setIfInBounds_toArray, List.set_cons_zero, List.set_cons_succ])
          refine wpAnyH_take (i := 19) (v := ?_) rfl (by kernel_rfl) (by kernel_rfl) (by kernel_rfl) (fun _ _ _ h => h) (Or.inl ⟨by kernel_rfl, ?_⟩) (by with_reducible assumption) ?_
          rotate_left
          · intro wz hSw
            (try dsimp only at hSw)
            go_simp
            (try with_reducible rfl)
          show wpAnyH _ _ _ _ _ _ _ (Act.put _ (some 118) _) _
          (try simp only [Act.put, List.setIfInBounds_toArray, List.set_cons_zero, List.set_cons_succ])
          refine wpAnyH_take (i := 20) (v := ?_) rfl (by kernel_rfl) (by kernel_rfl) (by kernel_rfl) (fun _ _ _ h => h) (Or.inl ⟨by kernel_rfl, ?_⟩) (by with_reducible assumption) ?_
          rotate_left
          · intro wz hSw
            (try dsimp only at hSw)
            go_simp
            (try with_reducible rfl)
          show wpAnyH _ _ _ _ _ _ _ (Act.put _ (some 119) _) _
          (try simp only [Act.put, List.setIfInBounds_toArray, List.set_cons_zero, List.set_cons_succ])
          refine wpAnyH_take (i := 21) (v := ?_) rfl (by kernel_rfl) (by kernel_rfl) (by kernel_rfl) (fun _ _ _ h => h) (Or.inl ⟨by kernel_rfl, ?_⟩) (by with_reducible assumption) ?_
          rotate_left
          · intro wz hSw
            (try dsimp only at hSw)
            go_simp
            (try with_reducible rfl)
          show wpAnyH _ _ _ _ _ _ _ (Act.put _ (some 120) _) _
          (try simp only [Act.put, List.setIfInBounds_toArray, List.set_cons_zero, List.set_cons_succ])
          refine wpAnyH_take (i := 23) (v := ?_) rfl (by kernel_rfl) (by kernel_rfl) (by kernel_rfl) (fun _ _ _ h => h) (Or.inl ⟨by kernel_rfl, ?_⟩) (by with_reducible assumption) ?_
          rotate_left
          · intro wz hSw
            (try dsimp only at hSw)
            go_simp
            (try with_reducible rfl)
          show wpAnyH _ _ _ _ _ _ _ (Act.put _ (some 122) _) _
          (try simp only [Act.put, List.setIfInBounds_toArray, List.set_cons_zero, List.set_cons_succ])
          refine wpAnyH_take (i := 24) (v := ?_) rfl (by kernel_rfl) (by kernel_rfl) (by kernel_rfl) (fun _ _ _ h => h) (Or.inl ⟨by kernel_rfl, ?_⟩) (by with_reducible assumption) ?_
          rotate_left
          · intro wz hSw
            (try dsimp only at hSw)
            go_simp
            (try with_reducible rfl)
          show wpAnyH _ _ _ _ _ _ _ (Act.put _ (some 123) _) _
          (try simp only [Act.put, List.setIfInBounds_toArray, List.set_cons_zero, List.set_cons_succ])
          refine wpAnyH_take (i := 25) (v := ?_) rfl (by kernel_rfl) (by kernel_rfl) (by kernel_rfl) (fun _ _ _ h => h) (Or.inl ⟨by kernel_rfl, ?_⟩) (by with_reducible assumption) ?_
          rotate_left
          · intro wz hSw
            (try dsimp only at hSw)
            go_simp
            (try with_reducible rfl)
          show wpAnyH _ _ _ _ _ _ _ (Act.put _ (some 124) _) _
          (try simp only [Act.put, List.setIfInBounds_toArray, List.set_cons_zero, List.set_cons_succ])
          refine wpAnyH_take (i := 26) (v := .slice Ap2 nR2 Cp2) rfl (by kernel_rfl) (by kernel_rfl) (by kernel_rfl) (fun _ _ _ h => h) (Or.inl ⟨by kernel_rfl, ?_⟩) (by with_reducible assumption) ?_
          · intro wz hSw
            (try dsimp only at hSw)
            have y0 := (hSw.cell (p := ⟨md, 1, none⟩) HMd.out.2.2).trans e1
            go_simp
            (try with_reducible rfl)
          show wpAnyH _ _ _ _ _ _ _ (Act.put _ (some 125) _) _
          (try simp only [Act.put, List.setIfInBounds_toArray, List.set_cons_zero, List.set_cons_succ])
          refine wpAnyH_take (i := 27) (v := .int .i64 (nR2 : Nat)) rfl (by kernel_rfl) (by kernel_rfl) (by kernel_rfl) (fun _ _ _ h => h) (Or.inl ⟨by kernel_rfl, ?_⟩) (by with_reducible assumption) ?_
          · intro wz hSw
            (try dsimp only at hSw)
            go_simp
            (try with_reducible rfl)
          show wpAnyH _ _ _ _ _ _ _ (Act.put _ (some 126) _) _
          (try simp only [Act.put, List.setIfInBounds_toArray, List.set_cons_zero, List.set_cons_succ])
          refine wpAnyH_ready (rs := [22]) (by kernel_rfl) (by simp) ?_
          refine AllReadyH.cons rfl (fun K hK => ?_) AllReadyH.nil
          clear hHeld
          go_simp
          go_at_call 14
          refine (SH.mark (HSc.out.below HB18.out)).mono ?_
          rintro e Z22 ⟨he, rfl⟩
          rw [← HnR.out] at he
          subst he
          go_wp2_with fail
          refine hK.out _ _ ?_ (fun hHeld => ?_)
          · exact HB18.out
          clear hK K
          (try simp only [Act.put, List.setIfInBounds_toArray, List.set_cons_zero, List.set_cons_succ])
          refine wpAnyH_take (i := 28) (v := .bool true) rfl (by kernel_rfl) (by kernel_rfl) (by kernel_rfl) (fun _ _ _ h => h) (Or.inl ⟨by kernel_rfl, ?_⟩) (by with_reducible assumption) ?_
          · intro wz hSw
            (try dsimp only at hSw)
            go_simp
            (try with_reducible rfl)
          show wpAnyH _ _ _ _ _ _ _ (Act.put _ (some 127) _) _
          (try simp only [Act.put, List.setIfInBounds_toArray, List.set_cons_zero, List.set_cons_succ])
          refine wpAnyH_take (i := 29) (v := ?_) rfl (by kernel_rfl) (by kernel_rfl) (by kernel_rfl) (fun _ _ _ h => h) (Or.inl ⟨by kernel_rfl, ?_⟩) (by with_reducible assumption) ?_
          rotate_left
          · intro wz hSw
            (try dsimp only at hSw)
            go_simp
            (try with_reducible rfl)
          show wpAnyH _ _ _ _ _ _ _ (Act.put _ (some 128) _) _
          (try simp only [Act.put, List.setIfInBounds_toArray, List.set_cons_zero, List.set_cons_succ])
          refine wpAnyH_take (i := 30) (v := ?_) rfl (by kernel_rfl) (by kernel_rfl) (by kernel_rfl) (fun _ _ _ h => h) (Or.inl ⟨by kernel_rfl, ?_⟩) (by with_reducible assumption) ?_
          rotate_left
          · intro wz hSw
            (try dsimp only at hSw)
            go_simp
            (try with_reducible rfl)
          show wpAnyH _ _ _ _ _ _ _ (Act.put _ (some 129) _) _
          (try simp only [Act.put, List.setIfInBounds_toArray, List.set_cons_zero, List.set_cons_succ])
          refine wpAnyH_ready (rs := [31]) (by kernel_rfl) (by simp) ?_
          refine AllReadyH.cons rfl (fun K hK => ?_) AllReadyH.nil
          clear hHeld
          go_simp
          go_at_call 9
          refine (lives08_walk _).mono ?_
          rintro e Z31 ⟨rfl, hb31⟩
          have HB31 := Lib.hid (HB18.out.trans (hb31.mono HB18.out.size))
          clear hb31
          go_wp2_with fail
          refine hK.out _ _ ?_ (fun hHeld => ?_)
          · exact HB31.out
          clear hK K
          (try simp only [Act.put, List.setIfInBounds_toArray, List.set_cons_zero, List.set_cons_succ])
          refine wpAnyH_take (i := 32) (v := ?_) rfl (by kernel_rfl) (by kernel_rfl) (by kernel_rfl) (fun _ _ _ h => h) (Or.inl ⟨by kernel_rfl, ?_⟩) (by with_reducible assumption) ?_
          rotate_left
          · intro wz hSw
            (try dsimp only at hSw)
            go_simp
            (try with_reducible rfl)
          show wpAnyH _ _ _ _ _ _ _ (Act.put _ (some 131) _) _
          (try simp only [Act.put, List.setIfInBounds_toArray, List.set_cons_zero, List.set_cons_succ])
          refine wpAnyH_take (i := 33) (v := ?_) rfl (by kernel_rfl) (by kernel_rfl) (by kernel_rfl) (fun _ _ _ h => h) (Or.inl ⟨by kernel_rfl, ?_⟩) (by with_reducible assumption) ?_
          rotate_left
          · intro wz hSw
            (try dsimp only at hSw)
            go_simp
            (try with_reducible rfl)
          show wpAnyH _ _ _ _ _ _ _ (Act.put _ (some 4) _) _
          (try simp only [Act.put, List.setIfInBounds_toArray, List.set_cons_zero, List.set_cons_succ])
          refine wpAnyH_done (by kernel_rfl) ?_ _
          go_wp2_with fail
          go_ret
          exact ⟨rfl, HSs.out.l.trans (HB31.out.mono HSs.out.l.size)⟩
  all_goals done
end Go.Proofs.Ytbfmhafmncnhfaa

namespace Go.Proofs.Ytbfmhafmncnhfaa
open Go.RowKit Go.Maps Go.Sort

set_option maxRecDepth 100000 in
set_option maxHeartbeats 4000000 in
theorem storeActs_walk (A : Option Addr) (N C : Nat) (x0 : Nat → Int) (x1 x2 : Nat → ByteArray) (x3 : Nat → Int) (A' : Option Addr) (N' C' : Nat) (y0 : Nat → Int) (y1 y2 : Nat → ByteArray) (y3 : Nat → Int) (w : World)
    (hr : ARows w A N x0 x1 x2 x3) (hr' : ARows w A' N' y0 y1 y2 y3) (hN : (N : Int) ≤ 9223372036854775807) (hN' : (N' : Int) ≤ 9223372036854775807)
    (hk : ∀ i, i < N → (x1 i).size ≤ maxLen ∧ (x2 i).size ≤ maxLen ∧ -9223372036854775808 ≤ x3 i ∧ x3 i < 2 ^ 63) (hk' : ∀ i, i < N' → (y1 i).size ≤ maxLen ∧ (y2 i).size ≤ maxLen ∧ -9223372036854775808 ≤ y3 i ∧ y3 i < 2 ^ 63) :
    Calls Try.prog 3 #[.slice A N C, .slice A' N' C'] w fun e w' => e = .returned (.bool true) ∧ Below w.heap.size w w' := by
  by_cases hg : N ≤ 300 ∧ ∀ j, j < N → lacc x1 x2 (j + 1) ≤ 20000
  · by_cases hg' : N' ≤ 300 ∧ ∀ j, j < N' → lacc y1 y2 (j + 1) ≤ 20000
    · exact storeActs_go A N C x0 x1 x2 x3 A' N' C' y0 y1 y2 y3 w hr hr' hg.1 hg.2 hg'.1 hg'.2 hk hk'
    · have HL1 := Lib.hid (light08_rows A N C x0 x1 x2 x3 w hr hN true ⟨fun _ => hg, fun _ => rfl⟩)
      have HL2 : Hid (∀ w1, Below w.heap.size w w1 → _) := Lib.hid fun w1 hb => light08_rows A' N' C' y0 y1 y2 y3 w1 (RowsV.below hr' hb) hN' false ⟨(fun h => by cases h), fun h => absurd h hg'⟩
      clear hr hr' hN hN' hk hk' hg hg'
      go_enter Try.func3, Try.ntmps3
      go_wp2_with (first
        | (go_at_call 9; with_reducible refine (lives08_walk _).mono ?_; rintro e w10 ⟨rfl, hb10⟩; have HBl := Lib.hid hb10; clear hb10)
        | (go_at_call 8; with_reducible refine (HL2.out _ H1.out).mono ?_; rintro e w2 ⟨rfl, hb2⟩; have H2 := Lib.hid (H1.out.trans (hb2.mono H1.out.size)); clear hb2)
        | (go_at_call 8; with_reducible refine HL1.out.mono ?_; rintro e w1 ⟨rfl, hb1⟩; have H1 := Lib.hid hb1; clear hb1))
      go_ret
      exact ⟨rfl, H2.out.trans (HBl.out.mono H2.out.size)⟩
  · have HL1 := Lib.hid (light08_rows A N C x0 x1 x2 x3 w hr hN false ⟨(fun h => by cases h), fun h => absurd h hg⟩)
    clear hr hr' hN hN' hk hk' hg
    go_enter Try.func3, Try.ntmps3
    go_wp2_with (first
      | (go_at_call 9; with_reducible refine (lives08_walk _).mono ?_; rintro e w10 ⟨rfl, hb10⟩; have HBl := Lib.hid hb10; clear hb10)
      | (go_at_call 8; with_reducible refine HL1.out.mono ?_; rintro e w1 ⟨rfl, hb1⟩; have H1 := Lib.hid hb1; clear hb1))
    go_ret
    exact ⟨rfl, H1.out.trans (HBl.out.mono H1.out.size)⟩
end Go.Proofs.Ytbfmhafmncnhfaa
