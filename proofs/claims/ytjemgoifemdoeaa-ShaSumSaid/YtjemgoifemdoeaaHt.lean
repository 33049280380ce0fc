/- A live state: Sum, walked. -/
import Derived.Test.YtjemgoifemdoeaaHs
import Derived.Deep.RegionHeld
import Derived.Deep.Cut
namespace Go.Proofs.Ytjemgoifemdoeaa
open Go.RowKit

theorem exec_load_row {P : Program} {o : Oper} {a : Act} {w : World} (ty : TypeId) (x : Operand) (ho : o.op = .load ty x) (g : Nat) (hx : a.eval x = .pointer (some ⟨g, 0, none⟩)) (t : TypeId) (cs : Array Value) (fr : Nat × Nat) (d : TypeDesc) (hg : w.heap[g]? = some (.cells cs t fr))
    (hu : P.underlying ty = some d) (hd : (match d with | .struct _ | .array _ _ => true | _ => false) = true) (hi : (P.info? ty).map (·.size) = some cs.size) : (execOp a.eval o).run P w = .ok (.value (.agg cs)) w := by
  unfold execOp
  simp only [ho, hx, Instr.loadAt, Instr.sureAddr, Sem.run_bind, Sem.run_pure, Result.andThen_ok, run_loadVar_row w g t ty cs fr d hg hu hd hi]
theorem st_info : (Try.prog.info? 43).map (·.size) = some 74 := by kernel_rfl
theorem zst_size : Try.zeroCells43.size = 74 := by kernel_rfl
theorem stC_all (h blk : Nat → Nat) (L : Int) : (stC (.bool true) h blk (.int .i64 L)).toArray.all (·.oneCell') = true := by
  rw [List.all_toArray, stC_pre, List.all_append, List.all_cons, List.all_append]
  rw [← List.all_toArray (l := vals .u32 h 8), ← List.all_toArray (l := bys blk 64), vals_all, bys_all]
  rfl
set_option maxRecDepth 100000 in
set_option maxHeartbeats 4000000 in
theorem live_sum (w : World) (sp L : Nat) (g : Nat → Nat) (hs : StAt w sp g L) (hL : L ≤ 1152921504606846976) :
    Calls Try.prog 26 #[.pointer (some ⟨sp, 0, none⟩)] w fun e w' => e = .returned (.agg (bys (shaF L g) 32).toArray) ∧ Below w.heap.size w w' := by
  obtain ⟨blk, hr, hbl, hbe⟩ := hs.ex
  have hsp := row_lt hr
  obtain ⟨w1, e1⟩ : ∃ w1, w1 = w.alloc (.cells h32 25) := ⟨_, rfl⟩
  have hb1 : Below w.heap.size w w1 := by rw [e1]; exact (Below.refl _ _).alloc (Nat.le_refl _) _
  have hr1 : w1.heap[w.heap.size]? = some (.cells h32 25 (0, 0)) := by rw [e1]; exact heap_alloc_new _ _
  have hrs := (hb1.block sp hsp).trans hr
  have HM := Lib.hid (isMade_yes sp w1 ((row_cell hrs).trans (stC_made _ _ _ _)))
  have HCB := Lib.hid (fun w => cubeRoots_walk w)
  obtain ⟨kv, ekv⟩ : ∃ kv, kv = (vals .u32 cubeK 64).toArray := ⟨_, rfl⟩
  rw [← ekv] at HCB
  have HK := Lib.hid ekv
  have ki := Lib.hid (show (Try.prog.info? 84).map (·.size) = some kv.size by rw [ekv, List.size_toArray, vals_length]; exact wz_info)
  have ksz := Lib.hid (show wz.size = kv.size by rw [ekv, wz_vals, List.size_toArray, List.size_toArray, vals_length, vals_length])
  have kone := Lib.hid (show kv.all (·.oneCell') = true by rw [ekv]; exact vals_all _ _ _)
  have si : (Try.prog.info? 43).map (·.size) = some (stC (.bool true) (hashN g (L / 64)) blk (.int .i64 (L : Nat))).toArray.size := by rw [List.size_toArray, stC_length]; exact st_info
  have ssz : Try.zeroCells43.size = (stC (.bool true) (hashN g (L / 64)) blk (.int .i64 (L : Nat))).toArray.size := by rw [zst_size, List.size_toArray, stC_length]
  have sone := stC_all (hashN g (L / 64)) blk (L : Nat)
  have hfin : ∀ (W : World) (p : Nat), W.heap[p]? = some (.cells (stC (.bool true) (hashN g (L / 64)) blk (.int .i64 (L : Nat))).toArray 43 (0, 0)) → StAt W p g L := fun W p h => ⟨blk, h, hbl, hbe⟩
  obtain ⟨cs, ecs⟩ : ∃ cs, cs = (stC (.bool true) (hashN g (L / 64)) blk (.int .i64 (L : Nat))).toArray := ⟨_, rfl⟩
  rw [← ecs] at hrs si ssz sone hfin
  have SI := Lib.hid si
  have SZ := Lib.hid ssz
  have SO := Lib.hid sone
  have HF := Lib.hid hfin
  have HRS := Lib.hid hrs
  have HR1 := Lib.hid hr1
  have HB1 := Lib.hid hb1
  have HE1 := Lib.hid e1
  clear hs hr hbl hbe hb1 hr1 hrs ekv si ssz sone hfin ecs e1
  go_enter Try.func26, Try.ntmps26
  go_wp2_with fail
  show Calls Try.prog _ _ (w.alloc (.cells h32 25)) _
  rw [← HE1.out]
  refine HM.out.mono ?_
  rintro e w2 ⟨rfl, rfl⟩
  go_upto_region 3 with fail
  go_cut [3, 4] (fun p q wx => ∃ P Q, p = .pointer (some ⟨P, 0, none⟩) ∧ q = .pointer (some ⟨Q, 0, none⟩) ∧ wx.heap[P]? = some (.cells cs 43 (0, 0)) ∧ wx.heap[Q]? = some (.cells kv 84 (0, 0)) ∧ w1.heap.size ≤ P ∧ P ≠ Q ∧ Below w1.heap.size w1 wx)
  case rest =>
    obtain ⟨P, Q, rfl, rfl, hP, hQ, hle, hne, hb⟩ := hcut
    have hst := HF.out wc P hP
    have hka : Arr .u32 wc Q 64 cubeK := consts_arr (by rw [hQ, HK.out])
    have HC := Lib.hid (close_walk wc P Q L g hst (by omega) hka (row_lt hQ) (Ne.symm hne))
    have HBc := Lib.hid (HB1.out.trans (hb.mono HB1.out.size))
    have Rc := Lib.hid ((hb.block _ (row_lt HR1.out)).trans HR1.out)
    have hPn := Lib.hid (show w.heap.size < P from Nat.lt_of_lt_of_le (row_lt HR1.out) hle)
    have hPl := Lib.hid (row_lt hP)
    clear hP hQ hle hne hb hst hka
    go_upto_region 4 with fail
    go_wp2_with fail
    refine HC.out.mono ?_
    rintro e w6 ⟨rfl, ho6⟩
    obtain ⟨cz, hcz⟩ : ∃ cs, cs = (bys (shaF L g) 32).toArray := ⟨_, rfl⟩
    rw [← hcz]
    have hsz6 : cz.size = 32 := by rw [hcz, List.size_toArray, bys_length]
    have R6 := Lib.hid (show w6.heap[w.heap.size]? = some (.cells h32 25 (0, 0)) by
      rw [ho6.row _ (row_lt Rc.out) (by have := hPn.out; omega)]; exact Rc.out)
    have Hi := Lib.hid (show (Try.prog.info? 25).map (·.size) = some cz.size by rw [hsz6]; exact h32_info)
    have Hsz := Lib.hid (show h32.size = cz.size by rw [hsz6]; rfl)
    have Hone := Lib.hid (show cz.all (·.oneCell') = true by rw [hcz]; exact bys_all _ _)
    have Hcs := Lib.hid hcz
    have HO := Lib.hid (ho6.below HBc.out (by have := hPn.out; omega) (Nat.le_refl _))
    clear hcz hsz6 ho6
    go_wp2_with ((with_reducible refine wpList_store_row rfl 25 (.tmp 2) (.tmp 13) rfl w.heap.size cz ?_ ?_ 25 h32 ?_ ?_ ?_ ?_ ?_); (· rfl); (· rfl); (· exact R6.out); (· exact Hi.out); (· exact Hsz.out); (· exact Hone.out))
    refine bodyPost_ret (v := .agg cz) (results_cell_row rfl _ _ w.heap.size 25 cz (0, 0) _ rfl (setRow_heap _ _ h32 _ _ _ R6.out) Try.underlying25 rfl Hi.out) rfl ?_
    exact ⟨by rw [Hcs.out], below_setRow HO.out (Nat.le_refl _) _⟩
  case first =>
    refine wp_region_held_drew (S := fun w' => Below w1.heap.size w1 w') (by kernel_rfl) ?_ (fun hHeld => ?_)
    · exact (Below.refl _ _).drew
    refine wpAnyH_take (i := 0) (v := ?_) rfl (by kernel_rfl) (by kernel_rfl) (by kernel_rfl) (fun _ _ _ h => h) (Or.inl ⟨by kernel_rfl, ?_⟩) (by with_reducible assumption) ?_
    rotate_left
    · intro wz hSw
      (try dsimp only at hSw)
      go_simp
      (try with_reducible rfl)
    (try simp only [Act.put])
    refine wpAnyH_take (i := 1) (v := ?_) rfl (by kernel_rfl) (by kernel_rfl) (by kernel_rfl) (fun _ _ _ h => h) (Or.inl ⟨by kernel_rfl, ?_⟩) (by with_reducible assumption) ?_
    rotate_left
    · intro wz hSw
      (try dsimp only at hSw)
      go_simp
      (try with_reducible rfl)
    (try simp only [Act.put])
    refine wpAnyH_take (i := 2) (v := .agg cs) rfl (by kernel_rfl) (by kernel_rfl) (by kernel_rfl) (fun _ _ _ h => h) (Or.inl ⟨by kernel_rfl, ?_⟩) (by with_reducible assumption) ?_
    · intro wz hSw
      (try dsimp only at hSw)
      exact exec_load_row 43 (.tmp 10) rfl sp rfl 43 cs (0, 0) _ ((hSw.block sp (row_lt HRS.out)).trans HRS.out) Try.underlying43 rfl SI.out
    (try simp only [Act.put])
    have H0 := Lib.hid (show Below w1.heap.size w1 w1.drew from (Below.refl _ _).drew)
    obtain ⟨z0, ez⟩ : ∃ z, z = w1.drew := ⟨_, rfl⟩
    rw [← ez] at H0 hHeld ⊢
    clear ez hHeld
    refine wpAnyH_ready (rs := [3, 4, 5]) (by kernel_rfl) (by simp) ?_
    refine AllReadyH.cons rfl (fun K hK => ?_) (AllReadyH.cons rfl (fun K hK => ?_) (AllReadyH.cons rfl (fun K hK => ?_) AllReadyH.nil))
    · go_simp
      go_at_call 53
      refine (HCB.out _).mono ?_
      rintro e z1 ⟨rfl, hb⟩
      have H1 := Lib.hid (H0.out.trans (hb.mono H0.out.size))
      clear hb
      go_wp2_with fail
      refine hK.out _ _ ?_ (fun hHeld => ?_)
      · exact H1.out
      clear hK K hHeld
      (try simp only [Act.put])
      refine wpAnyH_ready (rs := [4, 5]) (by kernel_rfl) (by simp) ?_
      refine AllReadyH.cons rfl (fun K hK => ?_) (AllReadyH.cons rfl (fun K hK => ?_) AllReadyH.nil)
      · go_simp
        refine hK.out _ _ ?_ (fun hHeld => ?_)
        · exact H1.out.alloc H1.out.size _
        clear hK K hHeld
        show wpAnyH _ _ _ _ _ _ _ _ (z1.alloc (.cells Try.zeroCells43 43))
        obtain ⟨z2, ez⟩ : ∃ z, z = (z1.alloc (.cells Try.zeroCells43 43)) := ⟨_, rfl⟩
        rw [← ez]
        have H2 := Lib.hid (show Below w1.heap.size w1 z2 by rw [ez]; exact H1.out.alloc H1.out.size _)
        have R2_3 := Lib.hid (show z2.heap[z1.heap.size]? = some (.cells Try.zeroCells43 43 (0, 0)) by rw [ez]; exact heap_alloc_new _ _)
        clear ez
        (try simp only [Act.put])
        refine wpAnyH_ready (rs := [5]) (by kernel_rfl) (by simp) ?_
        refine AllReadyH.cons rfl (fun K hK => ?_) AllReadyH.nil
        · go_simp
          refine hK.out _ _ ?_ (fun hHeld => ?_)
          · exact H2.out.alloc H2.out.size _
          clear hK K hHeld
          show wpAnyH _ _ _ _ _ _ _ _ (z2.alloc (.cells wz 84))
          obtain ⟨z3, ez⟩ : ∃ z, z = (z2.alloc (.cells wz 84)) := ⟨_, rfl⟩
          rw [← ez]
          have H3 := Lib.hid (show Below w1.heap.size w1 z3 by rw [ez]; exact H2.out.alloc H2.out.size _)
          have R3_4 := Lib.hid (show z3.heap[z2.heap.size]? = some (.cells wz 84 (0, 0)) by rw [ez]; exact heap_alloc_new _ _)
          have R3_3 := Lib.hid (show z3.heap[z1.heap.size]? = some (.cells Try.zeroCells43 43 (0, 0)) by rw [ez]; exact (heap_alloc_old _ _ (row_lt R2_3.out)).trans R2_3.out)
          clear ez
          (try simp only [Act.put])
          refine wpAnyH_ready (rs := [6]) (by kernel_rfl) (by simp) ?_
          refine AllReadyH.cons rfl (fun K hK => ?_) AllReadyH.nil
          rw [if_pos (by rfl)]
          refine wp_store_row 43 (.tmp 3) (.tmp 11) rfl (z1.heap.size) cs rfl rfl 43 (Try.zeroCells43) R3_3.out SI.out SZ.out SO.out ?_
          refine hK.out _ _ ?_ (fun hHeld => ?_)
          · exact below_setRow H3.out H1.out.size _
          clear hK K hHeld
          refine wpAnyH_ready (rs := [7]) (by kernel_rfl) (by simp) ?_
          refine AllReadyH.cons rfl (fun K hK => ?_) AllReadyH.nil
          rw [if_pos (by rfl)]
          refine wp_store_row 84 (.tmp 4) (.tmp 12) rfl (z2.heap.size) kv rfl rfl 84 wz ((setRow_other _ _ _ _ (Ne.symm (Nat.ne_of_lt (row_lt R2_3.out)))).trans R3_4.out) ki.out ksz.out kone.out ?_
          have hfb := below_setRow (below_setRow H3.out H1.out.size cs) H2.out.size kv
          refine hK.out _ _ ?_ (fun hHeld => ?_)
          · exact hfb
          clear hK K hHeld
          refine wpAnyH_done (by kernel_rfl) ?_ _
          have hx3 := (setRow_other _ (z2.heap.size) (z1.heap.size) kv (Nat.ne_of_lt (row_lt R2_3.out))).trans (setRow_heap _ _ _ cs _ _ R3_3.out)
          have hx4 := setRow_heap _ _ _ kv _ _ ((setRow_other z3 (z1.heap.size) (z2.heap.size) cs (Ne.symm (Nat.ne_of_lt (row_lt R2_3.out)))).trans R3_4.out)
          go_wp2
          go_meet
          exact ⟨z1.heap.size, z2.heap.size, rfl, rfl, hx3, hx4, H1.out.size, (Nat.ne_of_lt (row_lt R2_3.out)), hfb⟩
      · go_simp
        refine hK.out _ _ ?_ (fun hHeld => ?_)
        · exact H1.out.alloc H1.out.size _
        clear hK K hHeld
        show wpAnyH _ _ _ _ _ _ _ _ (z1.alloc (.cells wz 84))
        obtain ⟨z4, ez⟩ : ∃ z, z = (z1.alloc (.cells wz 84)) := ⟨_, rfl⟩
        rw [← ez]
        have H4 := Lib.hid (show Below w1.heap.size w1 z4 by rw [ez]; exact H1.out.alloc H1.out.size _)
        have R4_4 := Lib.hid (show z4.heap[z1.heap.size]? = some (.cells wz 84 (0, 0)) by rw [ez]; exact heap_alloc_new _ _)
        clear ez
        (try simp only [Act.put])
        refine wpAnyH_ready (rs := [4]) (by kernel_rfl) (by simp) ?_
        refine AllReadyH.cons rfl (fun K hK => ?_) AllReadyH.nil
        · go_simp
          refine hK.out _ _ ?_ (fun hHeld => ?_)
          · exact H4.out.alloc H4.out.size _
          clear hK K hHeld
          show wpAnyH _ _ _ _ _ _ _ _ (z4.alloc (.cells Try.zeroCells43 43))
          obtain ⟨z5, ez⟩ : ∃ z, z = (z4.alloc (.cells Try.zeroCells43 43)) := ⟨_, rfl⟩
          rw [← ez]
          have H5 := Lib.hid (show Below w1.heap.size w1 z5 by rw [ez]; exact H4.out.alloc H4.out.size _)
          have R5_3 := Lib.hid (show z5.heap[z4.heap.size]? = some (.cells Try.zeroCells43 43 (0, 0)) by rw [ez]; exact heap_alloc_new _ _)
          have R5_4 := Lib.hid (show z5.heap[z1.heap.size]? = some (.cells wz 84 (0, 0)) by rw [ez]; exact (heap_alloc_old _ _ (row_lt R4_4.out)).trans R4_4.out)
          clear ez
          (try simp only [Act.put])
          refine wpAnyH_ready (rs := [6]) (by kernel_rfl) (by simp) ?_
          refine AllReadyH.cons rfl (fun K hK => ?_) AllReadyH.nil
          rw [if_pos (by rfl)]
          refine wp_store_row 43 (.tmp 3) (.tmp 11) rfl (z4.heap.size) cs rfl rfl 43 (Try.zeroCells43) R5_3.out SI.out SZ.out SO.out ?_
          refine hK.out _ _ ?_ (fun hHeld => ?_)
          · exact below_setRow H5.out H4.out.size _
          clear hK K hHeld
          refine wpAnyH_ready (rs := [7]) (by kernel_rfl) (by simp) ?_
          refine AllReadyH.cons rfl (fun K hK => ?_) AllReadyH.nil
          rw [if_pos (by rfl)]
          refine wp_store_row 84 (.tmp 4) (.tmp 12) rfl (z1.heap.size) kv rfl rfl 84 wz ((setRow_other _ _ _ _ (Ne.symm (Nat.ne_of_gt (row_lt R4_4.out)))).trans R5_4.out) ki.out ksz.out kone.out ?_
          have hfb := below_setRow (below_setRow H5.out H4.out.size cs) H1.out.size kv
          refine hK.out _ _ ?_ (fun hHeld => ?_)
          · exact hfb
          clear hK K hHeld
          refine wpAnyH_done (by kernel_rfl) ?_ _
          have hx3 := (setRow_other _ (z1.heap.size) (z4.heap.size) kv (Nat.ne_of_gt (row_lt R4_4.out))).trans (setRow_heap _ _ _ cs _ _ R5_3.out)
          have hx4 := setRow_heap _ _ _ kv _ _ ((setRow_other z5 (z4.heap.size) (z1.heap.size) cs (Ne.symm (Nat.ne_of_gt (row_lt R4_4.out)))).trans R5_4.out)
          go_wp2
          go_meet
          exact ⟨z4.heap.size, z1.heap.size, rfl, rfl, hx3, hx4, H4.out.size, (Nat.ne_of_gt (row_lt R4_4.out)), hfb⟩
    · go_simp
      refine hK.out _ _ ?_ (fun hHeld => ?_)
      · exact H0.out.alloc H0.out.size _
      clear hK K hHeld
      show wpAnyH _ _ _ _ _ _ _ _ (z0.alloc (.cells Try.zeroCells43 43))
      obtain ⟨z6, ez⟩ : ∃ z, z = (z0.alloc (.cells Try.zeroCells43 43)) := ⟨_, rfl⟩
      rw [← ez]
      have H6 := Lib.hid (show Below w1.heap.size w1 z6 by rw [ez]; exact H0.out.alloc H0.out.size _)
      have R6_3 := Lib.hid (show z6.heap[z0.heap.size]? = some (.cells Try.zeroCells43 43 (0, 0)) by rw [ez]; exact heap_alloc_new _ _)
      clear ez
      (try simp only [Act.put])
      refine wpAnyH_ready (rs := [3, 5]) (by kernel_rfl) (by simp) ?_
      refine AllReadyH.cons rfl (fun K hK => ?_) (AllReadyH.cons rfl (fun K hK => ?_) AllReadyH.nil)
      · go_simp
        go_at_call 53
        refine (HCB.out _).mono ?_
        rintro e z7 ⟨rfl, hb⟩
        have H7 := Lib.hid (H6.out.trans (hb.mono H6.out.size))
        have R7_3 := Lib.hid ((hb.block _ (row_lt R6_3.out)).trans R6_3.out)
        clear hb
        go_wp2_with fail
        refine hK.out _ _ ?_ (fun hHeld => ?_)
        · exact H7.out
        clear hK K hHeld
        (try simp only [Act.put])
        refine wpAnyH_ready (rs := [5]) (by kernel_rfl) (by simp) ?_
        refine AllReadyH.cons rfl (fun K hK => ?_) AllReadyH.nil
        · go_simp
          refine hK.out _ _ ?_ (fun hHeld => ?_)
          · exact H7.out.alloc H7.out.size _
          clear hK K hHeld
          show wpAnyH _ _ _ _ _ _ _ _ (z7.alloc (.cells wz 84))
          obtain ⟨z8, ez⟩ : ∃ z, z = (z7.alloc (.cells wz 84)) := ⟨_, rfl⟩
          rw [← ez]
          have H8 := Lib.hid (show Below w1.heap.size w1 z8 by rw [ez]; exact H7.out.alloc H7.out.size _)
          have R8_4 := Lib.hid (show z8.heap[z7.heap.size]? = some (.cells wz 84 (0, 0)) by rw [ez]; exact heap_alloc_new _ _)
          have R8_3 := Lib.hid (show z8.heap[z0.heap.size]? = some (.cells Try.zeroCells43 43 (0, 0)) by rw [ez]; exact (heap_alloc_old _ _ (row_lt R7_3.out)).trans R7_3.out)
          clear ez
          (try simp only [Act.put])
          refine wpAnyH_ready (rs := [6]) (by kernel_rfl) (by simp) ?_
          refine AllReadyH.cons rfl (fun K hK => ?_) AllReadyH.nil
          rw [if_pos (by rfl)]
          refine wp_store_row 43 (.tmp 3) (.tmp 11) rfl (z0.heap.size) cs rfl rfl 43 (Try.zeroCells43) R8_3.out SI.out SZ.out SO.out ?_
          refine hK.out _ _ ?_ (fun hHeld => ?_)
          · exact below_setRow H8.out H0.out.size _
          clear hK K hHeld
          refine wpAnyH_ready (rs := [7]) (by kernel_rfl) (by simp) ?_
          refine AllReadyH.cons rfl (fun K hK => ?_) AllReadyH.nil
          rw [if_pos (by rfl)]
          refine wp_store_row 84 (.tmp 4) (.tmp 12) rfl (z7.heap.size) kv rfl rfl 84 wz ((setRow_other _ _ _ _ (Ne.symm (Nat.ne_of_lt (row_lt R7_3.out)))).trans R8_4.out) ki.out ksz.out kone.out ?_
          have hfb := below_setRow (below_setRow H8.out H0.out.size cs) H7.out.size kv
          refine hK.out _ _ ?_ (fun hHeld => ?_)
          · exact hfb
          clear hK K hHeld
          refine wpAnyH_done (by kernel_rfl) ?_ _
          have hx3 := (setRow_other _ (z7.heap.size) (z0.heap.size) kv (Nat.ne_of_lt (row_lt R7_3.out))).trans (setRow_heap _ _ _ cs _ _ R8_3.out)
          have hx4 := setRow_heap _ _ _ kv _ _ ((setRow_other z8 (z0.heap.size) (z7.heap.size) cs (Ne.symm (Nat.ne_of_lt (row_lt R7_3.out)))).trans R8_4.out)
          go_wp2
          go_meet
          exact ⟨z0.heap.size, z7.heap.size, rfl, rfl, hx3, hx4, H0.out.size, (Nat.ne_of_lt (row_lt R7_3.out)), hfb⟩
      · go_simp
        refine hK.out _ _ ?_ (fun hHeld => ?_)
        · exact H6.out.alloc H6.out.size _
        clear hK K hHeld
        show wpAnyH _ _ _ _ _ _ _ _ (z6.alloc (.cells wz 84))
        obtain ⟨z9, ez⟩ : ∃ z, z = (z6.alloc (.cells wz 84)) := ⟨_, rfl⟩
        rw [← ez]
        have H9 := Lib.hid (show Below w1.heap.size w1 z9 by rw [ez]; exact H6.out.alloc H6.out.size _)
        have R9_4 := Lib.hid (show z9.heap[z6.heap.size]? = some (.cells wz 84 (0, 0)) by rw [ez]; exact heap_alloc_new _ _)
        have R9_3 := Lib.hid (show z9.heap[z0.heap.size]? = some (.cells Try.zeroCells43 43 (0, 0)) by rw [ez]; exact (heap_alloc_old _ _ (row_lt R6_3.out)).trans R6_3.out)
        clear ez
        (try simp only [Act.put])
        refine wpAnyH_ready (rs := [3]) (by kernel_rfl) (by simp) ?_
        refine AllReadyH.cons rfl (fun K hK => ?_) AllReadyH.nil
        · go_simp
          go_at_call 53
          refine (HCB.out _).mono ?_
          rintro e z10 ⟨rfl, hb⟩
          have H10 := Lib.hid (H9.out.trans (hb.mono H9.out.size))
          have R10_4 := Lib.hid ((hb.block _ (row_lt R9_4.out)).trans R9_4.out)
          have R10_3 := Lib.hid ((hb.block _ (row_lt R9_3.out)).trans R9_3.out)
          clear hb
          go_wp2_with fail
          refine hK.out _ _ ?_ (fun hHeld => ?_)
          · exact H10.out
          clear hK K hHeld
          (try simp only [Act.put])
          refine wpAnyH_ready (rs := [6]) (by kernel_rfl) (by simp) ?_
          refine AllReadyH.cons rfl (fun K hK => ?_) AllReadyH.nil
          rw [if_pos (by rfl)]
          refine wp_store_row 43 (.tmp 3) (.tmp 11) rfl (z0.heap.size) cs rfl rfl 43 (Try.zeroCells43) R10_3.out SI.out SZ.out SO.out ?_
          refine hK.out _ _ ?_ (fun hHeld => ?_)
          · exact below_setRow H10.out H0.out.size _
          clear hK K hHeld
          refine wpAnyH_ready (rs := [7]) (by kernel_rfl) (by simp) ?_
          refine AllReadyH.cons rfl (fun K hK => ?_) AllReadyH.nil
          rw [if_pos (by rfl)]
          refine wp_store_row 84 (.tmp 4) (.tmp 12) rfl (z6.heap.size) kv rfl rfl 84 wz ((setRow_other _ _ _ _ (Ne.symm (Nat.ne_of_lt (row_lt R6_3.out)))).trans R10_4.out) ki.out ksz.out kone.out ?_
          have hfb := below_setRow (below_setRow H10.out H0.out.size cs) H6.out.size kv
          refine hK.out _ _ ?_ (fun hHeld => ?_)
          · exact hfb
          clear hK K hHeld
          refine wpAnyH_done (by kernel_rfl) ?_ _
          have hx3 := (setRow_other _ (z6.heap.size) (z0.heap.size) kv (Nat.ne_of_lt (row_lt R6_3.out))).trans (setRow_heap _ _ _ cs _ _ R10_3.out)
          have hx4 := setRow_heap _ _ _ kv _ _ ((setRow_other z10 (z0.heap.size) (z6.heap.size) cs (Ne.symm (Nat.ne_of_lt (row_lt R6_3.out)))).trans R10_4.out)
          go_wp2
          go_meet
          exact ⟨z0.heap.size, z6.heap.size, rfl, rfl, hx3, hx4, H0.out.size, (Nat.ne_of_lt (row_lt R6_3.out)), hfb⟩
    · go_simp
      refine hK.out _ _ ?_ (fun hHeld => ?_)
      · exact H0.out.alloc H0.out.size _
      clear hK K hHeld
      show wpAnyH _ _ _ _ _ _ _ _ (z0.alloc (.cells wz 84))
      obtain ⟨z11, ez⟩ : ∃ z, z = (z0.alloc (.cells wz 84)) := ⟨_, rfl⟩
      rw [← ez]
      have H11 := Lib.hid (show Below w1.heap.size w1 z11 by rw [ez]; exact H0.out.alloc H0.out.size _)
      have R11_4 := Lib.hid (show z11.heap[z0.heap.size]? = some (.cells wz 84 (0, 0)) by rw [ez]; exact heap_alloc_new _ _)
      clear ez
      (try simp only [Act.put])
      refine wpAnyH_ready (rs := [3, 4]) (by kernel_rfl) (by simp) ?_
      refine AllReadyH.cons rfl (fun K hK => ?_) (AllReadyH.cons rfl (fun K hK => ?_) AllReadyH.nil)
      · go_simp
        go_at_call 53
        refine (HCB.out _).mono ?_
        rintro e z12 ⟨rfl, hb⟩
        have H12 := Lib.hid (H11.out.trans (hb.mono H11.out.size))
        have R12_4 := Lib.hid ((hb.block _ (row_lt R11_4.out)).trans R11_4.out)
        clear hb
        go_wp2_with fail
        refine hK.out _ _ ?_ (fun hHeld => ?_)
        · exact H12.out
        clear hK K hHeld
        (try simp only [Act.put])
        refine wpAnyH_ready (rs := [4]) (by kernel_rfl) (by simp) ?_
        refine AllReadyH.cons rfl (fun K hK => ?_) AllReadyH.nil
        · go_simp
          refine hK.out _ _ ?_ (fun hHeld => ?_)
          · exact H12.out.alloc H12.out.size _
          clear hK K hHeld
          show wpAnyH _ _ _ _ _ _ _ _ (z12.alloc (.cells Try.zeroCells43 43))
          obtain ⟨z13, ez⟩ : ∃ z, z = (z12.alloc (.cells Try.zeroCells43 43)) := ⟨_, rfl⟩
          rw [← ez]
          have H13 := Lib.hid (show Below w1.heap.size w1 z13 by rw [ez]; exact H12.out.alloc H12.out.size _)
          have R13_3 := Lib.hid (show z13.heap[z12.heap.size]? = some (.cells Try.zeroCells43 43 (0, 0)) by rw [ez]; exact heap_alloc_new _ _)
          have R13_4 := Lib.hid (show z13.heap[z0.heap.size]? = some (.cells wz 84 (0, 0)) by rw [ez]; exact (heap_alloc_old _ _ (row_lt R12_4.out)).trans R12_4.out)
          clear ez
          (try simp only [Act.put])
          refine wpAnyH_ready (rs := [6]) (by kernel_rfl) (by simp) ?_
          refine AllReadyH.cons rfl (fun K hK => ?_) AllReadyH.nil
          rw [if_pos (by rfl)]
          refine wp_store_row 43 (.tmp 3) (.tmp 11) rfl (z12.heap.size) cs rfl rfl 43 (Try.zeroCells43) R13_3.out SI.out SZ.out SO.out ?_
          refine hK.out _ _ ?_ (fun hHeld => ?_)
          · exact below_setRow H13.out H12.out.size _
          clear hK K hHeld
          refine wpAnyH_ready (rs := [7]) (by kernel_rfl) (by simp) ?_
          refine AllReadyH.cons rfl (fun K hK => ?_) AllReadyH.nil
          rw [if_pos (by rfl)]
          refine wp_store_row 84 (.tmp 4) (.tmp 12) rfl (z0.heap.size) kv rfl rfl 84 wz ((setRow_other _ _ _ _ (Ne.symm (Nat.ne_of_gt (row_lt R12_4.out)))).trans R13_4.out) ki.out ksz.out kone.out ?_
          have hfb := below_setRow (below_setRow H13.out H12.out.size cs) H0.out.size kv
          refine hK.out _ _ ?_ (fun hHeld => ?_)
          · exact hfb
          clear hK K hHeld
          refine wpAnyH_done (by kernel_rfl) ?_ _
          have hx3 := (setRow_other _ (z0.heap.size) (z12.heap.size) kv (Nat.ne_of_gt (row_lt R12_4.out))).trans (setRow_heap _ _ _ cs _ _ R13_3.out)
          have hx4 := setRow_heap _ _ _ kv _ _ ((setRow_other z13 (z12.heap.size) (z0.heap.size) cs (Ne.symm (Nat.ne_of_gt (row_lt R12_4.out)))).trans R13_4.out)
          go_wp2
          go_meet
          exact ⟨z12.heap.size, z0.heap.size, rfl, rfl, hx3, hx4, H12.out.size, (Nat.ne_of_gt (row_lt R12_4.out)), hfb⟩
      · go_simp
        refine hK.out _ _ ?_ (fun hHeld => ?_)
        · exact H11.out.alloc H11.out.size _
        clear hK K hHeld
        show wpAnyH _ _ _ _ _ _ _ _ (z11.alloc (.cells Try.zeroCells43 43))
        obtain ⟨z14, ez⟩ : ∃ z, z = (z11.alloc (.cells Try.zeroCells43 43)) := ⟨_, rfl⟩
        rw [← ez]
        have H14 := Lib.hid (show Below w1.heap.size w1 z14 by rw [ez]; exact H11.out.alloc H11.out.size _)
        have R14_3 := Lib.hid (show z14.heap[z11.heap.size]? = some (.cells Try.zeroCells43 43 (0, 0)) by rw [ez]; exact heap_alloc_new _ _)
        have R14_4 := Lib.hid (show z14.heap[z0.heap.size]? = some (.cells wz 84 (0, 0)) by rw [ez]; exact (heap_alloc_old _ _ (row_lt R11_4.out)).trans R11_4.out)
        clear ez
        (try simp only [Act.put])
        refine wpAnyH_ready (rs := [3]) (by kernel_rfl) (by simp) ?_
        refine AllReadyH.cons rfl (fun K hK => ?_) AllReadyH.nil
        · go_simp
          go_at_call 53
          refine (HCB.out _).mono ?_
          rintro e z15 ⟨rfl, hb⟩
          have H15 := Lib.hid (H14.out.trans (hb.mono H14.out.size))
          have R15_3 := Lib.hid ((hb.block _ (row_lt R14_3.out)).trans R14_3.out)
          have R15_4 := Lib.hid ((hb.block _ (row_lt R14_4.out)).trans R14_4.out)
          clear hb
          go_wp2_with fail
          refine hK.out _ _ ?_ (fun hHeld => ?_)
          · exact H15.out
          clear hK K hHeld
          (try simp only [Act.put])
          refine wpAnyH_ready (rs := [6]) (by kernel_rfl) (by simp) ?_
          refine AllReadyH.cons rfl (fun K hK => ?_) AllReadyH.nil
          rw [if_pos (by rfl)]
          refine wp_store_row 43 (.tmp 3) (.tmp 11) rfl (z11.heap.size) cs rfl rfl 43 (Try.zeroCells43) R15_3.out SI.out SZ.out SO.out ?_
          refine hK.out _ _ ?_ (fun hHeld => ?_)
          · exact below_setRow H15.out H11.out.size _
          clear hK K hHeld
          refine wpAnyH_ready (rs := [7]) (by kernel_rfl) (by simp) ?_
          refine AllReadyH.cons rfl (fun K hK => ?_) AllReadyH.nil
          rw [if_pos (by rfl)]
          refine wp_store_row 84 (.tmp 4) (.tmp 12) rfl (z0.heap.size) kv rfl rfl 84 wz ((setRow_other _ _ _ _ (Ne.symm (Nat.ne_of_gt (row_lt R11_4.out)))).trans R15_4.out) ki.out ksz.out kone.out ?_
          have hfb := below_setRow (below_setRow H15.out H11.out.size cs) H0.out.size kv
          refine hK.out _ _ ?_ (fun hHeld => ?_)
          · exact hfb
          clear hK K hHeld
          refine wpAnyH_done (by kernel_rfl) ?_ _
          have hx3 := (setRow_other _ (z0.heap.size) (z11.heap.size) kv (Nat.ne_of_gt (row_lt R11_4.out))).trans (setRow_heap _ _ _ cs _ _ R15_3.out)
          have hx4 := setRow_heap _ _ _ kv _ _ ((setRow_other z15 (z11.heap.size) (z0.heap.size) cs (Ne.symm (Nat.ne_of_gt (row_lt R11_4.out)))).trans R15_4.out)
          go_wp2
          go_meet
          exact ⟨z11.heap.size, z0.heap.size, rfl, rfl, hx3, hx4, H11.out.size, (Nat.ne_of_gt (row_lt R11_4.out)), hfb⟩
end Go.Proofs.Ytjemgoifemdoeaa
