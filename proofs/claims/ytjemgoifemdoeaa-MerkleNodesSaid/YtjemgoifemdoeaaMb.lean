/- merkle.Node, Depth, walked. -/
import Derived.Test.YtjemgoifemdoeaaMa
import Derived.Shelf.Bits.Mul64
namespace Go.Proofs.Ytjemgoifemdoeaa
open Go.RowKit

theorem hash_all (p : Nat) (w : World) : (Instr.sliceAt 25 (.pointer (some ⟨p, 0, none⟩)) none none none).run Try.prog w = .ok (.slice (some ⟨p, 0, none⟩) 32 32) w := by
  have hu : Try.prog.underlying 25 = some (.array (Try.prog.arrayLen 25) (Try.prog.elem 25)) := by kernel_rfl
  have hl : Try.prog.arrayLen 25 = 32 := by kernel_rfl
  have he : Try.prog.elem 25 = 5 := by kernel_rfl
  rw [run_sliceAt_array_all w _ _ hu, he, hl, Try.sizeOf5]
  simp only [Result.andThen_ok, slicedAt]
  rw [if_neg (by omega), add_off]
theorem hash_sl {w : World} {p : Nat} {f : Nat → Nat} {cs : Array Value} (hf : ∀ i, f i < 256) (hc : cs = (bys f 32).toArray) (h : w.heap[p]? = some (.cells cs 25 (0, 0))) : Sl w (some ⟨p, 0, none⟩) 32 f :=
  ⟨hf, fun _ => ⟨p, 0, rfl, row_lt h, fun i hi => by rw [Nat.zero_add, row_cell h, hc, List.getElem?_toArray]; exact bys_get _ hi⟩⟩
set_option maxRecDepth 100000 in
set_option maxHeartbeats 2000000 in
theorem node_walk (k : Int) (fa fb : Nat → Nat) (w : World) (hfa : ∀ i, fa i < 256) (hfb : ∀ i, fb i < 256) :
    Calls Try.prog 40 #[.int .i64 k, .agg (bys fa 32).toArray, .agg (bys fb 32).toArray] w fun e w' => e = .returned (.agg (bys (nodeV k fa fb) 32).toArray) ∧ Below w.heap.size w w' := by
  obtain ⟨ca, eca⟩ : ∃ ca, ca = (bys fa 32).toArray := ⟨_, rfl⟩
  obtain ⟨cb, ecb⟩ : ∃ ca, ca = (bys fb 32).toArray := ⟨_, rfl⟩
  rw [← eca, ← ecb]
  obtain ⟨w1, e1⟩ : ∃ w1, w1 = ((w.alloc (.cells ca 25)).alloc (.cells cb 25)).alloc (.cells h32 25) := ⟨_, rfl⟩
  have hs1 : w1.heap.size = w.heap.size + 1 + 1 + 1 := by rw [e1]; simp
  have HB1 := Lib.hid (show Below w.heap.size w w1 by rw [e1]; exact (((Below.refl _ _).alloc (Nat.le_refl _) _).alloc (by simp) _).alloc (by simp; omega) _)
  have A1 := Lib.hid (show w1.heap[w.heap.size]? = some (.cells ca 25 (0, 0)) by rw [e1]; exact (heap_alloc_old _ _ (by simp; omega)).trans ((heap_alloc_old _ _ (by simp)).trans (heap_alloc_new _ _)))
  have B1 := Lib.hid (show w1.heap[w.heap.size + 1]? = some (.cells cb 25 (0, 0)) by rw [e1]; exact (heap_alloc_old _ _ (by simp)).trans (heap_alloc2_new _ _ _))
  have R1 := Lib.hid (show w1.heap[w.heap.size + 1 + 1]? = some (.cells h32 25 (0, 0)) by
    rw [e1, show w.heap.size + 1 + 1 = ((w.alloc (.cells ca 25)).alloc (.cells cb 25)).heap.size by simp]; exact heap_alloc_new _ _)
  have E1 := Lib.hid e1
  have ECA := Lib.hid eca
  have ECB := Lib.hid ecb
  clear e1 eca ecb
  by_cases hk : isK k
  · obtain ⟨kd, rfl, hkd⟩ : ∃ kd : Nat, k = (kd : Int) ∧ (kd = 1 ∨ kd = 2) := by
      rcases hk with rfl | rfl
      · exact ⟨1, rfl, .inl rfl⟩
      · exact ⟨2, rfl, .inr rfl⟩
    have HM := Lib.hid (isKind_yes (kd : Int) hk w1)
    have hlv : nodeV (kd : Int) fa fb = nd kd fa fb := by unfold nodeV; rw [if_pos hk, Int.toNat_natCast]
    rw [hlv]
    obtain ⟨b, eb⟩ : ∃ b, b = 2 * kd + 1 := ⟨_, rfl⟩
    have hb : b < 256 := by omega
    have hkd2 : kd ≤ 2 := by omega
    have v1 : 2 * (kd : Int) + 1 = (b : Int) := by omega
    have v0 : IntKind.i64.wrap (2 * (kd : Int)) = 2 * (kd : Int) := IntWalk.i64_in _ (by omega)
    have v0' : IntKind.i64.wrap (b : Int) = (b : Int) := IntWalk.i64_in _ (by omega)
    have v2 : (b : Int) % 256 = (b : Int) := by omega
    have v3 : IntKind.u8.wrap (b : Int) = (b : Int) := by rw [IntKind.wrap_u8]; omega
    have ha1 := hash_all w.heap.size
    have ha2 := hash_all (w.heap.size + 1)
    have HSA := Lib.hid (hash_sl hfa ECA.out A1.out)
    have HSB := Lib.hid (hash_sl hfb ECB.out B1.out)
    have HC := Lib.hid (fun (p : Nat) (W : World) (hW : Below w1.heap.size w1 W) (h1 : Sl W (some ⟨p, 0, none⟩) 1 (fun _ => b)) => concat3_c (some ⟨p, 0, none⟩) (some ⟨w.heap.size, 0, none⟩) (some ⟨w.heap.size + 1, 0, none⟩) 1 32 32 1 32 32 (fun _ => b) fa fb W h1 (HSA.out.below hW) (HSB.out.below hW) (fun h => by cases h) (fun h => by cases h) (fun h => by cases h) (by decide) (by decide) (by decide) 22)
    have HCL := Lib.hid (cat_lt (n := 1 + 32) (f := cat (fun _ => b) 1 fa) (g := fb) (cat_lt (n := 1) (fun _ => hb) hfa) hfb)
    obtain ⟨cz, ecz⟩ : ∃ cz, cz = (bys (nd kd fa fb) 32).toArray := ⟨_, rfl⟩
    obtain ⟨i1, i2, i3⟩ := hash_out ecz
    have I1 := Lib.hid i1
    have I2 := Lib.hid i2
    have I3 := Lib.hid i3
    have HCZ := Lib.hid (show cz = (bys (shaF (1 + 32 + 32) (cat (cat (fun _ => b) 1 fa) (1 + 32) fb)) 32).toArray by rw [ecz, eb]; rfl)
    rw [← ecz]
    clear hk i1 i2 i3 ecz eb hlv hkd
    go_enter Try.func40, Try.ntmps40
    go_wp2_with fail
    show Calls Try.prog _ _ (((w.alloc (.cells ca 25)).alloc (.cells cb 25)).alloc (.cells h32 25)) _
    rw [← E1.out]
    refine HM.out.mono ?_
    rintro e _ ⟨rfl, rfl⟩
    go_upto_region 3 with fail
    refine wp_region_held_drew (S := fun w' => Below w.heap.size w w') (by kernel_rfl) ?_ (fun hHeld => ?_)
    · exact HB1.out.drew
    have HZ0 := Lib.hid (show Below w1.heap.size w1 w1.drew from (Below.refl _ _).drew)
    generalize w1.drew = wd at *
    refine wpAnyH_take (i := 0) (v := .int .i64 (kd : Int)) rfl (by kernel_rfl) (by kernel_rfl) (by kernel_rfl) (fun _ _ _ h => h) (Or.inl ⟨by kernel_rfl, ?_⟩) (by with_reducible assumption) ?_
    · intro wz hSw
      (try dsimp only at hSw)
      go_simp
      (try with_reducible rfl)
    show wpAnyH _ _ _ _ _ _ _ (Act.put _ (some 11) _) _
    (try simp only [Act.put, List.setIfInBounds_toArray, List.set_cons_zero, List.set_cons_succ])
    refine wpAnyH_take (i := 1) (v := ?_) rfl (by kernel_rfl) (by kernel_rfl) (by kernel_rfl) (fun _ _ _ h => h) (Or.inl ⟨by kernel_rfl, ?_⟩) (by with_reducible assumption) ?_
    rotate_left
    · intro wz hSw
      (try dsimp only at hSw)
      go_simp
      (try with_reducible rfl)
    show wpAnyH _ _ _ _ _ _ _ (Act.put _ (some 12) _) _
    (try simp only [Act.put, List.setIfInBounds_toArray, List.set_cons_zero, List.set_cons_succ])
    refine wpAnyH_take (i := 2) (v := ?_) rfl (by kernel_rfl) (by kernel_rfl) (by kernel_rfl) (fun _ _ _ h => h) (Or.inl ⟨by kernel_rfl, ?_⟩) (by with_reducible assumption) ?_
    rotate_left
    · intro wz hSw
      (try dsimp only at hSw)
      go_simp
      (try with_reducible rfl)
    show wpAnyH _ _ _ _ _ _ _ (Act.put _ (some 13) _) _
    (try simp only [Act.put, List.setIfInBounds_toArray, List.set_cons_zero, List.set_cons_succ])
    refine wpAnyH_take (i := 3) (v := ?_) rfl (by kernel_rfl) (by kernel_rfl) (by kernel_rfl) (fun _ _ _ h => h) (Or.inl ⟨by kernel_rfl, ?_⟩) (by with_reducible assumption) ?_
    rotate_left
    · intro wz hSw
      (try dsimp only at hSw)
      go_simp
      (try with_reducible rfl)
    show wpAnyH _ _ _ _ _ _ _ (Act.put _ (some 14) _) _
    (try simp only [Act.put, List.setIfInBounds_toArray, List.set_cons_zero, List.set_cons_succ])
    refine wpAnyH_take (i := 5) (v := .slice (some ⟨w.heap.size, 0, none⟩) 32 32) rfl (by kernel_rfl) (by kernel_rfl) (by kernel_rfl) (fun _ _ _ h => h) (Or.inl ⟨by kernel_rfl, ?_⟩) (by with_reducible assumption) ?_
    · intro wz hSw
      (try dsimp only at hSw)
      go_simp
    show wpAnyH _ _ _ _ _ _ _ (Act.put _ (some 16) _) _
    (try simp only [Act.put, List.setIfInBounds_toArray, List.set_cons_zero, List.set_cons_succ])
    refine wpAnyH_take (i := 6) (v := .slice (some ⟨w.heap.size + 1, 0, none⟩) 32 32) rfl (by kernel_rfl) (by kernel_rfl) (by kernel_rfl) (fun _ _ _ h => h) (Or.inl ⟨by kernel_rfl, ?_⟩) (by with_reducible assumption) ?_
    · intro wz hSw
      (try dsimp only at hSw)
      go_simp
    show wpAnyH _ _ _ _ _ _ _ (Act.put _ (some 17) _) _
    (try simp only [Act.put, List.setIfInBounds_toArray, List.set_cons_zero, List.set_cons_succ])
    refine wpAnyH_ready (rs := [4]) (by kernel_rfl) (by simp) ?_
    refine AllReadyH.cons rfl (fun K hK => ?_) AllReadyH.nil
    clear hHeld
    go_simp
    refine hK.out _ _ ?_ (fun hHeld => ?_)
    · exact HB1.out.trans ((HZ0.out.alloc HZ0.out.size _).mono HB1.out.size)
    clear hK K
    (try simp only [Act.put, List.setIfInBounds_toArray, List.set_cons_zero, List.set_cons_succ])
    have HS4 := Lib.hid (one_sl wd hb)
    have HZ4 := Lib.hid (show Below w1.heap.size w1 (wd.alloc (.cells #[.int .u8 (b : Nat)] 5)) from HZ0.out.alloc HZ0.out.size _)
    have HN4 := Lib.hid (HC.out _ _ HZ4.out HS4.out)
    generalize wd.alloc (.cells #[.int .u8 (b : Nat)] 5) = z4 at *
    refine wpAnyH_ready (rs := [7]) (by kernel_rfl) (by simp) ?_
    refine AllReadyH.cons rfl (fun K hK => ?_) AllReadyH.nil
    clear hHeld
    go_simp
    refine hK.out _ _ ?_ (fun hHeld => ?_)
    · exact HB1.out.trans ((HZ4.out.alloc HZ4.out.size _).mono HB1.out.size)
    clear hK K
    (try simp only [Act.put, List.setIfInBounds_toArray, List.set_cons_zero, List.set_cons_succ])
    refine wpAnyH_ready (rs := [8]) (by kernel_rfl) (by simp) ?_
    refine AllReadyH.cons rfl (fun K hK => ?_) AllReadyH.nil
    clear hHeld
    go_simp
    go_at_call 67
    refine HN4.out.mono ?_
    rintro e z8 ⟨⟨v8, rfl, h8⟩, hb⟩
    have HZ8 := Lib.hid (HZ4.out.trans (hb.mono HZ4.out.size))
    clear hb
    go_wp2_with fail
    refine hK.out _ _ ?_ (fun hHeld => ?_)
    · exact HB1.out.trans (HZ8.out.mono HB1.out.size)
    clear hK K
    (try simp only [Act.put, List.setIfInBounds_toArray, List.set_cons_zero, List.set_cons_succ])
    obtain ⟨A8, c8, rfl, hs8, hc8, hm8⟩ := own_sl2 (n := 1 + 32 + 32) h8 HCL.out
    clear h8
    have HSm := Lib.hid (sum_walk z8 A8 (1 + 32 + 32) c8 _ hs8 hc8 hm8 (by decide))
    clear hs8 hc8 hm8
    refine wpAnyH_ready (rs := [9]) (by kernel_rfl) (by simp) ?_
    refine AllReadyH.cons rfl (fun K hK => ?_) AllReadyH.nil
    clear hHeld
    go_simp
    go_at_call 16
    refine HSm.out.mono ?_
    rintro e z9 ⟨rfl, hb⟩
    rw [← HCZ.out]
    have HZ9 := Lib.hid (HZ8.out.trans (hb.mono HZ8.out.size))
    have R9 := Lib.hid ((HZ9.out.block _ (row_lt R1.out)).trans R1.out)
    clear hb
    go_wp2_with fail
    refine hK.out _ _ ?_ (fun hHeld => ?_)
    · exact HB1.out.trans (HZ9.out.mono HB1.out.size)
    clear hK K
    (try simp only [Act.put, List.setIfInBounds_toArray, List.set_cons_zero, List.set_cons_succ])
    refine wpAnyH_ready (rs := [10]) (by kernel_rfl) (by simp) ?_
    refine AllReadyH.cons rfl (fun K hK => ?_) AllReadyH.nil
    clear hHeld
    rw [if_pos (by rfl)]
    refine wp_store_row 25 (.tmp 6) (.tmp 20) rfl (w.heap.size + 1 + 1) cz rfl rfl 25 h32 R9.out I1.out I2.out I3.out ?_
    refine hK.out _ _ ?_ (fun hHeld => ?_)
    · exact below_setRow (HB1.out.trans (HZ9.out.mono HB1.out.size)) (by omega) _
    clear hK K
    refine wpAnyH_done (by kernel_rfl) ?_ _
    go_wp2_with fail
    exact bodyPost_ret (v := .agg cz) (results_cell_row rfl _ _ (w.heap.size + 1 + 1) 25 cz (0, 0) _ rfl (setRow_heap _ _ h32 _ _ _ R9.out) Try.underlying25 rfl I1.out) rfl ⟨rfl, below_setRow (HB1.out.trans (HZ9.out.mono HB1.out.size)) (by omega) _⟩
  · have HM := Lib.hid (isKind_no k hk w1)
    have hlv : nodeV k fa fb = fun _ => 0 := by unfold nodeV; rw [if_neg hk]
    rw [hlv]
    show Calls _ _ _ _ fun e w' => e = .returned (.agg h32) ∧ _
    clear hk hlv
    go_enter Try.func40, Try.ntmps40
    go_wp2_with fail
    show Calls Try.prog _ _ (((w.alloc (.cells ca 25)).alloc (.cells cb 25)).alloc (.cells h32 25)) _
    rw [← E1.out]
    refine HM.out.mono ?_
    rintro e _ ⟨rfl, rfl⟩
    go_wp2_with ((with_reducible refine wpList_store_row rfl 25 (.tmp 6) (.tmp 10) rfl (w.heap.size + 1 + 1) h32 ?_ ?_ 25 h32 ?_ ?_ ?_ ?_ ?_); (· rfl); (· rfl); (· exact R1.out); (· exact h32_info); (· rfl); (· exact bys_all _ _))
    exact bodyPost_ret (v := .agg h32) (results_cell_row rfl _ _ (w.heap.size + 1 + 1) 25 h32 (0, 0) _ rfl (setRow_heap _ _ h32 _ _ _ R1.out) Try.underlying25 rfl h32_info) rfl ⟨rfl, below_setRow HB1.out (by omega) _⟩
end Go.Proofs.Ytjemgoifemdoeaa
