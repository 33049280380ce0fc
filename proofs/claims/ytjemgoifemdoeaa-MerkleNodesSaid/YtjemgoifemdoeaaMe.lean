/- merkle.Root of one leaf; what lives. -/
import Derived.Test.YtjemgoifemdoeaaMd
import Derived.Test.YtjemgoifemdoeaaHq
import Derived.Test.YtjemgoifemdoeaaHeqA
namespace Go.Proofs.Ytjemgoifemdoeaa
open Go.RowKit

set_option maxRecDepth 100000 in
set_option maxHeartbeats 2000000 in
theorem root_one (k : Int) (hk : isK k) (L : Nat) (A : Option Addr) (n c : Nat) (f : Nat → Nat) (w : World) (hL : w.heap[L]? = some (.cells #[.slice A n c] 22 (0, 0))) (hl : Sl w A n f) (hz : A = none → n = 0 ∧ c = 0) (hn : n ≤ 1048576) :
    Calls Try.prog 31 #[.int .i64 k, .slice (some ⟨L, 0, none⟩) 1 1] w fun e w' => e = .returned (.tuple #[.agg (bys (leafV k n f) 32).toArray, .int .i64 0]) ∧ Below w.heap.size w w' := by
  obtain ⟨w1, e1⟩ : ∃ w1, w1 = w.alloc (.cells h32 25) := ⟨_, rfl⟩
  have HB1 := Lib.hid (show Below w.heap.size w w1 by rw [e1]; exact (Below.refl _ _).alloc (Nat.le_refl _) _)
  have R1 := Lib.hid (show w1.heap[w.heap.size]? = some (.cells h32 25 (0, 0)) by rw [e1]; exact heap_alloc_new _ _)
  have E1 := Lib.hid e1
  have HKd := Lib.hid (fun w => isKind_yes k hk w)
  have HLv := Lib.hid (levels_one k hk L A n c f w1 ((HB1.out.block _ (row_lt hL)).trans hL) (hl.below HB1.out) hz hn)
  obtain ⟨cz, ecz⟩ : ∃ ce, ce = (bys (leafV k n f) 32).toArray := ⟨_, rfl⟩
  rw [← ecz] at HLv ⊢
  obtain ⟨i1, i2, i3⟩ := hash_out ecz
  have I1 := Lib.hid i1
  have I2 := Lib.hid i2
  have I3 := Lib.hid i3
  clear e1 hL hl hz hk i1 i2 i3 ecz
  go_enter Try.func31, Try.ntmps31
  go_upto_region 1 with fail
  show Code.wp _ _ _ _ (w.alloc (.cells h32 25))
  rw [← E1.out]
  go_wp2_with fail
  refine (HKd.out _).mono ?_
  rintro e wM ⟨rfl, hw⟩
  rw [← hw]
  clear hw wM
  go_wp2_with fail
  refine HLv.out.mono ?_
  rintro e w2 ⟨⟨R, G, rfl, hR, hG⟩, hb⟩
  have HB2 := Lib.hid (HB1.out.trans (hb.mono HB1.out.size))
  have R2 := Lib.hid ((hb.block _ (row_lt R1.out)).trans R1.out)
  have G2 := Lib.hid hG
  have hc2 : w2.cell? ⟨R, 0, none⟩ = some (.slice (some ⟨G, 0, none⟩) 1 1) := by simp [World.cell?, hR]
  clear hb hR hG
  go_wp2_with (first
    | ((with_reducible refine wpList_load_row rfl 25 (.tmp 31) rfl G rfl 25 cz (0, 0) _ ?_ Try.underlying25 rfl ?_ ?_); (· exact G2.out); (· exact I1.out))
    | ((with_reducible refine wpList_store_row rfl 25 (.tmp 4) (.tmp 32) rfl w.heap.size cz ?_ ?_ 25 h32 ?_ ?_ ?_ ?_ ?_); (· rfl); (· rfl); (· exact R2.out); (· exact I1.out); (· exact I2.out); (· exact I3.out)))
  exact bodyPost_ret (v := .tuple #[.agg cz, .int .i64 0]) (results_cell_row_tmp rfl _ _ w.heap.size 25 cz (0, 0) _ _ rfl rfl (setRow_heap _ _ h32 _ _ _ R2.out) Try.underlying25 rfl I1.out) rfl ⟨rfl, below_setRow HB2.out (Nat.le_refl _) _⟩
theorem depth3 : depthV 3 = 2 := by decide +kernel
set_option maxRecDepth 100000 in
set_option maxHeartbeats 2000000 in
theorem lives06 (w : World) : Calls Try.prog 30 #[] w fun e w' => e = .returned (.bool true) ∧ Below w.heap.size w w' := by
  obtain ⟨w1, e1⟩ : ∃ w1, w1 = w.alloc (.cells #[.int .u8 1] 5) := ⟨_, rfl⟩
  obtain ⟨w2, e2⟩ : ∃ w2, w2 = w1.alloc (.cells #[.slice (some ⟨w.heap.size, 0, none⟩) 1 1] 22) := ⟨_, rfl⟩
  have HB1 : Below w.heap.size w w1 := by rw [e1]; exact (Below.refl _ _).alloc (Nat.le_refl _) _
  have HB2 := Lib.hid (show Below w.heap.size w w2 by rw [e2]; exact HB1.alloc HB1.size _)
  have hs1 : w1.heap.size = w.heap.size + 1 := by rw [e1]; simp
  have HSL : Sl w2 (some ⟨w.heap.size, 0, none⟩) 1 (fun _ => 1) := by rw [e2, e1]; exact (one_sl w (by decide)).alloc _
  have X2 : w2.heap[w.heap.size + 1]? = some (.cells #[.slice (some ⟨w.heap.size, 0, none⟩) 1 1] 22 (0, 0)) := by rw [e2, ← hs1]; exact heap_alloc_new _ _
  have HRt := Lib.hid (root_one 1 (.inl rfl) (w.heap.size + 1) (some ⟨w.heap.size, 0, none⟩) 1 1 (fun _ => 1) w2 X2 HSL (fun h => by cases h) (by decide))
  have HDp := Lib.hid (fun w => show Calls Try.prog 36 #[.int .i64 3] w fun e w' => e = .returned (.int .i64 2) ∧ w = w' from by have := depth_walk 3 (by decide) w; rw [depth3] at this; exact this)
  obtain ⟨cz, ecz⟩ : ∃ ce, ce = (bys (leafV 1 1 (fun _ => 1)) 32).toArray := ⟨_, rfl⟩
  rw [← ecz] at HRt
  obtain ⟨i1, i2, i3⟩ := hash_out ecz
  have I1 := Lib.hid i1
  have I2 := Lib.hid i2
  have I3 := Lib.hid i3
  have HCZ := Lib.hid ecz
  have E2 := Lib.hid (show w2 = (w.alloc (.cells #[.int .u8 1] 5)).alloc (.cells #[.slice (some ⟨w.heap.size, 0, none⟩) 1 1] 22) by rw [e2, e1])
  have heq : ∀ w, (Op.equalIn 10000 25 (.agg cz) (.agg cz)).run Try.prog w = .ok true w := fun w => by rw [ecz, hash_eq]; simp
  clear e1 e2 HB1 hs1 HSL X2 i1 i2 i3 ecz
  go_enter Try.func30, Try.ntmps30
  go_wp2_with fail
  show Calls Try.prog _ _ ((w.alloc (.cells #[.int .u8 1] 5)).alloc (.cells #[.slice (some ⟨w.heap.size, 0, none⟩) 1 1] 22)) _
  rw [← E2.out]
  refine HRt.out.mono ?_
  rintro e w3 ⟨rfl, hb⟩
  have HB3 := Lib.hid (HB2.out.trans (hb.mono HB2.out.size))
  clear hb
  go_upto_region 2 with ((with_reducible refine wpList_store_row rfl 25 (.tmp 1) (.tmp 7) rfl w3.heap.size cz ?_ ?_ 25 h32 ?_ ?_ ?_ ?_ ?_); (· rfl); (· rfl); (· exact heap_alloc_new _ _); (· exact I1.out); (· exact I2.out); (· exact I3.out))
  show Code.wp _ _ _ _ ((w3.alloc (.cells h32 25)).setRow w3.heap.size cz)
  obtain ⟨w4, e4⟩ : ∃ w4, w4 = (w3.alloc (.cells h32 25)).setRow w3.heap.size cz := ⟨_, rfl⟩
  rw [← e4]
  have h34 : Below w3.heap.size w3 w4 := by rw [e4]; exact below_setRow ((Below.refl _ _).alloc (Nat.le_refl _) _) (Nat.le_refl _) _
  have HB4 := Lib.hid (HB3.out.trans (h34.mono HB3.out.size))
  have X4 := Lib.hid (show w4.heap[w3.heap.size]? = some (.cells cz 25 (0, 0)) by rw [e4]; exact setRow_heap _ _ h32 _ _ _ (heap_alloc_new _ _))
  clear e4 h34
  refine wp_region_held_drew (S := fun w' => Below w4.heap.size w4 w') (by kernel_rfl) ?_ (fun hHeld => ?_)
  · exact (Below.refl _ _).drew
  have HZ0 := Lib.hid (show Below w4.heap.size w4 w4.drew from (Below.refl _ _).drew)
  generalize w4.drew = wd at *
  refine wpAnyH_take (i := 0) (v := ?_) rfl (by kernel_rfl) (by kernel_rfl) (by kernel_rfl) (fun _ _ _ h => h) (Or.inl ⟨by kernel_rfl, ?_⟩) (by with_reducible assumption) ?_
  rotate_left
  · intro wz hSw
    (try dsimp only at hSw)
    go_simp
    (try with_reducible rfl)
  show wpAnyH _ _ _ _ _ _ _ (Act.put _ (some 9) _) _
  (try simp only [Act.put, List.setIfInBounds_toArray, List.set_cons_zero, List.set_cons_succ])
  refine wpAnyH_take (i := 1) (v := ?_) rfl (by kernel_rfl) (by kernel_rfl) (by kernel_rfl) (fun _ _ _ h => h) (Or.inl ⟨by kernel_rfl, ?_⟩) (by with_reducible assumption) ?_
  rotate_left
  · intro wz hSw
    (try dsimp only at hSw)
    go_simp
    (try with_reducible rfl)
  show wpAnyH _ _ _ _ _ _ _ (Act.put _ (some 10) _) _
  (try simp only [Act.put, List.setIfInBounds_toArray, List.set_cons_zero, List.set_cons_succ])
  refine wpAnyH_take (i := 2) (v := ?_) rfl (by kernel_rfl) (by kernel_rfl) (by kernel_rfl) (fun _ _ _ h => h) (Or.inl ⟨by kernel_rfl, ?_⟩) (by with_reducible assumption) ?_
  rotate_left
  · intro wz hSw
    (try dsimp only at hSw)
    go_simp
    (try with_reducible rfl)
  show wpAnyH _ _ _ _ _ _ _ (Act.put _ (some 11) _) _
  (try simp only [Act.put, List.setIfInBounds_toArray, List.set_cons_zero, List.set_cons_succ])
  refine wpAnyH_take (i := 3) (v := .agg cz) rfl (by kernel_rfl) (by kernel_rfl) (by kernel_rfl) (fun _ _ _ h => h) (Or.inl ⟨by kernel_rfl, ?_⟩) (by with_reducible assumption) ?_
  · intro wz hSw
    (try dsimp only at hSw)
    exact exec_load_hash 25 (.tmp 1) rfl w3.heap.size rfl 25 cz (0, 0) _ ((hSw.block _ (row_lt X4.out)).trans X4.out) Try.underlying25 rfl I1.out
  show wpAnyH _ _ _ _ _ _ _ (Act.put _ (some 12) _) _
  (try simp only [Act.put, List.setIfInBounds_toArray, List.set_cons_zero, List.set_cons_succ])
  refine wpAnyH_ready (rs := [4]) (by kernel_rfl) (by simp) ?_
  refine AllReadyH.cons rfl (fun K hK => ?_) AllReadyH.nil
  clear hHeld
  go_simp
  have HZ4 := Lib.hid (show Below w4.heap.size w4 (wd.alloc (.cells #[.int .u8 1] 5)) from HZ0.out.alloc HZ0.out.size _)
  have HLf := Lib.hid (leaf_walk 1 (some ⟨wd.heap.size, 0, none⟩) 1 1 (fun _ => 1) (wd.alloc (.cells #[.int .u8 1] 5)) (one_sl wd (by decide)) (fun h => by cases h) (by decide))
  rw [← HCZ.out] at HLf
  refine hK.out _ _ ?_ (fun hHeld => ?_)
  · exact HZ4.out
  clear hK K
  (try simp only [Act.put, List.setIfInBounds_toArray, List.set_cons_zero, List.set_cons_succ])
  generalize wd.alloc (.cells #[.int .u8 1] 5) = z4 at *
  refine wpAnyH_ready (rs := [5]) (by kernel_rfl) (by simp) ?_
  refine AllReadyH.cons rfl (fun K hK => ?_) AllReadyH.nil
  clear hHeld
  go_simp
  go_at_call 38
  refine (HLf.out).mono ?_
  rintro e z5 ⟨rfl, hb⟩
  have HZ5 := Lib.hid (HZ4.out.trans (hb.mono HZ4.out.size))
  clear hb
  go_wp2_with fail
  refine hK.out _ _ ?_ (fun hHeld => ?_)
  · exact HZ5.out
  clear hK K
  (try simp only [Act.put, List.setIfInBounds_toArray, List.set_cons_zero, List.set_cons_succ])
  refine wpAnyH_take (i := 6) (v := ?_) rfl (by kernel_rfl) (by kernel_rfl) (by kernel_rfl) (fun _ _ _ h => h) (Or.inl ⟨by kernel_rfl, ?_⟩) (by with_reducible assumption) ?_
  rotate_left
  · intro wz hSw
    (try dsimp only at hSw)
    go_simp
    (try with_reducible rfl)
  show wpAnyH _ _ _ _ _ _ _ (Act.put _ (some 15) _) _
  (try simp only [Act.put, List.setIfInBounds_toArray, List.set_cons_zero, List.set_cons_succ])
  refine wpAnyH_take (i := 7) (v := ?_) rfl (by kernel_rfl) (by kernel_rfl) (by kernel_rfl) (fun _ _ _ h => h) (Or.inl ⟨by kernel_rfl, ?_⟩) (by with_reducible assumption) ?_
  rotate_left
  · intro wz hSw
    (try dsimp only at hSw)
    go_simp
    (try with_reducible rfl)
  show wpAnyH _ _ _ _ _ _ _ (Act.put _ (some 16) _) _
  (try simp only [Act.put, List.setIfInBounds_toArray, List.set_cons_zero, List.set_cons_succ])
  refine wpAnyH_take (i := 8) (v := ?_) rfl (by kernel_rfl) (by kernel_rfl) (by kernel_rfl) (fun _ _ _ h => h) (Or.inl ⟨by kernel_rfl, ?_⟩) (by with_reducible assumption) ?_
  rotate_left
  · intro wz hSw
    (try dsimp only at hSw)
    go_simp
    (try with_reducible rfl)
  show wpAnyH _ _ _ _ _ _ _ (Act.put _ (some 17) _) _
  (try simp only [Act.put, List.setIfInBounds_toArray, List.set_cons_zero, List.set_cons_succ])
  refine wpAnyH_ready (rs := [9]) (by kernel_rfl) (by simp) ?_
  refine AllReadyH.cons rfl (fun K hK => ?_) AllReadyH.nil
  clear hHeld
  go_simp
  go_at_call 36
  refine (HDp.out _).mono ?_
  rintro e wM ⟨rfl, hw⟩
  rw [← hw]
  clear hw wM
  go_wp2_with fail
  refine hK.out _ _ ?_ (fun hHeld => ?_)
  · exact HZ5.out
  clear hK K
  (try simp only [Act.put, List.setIfInBounds_toArray, List.set_cons_zero, List.set_cons_succ])
  refine wpAnyH_take (i := 10) (v := ?_) rfl (by kernel_rfl) (by kernel_rfl) (by kernel_rfl) (fun _ _ _ h => h) (Or.inl ⟨by kernel_rfl, ?_⟩) (by with_reducible assumption) ?_
  rotate_left
  · intro wz hSw
    (try dsimp only at hSw)
    go_simp
    (try with_reducible rfl)
  show wpAnyH _ _ _ _ _ _ _ (Act.put _ (some 19) _) _
  (try simp only [Act.put, List.setIfInBounds_toArray, List.set_cons_zero, List.set_cons_succ])
  refine wpAnyH_take (i := 11) (v := ?_) rfl (by kernel_rfl) (by kernel_rfl) (by kernel_rfl) (fun _ _ _ h => h) (Or.inl ⟨by kernel_rfl, ?_⟩) (by with_reducible assumption) ?_
  rotate_left
  · intro wz hSw
    (try dsimp only at hSw)
    go_simp
    (try with_reducible rfl)
  show wpAnyH _ _ _ _ _ _ _ (Act.put _ (some 20) _) _
  (try simp only [Act.put, List.setIfInBounds_toArray, List.set_cons_zero, List.set_cons_succ])
  refine wpAnyH_take (i := 12) (v := ?_) rfl (by kernel_rfl) (by kernel_rfl) (by kernel_rfl) (fun _ _ _ h => h) (Or.inl ⟨by kernel_rfl, ?_⟩) (by with_reducible assumption) ?_
  rotate_left
  · intro wz hSw
    (try dsimp only at hSw)
    go_simp
    (try with_reducible rfl)
  show wpAnyH _ _ _ _ _ _ _ (Act.put _ (some 0) _) _
  (try simp only [Act.put, List.setIfInBounds_toArray, List.set_cons_zero, List.set_cons_succ])
  refine wpAnyH_done (by kernel_rfl) ?_ _
  go_wp2
  go_ret
  exact ⟨rfl, HB4.out.trans (HZ5.out.mono HB4.out.size)⟩
end Go.Proofs.Ytjemgoifemdoeaa
