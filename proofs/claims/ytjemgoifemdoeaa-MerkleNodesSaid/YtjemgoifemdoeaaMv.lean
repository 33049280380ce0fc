/- The document's Tree: Node. -/
import Derived.Test.YtjemgoifemdoeaaMu
namespace Go.Proofs.Ytjemgoifemdoeaa
open Go.RowKit

theorem off_new3 {w : World} {p D B n c N : Nat} {v : Value} {l : List Value} {A : Option Addr} (h : TreeAt w p v l) (hD : D = w.heap.size + 1 + 1 + 1) (hB : D ≤ B) (ho : ∀ k, (Value.slice A n c).ownBlock = some k → B ≤ k ∧ k < N) : Off p v A := by
  rintro a rfl
  have h1 := (ho a.block rfl).1
  have h2 := h.lt
  exact ⟨by omega, fun e => absurd (h.own _ e).2 (by omega)⟩
theorem row_kept3 {p : Nat} {v v' : Value} {l : List Value} {w w2 w3 : World} (h : TreeAt w p v l) (hs : Sums p v v' w2 w3) (hlt : w.heap.size + 1 + 1 < w2.heap.size) : w3.heap[w.heap.size + 1 + 1]? = w2.heap[w.heap.size + 1 + 1]? :=
  hs.block _ hlt (by have := h.lt; omega) (fun e => absurd (h.own _ e).2 (by omega))
theorem own_kept3 {p : Nat} {v v' : Value} {l : List Value} {w w2 w3 : World} (h : TreeAt w p v l) (hs : Sums p v v' w2 w3) (hlt : w.heap.size + 1 + 1 < w2.heap.size) : v'.ownBlock ≠ some (w.heap.size + 1 + 1) := by
  rcases hs.own with e | e
  · rw [e]; exact fun e2 => absurd (h.own _ e2).2 (by omega)
  · exact fun e2 => absurd (e _ e2) (by omega)
theorem own_weaken {w : World} {B C n s : Nat} {e : TypeId} {v : Value} {xs : List Value} (h : w.ownsRow B e s v n xs) (hc : C ≤ B) : w.ownsRow C e s v n xs := by
  refine ⟨h.1, ?_⟩
  rcases h.2 with hn | ⟨g, cap, cur, hv, hb, rest⟩
  · exact .inl hn
  · exact .inr ⟨g, cap, cur, hv, Nat.le_trans hc hb, rest⟩
set_option maxRecDepth 100000 in
set_option maxHeartbeats 2000000 in
theorem tnode_walk (k : Int) (p : Nat) (v : Value) (l : List Value) (fa fb : Nat → Nat) (w : World) (hfa : ∀ i, fa i < 256) (hfb : ∀ i, fb i < 256) (ht : TreeAt w p v l) (hlen : l.length ≤ 1048576) :
    Calls Try.prog 41 #[.pointer (some ⟨p, 0, none⟩), .int .i64 k, .agg (bys fa 32).toArray, .agg (bys fb 32).toArray] w fun e w' => e = .returned (.agg (bys (nodeV k fa fb) 32).toArray) ∧ ∃ v' l', TreeAt w' p v' l' ∧ l'.length ≤ l.length + 1 ∧ Sums p v v' w w' := by
  obtain ⟨ca, eca⟩ : ∃ ca, ca = (bys fa 32).toArray := ⟨_, rfl⟩
  obtain ⟨cb, ecb⟩ : ∃ ca, ca = (bys fb 32).toArray := ⟨_, rfl⟩
  rw [← eca, ← ecb]
  obtain ⟨w1, e1⟩ : ∃ w1, w1 = ((w.alloc (.cells ca 25)).alloc (.cells cb 25)).alloc (.cells h32 25) := ⟨_, rfl⟩
  have HS1 := Lib.hid (show w1.heap.size = w.heap.size + 1 + 1 + 1 by rw [e1]; simp)
  have HB1 := Lib.hid (show Below w.heap.size w w1 by rw [e1]; exact (((Below.refl _ _).alloc (Nat.le_refl _) _).alloc (by simp) _).alloc (by simp; omega) _)
  have A1 := Lib.hid (show w1.heap[w.heap.size]? = some (.cells ca 25 (0, 0)) by rw [e1]; exact (heap_alloc_old _ _ (by simp; omega)).trans ((heap_alloc_old _ _ (by simp)).trans (heap_alloc_new _ _)))
  have B1 := Lib.hid (show w1.heap[w.heap.size + 1]? = some (.cells cb 25 (0, 0)) by rw [e1]; exact (heap_alloc_old _ _ (by simp)).trans (heap_alloc2_new _ _ _))
  have R1 := Lib.hid (show w1.heap[w.heap.size + 1 + 1]? = some (.cells h32 25 (0, 0)) by
    rw [e1, show w.heap.size + 1 + 1 = ((w.alloc (.cells ca 25)).alloc (.cells cb 25)).heap.size by simp]; exact heap_alloc_new _ _)
  have E1 := Lib.hid e1
  have HSA := Lib.hid (hash_sl hfa eca A1.out)
  have HSB := Lib.hid (hash_sl hfb ecb B1.out)
  have HT := Lib.hid ht
  have hlt := ht.lt
  clear e1 ht eca ecb
  by_cases hk : isK k
  · obtain ⟨cz, ecz⟩ : ∃ cz, cz = (bys (nodeV k fa fb) 32).toArray := ⟨_, rfl⟩
    obtain ⟨i1, i2, i3⟩ := hash_out ecz
    have I1 := Lib.hid i1
    have I2 := Lib.hid i2
    have I3 := Lib.hid i3
    have ha1 := hash_all w.heap.size
    have ha2 := hash_all (w.heap.size + 1)
    rw [← ecz]
    clear i1 i2 i3
    rcases hk with rfl | rfl
    · have HCZ := Lib.hid (show cz = (bys (shaF (1 + 32 + 32) (cat (cat (fun _ => 3) 1 fa) (1 + 32) fb)) 32).toArray from by rw [ecz]; rfl)
      have HCL := Lib.hid (cat_lt (n := 1 + 32) (f := cat (fun _ => 3) 1 fa) (g := fb) (cat_lt (n := 1) (fun _ => by decide) hfa) hfb)
      clear ecz
      go_enter Try.func41, Try.ntmps41
      go_upto_region 1 with fail
      show Code.wp _ _ _ _ (((w.alloc (.cells ca 25)).alloc (.cells cb 25)).alloc (.cells h32 25))
      rw [← E1.out]
      go_upto_region 3 with fail
      refine wp_region_held_drew (S := fun w' => ∃ v', Sums p v v' w w') (by kernel_rfl) ?_ (fun hHeld => ?_)
      · exact ⟨v, Sums.of_below HB1.out.drew⟩
      have HZ0 := Lib.hid (show Below w1.heap.size w1 w1.drew from (Below.refl _ _).drew)
      generalize w1.drew = wd at *
      refine wpAnyH_take (i := 0) (v := ?_) rfl (by kernel_rfl) (by kernel_rfl) (by kernel_rfl) (fun _ _ _ h => h) (Or.inl ⟨by kernel_rfl, ?_⟩) (by with_reducible assumption) ?_
      rotate_left
      · intro wz hSw
        (try dsimp only at hSw)
        go_simp
        (try with_reducible rfl)
      show wpAnyH _ _ _ _ _ _ _ (Act.put _ (some 16) _) _
      (try simp only [Act.put, List.setIfInBounds_toArray, List.set_cons_zero, List.set_cons_succ])
      refine wpAnyH_take (i := 1) (v := ?_) rfl (by kernel_rfl) (by kernel_rfl) (by kernel_rfl) (fun _ _ _ h => h) (Or.inl ⟨by kernel_rfl, ?_⟩) (by with_reducible assumption) ?_
      rotate_left
      · intro wz hSw
        (try dsimp only at hSw)
        go_simp
        (try with_reducible rfl)
      show wpAnyH _ _ _ _ _ _ _ (Act.put _ (some 17) _) _
      (try simp only [Act.put, List.setIfInBounds_toArray, List.set_cons_zero, List.set_cons_succ])
      refine wpAnyH_take (i := 2) (v := .int .i64 2) rfl (by kernel_rfl) (by kernel_rfl) (by kernel_rfl) (fun _ _ _ h => h) (Or.inl ⟨by kernel_rfl, ?_⟩) (by with_reducible assumption) ?_
      · intro wz hSw
        (try dsimp only at hSw)
        first | (go_simp; done) | (go_simp; rfl) | kernel_rfl
      show wpAnyH _ _ _ _ _ _ _ (Act.put _ (some 18) _) _
      (try simp only [Act.put, List.setIfInBounds_toArray, List.set_cons_zero, List.set_cons_succ])
      refine wpAnyH_take (i := 3) (v := .int .i64 3) rfl (by kernel_rfl) (by kernel_rfl) (by kernel_rfl) (fun _ _ _ h => h) (Or.inl ⟨by kernel_rfl, ?_⟩) (by with_reducible assumption) ?_
      · intro wz hSw
        (try dsimp only at hSw)
        first | (go_simp; done) | (go_simp; rfl) | kernel_rfl
      show wpAnyH _ _ _ _ _ _ _ (Act.put _ (some 19) _) _
      (try simp only [Act.put, List.setIfInBounds_toArray, List.set_cons_zero, List.set_cons_succ])
      refine wpAnyH_take (i := 4) (v := .int .u8 3) rfl (by kernel_rfl) (by kernel_rfl) (by kernel_rfl) (fun _ _ _ h => h) (Or.inl ⟨by kernel_rfl, ?_⟩) (by with_reducible assumption) ?_
      · intro wz hSw
        (try dsimp only at hSw)
        first | (go_simp; done) | (go_simp; rfl) | kernel_rfl
      show wpAnyH _ _ _ _ _ _ _ (Act.put _ (some 20) _) _
      (try simp only [Act.put, List.setIfInBounds_toArray, List.set_cons_zero, List.set_cons_succ])
      refine wpAnyH_take (i := 6) (v := .slice (some ⟨w.heap.size, 0, none⟩) 32 32) rfl (by kernel_rfl) (by kernel_rfl) (by kernel_rfl) (fun _ _ _ h => h) (Or.inl ⟨by kernel_rfl, ?_⟩) (by with_reducible assumption) ?_
      · intro wz hSw
        (try dsimp only at hSw)
        go_simp
      show wpAnyH _ _ _ _ _ _ _ (Act.put _ (some 22) _) _
      (try simp only [Act.put, List.setIfInBounds_toArray, List.set_cons_zero, List.set_cons_succ])
      refine wpAnyH_take (i := 8) (v := .slice (some ⟨w.heap.size + 1, 0, none⟩) 32 32) rfl (by kernel_rfl) (by kernel_rfl) (by kernel_rfl) (fun _ _ _ h => h) (Or.inl ⟨by kernel_rfl, ?_⟩) (by with_reducible assumption) ?_
      · intro wz hSw
        (try dsimp only at hSw)
        go_simp
      show wpAnyH _ _ _ _ _ _ _ (Act.put _ (some 24) _) _
      (try simp only [Act.put, List.setIfInBounds_toArray, List.set_cons_zero, List.set_cons_succ])
      refine wpAnyH_ready (rs := [5]) (by kernel_rfl) (by simp) ?_
      refine AllReadyH.cons rfl (fun K hK => ?_) AllReadyH.nil
      clear hHeld
      go_simp
      have HZ5 := Lib.hid (show Below w1.heap.size w1 (wd.alloc (.cells #[.int .u8 3] 5)) from HZ0.out.alloc HZ0.out.size _)
      have HO5 := Lib.hid (own_lit wd (.int .u8 3))
      have HQ5 := Lib.hid (show wd.heap.size ≤ (wd.alloc (.cells #[.int .u8 3] 5)).heap.size by simp)
      refine hK.out _ _ ?_ (fun hHeld => ?_)
      · exact ⟨v, Sums.of_below (HB1.out.trans (HZ5.out.mono HB1.out.size))⟩
      clear hK K
      (try simp only [Act.put, List.setIfInBounds_toArray, List.set_cons_zero, List.set_cons_succ])
      have HQ0 := Lib.hid HZ0.out.size
      generalize wd.alloc (.cells #[.int .u8 3] 5) = z5 at *
      refine wpAnyH_ready (rs := [7]) (by kernel_rfl) (by simp) ?_
      refine AllReadyH.cons rfl (fun K hK => ?_) AllReadyH.nil
      clear hHeld
      rw [if_pos (by rfl)]
      refine wp_append_bys (.tmp 21) (.tmp 22) rfl wd.heap.size _ 1 (bys (fun _ => 3) 1) rfl HO5.out (some ⟨w.heap.size, 0, none⟩) 32 32 fa rfl (HSA.out.below HZ5.out) (fun h => by cases h) (by decide) HQ5.out ?_
      intro v7 z7 h7 g7
      rw [bys_cat] at h7
      have HZ7 := Lib.hid (own_grown (own_weaken HO5.out HQ0.out) HZ5.out g7 HZ5.out.size)
      have HO7 := Lib.hid h7
      have HQ7 := Lib.hid (Nat.le_trans HQ5.out g7.size)
      clear h7 g7
      refine hK.out _ _ ?_ (fun hHeld => ?_)
      · exact ⟨v, Sums.of_below (HB1.out.trans (HZ7.out.mono HB1.out.size))⟩
      clear hK K
      (try simp only [Act.put, List.setIfInBounds_toArray, List.set_cons_zero, List.set_cons_succ])
      refine wpAnyH_ready (rs := [9]) (by kernel_rfl) (by simp) ?_
      refine AllReadyH.cons rfl (fun K hK => ?_) AllReadyH.nil
      clear hHeld
      rw [if_pos (by rfl)]
      refine wp_append_bys (.tmp 23) (.tmp 24) rfl wd.heap.size _ (1 + 32) (bys (cat (fun _ => 3) 1 fa) (1 + 32)) rfl HO7.out (some ⟨w.heap.size + 1, 0, none⟩) 32 32 fb rfl (HSB.out.below HZ7.out) (fun h => by cases h) (by decide) HQ7.out ?_
      intro v9 z9 h9 g9
      rw [bys_cat] at h9
      have HZ9 := Lib.hid (own_grown (own_weaken HO7.out HQ0.out) HZ7.out g9 HZ7.out.size)
      have hlo := h9.lt
      obtain ⟨A9, c9, rfl, hs9, hz9⟩ := own_sl h9 HCL.out
      have HW9 := Lib.hid (show w.heap.size + 1 + 1 < z9.heap.size by have := HZ9.out.size; have := HS1.out; omega)
      have HN9 := Lib.hid (tsum_walk p v l A9 (1 + 32 + 32) c9 _ z9 (HT.out.below (HB1.out.trans (HZ9.out.mono HB1.out.size))) hlen hs9 hz9 (by decide) (off_new3 HT.out HS1.out HQ0.out hlo))
      clear h9 g9 hs9 hz9 hlo
      refine hK.out _ _ ?_ (fun hHeld => ?_)
      · exact ⟨v, Sums.of_below (HB1.out.trans (HZ9.out.mono HB1.out.size))⟩
      clear hK K
      (try simp only [Act.put, List.setIfInBounds_toArray, List.set_cons_zero, List.set_cons_succ])
      refine wpAnyH_ready (rs := [10]) (by kernel_rfl) (by simp) ?_
      refine AllReadyH.cons rfl (fun K hK => ?_) AllReadyH.nil
      clear hHeld
      go_simp
      go_at_call 68
      refine HN9.out.mono ?_
      rintro e z10 ⟨rfl, v10, ht10, hs10⟩
      rw [← HCZ.out]
      have T10 := Lib.hid ht10
      have S10 := Lib.hid ((Sums.of_below (HB1.out.trans (HZ9.out.mono HB1.out.size))).trans hs10)
      have R10 := Lib.hid ((row_kept3 HT.out hs10 HW9.out).trans ((HZ9.out.block _ (row_lt R1.out)).trans R1.out))
      have V10 := Lib.hid (own_kept3 HT.out hs10 HW9.out)
      clear ht10 hs10
      go_wp2_with fail
      refine hK.out _ _ ?_ (fun hHeld => ?_)
      · exact ⟨v10, S10.out⟩
      clear hK K
      (try simp only [Act.put, List.setIfInBounds_toArray, List.set_cons_zero, List.set_cons_succ])
      refine wpAnyH_ready (rs := [11]) (by kernel_rfl) (by simp) ?_
      refine AllReadyH.cons rfl (fun K hK => ?_) AllReadyH.nil
      clear hHeld
      rw [if_pos (by rfl)]
      refine wp_store_row 25 (.tmp 8) (.tmp 26) rfl (w.heap.size + 1 + 1) cz rfl rfl 25 h32 R10.out I1.out I2.out I3.out ?_
      refine hK.out _ _ ?_ (fun hHeld => ?_)
      · exact ⟨v10, S10.out.row (by omega) _⟩
      clear hK K
      refine wpAnyH_done (by kernel_rfl) ?_ _
      go_wp2_with fail
      exact bodyPost_ret (v := .agg cz) (results_cell_row rfl _ _ (w.heap.size + 1 + 1) 25 cz (0, 0) _ rfl (setRow_heap _ _ h32 _ _ _ R10.out) Try.underlying25 rfl I1.out) rfl ⟨rfl, v10, _, T10.out.row (by omega) V10.out _, by simp, S10.out.row (by omega) _⟩
    · have HCZ := Lib.hid (show cz = (bys (shaF (1 + 32 + 32) (cat (cat (fun _ => 5) 1 fa) (1 + 32) fb)) 32).toArray from by rw [ecz]; rfl)
      have HCL := Lib.hid (cat_lt (n := 1 + 32) (f := cat (fun _ => 5) 1 fa) (g := fb) (cat_lt (n := 1) (fun _ => by decide) hfa) hfb)
      clear ecz
      go_enter Try.func41, Try.ntmps41
      go_upto_region 1 with fail
      show Code.wp _ _ _ _ (((w.alloc (.cells ca 25)).alloc (.cells cb 25)).alloc (.cells h32 25))
      rw [← E1.out]
      go_upto_region 3 with fail
      refine wp_region_held_drew (S := fun w' => ∃ v', Sums p v v' w w') (by kernel_rfl) ?_ (fun hHeld => ?_)
      · exact ⟨v, Sums.of_below HB1.out.drew⟩
      have HZ0 := Lib.hid (show Below w1.heap.size w1 w1.drew from (Below.refl _ _).drew)
      generalize w1.drew = wd at *
      refine wpAnyH_take (i := 0) (v := ?_) rfl (by kernel_rfl) (by kernel_rfl) (by kernel_rfl) (fun _ _ _ h => h) (Or.inl ⟨by kernel_rfl, ?_⟩) (by with_reducible assumption) ?_
      rotate_left
      · intro wz hSw
        (try dsimp only at hSw)
        go_simp
        (try with_reducible rfl)
      show wpAnyH _ _ _ _ _ _ _ (Act.put _ (some 16) _) _
      (try simp only [Act.put, List.setIfInBounds_toArray, List.set_cons_zero, List.set_cons_succ])
      refine wpAnyH_take (i := 1) (v := ?_) rfl (by kernel_rfl) (by kernel_rfl) (by kernel_rfl) (fun _ _ _ h => h) (Or.inl ⟨by kernel_rfl, ?_⟩) (by with_reducible assumption) ?_
      rotate_left
      · intro wz hSw
        (try dsimp only at hSw)
        go_simp
        (try with_reducible rfl)
      show wpAnyH _ _ _ _ _ _ _ (Act.put _ (some 17) _) _
      (try simp only [Act.put, List.setIfInBounds_toArray, List.set_cons_zero, List.set_cons_succ])
      refine wpAnyH_take (i := 2) (v := .int .i64 4) rfl (by kernel_rfl) (by kernel_rfl) (by kernel_rfl) (fun _ _ _ h => h) (Or.inl ⟨by kernel_rfl, ?_⟩) (by with_reducible assumption) ?_
      · intro wz hSw
        (try dsimp only at hSw)
        first | (go_simp; done) | (go_simp; rfl) | kernel_rfl
      show wpAnyH _ _ _ _ _ _ _ (Act.put _ (some 18) _) _
      (try simp only [Act.put, List.setIfInBounds_toArray, List.set_cons_zero, List.set_cons_succ])
      refine wpAnyH_take (i := 3) (v := .int .i64 5) rfl (by kernel_rfl) (by kernel_rfl) (by kernel_rfl) (fun _ _ _ h => h) (Or.inl ⟨by kernel_rfl, ?_⟩) (by with_reducible assumption) ?_
      · intro wz hSw
        (try dsimp only at hSw)
        first | (go_simp; done) | (go_simp; rfl) | kernel_rfl
      show wpAnyH _ _ _ _ _ _ _ (Act.put _ (some 19) _) _
      (try simp only [Act.put, List.setIfInBounds_toArray, List.set_cons_zero, List.set_cons_succ])
      refine wpAnyH_take (i := 4) (v := .int .u8 5) rfl (by kernel_rfl) (by kernel_rfl) (by kernel_rfl) (fun _ _ _ h => h) (Or.inl ⟨by kernel_rfl, ?_⟩) (by with_reducible assumption) ?_
      · intro wz hSw
        (try dsimp only at hSw)
        first | (go_simp; done) | (go_simp; rfl) | kernel_rfl
      show wpAnyH _ _ _ _ _ _ _ (Act.put _ (some 20) _) _
      (try simp only [Act.put, List.setIfInBounds_toArray, List.set_cons_zero, List.set_cons_succ])
      refine wpAnyH_take (i := 6) (v := .slice (some ⟨w.heap.size, 0, none⟩) 32 32) rfl (by kernel_rfl) (by kernel_rfl) (by kernel_rfl) (fun _ _ _ h => h) (Or.inl ⟨by kernel_rfl, ?_⟩) (by with_reducible assumption) ?_
      · intro wz hSw
        (try dsimp only at hSw)
        go_simp
      show wpAnyH _ _ _ _ _ _ _ (Act.put _ (some 22) _) _
      (try simp only [Act.put, List.setIfInBounds_toArray, List.set_cons_zero, List.set_cons_succ])
      refine wpAnyH_take (i := 8) (v := .slice (some ⟨w.heap.size + 1, 0, none⟩) 32 32) rfl (by kernel_rfl) (by kernel_rfl) (by kernel_rfl) (fun _ _ _ h => h) (Or.inl ⟨by kernel_rfl, ?_⟩) (by with_reducible assumption) ?_
      · intro wz hSw
        (try dsimp only at hSw)
        go_simp
      show wpAnyH _ _ _ _ _ _ _ (Act.put _ (some 24) _) _
      (try simp only [Act.put, List.setIfInBounds_toArray, List.set_cons_zero, List.set_cons_succ])
      refine wpAnyH_ready (rs := [5]) (by kernel_rfl) (by simp) ?_
      refine AllReadyH.cons rfl (fun K hK => ?_) AllReadyH.nil
      clear hHeld
      go_simp
      have HZ5 := Lib.hid (show Below w1.heap.size w1 (wd.alloc (.cells #[.int .u8 5] 5)) from HZ0.out.alloc HZ0.out.size _)
      have HO5 := Lib.hid (own_lit wd (.int .u8 5))
      have HQ5 := Lib.hid (show wd.heap.size ≤ (wd.alloc (.cells #[.int .u8 5] 5)).heap.size by simp)
      refine hK.out _ _ ?_ (fun hHeld => ?_)
      · exact ⟨v, Sums.of_below (HB1.out.trans (HZ5.out.mono HB1.out.size))⟩
      clear hK K
      (try simp only [Act.put, List.setIfInBounds_toArray, List.set_cons_zero, List.set_cons_succ])
      have HQ0 := Lib.hid HZ0.out.size
      generalize wd.alloc (.cells #[.int .u8 5] 5) = z5 at *
      refine wpAnyH_ready (rs := [7]) (by kernel_rfl) (by simp) ?_
      refine AllReadyH.cons rfl (fun K hK => ?_) AllReadyH.nil
      clear hHeld
      rw [if_pos (by rfl)]
      refine wp_append_bys (.tmp 21) (.tmp 22) rfl wd.heap.size _ 1 (bys (fun _ => 5) 1) rfl HO5.out (some ⟨w.heap.size, 0, none⟩) 32 32 fa rfl (HSA.out.below HZ5.out) (fun h => by cases h) (by decide) HQ5.out ?_
      intro v7 z7 h7 g7
      rw [bys_cat] at h7
      have HZ7 := Lib.hid (own_grown (own_weaken HO5.out HQ0.out) HZ5.out g7 HZ5.out.size)
      have HO7 := Lib.hid h7
      have HQ7 := Lib.hid (Nat.le_trans HQ5.out g7.size)
      clear h7 g7
      refine hK.out _ _ ?_ (fun hHeld => ?_)
      · exact ⟨v, Sums.of_below (HB1.out.trans (HZ7.out.mono HB1.out.size))⟩
      clear hK K
      (try simp only [Act.put, List.setIfInBounds_toArray, List.set_cons_zero, List.set_cons_succ])
      refine wpAnyH_ready (rs := [9]) (by kernel_rfl) (by simp) ?_
      refine AllReadyH.cons rfl (fun K hK => ?_) AllReadyH.nil
      clear hHeld
      rw [if_pos (by rfl)]
      refine wp_append_bys (.tmp 23) (.tmp 24) rfl wd.heap.size _ (1 + 32) (bys (cat (fun _ => 5) 1 fa) (1 + 32)) rfl HO7.out (some ⟨w.heap.size + 1, 0, none⟩) 32 32 fb rfl (HSB.out.below HZ7.out) (fun h => by cases h) (by decide) HQ7.out ?_
      intro v9 z9 h9 g9
      rw [bys_cat] at h9
      have HZ9 := Lib.hid (own_grown (own_weaken HO7.out HQ0.out) HZ7.out g9 HZ7.out.size)
      have hlo := h9.lt
      obtain ⟨A9, c9, rfl, hs9, hz9⟩ := own_sl h9 HCL.out
      have HW9 := Lib.hid (show w.heap.size + 1 + 1 < z9.heap.size by have := HZ9.out.size; have := HS1.out; omega)
      have HN9 := Lib.hid (tsum_walk p v l A9 (1 + 32 + 32) c9 _ z9 (HT.out.below (HB1.out.trans (HZ9.out.mono HB1.out.size))) hlen hs9 hz9 (by decide) (off_new3 HT.out HS1.out HQ0.out hlo))
      clear h9 g9 hs9 hz9 hlo
      refine hK.out _ _ ?_ (fun hHeld => ?_)
      · exact ⟨v, Sums.of_below (HB1.out.trans (HZ9.out.mono HB1.out.size))⟩
      clear hK K
      (try simp only [Act.put, List.setIfInBounds_toArray, List.set_cons_zero, List.set_cons_succ])
      refine wpAnyH_ready (rs := [10]) (by kernel_rfl) (by simp) ?_
      refine AllReadyH.cons rfl (fun K hK => ?_) AllReadyH.nil
      clear hHeld
      go_simp
      go_at_call 68
      refine HN9.out.mono ?_
      rintro e z10 ⟨rfl, v10, ht10, hs10⟩
      rw [← HCZ.out]
      have T10 := Lib.hid ht10
      have S10 := Lib.hid ((Sums.of_below (HB1.out.trans (HZ9.out.mono HB1.out.size))).trans hs10)
      have R10 := Lib.hid ((row_kept3 HT.out hs10 HW9.out).trans ((HZ9.out.block _ (row_lt R1.out)).trans R1.out))
      have V10 := Lib.hid (own_kept3 HT.out hs10 HW9.out)
      clear ht10 hs10
      go_wp2_with fail
      refine hK.out _ _ ?_ (fun hHeld => ?_)
      · exact ⟨v10, S10.out⟩
      clear hK K
      (try simp only [Act.put, List.setIfInBounds_toArray, List.set_cons_zero, List.set_cons_succ])
      refine wpAnyH_ready (rs := [11]) (by kernel_rfl) (by simp) ?_
      refine AllReadyH.cons rfl (fun K hK => ?_) AllReadyH.nil
      clear hHeld
      rw [if_pos (by rfl)]
      refine wp_store_row 25 (.tmp 8) (.tmp 26) rfl (w.heap.size + 1 + 1) cz rfl rfl 25 h32 R10.out I1.out I2.out I3.out ?_
      refine hK.out _ _ ?_ (fun hHeld => ?_)
      · exact ⟨v10, S10.out.row (by omega) _⟩
      clear hK K
      refine wpAnyH_done (by kernel_rfl) ?_ _
      go_wp2_with fail
      exact bodyPost_ret (v := .agg cz) (results_cell_row rfl _ _ (w.heap.size + 1 + 1) 25 cz (0, 0) _ rfl (setRow_heap _ _ h32 _ _ _ R10.out) Try.underlying25 rfl I1.out) rfl ⟨rfl, v10, _, T10.out.row (by omega) V10.out _, by simp, S10.out.row (by omega) _⟩
  · have h1 : (k == 1) = false := by rw [beq_eq_false_iff_ne]; exact fun e => hk (.inl e)
    have h2 : (k == 2) = false := by rw [beq_eq_false_iff_ne]; exact fun e => hk (.inr e)
    have h3 : (k != 1) = true := by simp only [bne, h1]; rfl
    have h4 : (k != 2) = true := by simp only [bne, h2]; rfl
    have hlv : nodeV k fa fb = fun _ => 0 := by unfold nodeV; rw [if_neg hk]
    rw [hlv]
    show Calls _ _ _ _ fun e w' => e = .returned (.agg h32) ∧ _
    have T1 := Lib.hid (HT.out.below HB1.out)
    clear hk hlv
    go_enter Try.func41, Try.ntmps41
    go_upto_region 1 with fail
    show Code.wp _ _ _ _ (((w.alloc (.cells ca 25)).alloc (.cells cb 25)).alloc (.cells h32 25))
    rw [← E1.out]
    go_wp2_with ((with_reducible refine wpList_store_row rfl 25 (.tmp 8) (.tmp 15) rfl (w.heap.size + 1 + 1) h32 ?_ ?_ 25 h32 ?_ ?_ ?_ ?_ ?_); (· rfl); (· rfl); (· exact R1.out); (· exact h32_info); (· rfl); (· exact bys_all _ _))
    exact bodyPost_ret (v := .agg h32) (results_cell_row rfl _ _ (w.heap.size + 1 + 1) 25 h32 (0, 0) _ rfl (setRow_heap _ _ h32 _ _ _ R1.out) Try.underlying25 rfl h32_info) rfl ⟨rfl, v, _, T1.out.row (by omega) (fun e => absurd (HT.out.own _ e).2 (by omega)) _, by simp, (Sums.of_below HB1.out).row (by omega) _⟩
end Go.Proofs.Ytjemgoifemdoeaa
