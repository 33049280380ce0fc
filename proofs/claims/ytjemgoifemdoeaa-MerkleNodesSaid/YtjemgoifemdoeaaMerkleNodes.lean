/- The law MerkleNodes, walked. -/
import Derived.Test.YtjemgoifemdoeaaMv
import Derived.Test.YtjemgoifemdoeaaMe
import Derived.Deep.MidRow
namespace Go.Proofs.Ytjemgoifemdoeaa
open Go.RowKit

theorem exec_load_mid {P : Program} {o : Oper} {a : Act} {w : World} (ty : TypeId) (x : Operand) (ho : o.op = .load ty x) (b f : Nat) (hx : a.eval x = .pointer (some ⟨b, f, none⟩)) (cs : Array Value) (d : TypeDesc) (hc : w.rangeAt b f cs.toList)
    (hu : P.underlying ty = some d) (hd : d.isRow = true) (hi : (P.info? ty).map (·.size) = some cs.size) : (execOp a.eval o).run P w = .ok (.value (.agg cs)) w := by
  unfold execOp
  simp only [ho, hx, Sem.run_bind, Result.andThen_ok, run_loadAt_mid w b f ty cs.toList d hc hu hd (by simpa using hi), Sem.run_pure, Array.toArray_toList]
theorem range_of {w : World} {b o : Nat} {all : Array Value} {cs : Array Value} {t : TypeId} (h : w.heap[b]? = some (.cells all t (0, 0))) (hc : ∀ j v, cs.toList[j]? = some v → all[o + j]? = some v) : w.rangeAt b o cs.toList := fun j v hv => by
  rw [World.cell?]
  simp only [h]
  exact hc j v hv
theorem rangeAt_below {w w' : World} {b o B : Nat} {cs : List Value} (h : w.rangeAt b o cs) (hB : b < B) (hb : Below B w w') : w'.rangeAt b o cs := fun j v hv => (World.cell?_of_block (hb.block _ hB)).trans (h j v hv)
set_option maxRecDepth 100000 in
set_option maxHeartbeats 4000000 in
theorem merkleNodes_walk (k : Int) (A : Option Addr) (n c : Nat) (f fa fb : Nat → Nat) (w : World) (hl : Sl w A n f) (hz : A = none → n = 0 ∧ c = 0) (hfa : ∀ i, fa i < 256) (hfb : ∀ i, fb i < 256) :
    Calls Try.prog 8 #[.int .i64 k, .slice A n c, .agg (bys fa 32 ++ bys fb 32).toArray] w fun e w' => e = .returned (.bool true) ∧ Below w.heap.size w w' := by
  have HLv := Lib.hid (fun w => lives06 w)
  obtain ⟨cab, ecab⟩ : ∃ cab, cab = (bys fa 32 ++ bys fb 32).toArray := ⟨_, rfl⟩
  rw [← ecab]
  by_cases hn : 500 < n
  · have p1 : (500 : Int) < n := by omega
    clear hl hz hfa hfb ecab
    go_enter Try.func8, Try.ntmps8
    go_wp2_with fail
    refine (HLv.out _).mono ?_
    rintro e w2 ⟨rfl, hb⟩
    have HB := Lib.hid ((show Below w.heap.size w (w.alloc (.cells cab 61)) from (Below.refl _ _).alloc (Nat.le_refl _) _).trans (hb.mono (show w.heap.size ≤ (w.alloc (.cells cab 61)).heap.size by simp)))
    clear hb
    go_wp2
    go_ret
    exact ⟨rfl, HB.out⟩
  have p1 : ¬ (500 : Int) < n := by omega
  obtain ⟨w3, e3⟩ : ∃ w3, w3 = (w.alloc (.cells cab 61)).alloc (.cells #[.slice none 0 0] 50) := ⟨_, rfl⟩
  have HB3 := Lib.hid (show Below w.heap.size w w3 by rw [e3]; exact ((Below.refl _ _).alloc (Nat.le_refl _) _).alloc (by simp) _)
  have T3 := Lib.hid (show TreeAt w3 (w.heap.size + 1) (.slice none 0 0) [] from ⟨by rw [e3]; exact heap_alloc2_new _ _ _, World.ownsRow_nil _ _ _ _⟩)
  have P3 : w3.heap[w.heap.size]? = some (.cells cab 61 (0, 0)) := by rw [e3]; exact (heap_alloc_old _ _ (by simp)).trans (heap_alloc_new _ _)
  obtain ⟨cfa, ecfa⟩ : ∃ ca, ca = (bys fa 32).toArray := ⟨_, rfl⟩
  obtain ⟨cfb, ecfb⟩ : ∃ ca, ca = (bys fb 32).toArray := ⟨_, rfl⟩
  have RA := Lib.hid (show w3.rangeAt w.heap.size 0 cfa.toList from range_of P3 (fun j v hv => by
    rw [ecab, Nat.zero_add, List.getElem?_toArray]
    rw [ecfa] at hv
    rw [List.getElem?_append_left (List.getElem?_eq_some_iff.1 hv).1]; exact hv))
  have RB := Lib.hid (show w3.rangeAt w.heap.size 32 cfb.toList from range_of P3 (fun j v hv => by
    rw [ecab, List.getElem?_toArray]
    rw [ecfb] at hv
    rw [List.getElem?_append_right (by rw [bys_length]; omega), bys_length, Nat.add_sub_cancel_left]; exact hv))
  obtain ⟨ia, _, _⟩ := hash_out ecfa
  obtain ⟨ib, _, _⟩ := hash_out ecfb
  have IA := Lib.hid ia
  have IB := Lib.hid ib
  have HLf := Lib.hid (fun W (hb : Below (w.heap.size + 1) w3 W) => leaf_walk k A n c f W (hl.below (HB3.out.trans (hb.mono (Nat.le_succ _)))) hz (by omega))
  have HTl := Lib.hid (fun W v l (ht : TreeAt W (w.heap.size + 1) v l) (hlen : l.length ≤ 1048576) (hb : Below (w.heap.size + 1) w3 W) => tleaf_walk k (w.heap.size + 1) v l A n c f W ht hlen (hl.below (HB3.out.trans (hb.mono (Nat.le_succ _)))) hz (by omega))
  have HNd := Lib.hid (fun W => node_walk k fa fb W hfa hfb)
  have HTn := Lib.hid (fun W v l (ht : TreeAt W (w.heap.size + 1) v l) (hlen : l.length ≤ 1048576) => tnode_walk k (w.heap.size + 1) v l fa fb W hfa hfb ht hlen)
  have HEm := Lib.hid (fun W => empty_walk k W)
  have HTe := Lib.hid (fun W v l (ht : TreeAt W (w.heap.size + 1) v l) (hlen : l.length ≤ 1048576) => tleaf_walk k (w.heap.size + 1) v l none 0 0 (fun _ => 0) W ht hlen ⟨fun _ => by decide, fun h => by omega⟩ (fun _ => ⟨rfl, rfl⟩) (by decide))
  have e1 : ∀ w, (Op.equalIn 10000 25 (.agg (bys (leafV k n f) 32).toArray) (.agg (bys (leafV k n f) 32).toArray)).run Try.prog w = .ok true w := fun w => by rw [hash_eq]; simp
  have e2 : ∀ w, (Op.equalIn 10000 25 (.agg (bys (nodeV k fa fb) 32).toArray) (.agg (bys (nodeV k fa fb) 32).toArray)).run Try.prog w = .ok true w := fun w => by rw [hash_eq]; simp
  have e4 : ∀ w, (Op.equalIn 10000 25 (.agg (bys (leafV k 0 (fun _ => 0)) 32).toArray) (.agg (bys (leafV k 0 (fun _ => 0)) 32).toArray)).run Try.prog w = .ok true w := fun w => by rw [hash_eq]; simp
  rw [← ecfa, ← ecfb] at HNd HTn
  obtain ⟨ca, eca⟩ : ∃ ca, ca = (bys (leafV k n f) 32).toArray := ⟨_, rfl⟩
  obtain ⟨cb, ecb⟩ : ∃ ca, ca = (bys (nodeV k fa fb) 32).toArray := ⟨_, rfl⟩
  obtain ⟨cc, ecc⟩ : ∃ ca, ca = (bys (leafV k 0 (fun _ => 0)) 32).toArray := ⟨_, rfl⟩
  rw [← eca] at HLf HTl e1
  rw [← ecb] at HNd HTn e2
  rw [← ecc] at HEm HTe e4
  have E3 := Lib.hid e3
  clear e3 P3 ia ib hl hz hfa hfb ecab ecfa ecfb eca ecb ecc
  go_enter Try.func8, Try.ntmps8
  go_upto_region 4 with fail
  show Code.wp _ _ _ _ ((w.alloc (.cells cab 61)).alloc (.cells #[.slice none 0 0] 50))
  rw [← E3.out]
  refine wp_region_held_drew (S := fun w' => Below (w.heap.size + 1) w3 w') (by kernel_rfl) ?_ (fun hHeld => ?_)
  · exact (Below.refl _ _).drew
  have HZ0 := Lib.hid (show Below (w.heap.size + 1) w3 w3.drew from (Below.refl _ _).drew)
  have HW := Lib.hid (show Below w3.heap.size w3 w3.drew from (Below.refl _ _).drew)
  have T0 := Lib.hid (T3.out.below HW.out)
  generalize w3.drew = wd at *
  refine wpAnyH_take (i := 0) (v := ?_) rfl (by kernel_rfl) (by kernel_rfl) (by kernel_rfl) (fun _ _ _ h => h) (Or.inl ⟨by kernel_rfl, ?_⟩) (by with_reducible assumption) ?_
  rotate_left
  · intro wz hSw
    (try dsimp only at hSw)
    go_simp
    (try with_reducible rfl)
  show wpAnyH _ _ _ _ _ _ _ (Act.put _ (some 14) _) _
  (try simp only [Act.put, List.setIfInBounds_toArray, List.set_cons_zero, List.set_cons_succ])
  refine wpAnyH_take (i := 1) (v := ?_) rfl (by kernel_rfl) (by kernel_rfl) (by kernel_rfl) (fun _ _ _ h => h) (Or.inl ⟨by kernel_rfl, ?_⟩) (by with_reducible assumption) ?_
  rotate_left
  · intro wz hSw
    (try dsimp only at hSw)
    go_simp
    (try with_reducible rfl)
  show wpAnyH _ _ _ _ _ _ _ (Act.put _ (some 15) _) _
  (try simp only [Act.put, List.setIfInBounds_toArray, List.set_cons_zero, List.set_cons_succ])
  refine wpAnyH_take (i := 3) (v := ?_) rfl (by kernel_rfl) (by kernel_rfl) (by kernel_rfl) (fun _ _ _ h => h) (Or.inl ⟨by kernel_rfl, ?_⟩) (by with_reducible assumption) ?_
  rotate_left
  · intro wz hSw
    (try dsimp only at hSw)
    go_simp
    (try with_reducible rfl)
  show wpAnyH _ _ _ _ _ _ _ (Act.put _ (some 17) _) _
  (try simp only [Act.put, List.setIfInBounds_toArray, List.set_cons_zero, List.set_cons_succ])
  refine wpAnyH_take (i := 4) (v := ?_) rfl (by kernel_rfl) (by kernel_rfl) (by kernel_rfl) (fun _ _ _ h => h) (Or.inl ⟨by kernel_rfl, ?_⟩) (by with_reducible assumption) ?_
  rotate_left
  · intro wz hSw
    (try dsimp only at hSw)
    go_simp
    (try with_reducible rfl)
  show wpAnyH _ _ _ _ _ _ _ (Act.put _ (some 18) _) _
  (try simp only [Act.put, List.setIfInBounds_toArray, List.set_cons_zero, List.set_cons_succ])
  refine wpAnyH_take (i := 5) (v := ?_) rfl (by kernel_rfl) (by kernel_rfl) (by kernel_rfl) (fun _ _ _ h => h) (Or.inl ⟨by kernel_rfl, ?_⟩) (by with_reducible assumption) ?_
  rotate_left
  · intro wz hSw
    (try dsimp only at hSw)
    go_simp
    (try with_reducible rfl)
  show wpAnyH _ _ _ _ _ _ _ (Act.put _ (some 19) _) _
  (try simp only [Act.put, List.setIfInBounds_toArray, List.set_cons_zero, List.set_cons_succ])
  refine wpAnyH_ready (rs := [2]) (by kernel_rfl) (by simp) ?_
  refine AllReadyH.cons rfl (fun K hK => ?_) AllReadyH.nil
  clear hHeld
  go_simp
  go_at_call 38
  refine (HLf.out _ HZ0.out).mono ?_
  rintro e z2 ⟨rfl, hb⟩
  have HZ2 := Lib.hid (HZ0.out.trans (hb.mono (by have := T0.out.lt; omega)))
  have T2 := Lib.hid (T0.out.below hb)
  clear hb
  go_wp2_with fail
  refine hK.out _ _ ?_ (fun hHeld => ?_)
  · exact HZ2.out
  clear hK K
  (try simp only [Act.put, List.setIfInBounds_toArray, List.set_cons_zero, List.set_cons_succ])
  refine wpAnyH_ready (rs := [6]) (by kernel_rfl) (by simp) ?_
  refine AllReadyH.cons rfl (fun K hK => ?_) AllReadyH.nil
  clear hHeld
  go_simp
  go_at_call 39
  refine (HTl.out _ _ _ T2.out (by decide) HZ2.out).mono ?_
  rintro e z6 ⟨rfl, v6, l6, ht, hlen, hs⟩
  have T6 := Lib.hid ht
  have N6 := Lib.hid (Nat.le_trans hlen (by decide : 0 + 1 ≤ 1))
  have HZ6 := Lib.hid (HZ2.out.trans (hs.below (Nat.le_refl _) T2.out.lt (fun k hk => Nat.le_of_lt (T2.out.own k hk).1)))
  clear ht hlen hs
  go_wp2_with fail
  refine hK.out _ _ ?_ (fun hHeld => ?_)
  · exact HZ6.out
  clear hK K
  (try simp only [Act.put, List.setIfInBounds_toArray, List.set_cons_zero, List.set_cons_succ])
  refine wpAnyH_take (i := 7) (v := ?_) rfl (by kernel_rfl) (by kernel_rfl) (by kernel_rfl) (fun _ _ _ h => h) (Or.inl ⟨by kernel_rfl, ?_⟩) (by with_reducible assumption) ?_
  rotate_left
  · intro wz hSw
    (try dsimp only at hSw)
    go_simp
    (try with_reducible rfl)
  show wpAnyH _ _ _ _ _ _ _ (Act.put _ (some 21) _) _
  (try simp only [Act.put, List.setIfInBounds_toArray, List.set_cons_zero, List.set_cons_succ])
  refine wpAnyH_take (i := 8) (v := ?_) rfl (by kernel_rfl) (by kernel_rfl) (by kernel_rfl) (fun _ _ _ h => h) (Or.inl ⟨by kernel_rfl, ?_⟩) (by with_reducible assumption) ?_
  rotate_left
  · intro wz hSw
    (try dsimp only at hSw)
    go_simp
    (try with_reducible rfl)
  show wpAnyH _ _ _ _ _ _ _ (Act.put _ (some 22) _) _
  (try simp only [Act.put, List.setIfInBounds_toArray, List.set_cons_zero, List.set_cons_succ])
  refine wpAnyH_take (i := 9) (v := ?_) rfl (by kernel_rfl) (by kernel_rfl) (by kernel_rfl) (fun _ _ _ h => h) (Or.inl ⟨by kernel_rfl, ?_⟩) (by with_reducible assumption) ?_
  rotate_left
  · intro wz hSw
    (try dsimp only at hSw)
    go_simp
    (try with_reducible rfl)
  show wpAnyH _ _ _ _ _ _ _ (Act.put _ (some 23) _) _
  (try simp only [Act.put, List.setIfInBounds_toArray, List.set_cons_zero, List.set_cons_succ])
  refine wpAnyH_take (i := 10) (v := ?_) rfl (by kernel_rfl) (by kernel_rfl) (by kernel_rfl) (fun _ _ _ h => h) (Or.inl ⟨by kernel_rfl, ?_⟩) (by with_reducible assumption) ?_
  rotate_left
  · intro wz hSw
    (try dsimp only at hSw)
    go_simp
    (try with_reducible rfl)
  show wpAnyH _ _ _ _ _ _ _ (Act.put _ (some 24) _) _
  (try simp only [Act.put, List.setIfInBounds_toArray, List.set_cons_zero, List.set_cons_succ])
  refine wpAnyH_take (i := 11) (v := .agg cfa) rfl (by kernel_rfl) (by kernel_rfl) (by kernel_rfl) (fun _ _ _ h => h) (Or.inl ⟨by kernel_rfl, ?_⟩) (by with_reducible assumption) ?_
  · intro wz hSw
    (try dsimp only at hSw)
    exact exec_load_mid (P := Try.prog) 25 (.tmp 24) rfl w.heap.size 0 rfl _ _ (rangeAt_below RA.out (Nat.lt_succ_self _) hSw) Try.underlying25 rfl IA.out
  show wpAnyH _ _ _ _ _ _ _ (Act.put _ (some 25) _) _
  (try simp only [Act.put, List.setIfInBounds_toArray, List.set_cons_zero, List.set_cons_succ])
  refine wpAnyH_take (i := 12) (v := ?_) rfl (by kernel_rfl) (by kernel_rfl) (by kernel_rfl) (fun _ _ _ h => h) (Or.inl ⟨by kernel_rfl, ?_⟩) (by with_reducible assumption) ?_
  rotate_left
  · intro wz hSw
    (try dsimp only at hSw)
    go_simp
    (try with_reducible rfl)
  show wpAnyH _ _ _ _ _ _ _ (Act.put _ (some 26) _) _
  (try simp only [Act.put, List.setIfInBounds_toArray, List.set_cons_zero, List.set_cons_succ])
  refine wpAnyH_take (i := 13) (v := .agg cfb) rfl (by kernel_rfl) (by kernel_rfl) (by kernel_rfl) (fun _ _ _ h => h) (Or.inl ⟨by kernel_rfl, ?_⟩) (by with_reducible assumption) ?_
  · intro wz hSw
    (try dsimp only at hSw)
    exact exec_load_mid (P := Try.prog) 25 (.tmp 26) rfl w.heap.size 32 rfl _ _ (rangeAt_below RB.out (Nat.lt_succ_self _) hSw) Try.underlying25 rfl IB.out
  show wpAnyH _ _ _ _ _ _ _ (Act.put _ (some 27) _) _
  (try simp only [Act.put, List.setIfInBounds_toArray, List.set_cons_zero, List.set_cons_succ])
  refine wpAnyH_take (i := 15) (v := ?_) rfl (by kernel_rfl) (by kernel_rfl) (by kernel_rfl) (fun _ _ _ h => h) (Or.inl ⟨by kernel_rfl, ?_⟩) (by with_reducible assumption) ?_
  rotate_left
  · intro wz hSw
    (try dsimp only at hSw)
    go_simp
    (try with_reducible rfl)
  show wpAnyH _ _ _ _ _ _ _ (Act.put _ (some 29) _) _
  (try simp only [Act.put, List.setIfInBounds_toArray, List.set_cons_zero, List.set_cons_succ])
  refine wpAnyH_take (i := 16) (v := ?_) rfl (by kernel_rfl) (by kernel_rfl) (by kernel_rfl) (fun _ _ _ h => h) (Or.inl ⟨by kernel_rfl, ?_⟩) (by with_reducible assumption) ?_
  rotate_left
  · intro wz hSw
    (try dsimp only at hSw)
    go_simp
    (try with_reducible rfl)
  show wpAnyH _ _ _ _ _ _ _ (Act.put _ (some 30) _) _
  (try simp only [Act.put, List.setIfInBounds_toArray, List.set_cons_zero, List.set_cons_succ])
  refine wpAnyH_take (i := 17) (v := ?_) rfl (by kernel_rfl) (by kernel_rfl) (by kernel_rfl) (fun _ _ _ h => h) (Or.inl ⟨by kernel_rfl, ?_⟩) (by with_reducible assumption) ?_
  rotate_left
  · intro wz hSw
    (try dsimp only at hSw)
    go_simp
    (try with_reducible rfl)
  show wpAnyH _ _ _ _ _ _ _ (Act.put _ (some 31) _) _
  (try simp only [Act.put, List.setIfInBounds_toArray, List.set_cons_zero, List.set_cons_succ])
  refine wpAnyH_take (i := 18) (v := .agg cfa) rfl (by kernel_rfl) (by kernel_rfl) (by kernel_rfl) (fun _ _ _ h => h) (Or.inl ⟨by kernel_rfl, ?_⟩) (by with_reducible assumption) ?_
  · intro wz hSw
    (try dsimp only at hSw)
    exact exec_load_mid (P := Try.prog) 25 (.tmp 31) rfl w.heap.size 0 rfl _ _ (rangeAt_below RA.out (Nat.lt_succ_self _) hSw) Try.underlying25 rfl IA.out
  show wpAnyH _ _ _ _ _ _ _ (Act.put _ (some 32) _) _
  (try simp only [Act.put, List.setIfInBounds_toArray, List.set_cons_zero, List.set_cons_succ])
  refine wpAnyH_take (i := 19) (v := ?_) rfl (by kernel_rfl) (by kernel_rfl) (by kernel_rfl) (fun _ _ _ h => h) (Or.inl ⟨by kernel_rfl, ?_⟩) (by with_reducible assumption) ?_
  rotate_left
  · intro wz hSw
    (try dsimp only at hSw)
    go_simp
    (try with_reducible rfl)
  show wpAnyH _ _ _ _ _ _ _ (Act.put _ (some 33) _) _
  (try simp only [Act.put, List.setIfInBounds_toArray, List.set_cons_zero, List.set_cons_succ])
  refine wpAnyH_take (i := 20) (v := .agg cfb) rfl (by kernel_rfl) (by kernel_rfl) (by kernel_rfl) (fun _ _ _ h => h) (Or.inl ⟨by kernel_rfl, ?_⟩) (by with_reducible assumption) ?_
  · intro wz hSw
    (try dsimp only at hSw)
    exact exec_load_mid (P := Try.prog) 25 (.tmp 33) rfl w.heap.size 32 rfl _ _ (rangeAt_below RB.out (Nat.lt_succ_self _) hSw) Try.underlying25 rfl IB.out
  show wpAnyH _ _ _ _ _ _ _ (Act.put _ (some 34) _) _
  (try simp only [Act.put, List.setIfInBounds_toArray, List.set_cons_zero, List.set_cons_succ])
  refine wpAnyH_ready (rs := [14]) (by kernel_rfl) (by simp) ?_
  refine AllReadyH.cons rfl (fun K hK => ?_) AllReadyH.nil
  clear hHeld
  go_simp
  go_at_call 40
  refine (HNd.out _).mono ?_
  rintro e z14 ⟨rfl, hb⟩
  have HZ14 := Lib.hid (HZ6.out.trans (hb.mono (by have := T6.out.lt; omega)))
  have T14 := Lib.hid (T6.out.below hb)
  clear hb
  go_wp2_with fail
  refine hK.out _ _ ?_ (fun hHeld => ?_)
  · exact HZ14.out
  clear hK K
  (try simp only [Act.put, List.setIfInBounds_toArray, List.set_cons_zero, List.set_cons_succ])
  refine wpAnyH_ready (rs := [21]) (by kernel_rfl) (by simp) ?_
  refine AllReadyH.cons rfl (fun K hK => ?_) AllReadyH.nil
  clear hHeld
  go_simp
  go_at_call 41
  refine (HTn.out _ _ _ T14.out (Nat.le_trans N6.out (by decide))).mono ?_
  rintro e z21 ⟨rfl, v21, l21, ht, hlen, hs⟩
  have T21 := Lib.hid ht
  have N21 := Lib.hid (Nat.le_trans hlen (Nat.succ_le_succ N6.out))
  have HZ21 := Lib.hid (HZ14.out.trans (hs.below (Nat.le_refl _) T14.out.lt (fun k hk => Nat.le_of_lt (T14.out.own k hk).1)))
  clear ht hlen hs
  go_wp2_with fail
  refine hK.out _ _ ?_ (fun hHeld => ?_)
  · exact HZ21.out
  clear hK K
  (try simp only [Act.put, List.setIfInBounds_toArray, List.set_cons_zero, List.set_cons_succ])
  refine wpAnyH_take (i := 22) (v := ?_) rfl (by kernel_rfl) (by kernel_rfl) (by kernel_rfl) (fun _ _ _ h => h) (Or.inl ⟨by kernel_rfl, ?_⟩) (by with_reducible assumption) ?_
  rotate_left
  · intro wz hSw
    (try dsimp only at hSw)
    go_simp
    (try with_reducible rfl)
  show wpAnyH _ _ _ _ _ _ _ (Act.put _ (some 36) _) _
  (try simp only [Act.put, List.setIfInBounds_toArray, List.set_cons_zero, List.set_cons_succ])
  refine wpAnyH_take (i := 23) (v := ?_) rfl (by kernel_rfl) (by kernel_rfl) (by kernel_rfl) (fun _ _ _ h => h) (Or.inl ⟨by kernel_rfl, ?_⟩) (by with_reducible assumption) ?_
  rotate_left
  · intro wz hSw
    (try dsimp only at hSw)
    go_simp
    (try with_reducible rfl)
  show wpAnyH _ _ _ _ _ _ _ (Act.put _ (some 37) _) _
  (try simp only [Act.put, List.setIfInBounds_toArray, List.set_cons_zero, List.set_cons_succ])
  refine wpAnyH_take (i := 24) (v := ?_) rfl (by kernel_rfl) (by kernel_rfl) (by kernel_rfl) (fun _ _ _ h => h) (Or.inl ⟨by kernel_rfl, ?_⟩) (by with_reducible assumption) ?_
  rotate_left
  · intro wz hSw
    (try dsimp only at hSw)
    go_simp
    (try with_reducible rfl)
  show wpAnyH _ _ _ _ _ _ _ (Act.put _ (some 38) _) _
  (try simp only [Act.put, List.setIfInBounds_toArray, List.set_cons_zero, List.set_cons_succ])
  refine wpAnyH_take (i := 25) (v := ?_) rfl (by kernel_rfl) (by kernel_rfl) (by kernel_rfl) (fun _ _ _ h => h) (Or.inl ⟨by kernel_rfl, ?_⟩) (by with_reducible assumption) ?_
  rotate_left
  · intro wz hSw
    (try dsimp only at hSw)
    go_simp
    (try with_reducible rfl)
  show wpAnyH _ _ _ _ _ _ _ (Act.put _ (some 39) _) _
  (try simp only [Act.put, List.setIfInBounds_toArray, List.set_cons_zero, List.set_cons_succ])
  refine wpAnyH_take (i := 27) (v := ?_) rfl (by kernel_rfl) (by kernel_rfl) (by kernel_rfl) (fun _ _ _ h => h) (Or.inl ⟨by kernel_rfl, ?_⟩) (by with_reducible assumption) ?_
  rotate_left
  · intro wz hSw
    (try dsimp only at hSw)
    go_simp
    (try with_reducible rfl)
  show wpAnyH _ _ _ _ _ _ _ (Act.put _ (some 41) _) _
  (try simp only [Act.put, List.setIfInBounds_toArray, List.set_cons_zero, List.set_cons_succ])
  refine wpAnyH_take (i := 28) (v := ?_) rfl (by kernel_rfl) (by kernel_rfl) (by kernel_rfl) (fun _ _ _ h => h) (Or.inl ⟨by kernel_rfl, ?_⟩) (by with_reducible assumption) ?_
  rotate_left
  · intro wz hSw
    (try dsimp only at hSw)
    go_simp
    (try with_reducible rfl)
  show wpAnyH _ _ _ _ _ _ _ (Act.put _ (some 42) _) _
  (try simp only [Act.put, List.setIfInBounds_toArray, List.set_cons_zero, List.set_cons_succ])
  refine wpAnyH_ready (rs := [26]) (by kernel_rfl) (by simp) ?_
  refine AllReadyH.cons rfl (fun K hK => ?_) AllReadyH.nil
  clear hHeld
  go_simp
  go_at_call 42
  refine (HEm.out _).mono ?_
  rintro e z26 ⟨rfl, hb⟩
  have HZ26 := Lib.hid (HZ21.out.trans (hb.mono (by have := T21.out.lt; omega)))
  have T26 := Lib.hid (T21.out.below hb)
  clear hb
  go_wp2_with fail
  refine hK.out _ _ ?_ (fun hHeld => ?_)
  · exact HZ26.out
  clear hK K
  (try simp only [Act.put, List.setIfInBounds_toArray, List.set_cons_zero, List.set_cons_succ])
  refine wpAnyH_ready (rs := [29]) (by kernel_rfl) (by simp) ?_
  refine AllReadyH.cons rfl (fun K hK => ?_) AllReadyH.nil
  clear hHeld
  go_simp
  go_at_call 39
  refine (HTe.out _ _ _ T26.out (Nat.le_trans N21.out (by decide))).mono ?_
  rintro e z29 ⟨rfl, v29, l29, ht, hlen, hs⟩
  have T29 := Lib.hid ht
  have N29 := Lib.hid (Nat.le_trans hlen (Nat.succ_le_succ N21.out))
  have HZ29 := Lib.hid (HZ26.out.trans (hs.below (Nat.le_refl _) T26.out.lt (fun k hk => Nat.le_of_lt (T26.out.own k hk).1)))
  clear ht hlen hs
  go_wp2_with fail
  refine hK.out _ _ ?_ (fun hHeld => ?_)
  · exact HZ29.out
  clear hK K
  (try simp only [Act.put, List.setIfInBounds_toArray, List.set_cons_zero, List.set_cons_succ])
  refine wpAnyH_take (i := 30) (v := ?_) rfl (by kernel_rfl) (by kernel_rfl) (by kernel_rfl) (fun _ _ _ h => h) (Or.inl ⟨by kernel_rfl, ?_⟩) (by with_reducible assumption) ?_
  rotate_left
  · intro wz hSw
    (try dsimp only at hSw)
    go_simp
    (try with_reducible rfl)
  show wpAnyH _ _ _ _ _ _ _ (Act.put _ (some 44) _) _
  (try simp only [Act.put, List.setIfInBounds_toArray, List.set_cons_zero, List.set_cons_succ])
  refine wpAnyH_take (i := 31) (v := ?_) rfl (by kernel_rfl) (by kernel_rfl) (by kernel_rfl) (fun _ _ _ h => h) (Or.inl ⟨by kernel_rfl, ?_⟩) (by with_reducible assumption) ?_
  rotate_left
  · intro wz hSw
    (try dsimp only at hSw)
    go_simp
    (try with_reducible rfl)
  show wpAnyH _ _ _ _ _ _ _ (Act.put _ (some 45) _) _
  (try simp only [Act.put, List.setIfInBounds_toArray, List.set_cons_zero, List.set_cons_succ])
  refine wpAnyH_take (i := 32) (v := ?_) rfl (by kernel_rfl) (by kernel_rfl) (by kernel_rfl) (fun _ _ _ h => h) (Or.inl ⟨by kernel_rfl, ?_⟩) (by with_reducible assumption) ?_
  rotate_left
  · intro wz hSw
    (try dsimp only at hSw)
    go_simp
    (try with_reducible rfl)
  show wpAnyH _ _ _ _ _ _ _ (Act.put _ (some 46) _) _
  (try simp only [Act.put, List.setIfInBounds_toArray, List.set_cons_zero, List.set_cons_succ])
  refine wpAnyH_ready (rs := [33]) (by kernel_rfl) (by simp) ?_
  refine AllReadyH.cons rfl (fun K hK => ?_) AllReadyH.nil
  clear hHeld
  go_simp
  go_at_call 30
  refine (HLv.out _).mono ?_
  rintro e z33 ⟨rfl, hb⟩
  have HZ33 := Lib.hid (HZ29.out.trans (hb.mono (by have := T29.out.lt; omega)))
  clear hb
  go_wp2_with fail
  refine hK.out _ _ ?_ (fun hHeld => ?_)
  · exact HZ33.out
  clear hK K
  (try simp only [Act.put, List.setIfInBounds_toArray, List.set_cons_zero, List.set_cons_succ])
  refine wpAnyH_take (i := 34) (v := ?_) rfl (by kernel_rfl) (by kernel_rfl) (by kernel_rfl) (fun _ _ _ h => h) (Or.inl ⟨by kernel_rfl, ?_⟩) (by with_reducible assumption) ?_
  rotate_left
  · intro wz hSw
    (try dsimp only at hSw)
    go_simp
    (try with_reducible rfl)
  show wpAnyH _ _ _ _ _ _ _ (Act.put _ (some 48) _) _
  (try simp only [Act.put, List.setIfInBounds_toArray, List.set_cons_zero, List.set_cons_succ])
  refine wpAnyH_take (i := 35) (v := ?_) rfl (by kernel_rfl) (by kernel_rfl) (by kernel_rfl) (fun _ _ _ h => h) (Or.inl ⟨by kernel_rfl, ?_⟩) (by with_reducible assumption) ?_
  rotate_left
  · intro wz hSw
    (try dsimp only at hSw)
    go_simp
    (try with_reducible rfl)
  show wpAnyH _ _ _ _ _ _ _ (Act.put _ (some 6) _) _
  (try simp only [Act.put, List.setIfInBounds_toArray, List.set_cons_zero, List.set_cons_succ])
  refine wpAnyH_done (by kernel_rfl) ?_ _
  go_wp2
  go_ret
  exact ⟨rfl, HB3.out.trans (HZ33.out.mono (Nat.le_succ _))⟩
end Go.Proofs.Ytjemgoifemdoeaa
