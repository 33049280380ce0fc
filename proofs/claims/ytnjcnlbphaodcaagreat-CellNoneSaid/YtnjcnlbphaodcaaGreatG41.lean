/- The law CellBack: its keys; rows of ints compared; a drawn region's calls. -/
import Derived.Test.YtnjcnlbphaodcaaGreatG20
import Derived.Test.YtnjcnlbphaodcaaGreatG10
import Derived.Test.YtnjcnlbphaodcaaGreatG21
import Derived.Test.YtnjcnlbphaodcaaGreatG40
import Derived.Test.YtnjcnlbphaodcaaGreatG00
import Derived.ChangeSlices
import Derived.Carry
namespace Go.Proofs.YtnjcnlbphaodcaaGreat
open Go.RowKit Go.Maps Go.Sort

/-- the keys of the laws of layer 10 -/
def kN (i : Nat) : ByteArray := keyStr 200 (fun _ => (i : Int)) 1
theorem kN_ok : ∀ i, i < 10 → (kN i).size ≤ 9 ∧ kN i ≠ ⟨#[]⟩ := by decide +kernel
theorem kN_ne : ∀ i, i < 10 → ∀ j, j < 10 → i ≠ j → kN i ≠ kN j := by decide +kernel
set_option maxRecDepth 100000 in
set_option maxHeartbeats 400000 in
theorem key10_walk (i : Nat) (hi : i < 10) (w : World) : Calls Tryz.prog 8 #[.int .i64 (i : Nat)] w fun e w' => e = .returned (.string (kN i)) ∧ Below w.heap.size w w' := by
  have p1 : ¬ (i : Int) < 0 := by omega
  have p2 : ¬ (9 : Int) < (i : Int) := by omega
  have hb := (Below.refl w.heap.size w).alloc (Nat.le_refl _) (.cells #[.int .i64 (i : Nat)] 3)
  have hx := heap_alloc_new w (.cells #[.int .i64 (i : Nat)] 3)
  have hil : Il (w.alloc (.cells #[.int .i64 (i : Nat)] 3)) (some ⟨w.heap.size, 0, none⟩) 1 (fun _ => (i : Int)) := ⟨fun _ => by omega, fun _ => ⟨w.heap.size, 0, rfl, hp_lt hx, fun j hj => by obtain rfl : j = 0 := (by omega); exact (hp_cell (i := 0) hx).trans rfl⟩⟩
  have HK := Lib.hid ((key_walk 200 (some ⟨w.heap.size, 0, none⟩) 1 1 (fun _ => (i : Int)) _ hil (by omega)).mono fun e w' h => (⟨h.1, hb.trans (h.2.mono hb.size)⟩ : e = .returned (.string (kN i)) ∧ Below w.heap.size w w'))
  clear hb hx hil hi
  go_enter Tryz.func8, Tryz.ntmps8
  go_wp2_with (go_at_call 31; refine HK.out.mono ?_; rintro e w1 ⟨rfl, hb1⟩; have H1 := Lib.hid hb1; clear hb1)
  go_ret
  exact ⟨rfl, H1.out⟩
end Go.Proofs.YtnjcnlbphaodcaaGreat

namespace Go.Proofs.YtnjcnlbphaodcaaGreat
open Go.RowKit Go.Maps Go.Sort

/-- the key of a number, the empty one of others -/
def kX (x : Int) : ByteArray := if 0 ≤ x ∧ x ≤ 9 then kN x.toNat else ⟨#[]⟩
set_option maxRecDepth 100000 in
set_option maxHeartbeats 400000 in
theorem key_any (x : Int) (w : World) : Calls Tryz.prog 8 #[.int .i64 x] w fun e w' => e = .returned (.string (kX x)) ∧ Below w.heap.size w w' := by
  by_cases h : 0 ≤ x ∧ x ≤ 9
  · have p1 : ¬ x < 0 := by omega
    have p2 : ¬ (9 : Int) < x := by omega
    have hb := (Below.refl w.heap.size w).alloc (Nat.le_refl _) (.cells #[.int .i64 x] 3)
    have hx := heap_alloc_new w (.cells #[.int .i64 x] 3)
    have hil : Il (w.alloc (.cells #[.int .i64 x] 3)) (some ⟨w.heap.size, 0, none⟩) 1 (fun _ => x) := ⟨fun _ => by omega, fun _ => ⟨w.heap.size, 0, rfl, hp_lt hx, fun j hj => by obtain rfl : j = 0 := (by omega); exact (hp_cell (i := 0) hx).trans rfl⟩⟩
    have hk : keyStr 200 (fun _ => x) 1 = kX x := by unfold kX kN; rw [if_pos h, Int.toNat_of_nonneg h.1]
    have hw := key_walk 200 (some ⟨w.heap.size, 0, none⟩) 1 1 (fun _ => x) _ hil (by omega)
    unfold KeyPost at hw
    rw [hk] at hw
    have HK := Lib.hid (hw.mono fun e w' h => (⟨h.1, hb.trans (h.2.mono hb.size)⟩ : e = .returned (.string (kX x)) ∧ Below w.heap.size w w'))
    clear hb hx hil hk hw h
    go_enter Tryz.func8, Tryz.ntmps8
    go_wp2_with (go_at_call 31; refine HK.out.mono ?_; rintro e w1 ⟨rfl, hb1⟩; have H1 := Lib.hid hb1; clear hb1)
    go_ret
    exact ⟨rfl, H1.out⟩
  · have hk : kX x = ⟨#[]⟩ := by unfold kX; rw [if_neg h]
    rw [hk]
    clear hk
    by_cases p1 : x < 0
    · clear h
      go_enter Tryz.func8, Tryz.ntmps8
      go_wp2
      go_ret
      exact ⟨rfl, Below.refl _ _⟩
    · have p2 : (9 : Int) < x := by omega
      clear h
      go_enter Tryz.func8, Tryz.ntmps8
      go_wp2
      go_ret
      exact ⟨rfl, Below.refl _ _⟩
set_option maxRecDepth 100000 in
set_option maxHeartbeats 400000 in
theorem own_any (x : Int) (w : World) : Calls Tryz.prog 18 #[.int .i64 x] w fun e w' => e = .returned (.string (kX x)) ∧ Below w.heap.size w w' := by
  by_cases h : 0 ≤ x ∧ x ≤ 9
  · have p1 : ¬ x < 0 := by omega
    have p2 : ¬ (9 : Int) < x := by omega
    have hb := (Below.refl w.heap.size w).alloc (Nat.le_refl _) (.cells #[.int .i64 x] 3)
    have hx := heap_alloc_new w (.cells #[.int .i64 x] 3)
    have hil : Il (w.alloc (.cells #[.int .i64 x] 3)) (some ⟨w.heap.size, 0, none⟩) 1 (fun _ => x) := ⟨fun _ => by omega, fun _ => ⟨w.heap.size, 0, rfl, hp_lt hx, fun j hj => by obtain rfl : j = 0 := (by omega); exact (hp_cell (i := 0) hx).trans rfl⟩⟩
    have hk : keyStr 200 (fun _ => x) 1 = kX x := by unfold kX kN; rw [if_pos h, Int.toNat_of_nonneg h.1]
    have hw := rkey9_walk 200 (some ⟨w.heap.size, 0, none⟩) 1 1 (fun _ => x) _ hil (by omega)
    unfold KeyPost at hw
    rw [hk] at hw
    have HK := Lib.hid (hw.mono fun e w' h => (⟨h.1, hb.trans (h.2.mono hb.size)⟩ : e = .returned (.string (kX x)) ∧ Below w.heap.size w w'))
    clear hb hx hil hk hw h
    go_enter Tryz.func18, Tryz.ntmps18
    go_wp2_with (go_at_call 41; refine HK.out.mono ?_; rintro e w1 ⟨rfl, hb1⟩; have H1 := Lib.hid hb1; clear hb1)
    go_ret
    exact ⟨rfl, H1.out⟩
  · have hk : kX x = ⟨#[]⟩ := by unfold kX; rw [if_neg h]
    rw [hk]
    clear hk
    by_cases p1 : x < 0
    · clear h
      go_enter Tryz.func18, Tryz.ntmps18
      go_wp2
      go_ret
      exact ⟨rfl, Below.refl _ _⟩
    · have p2 : (9 : Int) < x := by omega
      clear h
      go_enter Tryz.func18, Tryz.ntmps18
      go_wp2
      go_ret
      exact ⟨rfl, Below.refl _ _⟩
/-- the world of an act: a dead store, the document's empty one at m, the act's box at X, its row -/
structure AN (w W : World) (P : Option Addr) (m X : Nat) (cs : Array Value) (A : Option Addr) (N : Nat) (f : Nat → Int) : Prop where
  dd : SDead W (.pointer P)
  ds : DS w W m [] []
  r : W.heap[X]? = some (.cells cs 27 (0, 0))
  l : Il W A N f
theorem AN.below {w W W' : World} {P : Option Addr} {m X : Nat} {cs : Array Value} {A : Option Addr} {N : Nat} {f : Nat → Int} (h : AN w W P m X cs A N f) (hb : Below W.heap.size W W') : AN w W' P m X cs A N f :=
  ⟨h.dd.below hb, h.ds.below hb, (hb.block _ (hp_lt h.r)).trans h.r, h.l.below hb⟩
set_option maxRecDepth 100000 in
set_option maxHeartbeats 8000000 in
theorem act10_0 (w W : World) (P : Option Addr) (m : Nat) (x tt n : Int) (a : Nat) (A : Option Addr) (N C : Nat) (f : Nat → Int) (hs : SDead W (.pointer P)) (hd : DS w W m [] []) (hl : Il W A N f) (hN : N ≤ 100) (ha : a < 2 ^ 256) (hn : n < 2 ^ 63) :
    Calls Tryz.prog 6 #[.pointer P, .pointer (some ⟨m, 0, none⟩), .agg #[.int .i64 0, .int .i64 x, .int .i64 tt, .int .i64 n, .int .u64 (limb a 0 : Nat), .int .u64 (limb a 1 : Nat), .int .u64 (limb a 2 : Nat), .int .u64 (limb a 3 : Nat), .slice A N C]] W fun e W' => (∃ z, e = .returned (.bool z)) ∧ Below w.heap.size w W' := by
  have hb1 := (Below.refl W.heap.size W).alloc (Nat.le_refl _) (.cells #[.int .i64 0, .int .i64 x, .int .i64 tt, .int .i64 n, .int .u64 (limb a 0 : Nat), .int .u64 (limb a 1 : Nat), .int .u64 (limb a 2 : Nat), .int .u64 (limb a 3 : Nat), .slice A N C] 27)
  have hx1 := heap_alloc_new W (.cells #[.int .i64 0, .int .i64 x, .int .i64 tt, .int .i64 n, .int .u64 (limb a 0 : Nat), .int .u64 (limb a 1 : Nat), .int .u64 (limb a 2 : Nat), .int .u64 (limb a 3 : Nat), .slice A N C] 27)
  obtain ⟨W1, hW1⟩ : ∃ W1, W1 = W.alloc (.cells #[.int .i64 0, .int .i64 x, .int .i64 tt, .int .i64 n, .int .u64 (limb a 0 : Nat), .int .u64 (limb a 1 : Nat), .int .u64 (limb a 2 : Nat), .int .u64 (limb a 3 : Nat), .slice A N C] 27) := ⟨_, rfl⟩
  rw [← hW1] at hb1 hx1
  have Hd := Lib.hid (show AN w W1.drew P m W.heap.size #[.int .i64 0, .int .i64 x, .int .i64 tt, .int .i64 n, .int .u64 (limb a 0 : Nat), .int .u64 (limb a 1 : Nat), .int .u64 (limb a 2 : Nat), .int .u64 (limb a 3 : Nat), .slice A N C] A N f from ⟨hs.below hb1.drew, hd.below hb1.drew, hx1, hl.below hb1.drew⟩)
  have HW1 := Lib.hid hW1
  have hO := fun (Z : World) (h : AN w Z P m W.heap.size #[.int .i64 0, .int .i64 x, .int .i64 tt, .int .i64 n, .int .u64 (limb a 0 : Nat), .int .u64 (limb a 1 : Nat), .int .u64 (limb a 2 : Nat), .int .u64 (limb a 3 : Nat), .slice A N C] A N f) => csetInt_dead P (kX x) n Z h.dd hn
  have hD := fun (Z : World) (h : AN w Z P m W.heap.size #[.int .i64 0, .int .i64 x, .int .i64 tt, .int .i64 n, .int .u64 (limb a 0 : Nat), .int .u64 (limb a 1 : Nat), .int .u64 (limb a 2 : Nat), .int .u64 (limb a 3 : Nat), .slice A N C] A N f) => rsetInt_w w Z m (kX x) n h.ds hn
  (try unfold U at hO)
  (try unfold U at hD)
  have HO := Lib.hid hO
  have HD := Lib.hid hD
  clear hs hd hl hN ha hn hb1 hx1 hW1 hO hD
  go_enter Tryz.func6, Tryz.ntmps6
  go_upto_region 3 with fail
  rw [← HW1.out]
  obtain ⟨X, hX⟩ : ∃ X, X = W.heap.size := ⟨_, rfl⟩
  rw [← hX] at Hd HO HD ⊢
  clear hX HW1
  refine wp_region_held_drew (S := fun w' => w'.heap[X]? = some (.cells #[.int .i64 0, .int .i64 x, .int .i64 tt, .int .i64 n, .int .u64 (limb a 0 : Nat), .int .u64 (limb a 1 : Nat), .int .u64 (limb a 2 : Nat), .int .u64 (limb a 3 : Nat), .slice A N C] 27 (0, 0))) (by kernel_rfl) ?_ (fun hHeld => ?_)
  · exact Hd.out.r
  generalize W1.drew = Z0 at Hd hHeld ⊢
  refine wpAnyH_take (i := 0) (v := ?_) rfl (by kernel_rfl) (by kernel_rfl) (by kernel_rfl) (fun _ _ _ h => h) (Or.inl ⟨by kernel_rfl, ?_⟩) (by with_reducible assumption) ?_
  rotate_left
  · intro wz hSw
    (try dsimp only at hSw)
    go_simp
    (try with_reducible rfl)
  show wpAnyH _ _ _ _ _ _ _ (Act.put _ (some 11) _) _
  (try simp only [Act.put, List.setIfInBounds_toArray, List.set_cons_zero, List.set_cons_succ])
  refine wpAnyH_take (i := 1) (v := ?_) rfl (by kernel_rfl) (by kernel_rfl) (by kernel_rfl) (fun _ _ _ h => h) (Or.inl ⟨by kernel_rfl, ?_⟩) (by with_reducible assumption) ?_
  rotate_left
  · intro wz hSw
    (try dsimp only at hSw)
    go_simp
    (try with_reducible rfl)
  show wpAnyH _ _ _ _ _ _ _ (Act.put _ (some 12) _) _
  (try simp only [Act.put, List.setIfInBounds_toArray, List.set_cons_zero, List.set_cons_succ])
  refine wpAnyH_take (i := 2) (v := .int .i64 x) rfl (by kernel_rfl) (by kernel_rfl) (by kernel_rfl) (fun _ _ _ h => h) (Or.inl ⟨by kernel_rfl, ?_⟩) (by with_reducible assumption) ?_
  · intro wz hSw
    (try dsimp only at hSw)
    have y0 := (hp_cell (i := 1) hSw).trans rfl
    go_simp
    (try with_reducible rfl)
  show wpAnyH _ _ _ _ _ _ _ (Act.put _ (some 13) _) _
  (try simp only [Act.put, List.setIfInBounds_toArray, List.set_cons_zero, List.set_cons_succ])
  refine wpAnyH_take (i := 4) (v := ?_) rfl (by kernel_rfl) (by kernel_rfl) (by kernel_rfl) (fun _ _ _ h => h) (Or.inl ⟨by kernel_rfl, ?_⟩) (by with_reducible assumption) ?_
  rotate_left
  · intro wz hSw
    (try dsimp only at hSw)
    go_simp
    (try with_reducible rfl)
  show wpAnyH _ _ _ _ _ _ _ (Act.put _ (some 15) _) _
  (try simp only [Act.put, List.setIfInBounds_toArray, List.set_cons_zero, List.set_cons_succ])
  refine wpAnyH_take (i := 5) (v := .int .i64 n) rfl (by kernel_rfl) (by kernel_rfl) (by kernel_rfl) (fun _ _ _ h => h) (Or.inl ⟨by kernel_rfl, ?_⟩) (by with_reducible assumption) ?_
  · intro wz hSw
    (try dsimp only at hSw)
    have y0 := (hp_cell (i := 3) hSw).trans rfl
    go_simp
    (try with_reducible rfl)
  show wpAnyH _ _ _ _ _ _ _ (Act.put _ (some 16) _) _
  (try simp only [Act.put, List.setIfInBounds_toArray, List.set_cons_zero, List.set_cons_succ])
  refine wpAnyH_ready (rs := [3]) (by kernel_rfl) (by simp) ?_
  refine AllReadyH.cons rfl (fun K hK => ?_) AllReadyH.nil
  clear hHeld
  go_simp
  go_at_call 8
  refine (key_any _ _).mono ?_
  rintro e Z3_3 ⟨rfl, hb⟩
  have H3_3 := Lib.hid (Hd.out.below hb)
  clear hb
  go_wp2_with fail
  refine hK.out _ _ ?_ (fun hHeld => ?_)
  · exact H3_3.out.r
  clear hK K
  (try simp only [Act.put, List.setIfInBounds_toArray, List.set_cons_zero, List.set_cons_succ])
  refine wpAnyH_ready (rs := [6]) (by kernel_rfl) (by simp) ?_
  refine AllReadyH.cons rfl (fun K hK => ?_) AllReadyH.nil
  clear hHeld
  go_simp
  go_at_call 16
  refine (HO.out _ H3_3.out).mono ?_
  rintro e Z3_6 ⟨rfl, hb⟩
  have H3_6 := Lib.hid (H3_3.out.below hb)
  clear hb
  go_wp2_with fail
  refine hK.out _ _ ?_ (fun hHeld => ?_)
  · exact H3_6.out.r
  clear hK K
  (try simp only [Act.put, List.setIfInBounds_toArray, List.set_cons_zero, List.set_cons_succ])
  refine wpAnyH_done (by kernel_rfl) ?_ _
  go_upto_region 4 with fail
  have Hd2 := Lib.hid (H3_6.out.below (Below.refl _ _).drew)
  clear hHeld
  refine wp_region_held_drew (S := fun w' => w'.heap[X]? = some (.cells #[.int .i64 0, .int .i64 x, .int .i64 tt, .int .i64 n, .int .u64 (limb a 0 : Nat), .int .u64 (limb a 1 : Nat), .int .u64 (limb a 2 : Nat), .int .u64 (limb a 3 : Nat), .slice A N C] 27 (0, 0))) (by kernel_rfl) ?_ (fun hHeld => ?_)
  · exact Hd2.out.r
  generalize Z3_6.drew = Y0 at Hd2 hHeld ⊢
  refine wpAnyH_take (i := 0) (v := ?_) rfl (by kernel_rfl) (by kernel_rfl) (by kernel_rfl) (fun _ _ _ h => h) (Or.inl ⟨by kernel_rfl, ?_⟩) (by with_reducible assumption) ?_
  rotate_left
  · intro wz hSw
    (try dsimp only at hSw)
    go_simp
    (try with_reducible rfl)
  show wpAnyH _ _ _ _ _ _ _ (Act.put _ (some 18) _) _
  (try simp only [Act.put, List.setIfInBounds_toArray, List.set_cons_zero, List.set_cons_succ])
  refine wpAnyH_take (i := 1) (v := ?_) rfl (by kernel_rfl) (by kernel_rfl) (by kernel_rfl) (fun _ _ _ h => h) (Or.inl ⟨by kernel_rfl, ?_⟩) (by with_reducible assumption) ?_
  rotate_left
  · intro wz hSw
    (try dsimp only at hSw)
    go_simp
    (try with_reducible rfl)
  show wpAnyH _ _ _ _ _ _ _ (Act.put _ (some 19) _) _
  (try simp only [Act.put, List.setIfInBounds_toArray, List.set_cons_zero, List.set_cons_succ])
  refine wpAnyH_take (i := 2) (v := .int .i64 x) rfl (by kernel_rfl) (by kernel_rfl) (by kernel_rfl) (fun _ _ _ h => h) (Or.inl ⟨by kernel_rfl, ?_⟩) (by with_reducible assumption) ?_
  · intro wz hSw
    (try dsimp only at hSw)
    have y0 := (hp_cell (i := 1) hSw).trans rfl
    go_simp
    (try with_reducible rfl)
  show wpAnyH _ _ _ _ _ _ _ (Act.put _ (some 20) _) _
  (try simp only [Act.put, List.setIfInBounds_toArray, List.set_cons_zero, List.set_cons_succ])
  refine wpAnyH_take (i := 4) (v := ?_) rfl (by kernel_rfl) (by kernel_rfl) (by kernel_rfl) (fun _ _ _ h => h) (Or.inl ⟨by kernel_rfl, ?_⟩) (by with_reducible assumption) ?_
  rotate_left
  · intro wz hSw
    (try dsimp only at hSw)
    go_simp
    (try with_reducible rfl)
  show wpAnyH _ _ _ _ _ _ _ (Act.put _ (some 22) _) _
  (try simp only [Act.put, List.setIfInBounds_toArray, List.set_cons_zero, List.set_cons_succ])
  refine wpAnyH_take (i := 5) (v := .int .i64 n) rfl (by kernel_rfl) (by kernel_rfl) (by kernel_rfl) (fun _ _ _ h => h) (Or.inl ⟨by kernel_rfl, ?_⟩) (by with_reducible assumption) ?_
  · intro wz hSw
    (try dsimp only at hSw)
    have y0 := (hp_cell (i := 3) hSw).trans rfl
    go_simp
    (try with_reducible rfl)
  show wpAnyH _ _ _ _ _ _ _ (Act.put _ (some 23) _) _
  (try simp only [Act.put, List.setIfInBounds_toArray, List.set_cons_zero, List.set_cons_succ])
  refine wpAnyH_ready (rs := [3]) (by kernel_rfl) (by simp) ?_
  refine AllReadyH.cons rfl (fun K hK => ?_) AllReadyH.nil
  clear hHeld
  go_simp
  go_at_call 18
  refine (own_any _ _).mono ?_
  rintro e Z4_3 ⟨rfl, hb⟩
  have H4_3 := Lib.hid (Hd2.out.below hb)
  clear hb
  go_wp2_with fail
  refine hK.out _ _ ?_ (fun hHeld => ?_)
  · exact H4_3.out.r
  clear hK K
  (try simp only [Act.put, List.setIfInBounds_toArray, List.set_cons_zero, List.set_cons_succ])
  refine wpAnyH_ready (rs := [6]) (by kernel_rfl) (by simp) ?_
  refine AllReadyH.cons rfl (fun K hK => ?_) AllReadyH.nil
  clear hHeld
  go_simp
  go_at_call 17
  refine (HD.out _ H4_3.out).mono ?_
  rintro e Z4_6 ⟨rfl, hr⟩
  have HR := Lib.hid hr
  clear hr
  go_wp2_with fail
  refine hK.out _ _ ?_ (fun hHeld => ?_)
  · exact HR.out.k.2 _ _ _ H4_3.out.r
  clear hK K
  (try simp only [Act.put, List.setIfInBounds_toArray, List.set_cons_zero, List.set_cons_succ])
  refine wpAnyH_done (by kernel_rfl) ?_ _
  go_wp2_with fail
  go_ret
  exact ⟨⟨_, rfl⟩, HR.out.l⟩
set_option maxRecDepth 100000 in
set_option maxHeartbeats 8000000 in
theorem act10_1 (w W : World) (P : Option Addr) (m : Nat) (x tt n : Int) (a : Nat) (A : Option Addr) (N C : Nat) (f : Nat → Int) (hs : SDead W (.pointer P)) (hd : DS w W m [] []) (hl : Il W A N f) (hN : N ≤ 100) (ha : a < 2 ^ 256) (hn : n < 2 ^ 63) :
    Calls Tryz.prog 6 #[.pointer P, .pointer (some ⟨m, 0, none⟩), .agg #[.int .i64 1, .int .i64 x, .int .i64 tt, .int .i64 n, .int .u64 (limb a 0 : Nat), .int .u64 (limb a 1 : Nat), .int .u64 (limb a 2 : Nat), .int .u64 (limb a 3 : Nat), .slice A N C]] W fun e W' => (∃ z, e = .returned (.bool z)) ∧ Below w.heap.size w W' := by
  have hb1 := (Below.refl W.heap.size W).alloc (Nat.le_refl _) (.cells #[.int .i64 1, .int .i64 x, .int .i64 tt, .int .i64 n, .int .u64 (limb a 0 : Nat), .int .u64 (limb a 1 : Nat), .int .u64 (limb a 2 : Nat), .int .u64 (limb a 3 : Nat), .slice A N C] 27)
  have hx1 := heap_alloc_new W (.cells #[.int .i64 1, .int .i64 x, .int .i64 tt, .int .i64 n, .int .u64 (limb a 0 : Nat), .int .u64 (limb a 1 : Nat), .int .u64 (limb a 2 : Nat), .int .u64 (limb a 3 : Nat), .slice A N C] 27)
  obtain ⟨W1, hW1⟩ : ∃ W1, W1 = W.alloc (.cells #[.int .i64 1, .int .i64 x, .int .i64 tt, .int .i64 n, .int .u64 (limb a 0 : Nat), .int .u64 (limb a 1 : Nat), .int .u64 (limb a 2 : Nat), .int .u64 (limb a 3 : Nat), .slice A N C] 27) := ⟨_, rfl⟩
  rw [← hW1] at hb1 hx1
  have Hd := Lib.hid (show AN w W1.drew P m W.heap.size #[.int .i64 1, .int .i64 x, .int .i64 tt, .int .i64 n, .int .u64 (limb a 0 : Nat), .int .u64 (limb a 1 : Nat), .int .u64 (limb a 2 : Nat), .int .u64 (limb a 3 : Nat), .slice A N C] A N f from ⟨hs.below hb1.drew, hd.below hb1.drew, hx1, hl.below hb1.drew⟩)
  have HW1 := Lib.hid hW1
  have hO := fun (Z : World) (h : AN w Z P m W.heap.size #[.int .i64 1, .int .i64 x, .int .i64 tt, .int .i64 n, .int .u64 (limb a 0 : Nat), .int .u64 (limb a 1 : Nat), .int .u64 (limb a 2 : Nat), .int .u64 (limb a 3 : Nat), .slice A N C] A N f) => csetAmount_dead (.pointer P) (kX x) a ha Z h.dd
  have hD := fun (Z : World) (h : AN w Z P m W.heap.size #[.int .i64 1, .int .i64 x, .int .i64 tt, .int .i64 n, .int .u64 (limb a 0 : Nat), .int .u64 (limb a 1 : Nat), .int .u64 (limb a 2 : Nat), .int .u64 (limb a 3 : Nat), .slice A N C] A N f) => rsetAmt_w w Z m (kX x) a h.ds ha
  (try unfold U at hO)
  (try unfold U at hD)
  have HO := Lib.hid hO
  have HD := Lib.hid hD
  clear hs hd hl hN ha hn hb1 hx1 hW1 hO hD
  go_enter Tryz.func6, Tryz.ntmps6
  go_upto_region 6 with fail
  rw [← HW1.out]
  obtain ⟨X, hX⟩ : ∃ X, X = W.heap.size := ⟨_, rfl⟩
  rw [← hX] at Hd HO HD ⊢
  clear hX HW1
  refine wp_region_held_drew (S := fun w' => w'.heap[X]? = some (.cells #[.int .i64 1, .int .i64 x, .int .i64 tt, .int .i64 n, .int .u64 (limb a 0 : Nat), .int .u64 (limb a 1 : Nat), .int .u64 (limb a 2 : Nat), .int .u64 (limb a 3 : Nat), .slice A N C] 27 (0, 0))) (by kernel_rfl) ?_ (fun hHeld => ?_)
  · exact Hd.out.r
  generalize W1.drew = Z0 at Hd hHeld ⊢
  refine wpAnyH_take (i := 0) (v := ?_) rfl (by kernel_rfl) (by kernel_rfl) (by kernel_rfl) (fun _ _ _ h => h) (Or.inl ⟨by kernel_rfl, ?_⟩) (by with_reducible assumption) ?_
  rotate_left
  · intro wz hSw
    (try dsimp only at hSw)
    go_simp
    (try with_reducible rfl)
  show wpAnyH _ _ _ _ _ _ _ (Act.put _ (some 27) _) _
  (try simp only [Act.put, List.setIfInBounds_toArray, List.set_cons_zero, List.set_cons_succ])
  refine wpAnyH_take (i := 1) (v := ?_) rfl (by kernel_rfl) (by kernel_rfl) (by kernel_rfl) (fun _ _ _ h => h) (Or.inl ⟨by kernel_rfl, ?_⟩) (by with_reducible assumption) ?_
  rotate_left
  · intro wz hSw
    (try dsimp only at hSw)
    go_simp
    (try with_reducible rfl)
  show wpAnyH _ _ _ _ _ _ _ (Act.put _ (some 28) _) _
  (try simp only [Act.put, List.setIfInBounds_toArray, List.set_cons_zero, List.set_cons_succ])
  refine wpAnyH_take (i := 2) (v := .int .i64 x) rfl (by kernel_rfl) (by kernel_rfl) (by kernel_rfl) (fun _ _ _ h => h) (Or.inl ⟨by kernel_rfl, ?_⟩) (by with_reducible assumption) ?_
  · intro wz hSw
    (try dsimp only at hSw)
    have y0 := (hp_cell (i := 1) hSw).trans rfl
    go_simp
    (try with_reducible rfl)
  show wpAnyH _ _ _ _ _ _ _ (Act.put _ (some 29) _) _
  (try simp only [Act.put, List.setIfInBounds_toArray, List.set_cons_zero, List.set_cons_succ])
  refine wpAnyH_take (i := 4) (v := ?_) rfl (by kernel_rfl) (by kernel_rfl) (by kernel_rfl) (fun _ _ _ h => h) (Or.inl ⟨by kernel_rfl, ?_⟩) (by with_reducible assumption) ?_
  rotate_left
  · intro wz hSw
    (try dsimp only at hSw)
    go_simp
    (try with_reducible rfl)
  show wpAnyH _ _ _ _ _ _ _ (Act.put _ (some 31) _) _
  (try simp only [Act.put, List.setIfInBounds_toArray, List.set_cons_zero, List.set_cons_succ])
  refine wpAnyH_take (i := 5) (v := .agg #[.int .u64 (limb a 0 : Nat), .int .u64 (limb a 1 : Nat), .int .u64 (limb a 2 : Nat), .int .u64 (limb a 3 : Nat)]) rfl (by kernel_rfl) (by kernel_rfl) (by kernel_rfl) (fun _ _ _ h => h) (Or.inl ⟨by kernel_rfl, ?_⟩) (by with_reducible assumption) ?_
  · intro wz hSw
    (try dsimp only at hSw)
    have y0 := (hp_cell (i := 4) hSw).trans rfl
    have y1 := (hp_cell (i := 5) hSw).trans rfl
    have y2 := (hp_cell (i := 6) hSw).trans rfl
    have y3 := (hp_cell (i := 7) hSw).trans rfl
    go_simp
    (try with_reducible rfl)
  show wpAnyH _ _ _ _ _ _ _ (Act.put _ (some 32) _) _
  (try simp only [Act.put, List.setIfInBounds_toArray, List.set_cons_zero, List.set_cons_succ])
  refine wpAnyH_ready (rs := [3]) (by kernel_rfl) (by simp) ?_
  refine AllReadyH.cons rfl (fun K hK => ?_) AllReadyH.nil
  clear hHeld
  go_simp
  go_at_call 8
  refine (key_any _ _).mono ?_
  rintro e Z6_3 ⟨rfl, hb⟩
  have H6_3 := Lib.hid (Hd.out.below hb)
  clear hb
  go_wp2_with fail
  refine hK.out _ _ ?_ (fun hHeld => ?_)
  · exact H6_3.out.r
  clear hK K
  (try simp only [Act.put, List.setIfInBounds_toArray, List.set_cons_zero, List.set_cons_succ])
  refine wpAnyH_ready (rs := [6]) (by kernel_rfl) (by simp) ?_
  refine AllReadyH.cons rfl (fun K hK => ?_) AllReadyH.nil
  clear hHeld
  go_simp
  go_at_call 19
  refine (HO.out _ H6_3.out).mono ?_
  rintro e Z6_6 ⟨rfl, hb⟩
  have H6_6 := Lib.hid (H6_3.out.below hb)
  clear hb
  go_wp2_with fail
  refine hK.out _ _ ?_ (fun hHeld => ?_)
  · exact H6_6.out.r
  clear hK K
  (try simp only [Act.put, List.setIfInBounds_toArray, List.set_cons_zero, List.set_cons_succ])
  refine wpAnyH_done (by kernel_rfl) ?_ _
  go_upto_region 7 with fail
  have Hd2 := Lib.hid (H6_6.out.below (Below.refl _ _).drew)
  clear hHeld
  refine wp_region_held_drew (S := fun w' => w'.heap[X]? = some (.cells #[.int .i64 1, .int .i64 x, .int .i64 tt, .int .i64 n, .int .u64 (limb a 0 : Nat), .int .u64 (limb a 1 : Nat), .int .u64 (limb a 2 : Nat), .int .u64 (limb a 3 : Nat), .slice A N C] 27 (0, 0))) (by kernel_rfl) ?_ (fun hHeld => ?_)
  · exact Hd2.out.r
  generalize Z6_6.drew = Y0 at Hd2 hHeld ⊢
  refine wpAnyH_take (i := 0) (v := ?_) rfl (by kernel_rfl) (by kernel_rfl) (by kernel_rfl) (fun _ _ _ h => h) (Or.inl ⟨by kernel_rfl, ?_⟩) (by with_reducible assumption) ?_
  rotate_left
  · intro wz hSw
    (try dsimp only at hSw)
    go_simp
    (try with_reducible rfl)
  show wpAnyH _ _ _ _ _ _ _ (Act.put _ (some 34) _) _
  (try simp only [Act.put, List.setIfInBounds_toArray, List.set_cons_zero, List.set_cons_succ])
  refine wpAnyH_take (i := 1) (v := ?_) rfl (by kernel_rfl) (by kernel_rfl) (by kernel_rfl) (fun _ _ _ h => h) (Or.inl ⟨by kernel_rfl, ?_⟩) (by with_reducible assumption) ?_
  rotate_left
  · intro wz hSw
    (try dsimp only at hSw)
    go_simp
    (try with_reducible rfl)
  show wpAnyH _ _ _ _ _ _ _ (Act.put _ (some 35) _) _
  (try simp only [Act.put, List.setIfInBounds_toArray, List.set_cons_zero, List.set_cons_succ])
  refine wpAnyH_take (i := 2) (v := .int .i64 x) rfl (by kernel_rfl) (by kernel_rfl) (by kernel_rfl) (fun _ _ _ h => h) (Or.inl ⟨by kernel_rfl, ?_⟩) (by with_reducible assumption) ?_
  · intro wz hSw
    (try dsimp only at hSw)
    have y0 := (hp_cell (i := 1) hSw).trans rfl
    go_simp
    (try with_reducible rfl)
  show wpAnyH _ _ _ _ _ _ _ (Act.put _ (some 36) _) _
  (try simp only [Act.put, List.setIfInBounds_toArray, List.set_cons_zero, List.set_cons_succ])
  refine wpAnyH_take (i := 4) (v := ?_) rfl (by kernel_rfl) (by kernel_rfl) (by kernel_rfl) (fun _ _ _ h => h) (Or.inl ⟨by kernel_rfl, ?_⟩) (by with_reducible assumption) ?_
  rotate_left
  · intro wz hSw
    (try dsimp only at hSw)
    go_simp
    (try with_reducible rfl)
  show wpAnyH _ _ _ _ _ _ _ (Act.put _ (some 38) _) _
  (try simp only [Act.put, List.setIfInBounds_toArray, List.set_cons_zero, List.set_cons_succ])
  refine wpAnyH_take (i := 5) (v := .agg #[.int .u64 (limb a 0 : Nat), .int .u64 (limb a 1 : Nat), .int .u64 (limb a 2 : Nat), .int .u64 (limb a 3 : Nat)]) rfl (by kernel_rfl) (by kernel_rfl) (by kernel_rfl) (fun _ _ _ h => h) (Or.inl ⟨by kernel_rfl, ?_⟩) (by with_reducible assumption) ?_
  · intro wz hSw
    (try dsimp only at hSw)
    have y0 := (hp_cell (i := 4) hSw).trans rfl
    have y1 := (hp_cell (i := 5) hSw).trans rfl
    have y2 := (hp_cell (i := 6) hSw).trans rfl
    have y3 := (hp_cell (i := 7) hSw).trans rfl
    go_simp
    (try with_reducible rfl)
  show wpAnyH _ _ _ _ _ _ _ (Act.put _ (some 39) _) _
  (try simp only [Act.put, List.setIfInBounds_toArray, List.set_cons_zero, List.set_cons_succ])
  refine wpAnyH_ready (rs := [3]) (by kernel_rfl) (by simp) ?_
  refine AllReadyH.cons rfl (fun K hK => ?_) AllReadyH.nil
  clear hHeld
  go_simp
  go_at_call 18
  refine (own_any _ _).mono ?_
  rintro e Z7_3 ⟨rfl, hb⟩
  have H7_3 := Lib.hid (Hd2.out.below hb)
  clear hb
  go_wp2_with fail
  refine hK.out _ _ ?_ (fun hHeld => ?_)
  · exact H7_3.out.r
  clear hK K
  (try simp only [Act.put, List.setIfInBounds_toArray, List.set_cons_zero, List.set_cons_succ])
  refine wpAnyH_ready (rs := [6]) (by kernel_rfl) (by simp) ?_
  refine AllReadyH.cons rfl (fun K hK => ?_) AllReadyH.nil
  clear hHeld
  go_simp
  go_at_call 20
  refine (HD.out _ H7_3.out).mono ?_
  rintro e Z7_6 ⟨rfl, hr⟩
  have HR := Lib.hid hr
  clear hr
  go_wp2_with fail
  refine hK.out _ _ ?_ (fun hHeld => ?_)
  · exact HR.out.k.2 _ _ _ H7_3.out.r
  clear hK K
  (try simp only [Act.put, List.setIfInBounds_toArray, List.set_cons_zero, List.set_cons_succ])
  refine wpAnyH_done (by kernel_rfl) ?_ _
  go_wp2_with fail
  go_ret
  exact ⟨⟨_, rfl⟩, HR.out.l⟩
set_option maxRecDepth 100000 in
set_option maxHeartbeats 8000000 in
theorem act10_2 (w W : World) (P : Option Addr) (m : Nat) (x tt n : Int) (a : Nat) (A : Option Addr) (N C : Nat) (f : Nat → Int) (hs : SDead W (.pointer P)) (hd : DS w W m [] []) (hl : Il W A N f) (hN : N ≤ 100) (ha : a < 2 ^ 256) (hn : n < 2 ^ 63) :
    Calls Tryz.prog 6 #[.pointer P, .pointer (some ⟨m, 0, none⟩), .agg #[.int .i64 2, .int .i64 x, .int .i64 tt, .int .i64 n, .int .u64 (limb a 0 : Nat), .int .u64 (limb a 1 : Nat), .int .u64 (limb a 2 : Nat), .int .u64 (limb a 3 : Nat), .slice A N C]] W fun e W' => (∃ z, e = .returned (.bool z)) ∧ Below w.heap.size w W' := by
  have hb1 := (Below.refl W.heap.size W).alloc (Nat.le_refl _) (.cells #[.int .i64 2, .int .i64 x, .int .i64 tt, .int .i64 n, .int .u64 (limb a 0 : Nat), .int .u64 (limb a 1 : Nat), .int .u64 (limb a 2 : Nat), .int .u64 (limb a 3 : Nat), .slice A N C] 27)
  have hx1 := heap_alloc_new W (.cells #[.int .i64 2, .int .i64 x, .int .i64 tt, .int .i64 n, .int .u64 (limb a 0 : Nat), .int .u64 (limb a 1 : Nat), .int .u64 (limb a 2 : Nat), .int .u64 (limb a 3 : Nat), .slice A N C] 27)
  obtain ⟨W1, hW1⟩ : ∃ W1, W1 = W.alloc (.cells #[.int .i64 2, .int .i64 x, .int .i64 tt, .int .i64 n, .int .u64 (limb a 0 : Nat), .int .u64 (limb a 1 : Nat), .int .u64 (limb a 2 : Nat), .int .u64 (limb a 3 : Nat), .slice A N C] 27) := ⟨_, rfl⟩
  rw [← hW1] at hb1 hx1
  have Hd := Lib.hid (show AN w W1.drew P m W.heap.size #[.int .i64 2, .int .i64 x, .int .i64 tt, .int .i64 n, .int .u64 (limb a 0 : Nat), .int .u64 (limb a 1 : Nat), .int .u64 (limb a 2 : Nat), .int .u64 (limb a 3 : Nat), .slice A N C] A N f from ⟨hs.below hb1.drew, hd.below hb1.drew, hx1, hl.below hb1.drew⟩)
  have HW1 := Lib.hid hW1
  have hO := fun (Z : World) (h : AN w Z P m W.heap.size #[.int .i64 2, .int .i64 x, .int .i64 tt, .int .i64 n, .int .u64 (limb a 0 : Nat), .int .u64 (limb a 1 : Nat), .int .u64 (limb a 2 : Nat), .int .u64 (limb a 3 : Nat), .slice A N C] A N f) => cadd_deadW P (kX x) a ha Z h.dd
  have hD := fun (Z : World) (h : AN w Z P m W.heap.size #[.int .i64 2, .int .i64 x, .int .i64 tt, .int .i64 n, .int .u64 (limb a 0 : Nat), .int .u64 (limb a 1 : Nat), .int .u64 (limb a 2 : Nat), .int .u64 (limb a 3 : Nat), .slice A N C] A N f) => radd_w w Z m (kX x) a h.ds ha
  (try unfold U at hO)
  (try unfold U at hD)
  have HO := Lib.hid hO
  have HD := Lib.hid hD
  clear hs hd hl hN ha hn hb1 hx1 hW1 hO hD
  go_enter Tryz.func6, Tryz.ntmps6
  go_upto_region 9 with fail
  rw [← HW1.out]
  obtain ⟨X, hX⟩ : ∃ X, X = W.heap.size := ⟨_, rfl⟩
  rw [← hX] at Hd HO HD ⊢
  clear hX HW1
  refine wp_region_held_drew (S := fun w' => w'.heap[X]? = some (.cells #[.int .i64 2, .int .i64 x, .int .i64 tt, .int .i64 n, .int .u64 (limb a 0 : Nat), .int .u64 (limb a 1 : Nat), .int .u64 (limb a 2 : Nat), .int .u64 (limb a 3 : Nat), .slice A N C] 27 (0, 0))) (by kernel_rfl) ?_ (fun hHeld => ?_)
  · exact Hd.out.r
  generalize W1.drew = Z0 at Hd hHeld ⊢
  refine wpAnyH_take (i := 0) (v := ?_) rfl (by kernel_rfl) (by kernel_rfl) (by kernel_rfl) (fun _ _ _ h => h) (Or.inl ⟨by kernel_rfl, ?_⟩) (by with_reducible assumption) ?_
  rotate_left
  · intro wz hSw
    (try dsimp only at hSw)
    go_simp
    (try with_reducible rfl)
  show wpAnyH _ _ _ _ _ _ _ (Act.put _ (some 43) _) _
  (try simp only [Act.put, List.setIfInBounds_toArray, List.set_cons_zero, List.set_cons_succ])
  refine wpAnyH_take (i := 1) (v := ?_) rfl (by kernel_rfl) (by kernel_rfl) (by kernel_rfl) (fun _ _ _ h => h) (Or.inl ⟨by kernel_rfl, ?_⟩) (by with_reducible assumption) ?_
  rotate_left
  · intro wz hSw
    (try dsimp only at hSw)
    go_simp
    (try with_reducible rfl)
  show wpAnyH _ _ _ _ _ _ _ (Act.put _ (some 44) _) _
  (try simp only [Act.put, List.setIfInBounds_toArray, List.set_cons_zero, List.set_cons_succ])
  refine wpAnyH_take (i := 2) (v := .int .i64 x) rfl (by kernel_rfl) (by kernel_rfl) (by kernel_rfl) (fun _ _ _ h => h) (Or.inl ⟨by kernel_rfl, ?_⟩) (by with_reducible assumption) ?_
  · intro wz hSw
    (try dsimp only at hSw)
    have y0 := (hp_cell (i := 1) hSw).trans rfl
    go_simp
    (try with_reducible rfl)
  show wpAnyH _ _ _ _ _ _ _ (Act.put _ (some 45) _) _
  (try simp only [Act.put, List.setIfInBounds_toArray, List.set_cons_zero, List.set_cons_succ])
  refine wpAnyH_take (i := 4) (v := ?_) rfl (by kernel_rfl) (by kernel_rfl) (by kernel_rfl) (fun _ _ _ h => h) (Or.inl ⟨by kernel_rfl, ?_⟩) (by with_reducible assumption) ?_
  rotate_left
  · intro wz hSw
    (try dsimp only at hSw)
    go_simp
    (try with_reducible rfl)
  show wpAnyH _ _ _ _ _ _ _ (Act.put _ (some 47) _) _
  (try simp only [Act.put, List.setIfInBounds_toArray, List.set_cons_zero, List.set_cons_succ])
  refine wpAnyH_take (i := 5) (v := .agg #[.int .u64 (limb a 0 : Nat), .int .u64 (limb a 1 : Nat), .int .u64 (limb a 2 : Nat), .int .u64 (limb a 3 : Nat)]) rfl (by kernel_rfl) (by kernel_rfl) (by kernel_rfl) (fun _ _ _ h => h) (Or.inl ⟨by kernel_rfl, ?_⟩) (by with_reducible assumption) ?_
  · intro wz hSw
    (try dsimp only at hSw)
    have y0 := (hp_cell (i := 4) hSw).trans rfl
    have y1 := (hp_cell (i := 5) hSw).trans rfl
    have y2 := (hp_cell (i := 6) hSw).trans rfl
    have y3 := (hp_cell (i := 7) hSw).trans rfl
    go_simp
    (try with_reducible rfl)
  show wpAnyH _ _ _ _ _ _ _ (Act.put _ (some 48) _) _
  (try simp only [Act.put, List.setIfInBounds_toArray, List.set_cons_zero, List.set_cons_succ])
  refine wpAnyH_take (i := 7) (v := ?_) rfl (by kernel_rfl) (by kernel_rfl) (by kernel_rfl) (fun _ _ _ h => h) (Or.inl ⟨by kernel_rfl, ?_⟩) (by with_reducible assumption) ?_
  rotate_left
  · intro wz hSw
    (try dsimp only at hSw)
    go_simp
    (try with_reducible rfl)
  show wpAnyH _ _ _ _ _ _ _ (Act.put _ (some 50) _) _
  (try simp only [Act.put, List.setIfInBounds_toArray, List.set_cons_zero, List.set_cons_succ])
  refine wpAnyH_take (i := 8) (v := ?_) rfl (by kernel_rfl) (by kernel_rfl) (by kernel_rfl) (fun _ _ _ h => h) (Or.inl ⟨by kernel_rfl, ?_⟩) (by with_reducible assumption) ?_
  rotate_left
  · intro wz hSw
    (try dsimp only at hSw)
    go_simp
    (try with_reducible rfl)
  show wpAnyH _ _ _ _ _ _ _ (Act.put _ (some 51) _) _
  (try simp only [Act.put, List.setIfInBounds_toArray, List.set_cons_zero, List.set_cons_succ])
  refine wpAnyH_take (i := 9) (v := .int .i64 x) rfl (by kernel_rfl) (by kernel_rfl) (by kernel_rfl) (fun _ _ _ h => h) (Or.inl ⟨by kernel_rfl, ?_⟩) (by with_reducible assumption) ?_
  · intro wz hSw
    (try dsimp only at hSw)
    have y0 := (hp_cell (i := 1) hSw).trans rfl
    go_simp
    (try with_reducible rfl)
  show wpAnyH _ _ _ _ _ _ _ (Act.put _ (some 52) _) _
  (try simp only [Act.put, List.setIfInBounds_toArray, List.set_cons_zero, List.set_cons_succ])
  refine wpAnyH_take (i := 11) (v := ?_) rfl (by kernel_rfl) (by kernel_rfl) (by kernel_rfl) (fun _ _ _ h => h) (Or.inl ⟨by kernel_rfl, ?_⟩) (by with_reducible assumption) ?_
  rotate_left
  · intro wz hSw
    (try dsimp only at hSw)
    go_simp
    (try with_reducible rfl)
  show wpAnyH _ _ _ _ _ _ _ (Act.put _ (some 54) _) _
  (try simp only [Act.put, List.setIfInBounds_toArray, List.set_cons_zero, List.set_cons_succ])
  refine wpAnyH_take (i := 12) (v := .agg #[.int .u64 (limb a 0 : Nat), .int .u64 (limb a 1 : Nat), .int .u64 (limb a 2 : Nat), .int .u64 (limb a 3 : Nat)]) rfl (by kernel_rfl) (by kernel_rfl) (by kernel_rfl) (fun _ _ _ h => h) (Or.inl ⟨by kernel_rfl, ?_⟩) (by with_reducible assumption) ?_
  · intro wz hSw
    (try dsimp only at hSw)
    have y0 := (hp_cell (i := 4) hSw).trans rfl
    have y1 := (hp_cell (i := 5) hSw).trans rfl
    have y2 := (hp_cell (i := 6) hSw).trans rfl
    have y3 := (hp_cell (i := 7) hSw).trans rfl
    go_simp
    (try with_reducible rfl)
  show wpAnyH _ _ _ _ _ _ _ (Act.put _ (some 55) _) _
  (try simp only [Act.put, List.setIfInBounds_toArray, List.set_cons_zero, List.set_cons_succ])
  refine wpAnyH_ready (rs := [3]) (by kernel_rfl) (by simp) ?_
  refine AllReadyH.cons rfl (fun K hK => ?_) AllReadyH.nil
  clear hHeld
  go_simp
  go_at_call 8
  refine (key_any _ _).mono ?_
  rintro e Z9_3 ⟨rfl, hb⟩
  have H9_3 := Lib.hid (Hd.out.below hb)
  clear hb
  go_wp2_with fail
  refine hK.out _ _ ?_ (fun hHeld => ?_)
  · exact H9_3.out.r
  clear hK K
  (try simp only [Act.put, List.setIfInBounds_toArray, List.set_cons_zero, List.set_cons_succ])
  refine wpAnyH_ready (rs := [6]) (by kernel_rfl) (by simp) ?_
  refine AllReadyH.cons rfl (fun K hK => ?_) AllReadyH.nil
  clear hHeld
  go_simp
  go_at_call 14
  refine (HO.out _ H9_3.out).mono ?_
  rintro e Z9_6 ⟨⟨i1, rfl⟩, hb⟩
  have H9_6 := Lib.hid (H9_3.out.below hb)
  clear hb
  go_wp2_with fail
  refine hK.out _ _ ?_ (fun hHeld => ?_)
  · exact H9_6.out.r
  clear hK K
  (try simp only [Act.put, List.setIfInBounds_toArray, List.set_cons_zero, List.set_cons_succ])
  refine wpAnyH_ready (rs := [10]) (by kernel_rfl) (by simp) ?_
  refine AllReadyH.cons rfl (fun K hK => ?_) AllReadyH.nil
  clear hHeld
  go_simp
  go_at_call 18
  refine (own_any _ _).mono ?_
  rintro e Z9_10 ⟨rfl, hb⟩
  have H9_10 := Lib.hid (H9_6.out.below hb)
  clear hb
  go_wp2_with fail
  refine hK.out _ _ ?_ (fun hHeld => ?_)
  · exact H9_10.out.r
  clear hK K
  (try simp only [Act.put, List.setIfInBounds_toArray, List.set_cons_zero, List.set_cons_succ])
  refine wpAnyH_ready (rs := [13]) (by kernel_rfl) (by simp) ?_
  refine AllReadyH.cons rfl (fun K hK => ?_) AllReadyH.nil
  clear hHeld
  go_simp
  go_at_call 21
  refine (HD.out _ H9_10.out).mono ?_
  rintro e Z9_13 ⟨⟨i2, rfl⟩, hr⟩
  have HR := Lib.hid hr
  clear hr
  go_wp2_with fail
  refine hK.out _ _ ?_ (fun hHeld => ?_)
  · exact HR.out.k.2 _ _ _ H9_10.out.r
  clear hK K
  (try simp only [Act.put, List.setIfInBounds_toArray, List.set_cons_zero, List.set_cons_succ])
  refine wpAnyH_take (i := 14) (v := ?_) rfl (by kernel_rfl) (by kernel_rfl) (by kernel_rfl) (fun _ _ _ h => h) (Or.inl ⟨by kernel_rfl, ?_⟩) (by with_reducible assumption) ?_
  rotate_left
  · intro wz hSw
    (try dsimp only at hSw)
    go_simp
    (try with_reducible rfl)
  show wpAnyH _ _ _ _ _ _ _ (Act.put _ (some 57) _) _
  (try simp only [Act.put, List.setIfInBounds_toArray, List.set_cons_zero, List.set_cons_succ])
  refine wpAnyH_take (i := 15) (v := ?_) rfl (by kernel_rfl) (by kernel_rfl) (by kernel_rfl) (fun _ _ _ h => h) (Or.inl ⟨by kernel_rfl, ?_⟩) (by with_reducible assumption) ?_
  rotate_left
  · intro wz hSw
    (try dsimp only at hSw)
    go_simp
    (try with_reducible rfl)
  show wpAnyH _ _ _ _ _ _ _ (Act.put _ (some 6) _) _
  (try simp only [Act.put, List.setIfInBounds_toArray, List.set_cons_zero, List.set_cons_succ])
  refine wpAnyH_done (by kernel_rfl) ?_ _
  go_wp2_with fail
  go_ret
  exact ⟨⟨_, rfl⟩, HR.out.l⟩
set_option maxRecDepth 100000 in
set_option maxHeartbeats 8000000 in
theorem act10_3 (w W : World) (P : Option Addr) (m : Nat) (x tt n : Int) (a : Nat) (A : Option Addr) (N C : Nat) (f : Nat → Int) (hs : SDead W (.pointer P)) (hd : DS w W m [] []) (hl : Il W A N f) (hN : N ≤ 100) (ha : a < 2 ^ 256) (hn : n < 2 ^ 63) :
    Calls Tryz.prog 6 #[.pointer P, .pointer (some ⟨m, 0, none⟩), .agg #[.int .i64 3, .int .i64 x, .int .i64 tt, .int .i64 n, .int .u64 (limb a 0 : Nat), .int .u64 (limb a 1 : Nat), .int .u64 (limb a 2 : Nat), .int .u64 (limb a 3 : Nat), .slice A N C]] W fun e W' => (∃ z, e = .returned (.bool z)) ∧ Below w.heap.size w W' := by
  have hb1 := (Below.refl W.heap.size W).alloc (Nat.le_refl _) (.cells #[.int .i64 3, .int .i64 x, .int .i64 tt, .int .i64 n, .int .u64 (limb a 0 : Nat), .int .u64 (limb a 1 : Nat), .int .u64 (limb a 2 : Nat), .int .u64 (limb a 3 : Nat), .slice A N C] 27)
  have hx1 := heap_alloc_new W (.cells #[.int .i64 3, .int .i64 x, .int .i64 tt, .int .i64 n, .int .u64 (limb a 0 : Nat), .int .u64 (limb a 1 : Nat), .int .u64 (limb a 2 : Nat), .int .u64 (limb a 3 : Nat), .slice A N C] 27)
  obtain ⟨W1, hW1⟩ : ∃ W1, W1 = W.alloc (.cells #[.int .i64 3, .int .i64 x, .int .i64 tt, .int .i64 n, .int .u64 (limb a 0 : Nat), .int .u64 (limb a 1 : Nat), .int .u64 (limb a 2 : Nat), .int .u64 (limb a 3 : Nat), .slice A N C] 27) := ⟨_, rfl⟩
  rw [← hW1] at hb1 hx1
  have Hd := Lib.hid (show AN w W1.drew P m W.heap.size #[.int .i64 3, .int .i64 x, .int .i64 tt, .int .i64 n, .int .u64 (limb a 0 : Nat), .int .u64 (limb a 1 : Nat), .int .u64 (limb a 2 : Nat), .int .u64 (limb a 3 : Nat), .slice A N C] A N f from ⟨hs.below hb1.drew, hd.below hb1.drew, hx1, hl.below hb1.drew⟩)
  have HW1 := Lib.hid hW1
  have hO := fun (Z : World) (h : AN w Z P m W.heap.size #[.int .i64 3, .int .i64 x, .int .i64 tt, .int .i64 n, .int .u64 (limb a 0 : Nat), .int .u64 (limb a 1 : Nat), .int .u64 (limb a 2 : Nat), .int .u64 (limb a 3 : Nat), .slice A N C] A N f) => csub_deadW P (kX x) a ha Z h.dd
  have hD := fun (Z : World) (h : AN w Z P m W.heap.size #[.int .i64 3, .int .i64 x, .int .i64 tt, .int .i64 n, .int .u64 (limb a 0 : Nat), .int .u64 (limb a 1 : Nat), .int .u64 (limb a 2 : Nat), .int .u64 (limb a 3 : Nat), .slice A N C] A N f) => rsub_w w Z m (kX x) a h.ds ha
  (try unfold U at hO)
  (try unfold U at hD)
  have HO := Lib.hid hO
  have HD := Lib.hid hD
  clear hs hd hl hN ha hn hb1 hx1 hW1 hO hD
  go_enter Tryz.func6, Tryz.ntmps6
  go_upto_region 11 with fail
  rw [← HW1.out]
  obtain ⟨X, hX⟩ : ∃ X, X = W.heap.size := ⟨_, rfl⟩
  rw [← hX] at Hd HO HD ⊢
  clear hX HW1
  refine wp_region_held_drew (S := fun w' => w'.heap[X]? = some (.cells #[.int .i64 3, .int .i64 x, .int .i64 tt, .int .i64 n, .int .u64 (limb a 0 : Nat), .int .u64 (limb a 1 : Nat), .int .u64 (limb a 2 : Nat), .int .u64 (limb a 3 : Nat), .slice A N C] 27 (0, 0))) (by kernel_rfl) ?_ (fun hHeld => ?_)
  · exact Hd.out.r
  generalize W1.drew = Z0 at Hd hHeld ⊢
  refine wpAnyH_take (i := 0) (v := ?_) rfl (by kernel_rfl) (by kernel_rfl) (by kernel_rfl) (fun _ _ _ h => h) (Or.inl ⟨by kernel_rfl, ?_⟩) (by with_reducible assumption) ?_
  rotate_left
  · intro wz hSw
    (try dsimp only at hSw)
    go_simp
    (try with_reducible rfl)
  show wpAnyH _ _ _ _ _ _ _ (Act.put _ (some 60) _) _
  (try simp only [Act.put, List.setIfInBounds_toArray, List.set_cons_zero, List.set_cons_succ])
  refine wpAnyH_take (i := 1) (v := ?_) rfl (by kernel_rfl) (by kernel_rfl) (by kernel_rfl) (fun _ _ _ h => h) (Or.inl ⟨by kernel_rfl, ?_⟩) (by with_reducible assumption) ?_
  rotate_left
  · intro wz hSw
    (try dsimp only at hSw)
    go_simp
    (try with_reducible rfl)
  show wpAnyH _ _ _ _ _ _ _ (Act.put _ (some 61) _) _
  (try simp only [Act.put, List.setIfInBounds_toArray, List.set_cons_zero, List.set_cons_succ])
  refine wpAnyH_take (i := 2) (v := .int .i64 x) rfl (by kernel_rfl) (by kernel_rfl) (by kernel_rfl) (fun _ _ _ h => h) (Or.inl ⟨by kernel_rfl, ?_⟩) (by with_reducible assumption) ?_
  · intro wz hSw
    (try dsimp only at hSw)
    have y0 := (hp_cell (i := 1) hSw).trans rfl
    go_simp
    (try with_reducible rfl)
  show wpAnyH _ _ _ _ _ _ _ (Act.put _ (some 62) _) _
  (try simp only [Act.put, List.setIfInBounds_toArray, List.set_cons_zero, List.set_cons_succ])
  refine wpAnyH_take (i := 4) (v := ?_) rfl (by kernel_rfl) (by kernel_rfl) (by kernel_rfl) (fun _ _ _ h => h) (Or.inl ⟨by kernel_rfl, ?_⟩) (by with_reducible assumption) ?_
  rotate_left
  · intro wz hSw
    (try dsimp only at hSw)
    go_simp
    (try with_reducible rfl)
  show wpAnyH _ _ _ _ _ _ _ (Act.put _ (some 64) _) _
  (try simp only [Act.put, List.setIfInBounds_toArray, List.set_cons_zero, List.set_cons_succ])
  refine wpAnyH_take (i := 5) (v := .agg #[.int .u64 (limb a 0 : Nat), .int .u64 (limb a 1 : Nat), .int .u64 (limb a 2 : Nat), .int .u64 (limb a 3 : Nat)]) rfl (by kernel_rfl) (by kernel_rfl) (by kernel_rfl) (fun _ _ _ h => h) (Or.inl ⟨by kernel_rfl, ?_⟩) (by with_reducible assumption) ?_
  · intro wz hSw
    (try dsimp only at hSw)
    have y0 := (hp_cell (i := 4) hSw).trans rfl
    have y1 := (hp_cell (i := 5) hSw).trans rfl
    have y2 := (hp_cell (i := 6) hSw).trans rfl
    have y3 := (hp_cell (i := 7) hSw).trans rfl
    go_simp
    (try with_reducible rfl)
  show wpAnyH _ _ _ _ _ _ _ (Act.put _ (some 65) _) _
  (try simp only [Act.put, List.setIfInBounds_toArray, List.set_cons_zero, List.set_cons_succ])
  refine wpAnyH_take (i := 7) (v := ?_) rfl (by kernel_rfl) (by kernel_rfl) (by kernel_rfl) (fun _ _ _ h => h) (Or.inl ⟨by kernel_rfl, ?_⟩) (by with_reducible assumption) ?_
  rotate_left
  · intro wz hSw
    (try dsimp only at hSw)
    go_simp
    (try with_reducible rfl)
  show wpAnyH _ _ _ _ _ _ _ (Act.put _ (some 67) _) _
  (try simp only [Act.put, List.setIfInBounds_toArray, List.set_cons_zero, List.set_cons_succ])
  refine wpAnyH_take (i := 8) (v := ?_) rfl (by kernel_rfl) (by kernel_rfl) (by kernel_rfl) (fun _ _ _ h => h) (Or.inl ⟨by kernel_rfl, ?_⟩) (by with_reducible assumption) ?_
  rotate_left
  · intro wz hSw
    (try dsimp only at hSw)
    go_simp
    (try with_reducible rfl)
  show wpAnyH _ _ _ _ _ _ _ (Act.put _ (some 68) _) _
  (try simp only [Act.put, List.setIfInBounds_toArray, List.set_cons_zero, List.set_cons_succ])
  refine wpAnyH_take (i := 9) (v := .int .i64 x) rfl (by kernel_rfl) (by kernel_rfl) (by kernel_rfl) (fun _ _ _ h => h) (Or.inl ⟨by kernel_rfl, ?_⟩) (by with_reducible assumption) ?_
  · intro wz hSw
    (try dsimp only at hSw)
    have y0 := (hp_cell (i := 1) hSw).trans rfl
    go_simp
    (try with_reducible rfl)
  show wpAnyH _ _ _ _ _ _ _ (Act.put _ (some 69) _) _
  (try simp only [Act.put, List.setIfInBounds_toArray, List.set_cons_zero, List.set_cons_succ])
  refine wpAnyH_take (i := 11) (v := ?_) rfl (by kernel_rfl) (by kernel_rfl) (by kernel_rfl) (fun _ _ _ h => h) (Or.inl ⟨by kernel_rfl, ?_⟩) (by with_reducible assumption) ?_
  rotate_left
  · intro wz hSw
    (try dsimp only at hSw)
    go_simp
    (try with_reducible rfl)
  show wpAnyH _ _ _ _ _ _ _ (Act.put _ (some 71) _) _
  (try simp only [Act.put, List.setIfInBounds_toArray, List.set_cons_zero, List.set_cons_succ])
  refine wpAnyH_take (i := 12) (v := .agg #[.int .u64 (limb a 0 : Nat), .int .u64 (limb a 1 : Nat), .int .u64 (limb a 2 : Nat), .int .u64 (limb a 3 : Nat)]) rfl (by kernel_rfl) (by kernel_rfl) (by kernel_rfl) (fun _ _ _ h => h) (Or.inl ⟨by kernel_rfl, ?_⟩) (by with_reducible assumption) ?_
  · intro wz hSw
    (try dsimp only at hSw)
    have y0 := (hp_cell (i := 4) hSw).trans rfl
    have y1 := (hp_cell (i := 5) hSw).trans rfl
    have y2 := (hp_cell (i := 6) hSw).trans rfl
    have y3 := (hp_cell (i := 7) hSw).trans rfl
    go_simp
    (try with_reducible rfl)
  show wpAnyH _ _ _ _ _ _ _ (Act.put _ (some 72) _) _
  (try simp only [Act.put, List.setIfInBounds_toArray, List.set_cons_zero, List.set_cons_succ])
  refine wpAnyH_ready (rs := [3]) (by kernel_rfl) (by simp) ?_
  refine AllReadyH.cons rfl (fun K hK => ?_) AllReadyH.nil
  clear hHeld
  go_simp
  go_at_call 8
  refine (key_any _ _).mono ?_
  rintro e Z11_3 ⟨rfl, hb⟩
  have H11_3 := Lib.hid (Hd.out.below hb)
  clear hb
  go_wp2_with fail
  refine hK.out _ _ ?_ (fun hHeld => ?_)
  · exact H11_3.out.r
  clear hK K
  (try simp only [Act.put, List.setIfInBounds_toArray, List.set_cons_zero, List.set_cons_succ])
  refine wpAnyH_ready (rs := [6]) (by kernel_rfl) (by simp) ?_
  refine AllReadyH.cons rfl (fun K hK => ?_) AllReadyH.nil
  clear hHeld
  go_simp
  go_at_call 11
  refine (HO.out _ H11_3.out).mono ?_
  rintro e Z11_6 ⟨⟨i1, rfl⟩, hb⟩
  have H11_6 := Lib.hid (H11_3.out.below hb)
  clear hb
  go_wp2_with fail
  refine hK.out _ _ ?_ (fun hHeld => ?_)
  · exact H11_6.out.r
  clear hK K
  (try simp only [Act.put, List.setIfInBounds_toArray, List.set_cons_zero, List.set_cons_succ])
  refine wpAnyH_ready (rs := [10]) (by kernel_rfl) (by simp) ?_
  refine AllReadyH.cons rfl (fun K hK => ?_) AllReadyH.nil
  clear hHeld
  go_simp
  go_at_call 18
  refine (own_any _ _).mono ?_
  rintro e Z11_10 ⟨rfl, hb⟩
  have H11_10 := Lib.hid (H11_6.out.below hb)
  clear hb
  go_wp2_with fail
  refine hK.out _ _ ?_ (fun hHeld => ?_)
  · exact H11_10.out.r
  clear hK K
  (try simp only [Act.put, List.setIfInBounds_toArray, List.set_cons_zero, List.set_cons_succ])
  refine wpAnyH_ready (rs := [13]) (by kernel_rfl) (by simp) ?_
  refine AllReadyH.cons rfl (fun K hK => ?_) AllReadyH.nil
  clear hHeld
  go_simp
  go_at_call 22
  refine (HD.out _ H11_10.out).mono ?_
  rintro e Z11_13 ⟨⟨i2, rfl⟩, hr⟩
  have HR := Lib.hid hr
  clear hr
  go_wp2_with fail
  refine hK.out _ _ ?_ (fun hHeld => ?_)
  · exact HR.out.k.2 _ _ _ H11_10.out.r
  clear hK K
  (try simp only [Act.put, List.setIfInBounds_toArray, List.set_cons_zero, List.set_cons_succ])
  refine wpAnyH_take (i := 14) (v := ?_) rfl (by kernel_rfl) (by kernel_rfl) (by kernel_rfl) (fun _ _ _ h => h) (Or.inl ⟨by kernel_rfl, ?_⟩) (by with_reducible assumption) ?_
  rotate_left
  · intro wz hSw
    (try dsimp only at hSw)
    go_simp
    (try with_reducible rfl)
  show wpAnyH _ _ _ _ _ _ _ (Act.put _ (some 74) _) _
  (try simp only [Act.put, List.setIfInBounds_toArray, List.set_cons_zero, List.set_cons_succ])
  refine wpAnyH_take (i := 15) (v := ?_) rfl (by kernel_rfl) (by kernel_rfl) (by kernel_rfl) (fun _ _ _ h => h) (Or.inl ⟨by kernel_rfl, ?_⟩) (by with_reducible assumption) ?_
  rotate_left
  · intro wz hSw
    (try dsimp only at hSw)
    go_simp
    (try with_reducible rfl)
  show wpAnyH _ _ _ _ _ _ _ (Act.put _ (some 6) _) _
  (try simp only [Act.put, List.setIfInBounds_toArray, List.set_cons_zero, List.set_cons_succ])
  refine wpAnyH_done (by kernel_rfl) ?_ _
  go_wp2_with fail
  go_ret
  exact ⟨⟨_, rfl⟩, HR.out.l⟩
set_option maxRecDepth 100000 in
set_option maxHeartbeats 8000000 in
theorem act10_4 (w W : World) (P : Option Addr) (m : Nat) (x tt n : Int) (a : Nat) (A : Option Addr) (N C : Nat) (f : Nat → Int) (hs : SDead W (.pointer P)) (hd : DS w W m [] []) (hl : Il W A N f) (hN : N ≤ 100) (ha : a < 2 ^ 256) (hn : n < 2 ^ 63) :
    Calls Tryz.prog 6 #[.pointer P, .pointer (some ⟨m, 0, none⟩), .agg #[.int .i64 4, .int .i64 x, .int .i64 tt, .int .i64 n, .int .u64 (limb a 0 : Nat), .int .u64 (limb a 1 : Nat), .int .u64 (limb a 2 : Nat), .int .u64 (limb a 3 : Nat), .slice A N C]] W fun e W' => (∃ z, e = .returned (.bool z)) ∧ Below w.heap.size w W' := by
  have hb1 := (Below.refl W.heap.size W).alloc (Nat.le_refl _) (.cells #[.int .i64 4, .int .i64 x, .int .i64 tt, .int .i64 n, .int .u64 (limb a 0 : Nat), .int .u64 (limb a 1 : Nat), .int .u64 (limb a 2 : Nat), .int .u64 (limb a 3 : Nat), .slice A N C] 27)
  have hx1 := heap_alloc_new W (.cells #[.int .i64 4, .int .i64 x, .int .i64 tt, .int .i64 n, .int .u64 (limb a 0 : Nat), .int .u64 (limb a 1 : Nat), .int .u64 (limb a 2 : Nat), .int .u64 (limb a 3 : Nat), .slice A N C] 27)
  obtain ⟨W1, hW1⟩ : ∃ W1, W1 = W.alloc (.cells #[.int .i64 4, .int .i64 x, .int .i64 tt, .int .i64 n, .int .u64 (limb a 0 : Nat), .int .u64 (limb a 1 : Nat), .int .u64 (limb a 2 : Nat), .int .u64 (limb a 3 : Nat), .slice A N C] 27) := ⟨_, rfl⟩
  rw [← hW1] at hb1 hx1
  have Hd := Lib.hid (show AN w W1.drew P m W.heap.size #[.int .i64 4, .int .i64 x, .int .i64 tt, .int .i64 n, .int .u64 (limb a 0 : Nat), .int .u64 (limb a 1 : Nat), .int .u64 (limb a 2 : Nat), .int .u64 (limb a 3 : Nat), .slice A N C] A N f from ⟨hs.below hb1.drew, hd.below hb1.drew, hx1, hl.below hb1.drew⟩)
  have HW1 := Lib.hid hW1
  have hO := fun (Z : World) (h : AN w Z P m W.heap.size #[.int .i64 4, .int .i64 x, .int .i64 tt, .int .i64 n, .int .u64 (limb a 0 : Nat), .int .u64 (limb a 1 : Nat), .int .u64 (limb a 2 : Nat), .int .u64 (limb a 3 : Nat), .slice A N C] A N f) => cmove_dead P h.dd (kX x) (kX tt) a ha
  have hD := fun (Z : World) (h : AN w Z P m W.heap.size #[.int .i64 4, .int .i64 x, .int .i64 tt, .int .i64 n, .int .u64 (limb a 0 : Nat), .int .u64 (limb a 1 : Nat), .int .u64 (limb a 2 : Nat), .int .u64 (limb a 3 : Nat), .slice A N C] A N f) => rmove_w w Z m (kX x) (kX tt) a h.ds ha
  (try unfold U at hO)
  (try unfold U at hD)
  have HO := Lib.hid hO
  have HD := Lib.hid hD
  clear hs hd hl hN ha hn hb1 hx1 hW1 hO hD
  go_enter Tryz.func6, Tryz.ntmps6
  go_upto_region 13 with fail
  rw [← HW1.out]
  obtain ⟨X, hX⟩ : ∃ X, X = W.heap.size := ⟨_, rfl⟩
  rw [← hX] at Hd HO HD ⊢
  clear hX HW1
  refine wp_region_held_drew (S := fun w' => w'.heap[X]? = some (.cells #[.int .i64 4, .int .i64 x, .int .i64 tt, .int .i64 n, .int .u64 (limb a 0 : Nat), .int .u64 (limb a 1 : Nat), .int .u64 (limb a 2 : Nat), .int .u64 (limb a 3 : Nat), .slice A N C] 27 (0, 0))) (by kernel_rfl) ?_ (fun hHeld => ?_)
  · exact Hd.out.r
  generalize W1.drew = Z0 at Hd hHeld ⊢
  refine wpAnyH_take (i := 0) (v := ?_) rfl (by kernel_rfl) (by kernel_rfl) (by kernel_rfl) (fun _ _ _ h => h) (Or.inl ⟨by kernel_rfl, ?_⟩) (by with_reducible assumption) ?_
  rotate_left
  · intro wz hSw
    (try dsimp only at hSw)
    go_simp
    (try with_reducible rfl)
  show wpAnyH _ _ _ _ _ _ _ (Act.put _ (some 77) _) _
  (try simp only [Act.put, List.setIfInBounds_toArray, List.set_cons_zero, List.set_cons_succ])
  refine wpAnyH_take (i := 1) (v := ?_) rfl (by kernel_rfl) (by kernel_rfl) (by kernel_rfl) (fun _ _ _ h => h) (Or.inl ⟨by kernel_rfl, ?_⟩) (by with_reducible assumption) ?_
  rotate_left
  · intro wz hSw
    (try dsimp only at hSw)
    go_simp
    (try with_reducible rfl)
  show wpAnyH _ _ _ _ _ _ _ (Act.put _ (some 78) _) _
  (try simp only [Act.put, List.setIfInBounds_toArray, List.set_cons_zero, List.set_cons_succ])
  refine wpAnyH_take (i := 2) (v := .int .i64 x) rfl (by kernel_rfl) (by kernel_rfl) (by kernel_rfl) (fun _ _ _ h => h) (Or.inl ⟨by kernel_rfl, ?_⟩) (by with_reducible assumption) ?_
  · intro wz hSw
    (try dsimp only at hSw)
    have y0 := (hp_cell (i := 1) hSw).trans rfl
    go_simp
    (try with_reducible rfl)
  show wpAnyH _ _ _ _ _ _ _ (Act.put _ (some 79) _) _
  (try simp only [Act.put, List.setIfInBounds_toArray, List.set_cons_zero, List.set_cons_succ])
  refine wpAnyH_take (i := 4) (v := ?_) rfl (by kernel_rfl) (by kernel_rfl) (by kernel_rfl) (fun _ _ _ h => h) (Or.inl ⟨by kernel_rfl, ?_⟩) (by with_reducible assumption) ?_
  rotate_left
  · intro wz hSw
    (try dsimp only at hSw)
    go_simp
    (try with_reducible rfl)
  show wpAnyH _ _ _ _ _ _ _ (Act.put _ (some 81) _) _
  (try simp only [Act.put, List.setIfInBounds_toArray, List.set_cons_zero, List.set_cons_succ])
  refine wpAnyH_take (i := 5) (v := .int .i64 tt) rfl (by kernel_rfl) (by kernel_rfl) (by kernel_rfl) (fun _ _ _ h => h) (Or.inl ⟨by kernel_rfl, ?_⟩) (by with_reducible assumption) ?_
  · intro wz hSw
    (try dsimp only at hSw)
    have y0 := (hp_cell (i := 2) hSw).trans rfl
    go_simp
    (try with_reducible rfl)
  show wpAnyH _ _ _ _ _ _ _ (Act.put _ (some 82) _) _
  (try simp only [Act.put, List.setIfInBounds_toArray, List.set_cons_zero, List.set_cons_succ])
  refine wpAnyH_take (i := 7) (v := ?_) rfl (by kernel_rfl) (by kernel_rfl) (by kernel_rfl) (fun _ _ _ h => h) (Or.inl ⟨by kernel_rfl, ?_⟩) (by with_reducible assumption) ?_
  rotate_left
  · intro wz hSw
    (try dsimp only at hSw)
    go_simp
    (try with_reducible rfl)
  show wpAnyH _ _ _ _ _ _ _ (Act.put _ (some 84) _) _
  (try simp only [Act.put, List.setIfInBounds_toArray, List.set_cons_zero, List.set_cons_succ])
  refine wpAnyH_take (i := 8) (v := .agg #[.int .u64 (limb a 0 : Nat), .int .u64 (limb a 1 : Nat), .int .u64 (limb a 2 : Nat), .int .u64 (limb a 3 : Nat)]) rfl (by kernel_rfl) (by kernel_rfl) (by kernel_rfl) (fun _ _ _ h => h) (Or.inl ⟨by kernel_rfl, ?_⟩) (by with_reducible assumption) ?_
  · intro wz hSw
    (try dsimp only at hSw)
    have y0 := (hp_cell (i := 4) hSw).trans rfl
    have y1 := (hp_cell (i := 5) hSw).trans rfl
    have y2 := (hp_cell (i := 6) hSw).trans rfl
    have y3 := (hp_cell (i := 7) hSw).trans rfl
    go_simp
    (try with_reducible rfl)
  show wpAnyH _ _ _ _ _ _ _ (Act.put _ (some 85) _) _
  (try simp only [Act.put, List.setIfInBounds_toArray, List.set_cons_zero, List.set_cons_succ])
  refine wpAnyH_take (i := 10) (v := ?_) rfl (by kernel_rfl) (by kernel_rfl) (by kernel_rfl) (fun _ _ _ h => h) (Or.inl ⟨by kernel_rfl, ?_⟩) (by with_reducible assumption) ?_
  rotate_left
  · intro wz hSw
    (try dsimp only at hSw)
    go_simp
    (try with_reducible rfl)
  show wpAnyH _ _ _ _ _ _ _ (Act.put _ (some 87) _) _
  (try simp only [Act.put, List.setIfInBounds_toArray, List.set_cons_zero, List.set_cons_succ])
  refine wpAnyH_take (i := 11) (v := ?_) rfl (by kernel_rfl) (by kernel_rfl) (by kernel_rfl) (fun _ _ _ h => h) (Or.inl ⟨by kernel_rfl, ?_⟩) (by with_reducible assumption) ?_
  rotate_left
  · intro wz hSw
    (try dsimp only at hSw)
    go_simp
    (try with_reducible rfl)
  show wpAnyH _ _ _ _ _ _ _ (Act.put _ (some 88) _) _
  (try simp only [Act.put, List.setIfInBounds_toArray, List.set_cons_zero, List.set_cons_succ])
  refine wpAnyH_take (i := 12) (v := .int .i64 x) rfl (by kernel_rfl) (by kernel_rfl) (by kernel_rfl) (fun _ _ _ h => h) (Or.inl ⟨by kernel_rfl, ?_⟩) (by with_reducible assumption) ?_
  · intro wz hSw
    (try dsimp only at hSw)
    have y0 := (hp_cell (i := 1) hSw).trans rfl
    go_simp
    (try with_reducible rfl)
  show wpAnyH _ _ _ _ _ _ _ (Act.put _ (some 89) _) _
  (try simp only [Act.put, List.setIfInBounds_toArray, List.set_cons_zero, List.set_cons_succ])
  refine wpAnyH_take (i := 14) (v := ?_) rfl (by kernel_rfl) (by kernel_rfl) (by kernel_rfl) (fun _ _ _ h => h) (Or.inl ⟨by kernel_rfl, ?_⟩) (by with_reducible assumption) ?_
  rotate_left
  · intro wz hSw
    (try dsimp only at hSw)
    go_simp
    (try with_reducible rfl)
  show wpAnyH _ _ _ _ _ _ _ (Act.put _ (some 91) _) _
  (try simp only [Act.put, List.setIfInBounds_toArray, List.set_cons_zero, List.set_cons_succ])
  refine wpAnyH_take (i := 15) (v := .int .i64 tt) rfl (by kernel_rfl) (by kernel_rfl) (by kernel_rfl) (fun _ _ _ h => h) (Or.inl ⟨by kernel_rfl, ?_⟩) (by with_reducible assumption) ?_
  · intro wz hSw
    (try dsimp only at hSw)
    have y0 := (hp_cell (i := 2) hSw).trans rfl
    go_simp
    (try with_reducible rfl)
  show wpAnyH _ _ _ _ _ _ _ (Act.put _ (some 92) _) _
  (try simp only [Act.put, List.setIfInBounds_toArray, List.set_cons_zero, List.set_cons_succ])
  refine wpAnyH_take (i := 17) (v := ?_) rfl (by kernel_rfl) (by kernel_rfl) (by kernel_rfl) (fun _ _ _ h => h) (Or.inl ⟨by kernel_rfl, ?_⟩) (by with_reducible assumption) ?_
  rotate_left
  · intro wz hSw
    (try dsimp only at hSw)
    go_simp
    (try with_reducible rfl)
  show wpAnyH _ _ _ _ _ _ _ (Act.put _ (some 94) _) _
  (try simp only [Act.put, List.setIfInBounds_toArray, List.set_cons_zero, List.set_cons_succ])
  refine wpAnyH_take (i := 18) (v := .agg #[.int .u64 (limb a 0 : Nat), .int .u64 (limb a 1 : Nat), .int .u64 (limb a 2 : Nat), .int .u64 (limb a 3 : Nat)]) rfl (by kernel_rfl) (by kernel_rfl) (by kernel_rfl) (fun _ _ _ h => h) (Or.inl ⟨by kernel_rfl, ?_⟩) (by with_reducible assumption) ?_
  · intro wz hSw
    (try dsimp only at hSw)
    have y0 := (hp_cell (i := 4) hSw).trans rfl
    have y1 := (hp_cell (i := 5) hSw).trans rfl
    have y2 := (hp_cell (i := 6) hSw).trans rfl
    have y3 := (hp_cell (i := 7) hSw).trans rfl
    go_simp
    (try with_reducible rfl)
  show wpAnyH _ _ _ _ _ _ _ (Act.put _ (some 95) _) _
  (try simp only [Act.put, List.setIfInBounds_toArray, List.set_cons_zero, List.set_cons_succ])
  refine wpAnyH_ready (rs := [3]) (by kernel_rfl) (by simp) ?_
  refine AllReadyH.cons rfl (fun K hK => ?_) AllReadyH.nil
  clear hHeld
  go_simp
  go_at_call 8
  refine (key_any _ _).mono ?_
  rintro e Z13_3 ⟨rfl, hb⟩
  have H13_3 := Lib.hid (Hd.out.below hb)
  clear hb
  go_wp2_with fail
  refine hK.out _ _ ?_ (fun hHeld => ?_)
  · exact H13_3.out.r
  clear hK K
  (try simp only [Act.put, List.setIfInBounds_toArray, List.set_cons_zero, List.set_cons_succ])
  refine wpAnyH_ready (rs := [6]) (by kernel_rfl) (by simp) ?_
  refine AllReadyH.cons rfl (fun K hK => ?_) AllReadyH.nil
  clear hHeld
  go_simp
  go_at_call 8
  refine (key_any _ _).mono ?_
  rintro e Z13_6 ⟨rfl, hb⟩
  have H13_6 := Lib.hid (H13_3.out.below hb)
  clear hb
  go_wp2_with fail
  refine hK.out _ _ ?_ (fun hHeld => ?_)
  · exact H13_6.out.r
  clear hK K
  (try simp only [Act.put, List.setIfInBounds_toArray, List.set_cons_zero, List.set_cons_succ])
  refine wpAnyH_ready (rs := [9]) (by kernel_rfl) (by simp) ?_
  refine AllReadyH.cons rfl (fun K hK => ?_) AllReadyH.nil
  clear hHeld
  go_simp
  go_at_call 23
  refine (HO.out _ H13_6.out).mono ?_
  rintro e Z13_9 ⟨⟨i1, rfl⟩, hb⟩
  have H13_9 := Lib.hid (H13_6.out.below hb)
  clear hb
  go_wp2_with fail
  refine hK.out _ _ ?_ (fun hHeld => ?_)
  · exact H13_9.out.r
  clear hK K
  (try simp only [Act.put, List.setIfInBounds_toArray, List.set_cons_zero, List.set_cons_succ])
  refine wpAnyH_ready (rs := [13]) (by kernel_rfl) (by simp) ?_
  refine AllReadyH.cons rfl (fun K hK => ?_) AllReadyH.nil
  clear hHeld
  go_simp
  go_at_call 18
  refine (own_any _ _).mono ?_
  rintro e Z13_13 ⟨rfl, hb⟩
  have H13_13 := Lib.hid (H13_9.out.below hb)
  clear hb
  go_wp2_with fail
  refine hK.out _ _ ?_ (fun hHeld => ?_)
  · exact H13_13.out.r
  clear hK K
  (try simp only [Act.put, List.setIfInBounds_toArray, List.set_cons_zero, List.set_cons_succ])
  refine wpAnyH_ready (rs := [16]) (by kernel_rfl) (by simp) ?_
  refine AllReadyH.cons rfl (fun K hK => ?_) AllReadyH.nil
  clear hHeld
  go_simp
  go_at_call 18
  refine (own_any _ _).mono ?_
  rintro e Z13_16 ⟨rfl, hb⟩
  have H13_16 := Lib.hid (H13_13.out.below hb)
  clear hb
  go_wp2_with fail
  refine hK.out _ _ ?_ (fun hHeld => ?_)
  · exact H13_16.out.r
  clear hK K
  (try simp only [Act.put, List.setIfInBounds_toArray, List.set_cons_zero, List.set_cons_succ])
  refine wpAnyH_ready (rs := [19]) (by kernel_rfl) (by simp) ?_
  refine AllReadyH.cons rfl (fun K hK => ?_) AllReadyH.nil
  clear hHeld
  go_simp
  go_at_call 24
  refine (HD.out _ H13_16.out).mono ?_
  rintro e Z13_19 ⟨⟨i2, rfl⟩, hr⟩
  have HR := Lib.hid hr
  clear hr
  go_wp2_with fail
  refine hK.out _ _ ?_ (fun hHeld => ?_)
  · exact HR.out.k.2 _ _ _ H13_16.out.r
  clear hK K
  (try simp only [Act.put, List.setIfInBounds_toArray, List.set_cons_zero, List.set_cons_succ])
  refine wpAnyH_take (i := 20) (v := ?_) rfl (by kernel_rfl) (by kernel_rfl) (by kernel_rfl) (fun _ _ _ h => h) (Or.inl ⟨by kernel_rfl, ?_⟩) (by with_reducible assumption) ?_
  rotate_left
  · intro wz hSw
    (try dsimp only at hSw)
    go_simp
    (try with_reducible rfl)
  show wpAnyH _ _ _ _ _ _ _ (Act.put _ (some 97) _) _
  (try simp only [Act.put, List.setIfInBounds_toArray, List.set_cons_zero, List.set_cons_succ])
  refine wpAnyH_take (i := 21) (v := ?_) rfl (by kernel_rfl) (by kernel_rfl) (by kernel_rfl) (fun _ _ _ h => h) (Or.inl ⟨by kernel_rfl, ?_⟩) (by with_reducible assumption) ?_
  rotate_left
  · intro wz hSw
    (try dsimp only at hSw)
    go_simp
    (try with_reducible rfl)
  show wpAnyH _ _ _ _ _ _ _ (Act.put _ (some 6) _) _
  (try simp only [Act.put, List.setIfInBounds_toArray, List.set_cons_zero, List.set_cons_succ])
  refine wpAnyH_done (by kernel_rfl) ?_ _
  go_wp2_with fail
  go_ret
  exact ⟨⟨_, rfl⟩, HR.out.l⟩
set_option maxRecDepth 100000 in
set_option maxHeartbeats 8000000 in
theorem act10_5 (w W : World) (P : Option Addr) (m : Nat) (x tt n : Int) (a : Nat) (A : Option Addr) (N C : Nat) (f : Nat → Int) (hs : SDead W (.pointer P)) (hd : DS w W m [] []) (hl : Il W A N f) (hN : N ≤ 100) (ha : a < 2 ^ 256) (hn : n < 2 ^ 63) :
    Calls Tryz.prog 6 #[.pointer P, .pointer (some ⟨m, 0, none⟩), .agg #[.int .i64 5, .int .i64 x, .int .i64 tt, .int .i64 n, .int .u64 (limb a 0 : Nat), .int .u64 (limb a 1 : Nat), .int .u64 (limb a 2 : Nat), .int .u64 (limb a 3 : Nat), .slice A N C]] W fun e W' => (∃ z, e = .returned (.bool z)) ∧ Below w.heap.size w W' := by
  have hb1 := (Below.refl W.heap.size W).alloc (Nat.le_refl _) (.cells #[.int .i64 5, .int .i64 x, .int .i64 tt, .int .i64 n, .int .u64 (limb a 0 : Nat), .int .u64 (limb a 1 : Nat), .int .u64 (limb a 2 : Nat), .int .u64 (limb a 3 : Nat), .slice A N C] 27)
  have hx1 := heap_alloc_new W (.cells #[.int .i64 5, .int .i64 x, .int .i64 tt, .int .i64 n, .int .u64 (limb a 0 : Nat), .int .u64 (limb a 1 : Nat), .int .u64 (limb a 2 : Nat), .int .u64 (limb a 3 : Nat), .slice A N C] 27)
  obtain ⟨W1, hW1⟩ : ∃ W1, W1 = W.alloc (.cells #[.int .i64 5, .int .i64 x, .int .i64 tt, .int .i64 n, .int .u64 (limb a 0 : Nat), .int .u64 (limb a 1 : Nat), .int .u64 (limb a 2 : Nat), .int .u64 (limb a 3 : Nat), .slice A N C] 27) := ⟨_, rfl⟩
  rw [← hW1] at hb1 hx1
  have Hd := Lib.hid (show AN w W1.drew P m W.heap.size #[.int .i64 5, .int .i64 x, .int .i64 tt, .int .i64 n, .int .u64 (limb a 0 : Nat), .int .u64 (limb a 1 : Nat), .int .u64 (limb a 2 : Nat), .int .u64 (limb a 3 : Nat), .slice A N C] A N f from ⟨hs.below hb1.drew, hd.below hb1.drew, hx1, hl.below hb1.drew⟩)
  have HW1 := Lib.hid hW1
  have hO := fun (Z : World) (h : AN w Z P m W.heap.size #[.int .i64 5, .int .i64 x, .int .i64 tt, .int .i64 n, .int .u64 (limb a 0 : Nat), .int .u64 (limb a 1 : Nat), .int .u64 (limb a 2 : Nat), .int .u64 (limb a 3 : Nat), .slice A N C] A N f) => csetRow_dead P h.dd (kX x) A N C f h.l hN
  have hD := fun (Z : World) (h : AN w Z P m W.heap.size #[.int .i64 5, .int .i64 x, .int .i64 tt, .int .i64 n, .int .u64 (limb a 0 : Nat), .int .u64 (limb a 1 : Nat), .int .u64 (limb a 2 : Nat), .int .u64 (limb a 3 : Nat), .slice A N C] A N f) => rsetRow_w w Z m (kX x) A N C f h.ds h.l hN
  (try unfold U at hO)
  (try unfold U at hD)
  have HO := Lib.hid hO
  have HD := Lib.hid hD
  clear hs hd hl hN ha hn hb1 hx1 hW1 hO hD
  go_enter Tryz.func6, Tryz.ntmps6
  go_upto_region 15 with fail
  rw [← HW1.out]
  obtain ⟨X, hX⟩ : ∃ X, X = W.heap.size := ⟨_, rfl⟩
  rw [← hX] at Hd HO HD ⊢
  clear hX HW1
  refine wp_region_held_drew (S := fun w' => w'.heap[X]? = some (.cells #[.int .i64 5, .int .i64 x, .int .i64 tt, .int .i64 n, .int .u64 (limb a 0 : Nat), .int .u64 (limb a 1 : Nat), .int .u64 (limb a 2 : Nat), .int .u64 (limb a 3 : Nat), .slice A N C] 27 (0, 0))) (by kernel_rfl) ?_ (fun hHeld => ?_)
  · exact Hd.out.r
  generalize W1.drew = Z0 at Hd hHeld ⊢
  refine wpAnyH_take (i := 0) (v := ?_) rfl (by kernel_rfl) (by kernel_rfl) (by kernel_rfl) (fun _ _ _ h => h) (Or.inl ⟨by kernel_rfl, ?_⟩) (by with_reducible assumption) ?_
  rotate_left
  · intro wz hSw
    (try dsimp only at hSw)
    go_simp
    (try with_reducible rfl)
  show wpAnyH _ _ _ _ _ _ _ (Act.put _ (some 100) _) _
  (try simp only [Act.put, List.setIfInBounds_toArray, List.set_cons_zero, List.set_cons_succ])
  refine wpAnyH_take (i := 1) (v := ?_) rfl (by kernel_rfl) (by kernel_rfl) (by kernel_rfl) (fun _ _ _ h => h) (Or.inl ⟨by kernel_rfl, ?_⟩) (by with_reducible assumption) ?_
  rotate_left
  · intro wz hSw
    (try dsimp only at hSw)
    go_simp
    (try with_reducible rfl)
  show wpAnyH _ _ _ _ _ _ _ (Act.put _ (some 101) _) _
  (try simp only [Act.put, List.setIfInBounds_toArray, List.set_cons_zero, List.set_cons_succ])
  refine wpAnyH_take (i := 2) (v := .int .i64 x) rfl (by kernel_rfl) (by kernel_rfl) (by kernel_rfl) (fun _ _ _ h => h) (Or.inl ⟨by kernel_rfl, ?_⟩) (by with_reducible assumption) ?_
  · intro wz hSw
    (try dsimp only at hSw)
    have y0 := (hp_cell (i := 1) hSw).trans rfl
    go_simp
    (try with_reducible rfl)
  show wpAnyH _ _ _ _ _ _ _ (Act.put _ (some 102) _) _
  (try simp only [Act.put, List.setIfInBounds_toArray, List.set_cons_zero, List.set_cons_succ])
  refine wpAnyH_take (i := 4) (v := ?_) rfl (by kernel_rfl) (by kernel_rfl) (by kernel_rfl) (fun _ _ _ h => h) (Or.inl ⟨by kernel_rfl, ?_⟩) (by with_reducible assumption) ?_
  rotate_left
  · intro wz hSw
    (try dsimp only at hSw)
    go_simp
    (try with_reducible rfl)
  show wpAnyH _ _ _ _ _ _ _ (Act.put _ (some 104) _) _
  (try simp only [Act.put, List.setIfInBounds_toArray, List.set_cons_zero, List.set_cons_succ])
  refine wpAnyH_take (i := 5) (v := .slice A N C) rfl (by kernel_rfl) (by kernel_rfl) (by kernel_rfl) (fun _ _ _ h => h) (Or.inl ⟨by kernel_rfl, ?_⟩) (by with_reducible assumption) ?_
  · intro wz hSw
    (try dsimp only at hSw)
    have y0 := (hp_cell (i := 8) hSw).trans rfl
    go_simp
    (try with_reducible rfl)
  show wpAnyH _ _ _ _ _ _ _ (Act.put _ (some 105) _) _
  (try simp only [Act.put, List.setIfInBounds_toArray, List.set_cons_zero, List.set_cons_succ])
  refine wpAnyH_ready (rs := [3]) (by kernel_rfl) (by simp) ?_
  refine AllReadyH.cons rfl (fun K hK => ?_) AllReadyH.nil
  clear hHeld
  go_simp
  go_at_call 8
  refine (key_any _ _).mono ?_
  rintro e Z15_3 ⟨rfl, hb⟩
  have H15_3 := Lib.hid (Hd.out.below hb)
  clear hb
  go_wp2_with fail
  refine hK.out _ _ ?_ (fun hHeld => ?_)
  · exact H15_3.out.r
  clear hK K
  (try simp only [Act.put, List.setIfInBounds_toArray, List.set_cons_zero, List.set_cons_succ])
  refine wpAnyH_ready (rs := [6]) (by kernel_rfl) (by simp) ?_
  refine AllReadyH.cons rfl (fun K hK => ?_) AllReadyH.nil
  clear hHeld
  go_simp
  go_at_call 25
  refine (HO.out _ H15_3.out).mono ?_
  rintro e Z15_6 ⟨rfl, hb⟩
  have H15_6 := Lib.hid (H15_3.out.below hb)
  clear hb
  go_wp2_with fail
  refine hK.out _ _ ?_ (fun hHeld => ?_)
  · exact H15_6.out.r
  clear hK K
  (try simp only [Act.put, List.setIfInBounds_toArray, List.set_cons_zero, List.set_cons_succ])
  refine wpAnyH_done (by kernel_rfl) ?_ _
  go_upto_region 16 with fail
  have Hd2 := Lib.hid (H15_6.out.below (Below.refl _ _).drew)
  clear hHeld
  refine wp_region_held_drew (S := fun w' => w'.heap[X]? = some (.cells #[.int .i64 5, .int .i64 x, .int .i64 tt, .int .i64 n, .int .u64 (limb a 0 : Nat), .int .u64 (limb a 1 : Nat), .int .u64 (limb a 2 : Nat), .int .u64 (limb a 3 : Nat), .slice A N C] 27 (0, 0))) (by kernel_rfl) ?_ (fun hHeld => ?_)
  · exact Hd2.out.r
  generalize Z15_6.drew = Y0 at Hd2 hHeld ⊢
  refine wpAnyH_take (i := 0) (v := ?_) rfl (by kernel_rfl) (by kernel_rfl) (by kernel_rfl) (fun _ _ _ h => h) (Or.inl ⟨by kernel_rfl, ?_⟩) (by with_reducible assumption) ?_
  rotate_left
  · intro wz hSw
    (try dsimp only at hSw)
    go_simp
    (try with_reducible rfl)
  show wpAnyH _ _ _ _ _ _ _ (Act.put _ (some 107) _) _
  (try simp only [Act.put, List.setIfInBounds_toArray, List.set_cons_zero, List.set_cons_succ])
  refine wpAnyH_take (i := 1) (v := ?_) rfl (by kernel_rfl) (by kernel_rfl) (by kernel_rfl) (fun _ _ _ h => h) (Or.inl ⟨by kernel_rfl, ?_⟩) (by with_reducible assumption) ?_
  rotate_left
  · intro wz hSw
    (try dsimp only at hSw)
    go_simp
    (try with_reducible rfl)
  show wpAnyH _ _ _ _ _ _ _ (Act.put _ (some 108) _) _
  (try simp only [Act.put, List.setIfInBounds_toArray, List.set_cons_zero, List.set_cons_succ])
  refine wpAnyH_take (i := 2) (v := .int .i64 x) rfl (by kernel_rfl) (by kernel_rfl) (by kernel_rfl) (fun _ _ _ h => h) (Or.inl ⟨by kernel_rfl, ?_⟩) (by with_reducible assumption) ?_
  · intro wz hSw
    (try dsimp only at hSw)
    have y0 := (hp_cell (i := 1) hSw).trans rfl
    go_simp
    (try with_reducible rfl)
  show wpAnyH _ _ _ _ _ _ _ (Act.put _ (some 109) _) _
  (try simp only [Act.put, List.setIfInBounds_toArray, List.set_cons_zero, List.set_cons_succ])
  refine wpAnyH_take (i := 4) (v := ?_) rfl (by kernel_rfl) (by kernel_rfl) (by kernel_rfl) (fun _ _ _ h => h) (Or.inl ⟨by kernel_rfl, ?_⟩) (by with_reducible assumption) ?_
  rotate_left
  · intro wz hSw
    (try dsimp only at hSw)
    go_simp
    (try with_reducible rfl)
  show wpAnyH _ _ _ _ _ _ _ (Act.put _ (some 111) _) _
  (try simp only [Act.put, List.setIfInBounds_toArray, List.set_cons_zero, List.set_cons_succ])
  refine wpAnyH_take (i := 5) (v := .slice A N C) rfl (by kernel_rfl) (by kernel_rfl) (by kernel_rfl) (fun _ _ _ h => h) (Or.inl ⟨by kernel_rfl, ?_⟩) (by with_reducible assumption) ?_
  · intro wz hSw
    (try dsimp only at hSw)
    have y0 := (hp_cell (i := 8) hSw).trans rfl
    go_simp
    (try with_reducible rfl)
  show wpAnyH _ _ _ _ _ _ _ (Act.put _ (some 112) _) _
  (try simp only [Act.put, List.setIfInBounds_toArray, List.set_cons_zero, List.set_cons_succ])
  refine wpAnyH_ready (rs := [3]) (by kernel_rfl) (by simp) ?_
  refine AllReadyH.cons rfl (fun K hK => ?_) AllReadyH.nil
  clear hHeld
  go_simp
  go_at_call 18
  refine (own_any _ _).mono ?_
  rintro e Z16_3 ⟨rfl, hb⟩
  have H16_3 := Lib.hid (Hd2.out.below hb)
  clear hb
  go_wp2_with fail
  refine hK.out _ _ ?_ (fun hHeld => ?_)
  · exact H16_3.out.r
  clear hK K
  (try simp only [Act.put, List.setIfInBounds_toArray, List.set_cons_zero, List.set_cons_succ])
  refine wpAnyH_ready (rs := [6]) (by kernel_rfl) (by simp) ?_
  refine AllReadyH.cons rfl (fun K hK => ?_) AllReadyH.nil
  clear hHeld
  go_simp
  go_at_call 26
  refine (HD.out _ H16_3.out).mono ?_
  rintro e Z16_6 ⟨rfl, hr⟩
  have HR := Lib.hid hr
  clear hr
  go_wp2_with fail
  refine hK.out _ _ ?_ (fun hHeld => ?_)
  · exact HR.out.k.2 _ _ _ H16_3.out.r
  clear hK K
  (try simp only [Act.put, List.setIfInBounds_toArray, List.set_cons_zero, List.set_cons_succ])
  refine wpAnyH_done (by kernel_rfl) ?_ _
  go_wp2_with fail
  go_ret
  exact ⟨⟨_, rfl⟩, HR.out.l⟩
set_option maxRecDepth 100000 in
set_option maxHeartbeats 8000000 in
theorem act10_6 (w W : World) (P : Option Addr) (m : Nat) (x tt n : Int) (a : Nat) (A : Option Addr) (N C : Nat) (f : Nat → Int) (hs : SDead W (.pointer P)) (hd : DS w W m [] []) (hl : Il W A N f) (hN : N ≤ 100) (ha : a < 2 ^ 256) (hn : n < 2 ^ 63) :
    Calls Tryz.prog 6 #[.pointer P, .pointer (some ⟨m, 0, none⟩), .agg #[.int .i64 6, .int .i64 x, .int .i64 tt, .int .i64 n, .int .u64 (limb a 0 : Nat), .int .u64 (limb a 1 : Nat), .int .u64 (limb a 2 : Nat), .int .u64 (limb a 3 : Nat), .slice A N C]] W fun e W' => (∃ z, e = .returned (.bool z)) ∧ Below w.heap.size w W' := by
  have hb1 := (Below.refl W.heap.size W).alloc (Nat.le_refl _) (.cells #[.int .i64 6, .int .i64 x, .int .i64 tt, .int .i64 n, .int .u64 (limb a 0 : Nat), .int .u64 (limb a 1 : Nat), .int .u64 (limb a 2 : Nat), .int .u64 (limb a 3 : Nat), .slice A N C] 27)
  have hx1 := heap_alloc_new W (.cells #[.int .i64 6, .int .i64 x, .int .i64 tt, .int .i64 n, .int .u64 (limb a 0 : Nat), .int .u64 (limb a 1 : Nat), .int .u64 (limb a 2 : Nat), .int .u64 (limb a 3 : Nat), .slice A N C] 27)
  obtain ⟨W1, hW1⟩ : ∃ W1, W1 = W.alloc (.cells #[.int .i64 6, .int .i64 x, .int .i64 tt, .int .i64 n, .int .u64 (limb a 0 : Nat), .int .u64 (limb a 1 : Nat), .int .u64 (limb a 2 : Nat), .int .u64 (limb a 3 : Nat), .slice A N C] 27) := ⟨_, rfl⟩
  rw [← hW1] at hb1 hx1
  have Hd := Lib.hid (show AN w W1.drew P m W.heap.size #[.int .i64 6, .int .i64 x, .int .i64 tt, .int .i64 n, .int .u64 (limb a 0 : Nat), .int .u64 (limb a 1 : Nat), .int .u64 (limb a 2 : Nat), .int .u64 (limb a 3 : Nat), .slice A N C] A N f from ⟨hs.below hb1.drew, hd.below hb1.drew, hx1, hl.below hb1.drew⟩)
  have HW1 := Lib.hid hW1
  have hO := fun (Z : World) (h : AN w Z P m W.heap.size #[.int .i64 6, .int .i64 x, .int .i64 tt, .int .i64 n, .int .u64 (limb a 0 : Nat), .int .u64 (limb a 1 : Nat), .int .u64 (limb a 2 : Nat), .int .u64 (limb a 3 : Nat), .slice A N C] A N f) => (cnext_dead P (kX x) Z h.dd).mono fun e W' hp => (⟨hp.1, by rw [← hp.2]; exact Below.refl _ _⟩ : e = .returned (.int .i64 0) ∧ Below Z.heap.size Z W')
  have hD := fun (Z : World) (h : AN w Z P m W.heap.size #[.int .i64 6, .int .i64 x, .int .i64 tt, .int .i64 n, .int .u64 (limb a 0 : Nat), .int .u64 (limb a 1 : Nat), .int .u64 (limb a 2 : Nat), .int .u64 (limb a 3 : Nat), .slice A N C] A N f) => rnext_w w Z m (kX x) h.ds
  (try unfold U at hO)
  (try unfold U at hD)
  have HO := Lib.hid hO
  have HD := Lib.hid hD
  clear hs hd hl hN ha hn hb1 hx1 hW1 hO hD
  go_enter Tryz.func6, Tryz.ntmps6
  go_upto_region 18 with fail
  rw [← HW1.out]
  obtain ⟨X, hX⟩ : ∃ X, X = W.heap.size := ⟨_, rfl⟩
  rw [← hX] at Hd HO HD ⊢
  clear hX HW1
  refine wp_region_held_drew (S := fun w' => w'.heap[X]? = some (.cells #[.int .i64 6, .int .i64 x, .int .i64 tt, .int .i64 n, .int .u64 (limb a 0 : Nat), .int .u64 (limb a 1 : Nat), .int .u64 (limb a 2 : Nat), .int .u64 (limb a 3 : Nat), .slice A N C] 27 (0, 0))) (by kernel_rfl) ?_ (fun hHeld => ?_)
  · exact Hd.out.r
  generalize W1.drew = Z0 at Hd hHeld ⊢
  refine wpAnyH_take (i := 0) (v := ?_) rfl (by kernel_rfl) (by kernel_rfl) (by kernel_rfl) (fun _ _ _ h => h) (Or.inl ⟨by kernel_rfl, ?_⟩) (by with_reducible assumption) ?_
  rotate_left
  · intro wz hSw
    (try dsimp only at hSw)
    go_simp
    (try with_reducible rfl)
  show wpAnyH _ _ _ _ _ _ _ (Act.put _ (some 116) _) _
  (try simp only [Act.put, List.setIfInBounds_toArray, List.set_cons_zero, List.set_cons_succ])
  refine wpAnyH_take (i := 1) (v := ?_) rfl (by kernel_rfl) (by kernel_rfl) (by kernel_rfl) (fun _ _ _ h => h) (Or.inl ⟨by kernel_rfl, ?_⟩) (by with_reducible assumption) ?_
  rotate_left
  · intro wz hSw
    (try dsimp only at hSw)
    go_simp
    (try with_reducible rfl)
  show wpAnyH _ _ _ _ _ _ _ (Act.put _ (some 117) _) _
  (try simp only [Act.put, List.setIfInBounds_toArray, List.set_cons_zero, List.set_cons_succ])
  refine wpAnyH_take (i := 2) (v := .int .i64 x) rfl (by kernel_rfl) (by kernel_rfl) (by kernel_rfl) (fun _ _ _ h => h) (Or.inl ⟨by kernel_rfl, ?_⟩) (by with_reducible assumption) ?_
  · intro wz hSw
    (try dsimp only at hSw)
    have y0 := (hp_cell (i := 1) hSw).trans rfl
    go_simp
    (try with_reducible rfl)
  show wpAnyH _ _ _ _ _ _ _ (Act.put _ (some 118) _) _
  (try simp only [Act.put, List.setIfInBounds_toArray, List.set_cons_zero, List.set_cons_succ])
  refine wpAnyH_take (i := 5) (v := ?_) rfl (by kernel_rfl) (by kernel_rfl) (by kernel_rfl) (fun _ _ _ h => h) (Or.inl ⟨by kernel_rfl, ?_⟩) (by with_reducible assumption) ?_
  rotate_left
  · intro wz hSw
    (try dsimp only at hSw)
    go_simp
    (try with_reducible rfl)
  show wpAnyH _ _ _ _ _ _ _ (Act.put _ (some 121) _) _
  (try simp only [Act.put, List.setIfInBounds_toArray, List.set_cons_zero, List.set_cons_succ])
  refine wpAnyH_take (i := 6) (v := ?_) rfl (by kernel_rfl) (by kernel_rfl) (by kernel_rfl) (fun _ _ _ h => h) (Or.inl ⟨by kernel_rfl, ?_⟩) (by with_reducible assumption) ?_
  rotate_left
  · intro wz hSw
    (try dsimp only at hSw)
    go_simp
    (try with_reducible rfl)
  show wpAnyH _ _ _ _ _ _ _ (Act.put _ (some 122) _) _
  (try simp only [Act.put, List.setIfInBounds_toArray, List.set_cons_zero, List.set_cons_succ])
  refine wpAnyH_take (i := 7) (v := .int .i64 x) rfl (by kernel_rfl) (by kernel_rfl) (by kernel_rfl) (fun _ _ _ h => h) (Or.inl ⟨by kernel_rfl, ?_⟩) (by with_reducible assumption) ?_
  · intro wz hSw
    (try dsimp only at hSw)
    have y0 := (hp_cell (i := 1) hSw).trans rfl
    go_simp
    (try with_reducible rfl)
  show wpAnyH _ _ _ _ _ _ _ (Act.put _ (some 123) _) _
  (try simp only [Act.put, List.setIfInBounds_toArray, List.set_cons_zero, List.set_cons_succ])
  refine wpAnyH_ready (rs := [3]) (by kernel_rfl) (by simp) ?_
  refine AllReadyH.cons rfl (fun K hK => ?_) AllReadyH.nil
  clear hHeld
  go_simp
  go_at_call 8
  refine (key_any _ _).mono ?_
  rintro e Z18_3 ⟨rfl, hb⟩
  have H18_3 := Lib.hid (Hd.out.below hb)
  clear hb
  go_wp2_with fail
  refine hK.out _ _ ?_ (fun hHeld => ?_)
  · exact H18_3.out.r
  clear hK K
  (try simp only [Act.put, List.setIfInBounds_toArray, List.set_cons_zero, List.set_cons_succ])
  refine wpAnyH_ready (rs := [4]) (by kernel_rfl) (by simp) ?_
  refine AllReadyH.cons rfl (fun K hK => ?_) AllReadyH.nil
  clear hHeld
  go_simp
  go_at_call 27
  refine (HO.out _ H18_3.out).mono ?_
  rintro e Z18_4 ⟨rfl, hb⟩
  have H18_4 := Lib.hid (H18_3.out.below hb)
  clear hb
  go_wp2_with fail
  refine hK.out _ _ ?_ (fun hHeld => ?_)
  · exact H18_4.out.r
  clear hK K
  (try simp only [Act.put, List.setIfInBounds_toArray, List.set_cons_zero, List.set_cons_succ])
  refine wpAnyH_ready (rs := [8]) (by kernel_rfl) (by simp) ?_
  refine AllReadyH.cons rfl (fun K hK => ?_) AllReadyH.nil
  clear hHeld
  go_simp
  go_at_call 18
  refine (own_any _ _).mono ?_
  rintro e Z18_8 ⟨rfl, hb⟩
  have H18_8 := Lib.hid (H18_4.out.below hb)
  clear hb
  go_wp2_with fail
  refine hK.out _ _ ?_ (fun hHeld => ?_)
  · exact H18_8.out.r
  clear hK K
  (try simp only [Act.put, List.setIfInBounds_toArray, List.set_cons_zero, List.set_cons_succ])
  refine wpAnyH_ready (rs := [9]) (by kernel_rfl) (by simp) ?_
  refine AllReadyH.cons rfl (fun K hK => ?_) AllReadyH.nil
  clear hHeld
  go_simp
  go_at_call 28
  refine (HD.out _ H18_8.out).mono ?_
  rintro e Z18_9 ⟨⟨i2, rfl⟩, hr⟩
  have HR := Lib.hid hr
  clear hr
  go_wp2_with fail
  refine hK.out _ _ ?_ (fun hHeld => ?_)
  · exact HR.out.k.2 _ _ _ H18_8.out.r
  clear hK K
  (try simp only [Act.put, List.setIfInBounds_toArray, List.set_cons_zero, List.set_cons_succ])
  refine wpAnyH_take (i := 10) (v := ?_) rfl (by kernel_rfl) (by kernel_rfl) (by kernel_rfl) (fun _ _ _ h => h) (Or.inl ⟨by kernel_rfl, ?_⟩) (by with_reducible assumption) ?_
  rotate_left
  · intro wz hSw
    (try dsimp only at hSw)
    go_simp
    (try with_reducible rfl)
  show wpAnyH _ _ _ _ _ _ _ (Act.put _ (some 126) _) _
  (try simp only [Act.put, List.setIfInBounds_toArray, List.set_cons_zero, List.set_cons_succ])
  refine wpAnyH_take (i := 11) (v := ?_) rfl (by kernel_rfl) (by kernel_rfl) (by kernel_rfl) (fun _ _ _ h => h) (Or.inl ⟨by kernel_rfl, ?_⟩) (by with_reducible assumption) ?_
  rotate_left
  · intro wz hSw
    (try dsimp only at hSw)
    go_simp
    (try with_reducible rfl)
  show wpAnyH _ _ _ _ _ _ _ (Act.put _ (some 6) _) _
  (try simp only [Act.put, List.setIfInBounds_toArray, List.set_cons_zero, List.set_cons_succ])
  refine wpAnyH_done (by kernel_rfl) ?_ _
  go_wp2_with fail
  go_ret
  exact ⟨⟨_, rfl⟩, HR.out.l⟩
set_option maxRecDepth 100000 in
set_option maxHeartbeats 1000000 in
theorem act10_any (kd : Int) (w W : World) (P : Option Addr) (m : Nat) (x tt n : Int) (a : Nat) (A : Option Addr) (N C : Nat) (f : Nat → Int) (hs : SDead W (.pointer P)) (hd : DS w W m [] []) (hl : Il W A N f) (hN : N ≤ 100) (ha : a < 2 ^ 256) (hn : n < 2 ^ 63) :
    Calls Tryz.prog 6 #[.pointer P, .pointer (some ⟨m, 0, none⟩), .agg #[.int .i64 kd, .int .i64 x, .int .i64 tt, .int .i64 n, .int .u64 (limb a 0 : Nat), .int .u64 (limb a 1 : Nat), .int .u64 (limb a 2 : Nat), .int .u64 (limb a 3 : Nat), .slice A N C]] W fun e W' => (∃ z, e = .returned (.bool z)) ∧ Below w.heap.size w W' := by
  by_cases c0 : kd = 0
  · subst c0; exact act10_0 w W P m x tt n a A N C f hs hd hl hN ha hn
  by_cases c1 : kd = 1
  · subst c1; exact act10_1 w W P m x tt n a A N C f hs hd hl hN ha hn
  by_cases c2 : kd = 2
  · subst c2; exact act10_2 w W P m x tt n a A N C f hs hd hl hN ha hn
  by_cases c3 : kd = 3
  · subst c3; exact act10_3 w W P m x tt n a A N C f hs hd hl hN ha hn
  by_cases c4 : kd = 4
  · subst c4; exact act10_4 w W P m x tt n a A N C f hs hd hl hN ha hn
  by_cases c5 : kd = 5
  · subst c5; exact act10_5 w W P m x tt n a A N C f hs hd hl hN ha hn
  by_cases c6 : kd = 6
  · subst c6; exact act10_6 w W P m x tt n a A N C f hs hd hl hN ha hn
  have HB := Lib.hid (hd.below ((Below.refl W.heap.size W).alloc (Nat.le_refl _) (.cells #[.int .i64 kd, .int .i64 x, .int .i64 tt, .int .i64 n, .int .u64 (limb a 0 : Nat), .int .u64 (limb a 1 : Nat), .int .u64 (limb a 2 : Nat), .int .u64 (limb a 3 : Nat), .slice A N C] 27))).l
  clear hs hd hl hN ha hn
  go_enter Tryz.func6, Tryz.ntmps6
  go_wp2
  go_ret
  exact ⟨⟨_, rfl⟩, HB.out⟩
end Go.Proofs.YtnjcnlbphaodcaaGreat

namespace Go.Proofs.YtnjcnlbphaodcaaGreat
open Go.ChangeShapes Go.WideShapes Go.ChangeAt Go.RowKit

theorem cellsU8 : Tryz.prog.cellsOf 5 = 1 := by kernel_rfl
section
variable {H : Type} {enc : TypeId × Value → H} {W : World} {base : Nat}
set_option maxRecDepth 100000 in
theorem open_bl {v : Value} {d : DataW H} {p : List MemPlace} (hv : Value.okWide Tryz.prog W .any base 82 v) (h : DataW.Trod enc Tryz.prog W 0 (fun _ => true) true 82 v d p) :
    ∃ A n c f, v = .slice A n c ∧ Sl W A n f := by
  obtain ⟨a0, n, c, rfl⟩ := okWide_slice Tryz.underlying82 hv
  obtain ⟨fuel, hf⟩ := h
  rcases open_ints Tryz.underlying82 Tryz.underlying5 cellsU8 hf with ⟨hcs, hx⟩ | ⟨a, len', cap', zs, hcs, _, hl, hm, hz, hx, hcell, hwz⟩
  · simp [Value.cells] at hcs
    obtain ⟨rfl, rfl, rfl⟩ := hcs
    exact ⟨none, 0, 0, fun _ => 0, rfl, fun _ => by decide, fun h => absurd h (by omega)⟩
  · simp only [Value.cells, List.cons.injEq, Value.slice.injEq, and_true] at hcs
    obtain ⟨rfl, rfl, rfl⟩ := hcs
    simp only [if_true] at hz
    have hb : ∀ i, 0 ≤ zs.getD i 0 ∧ zs.getD i 0 < 256 := fun i => by
      rcases Nat.lt_or_ge i zs.length with hi | hi
      · have h1 := hwz (zs.getD i 0) (by simp [List.getD, List.getElem?_eq_getElem hi])
        have h2 := bounds_u8 h1
        omega
      · simp only [List.getD, List.getElem?_eq_none hi, Option.getD_none]; decide
    refine ⟨some a, n, c, fun i => (zs.getD i 0).toNat, rfl, fun i => by have := hb i; omega, fun hn => ?_⟩
    have hc0 := hcell 0 (by omega)
    have hlt := World.block_lt_of_cell? W _ hc0
    obtain ⟨g, o, sp⟩ := a
    have hspot : sp = none := by simpa [Addr.add] using World.cell?_spot hc0
    subst hspot
    exact ⟨g, o, rfl, hlt, fun i hi => by
      have h1 := hcell i (by omega)
      have h2 := (hb i).1
      rw [add_plain] at h1
      rw [h1, Int.toNat_of_nonneg h2]⟩
set_option maxRecDepth 100000 in
theorem open_bl2 {v : Value} {d : DataW H} {p : List MemPlace} (hv : Value.okWide Tryz.prog W .any base 82 v) (h : DataW.Trod enc Tryz.prog W 0 (fun _ => true) true 82 v d p) :
    ∃ A n c f, v = .slice A n c ∧ Sl W A n f ∧ (A = none → n = 0 ∧ c = 0) := by
  obtain ⟨a0, n, c, rfl⟩ := okWide_slice Tryz.underlying82 hv
  obtain ⟨fuel, hf⟩ := h
  rcases open_ints Tryz.underlying82 Tryz.underlying5 cellsU8 hf with ⟨hcs, hx⟩ | ⟨a, len', cap', zs, hcs, _, hl, hm, hz, hx, hcell, hwz⟩
  · simp [Value.cells] at hcs
    obtain ⟨rfl, rfl, rfl⟩ := hcs
    exact ⟨none, 0, 0, fun _ => 0, rfl, ⟨fun _ => by decide, fun h => absurd h (by omega)⟩, fun _ => ⟨rfl, rfl⟩⟩
  · simp only [Value.cells, List.cons.injEq, Value.slice.injEq, and_true] at hcs
    obtain ⟨rfl, rfl, rfl⟩ := hcs
    simp only [if_true] at hz
    have hb : ∀ i, 0 ≤ zs.getD i 0 ∧ zs.getD i 0 < 256 := fun i => by
      rcases Nat.lt_or_ge i zs.length with hi | hi
      · have h1 := hwz (zs.getD i 0) (by simp [List.getD, List.getElem?_eq_getElem hi])
        have h2 := bounds_u8 h1
        omega
      · simp only [List.getD, List.getElem?_eq_none hi, Option.getD_none]; decide
    refine ⟨some a, n, c, fun i => (zs.getD i 0).toNat, rfl, ⟨fun i => by have := hb i; omega, fun hn => ?_⟩, fun h => by cases h⟩
    have hc0 := hcell 0 (by omega)
    have hlt := World.block_lt_of_cell? W _ hc0
    obtain ⟨g, o, sp⟩ := a
    have hspot : sp = none := by simpa [Addr.add] using World.cell?_spot hc0
    subst hspot
    exact ⟨g, o, rfl, hlt, fun i hi => by
      have h1 := hcell i (by omega)
      have h2 := (hb i).1
      rw [add_plain] at h1
      rw [h1, Int.toNat_of_nonneg h2]⟩
end
end Go.Proofs.YtnjcnlbphaodcaaGreat
