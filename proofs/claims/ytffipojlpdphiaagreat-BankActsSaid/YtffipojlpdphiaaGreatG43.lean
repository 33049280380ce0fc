/- The law's act of layer 17: on the store and the document's. -/
import Derived.Test.YtffipojlpdphiaaGreatG42
import Derived.Test.YtffipojlpdphiaaGreatG24
import Derived.Test.YtffipojlpdphiaaGreatG00
import Derived.Test.YtffipojlpdphiaaGreatG30
import Derived.Test.YtffipojlpdphiaaGreatG27
import Derived.ChangeSlices
import Derived.Carry
import Derived.OpenShut
import Derived.ChangeOld
import Derived.Deep.Slices
import Derived.ChangeSame
import Derived.Laws.IdiomArrays
namespace Go.Proofs.YtffipojlpdphiaaGreat
open Go.RowKit Go.Maps Go.Sort

theorem fAct17 : Foreign 35 := ⟨by decide, by decide, by decide, by decide⟩
theorem nAct17 : 35 ≠ 30 ∧ 35 ≠ 109 := ⟨by decide, by decide⟩
/-- what an act leaves -/
structure BankTo (w W W' : World) (b m q r : Nat) (L2 : SL) : Prop where
  s : ∃ F' q' qs', SNew w W' b F' L2 q' qs' ∧ q' ≤ q + 2
  d : ∃ R', R'.length ≤ r + 2 ∧ DS w W' m L2 R'
  k : KeepT 35 W W'
set_option maxRecDepth 100000 in
set_option maxHeartbeats 8000000 in
theorem act17_mint (w W : World) (b m : Nat) (L : SL) (hM : BM L) (hN : L.length < 800000) (F : List Nat) (q : Nat) (qs : List Value) (R : List Ch) (hs : SNew w W b F L q qs) (hq : q < 800000) (hd : DS w W m L R) (hR : R.length < 800000) (t f c : Int) (n : Nat) (hn : n < 2 ^ 256) :
    Calls Tryz.prog 6 #[.pointer (some ⟨b, 0, none⟩), .pointer (some ⟨m, 0, none⟩), .agg #[.bool true, .int .i64 t, .int .i64 f, .int .i64 c, .int .u64 (limb n 0 : Nat), .int .u64 (limb n 1 : Nat), .int .u64 (limb n 2 : Nat), .int .u64 (limb n 3 : Nat)]] W fun e W' => e = .returned (.bool true) ∧ ∃ L2, BM L2 ∧ L2.length ≤ L.length + 2 ∧ BankTo w W W' b m q R.length L2 := by
  obtain ⟨er, L2, hM2, hL2, hO, hD⟩ := bank_mint w b m L hM hN t c n hn
  have hb1 := (Below.refl W.heap.size W).alloc (Nat.le_refl _) (.cells #[.bool true, .int .i64 t, .int .i64 f, .int .i64 c, .int .u64 (limb n 0 : Nat), .int .u64 (limb n 1 : Nat), .int .u64 (limb n 2 : Nat), .int .u64 (limb n 3 : Nat)] 35)
  have hx1 := heap_alloc_new W (.cells #[.bool true, .int .i64 t, .int .i64 f, .int .i64 c, .int .u64 (limb n 0 : Nat), .int .u64 (limb n 1 : Nat), .int .u64 (limb n 2 : Nat), .int .u64 (limb n 3 : Nat)] 35)
  obtain ⟨W1, hW1⟩ : ∃ W1, W1 = W.alloc (.cells #[.bool true, .int .i64 t, .int .i64 f, .int .i64 c, .int .u64 (limb n 0 : Nat), .int .u64 (limb n 1 : Nat), .int .u64 (limb n 2 : Nat), .int .u64 (limb n 3 : Nat)] 35) := ⟨_, rfl⟩
  rw [← hW1] at hb1 hx1
  have Hd := Lib.hid (And.intro (hs.below (hb1.drew)) (And.intro (hd.below (hb1.drew)) (show W1.drew.heap[W.heap.size]? = _ from hx1)))
  have HB1 := Lib.hid hb1.drew
  have HW1 := Lib.hid hW1
  unfold U at hO hD
  have HO := Lib.hid hO
  have HD := Lib.hid hD
  have HM2 := Lib.hid (And.intro hM2 hL2)
  have HQ := Lib.hid (And.intro hq hR)
  have q1 : (er == er) = true := beq_self_eq_true _
  clear hs hd hb1 hx1 hW1 hO hD hM hN hM2 hL2 hq hR hn
  go_enter Tryz.func6, Tryz.ntmps6
  go_upto_region 2 with fail
  rw [← HW1.out]
  obtain ⟨X, hX⟩ : ∃ X, X = W.heap.size := ⟨_, rfl⟩
  rw [← hX] at Hd ⊢
  clear hX HW1
  refine wp_region_held_drew (S := fun w' => w'.heap[X]? = some (.cells #[.bool true, .int .i64 t, .int .i64 f, .int .i64 c, .int .u64 (limb n 0 : Nat), .int .u64 (limb n 1 : Nat), .int .u64 (limb n 2 : Nat), .int .u64 (limb n 3 : Nat)] 35 (0, 0))) (by kernel_rfl) ?_ (fun hHeld => ?_)
  · exact Hd.out.2.2
  generalize W1.drew = Z0 at Hd HB1 hHeld ⊢
  refine wpAnyH_take (i := 0) (v := ?_) rfl (by kernel_rfl) (by kernel_rfl) (by kernel_rfl) (fun _ _ _ h => h) (Or.inl ⟨by kernel_rfl, ?_⟩) (by with_reducible assumption) ?_
  rotate_left
  · intro wz hSw
    (try dsimp only at hSw)
    go_simp
    (try with_reducible rfl)
  show wpAnyH _ _ _ _ _ _ _ (Act.put _ (some 9) _) _
  (try simp only [Act.put, List.setIfInBounds_toArray, List.set_cons_zero, List.set_cons_succ])
  refine wpAnyH_take (i := 1) (v := ?_) rfl (by kernel_rfl) (by kernel_rfl) (by kernel_rfl) (fun _ _ _ h => h) (Or.inl ⟨by kernel_rfl, ?_⟩) (by with_reducible assumption) ?_
  rotate_left
  · intro wz hSw
    (try dsimp only at hSw)
    go_simp
    (try with_reducible rfl)
  show wpAnyH _ _ _ _ _ _ _ (Act.put _ (some 10) _) _
  (try simp only [Act.put, List.setIfInBounds_toArray, List.set_cons_zero, List.set_cons_succ])
  refine wpAnyH_take (i := 2) (v := .int .i64 t) rfl (by kernel_rfl) (by kernel_rfl) (by kernel_rfl) (fun _ _ _ h => h) (Or.inl ⟨by kernel_rfl, ?_⟩) (by with_reducible assumption) ?_
  · intro wz hSw
    (try dsimp only at hSw)
    have y0 := (hp_cell (i := 1) hSw).trans rfl
    go_simp
    (try with_reducible rfl)
  show wpAnyH _ _ _ _ _ _ _ (Act.put _ (some 11) _) _
  (try simp only [Act.put, List.setIfInBounds_toArray, List.set_cons_zero, List.set_cons_succ])
  refine wpAnyH_take (i := 3) (v := ?_) rfl (by kernel_rfl) (by kernel_rfl) (by kernel_rfl) (fun _ _ _ h => h) (Or.inl ⟨by kernel_rfl, ?_⟩) (by with_reducible assumption) ?_
  rotate_left
  · intro wz hSw
    (try dsimp only at hSw)
    go_simp
    (try with_reducible rfl)
  show wpAnyH _ _ _ _ _ _ _ (Act.put _ (some 12) _) _
  (try simp only [Act.put, List.setIfInBounds_toArray, List.set_cons_zero, List.set_cons_succ])
  refine wpAnyH_take (i := 4) (v := .int .i64 c) rfl (by kernel_rfl) (by kernel_rfl) (by kernel_rfl) (fun _ _ _ h => h) (Or.inl ⟨by kernel_rfl, ?_⟩) (by with_reducible assumption) ?_
  · intro wz hSw
    (try dsimp only at hSw)
    have y0 := (hp_cell (i := 3) hSw).trans rfl
    go_simp
    (try with_reducible rfl)
  show wpAnyH _ _ _ _ _ _ _ (Act.put _ (some 13) _) _
  (try simp only [Act.put, List.setIfInBounds_toArray, List.set_cons_zero, List.set_cons_succ])
  refine wpAnyH_take (i := 5) (v := ?_) rfl (by kernel_rfl) (by kernel_rfl) (by kernel_rfl) (fun _ _ _ h => h) (Or.inl ⟨by kernel_rfl, ?_⟩) (by with_reducible assumption) ?_
  rotate_left
  · intro wz hSw
    (try dsimp only at hSw)
    go_simp
    (try with_reducible rfl)
  show wpAnyH _ _ _ _ _ _ _ (Act.put _ (some 14) _) _
  (try simp only [Act.put, List.setIfInBounds_toArray, List.set_cons_zero, List.set_cons_succ])
  refine wpAnyH_take (i := 6) (v := .agg #[.int .u64 (limb n 0 : Nat), .int .u64 (limb n 1 : Nat), .int .u64 (limb n 2 : Nat), .int .u64 (limb n 3 : Nat)]) rfl (by kernel_rfl) (by kernel_rfl) (by kernel_rfl) (fun _ _ _ h => h) (Or.inl ⟨by kernel_rfl, ?_⟩) (by with_reducible assumption) ?_
  · intro wz hSw
    (try dsimp only at hSw)
    have y0 := (hp_cell (i := 4) hSw).trans rfl
    have y1 := (hp_cell (i := 5) hSw).trans rfl
    have y2 := (hp_cell (i := 6) hSw).trans rfl
    have y3 := (hp_cell (i := 7) hSw).trans rfl
    go_simp
    (try with_reducible rfl)
  show wpAnyH _ _ _ _ _ _ _ (Act.put _ (some 15) _) _
  (try simp only [Act.put, List.setIfInBounds_toArray, List.set_cons_zero, List.set_cons_succ])
  refine wpAnyH_take (i := 8) (v := ?_) rfl (by kernel_rfl) (by kernel_rfl) (by kernel_rfl) (fun _ _ _ h => h) (Or.inl ⟨by kernel_rfl, ?_⟩) (by with_reducible assumption) ?_
  rotate_left
  · intro wz hSw
    (try dsimp only at hSw)
    go_simp
    (try with_reducible rfl)
  show wpAnyH _ _ _ _ _ _ _ (Act.put _ (some 17) _) _
  (try simp only [Act.put, List.setIfInBounds_toArray, List.set_cons_zero, List.set_cons_succ])
  refine wpAnyH_take (i := 9) (v := ?_) rfl (by kernel_rfl) (by kernel_rfl) (by kernel_rfl) (fun _ _ _ h => h) (Or.inl ⟨by kernel_rfl, ?_⟩) (by with_reducible assumption) ?_
  rotate_left
  · intro wz hSw
    (try dsimp only at hSw)
    go_simp
    (try with_reducible rfl)
  show wpAnyH _ _ _ _ _ _ _ (Act.put _ (some 18) _) _
  (try simp only [Act.put, List.setIfInBounds_toArray, List.set_cons_zero, List.set_cons_succ])
  refine wpAnyH_take (i := 10) (v := .int .i64 t) rfl (by kernel_rfl) (by kernel_rfl) (by kernel_rfl) (fun _ _ _ h => h) (Or.inl ⟨by kernel_rfl, ?_⟩) (by with_reducible assumption) ?_
  · intro wz hSw
    (try dsimp only at hSw)
    have y0 := (hp_cell (i := 1) hSw).trans rfl
    go_simp
    (try with_reducible rfl)
  show wpAnyH _ _ _ _ _ _ _ (Act.put _ (some 19) _) _
  (try simp only [Act.put, List.setIfInBounds_toArray, List.set_cons_zero, List.set_cons_succ])
  refine wpAnyH_take (i := 11) (v := ?_) rfl (by kernel_rfl) (by kernel_rfl) (by kernel_rfl) (fun _ _ _ h => h) (Or.inl ⟨by kernel_rfl, ?_⟩) (by with_reducible assumption) ?_
  rotate_left
  · intro wz hSw
    (try dsimp only at hSw)
    go_simp
    (try with_reducible rfl)
  show wpAnyH _ _ _ _ _ _ _ (Act.put _ (some 20) _) _
  (try simp only [Act.put, List.setIfInBounds_toArray, List.set_cons_zero, List.set_cons_succ])
  refine wpAnyH_take (i := 12) (v := .int .i64 c) rfl (by kernel_rfl) (by kernel_rfl) (by kernel_rfl) (fun _ _ _ h => h) (Or.inl ⟨by kernel_rfl, ?_⟩) (by with_reducible assumption) ?_
  · intro wz hSw
    (try dsimp only at hSw)
    have y0 := (hp_cell (i := 3) hSw).trans rfl
    go_simp
    (try with_reducible rfl)
  show wpAnyH _ _ _ _ _ _ _ (Act.put _ (some 21) _) _
  (try simp only [Act.put, List.setIfInBounds_toArray, List.set_cons_zero, List.set_cons_succ])
  refine wpAnyH_take (i := 13) (v := ?_) rfl (by kernel_rfl) (by kernel_rfl) (by kernel_rfl) (fun _ _ _ h => h) (Or.inl ⟨by kernel_rfl, ?_⟩) (by with_reducible assumption) ?_
  rotate_left
  · intro wz hSw
    (try dsimp only at hSw)
    go_simp
    (try with_reducible rfl)
  show wpAnyH _ _ _ _ _ _ _ (Act.put _ (some 22) _) _
  (try simp only [Act.put, List.setIfInBounds_toArray, List.set_cons_zero, List.set_cons_succ])
  refine wpAnyH_take (i := 14) (v := .agg #[.int .u64 (limb n 0 : Nat), .int .u64 (limb n 1 : Nat), .int .u64 (limb n 2 : Nat), .int .u64 (limb n 3 : Nat)]) rfl (by kernel_rfl) (by kernel_rfl) (by kernel_rfl) (fun _ _ _ h => h) (Or.inl ⟨by kernel_rfl, ?_⟩) (by with_reducible assumption) ?_
  · intro wz hSw
    (try dsimp only at hSw)
    have y0 := (hp_cell (i := 4) hSw).trans rfl
    have y1 := (hp_cell (i := 5) hSw).trans rfl
    have y2 := (hp_cell (i := 6) hSw).trans rfl
    have y3 := (hp_cell (i := 7) hSw).trans rfl
    go_simp
    (try with_reducible rfl)
  show wpAnyH _ _ _ _ _ _ _ (Act.put _ (some 23) _) _
  (try simp only [Act.put, List.setIfInBounds_toArray, List.set_cons_zero, List.set_cons_succ])
  refine wpAnyH_ready (rs := [7]) (by kernel_rfl) (by simp) ?_
  refine AllReadyH.cons rfl (fun K hK => ?_) AllReadyH.nil
  clear hHeld
  go_simp
  go_at_call 15
  refine (HO.out _ F q qs Hd.out.1 HQ.out.1).mono ?_
  rintro e Z2 ⟨rfl, h2⟩
  have r2 := LiveTo.keepT Hd.out.1 h2 fAct17
  have d2 := ds_live Hd.out.2.1 Hd.out.1 h2
  obtain ⟨F2, q2, qs2, hs2, hq2, _⟩ := h2
  have H2 := Lib.hid (And.intro hs2 (And.intro d2 (r2.2 _ _ _ Hd.out.2.2)))
  have HK2 := Lib.hid ((KeepT.of_below HB1.out).trans r2)
  have HQ2 := Lib.hid hq2
  clear hs2 d2 r2 hq2
  go_wp2_with fail
  refine hK.out _ _ ?_ (fun hHeld => ?_)
  · exact H2.out.2.2
  clear hK K
  (try simp only [Act.put, List.setIfInBounds_toArray, List.set_cons_zero, List.set_cons_succ])
  refine wpAnyH_ready (rs := [15]) (by kernel_rfl) (by simp) ?_
  refine AllReadyH.cons rfl (fun K hK => ?_) AllReadyH.nil
  clear hHeld
  go_simp
  go_at_call 17
  refine (HD.out _ R H2.out.2.1 HQ.out.2).mono ?_
  rintro e Z3 ⟨rfl, R3, hR3, h3⟩
  have r3 := h3.keepT nAct17
  have H3 := Lib.hid (And.intro (snew_other H2.out.1 h3) (And.intro h3.s (r3.2 _ _ _ H2.out.2.2)))
  have HK3 := Lib.hid (HK2.out.trans r3)
  have HR3 := Lib.hid hR3
  clear r3 h3 hR3
  go_wp2_with fail
  refine hK.out _ _ ?_ (fun hHeld => ?_)
  · exact H3.out.2.2
  clear hK K
  (try simp only [Act.put, List.setIfInBounds_toArray, List.set_cons_zero, List.set_cons_succ])
  refine wpAnyH_take (i := 16) (v := ?_) rfl (by kernel_rfl) (by kernel_rfl) (by kernel_rfl) (fun _ _ _ h => h) (Or.inl ⟨by kernel_rfl, ?_⟩) (by with_reducible assumption) ?_
  rotate_left
  · intro wz hSw
    (try dsimp only at hSw)
    go_simp
    (try with_reducible rfl)
  show wpAnyH _ _ _ _ _ _ _ (Act.put _ (some 25) _) _
  (try simp only [Act.put, List.setIfInBounds_toArray, List.set_cons_zero, List.set_cons_succ])
  refine wpAnyH_take (i := 17) (v := ?_) rfl (by kernel_rfl) (by kernel_rfl) (by kernel_rfl) (fun _ _ _ h => h) (Or.inl ⟨by kernel_rfl, ?_⟩) (by with_reducible assumption) ?_
  rotate_left
  · intro wz hSw
    (try dsimp only at hSw)
    go_simp
    (try with_reducible rfl)
  show wpAnyH _ _ _ _ _ _ _ (Act.put _ (some 6) _) _
  (try simp only [Act.put, List.setIfInBounds_toArray, List.set_cons_zero, List.set_cons_succ])
  refine wpAnyH_done (by kernel_rfl) ?_ _
  go_wp2_with fail
  go_ret
  exact ⟨rfl, L2, HM2.out.1, HM2.out.2, ⟨⟨F2, q2, qs2, H3.out.1, HQ2.out⟩, ⟨R3, HR3.out, H3.out.2.1⟩, HK3.out⟩⟩
set_option maxRecDepth 100000 in
set_option maxHeartbeats 8000000 in
theorem act17_pay (w W : World) (b m : Nat) (L : SL) (hM : BM L) (hN : L.length < 800000) (F : List Nat) (q : Nat) (qs : List Value) (R : List Ch) (hs : SNew w W b F L q qs) (hq : q < 800000) (hd : DS w W m L R) (hR : R.length < 800000) (t f c : Int) (n : Nat) (hn : n < 2 ^ 256) :
    Calls Tryz.prog 6 #[.pointer (some ⟨b, 0, none⟩), .pointer (some ⟨m, 0, none⟩), .agg #[.bool false, .int .i64 t, .int .i64 f, .int .i64 c, .int .u64 (limb n 0 : Nat), .int .u64 (limb n 1 : Nat), .int .u64 (limb n 2 : Nat), .int .u64 (limb n 3 : Nat)]] W fun e W' => e = .returned (.bool true) ∧ ∃ L2, BM L2 ∧ L2.length ≤ L.length + 2 ∧ BankTo w W W' b m q R.length L2 := by
  obtain ⟨er, L2, hM2, hL2, hO, hD⟩ := bank_pay w b m L hM hN t f c n hn
  have hb1 := (Below.refl W.heap.size W).alloc (Nat.le_refl _) (.cells #[.bool false, .int .i64 t, .int .i64 f, .int .i64 c, .int .u64 (limb n 0 : Nat), .int .u64 (limb n 1 : Nat), .int .u64 (limb n 2 : Nat), .int .u64 (limb n 3 : Nat)] 35)
  have hx1 := heap_alloc_new W (.cells #[.bool false, .int .i64 t, .int .i64 f, .int .i64 c, .int .u64 (limb n 0 : Nat), .int .u64 (limb n 1 : Nat), .int .u64 (limb n 2 : Nat), .int .u64 (limb n 3 : Nat)] 35)
  obtain ⟨W1, hW1⟩ : ∃ W1, W1 = W.alloc (.cells #[.bool false, .int .i64 t, .int .i64 f, .int .i64 c, .int .u64 (limb n 0 : Nat), .int .u64 (limb n 1 : Nat), .int .u64 (limb n 2 : Nat), .int .u64 (limb n 3 : Nat)] 35) := ⟨_, rfl⟩
  rw [← hW1] at hb1 hx1
  have Hd := Lib.hid (And.intro (hs.below (hb1.drew)) (And.intro (hd.below (hb1.drew)) (show W1.drew.heap[W.heap.size]? = _ from hx1)))
  have HB1 := Lib.hid hb1.drew
  have HW1 := Lib.hid hW1
  unfold U at hO hD
  have HO := Lib.hid hO
  have HD := Lib.hid hD
  have HM2 := Lib.hid (And.intro hM2 hL2)
  have HQ := Lib.hid (And.intro hq hR)
  have q1 : (er == er) = true := beq_self_eq_true _
  clear hs hd hb1 hx1 hW1 hO hD hM hN hM2 hL2 hq hR hn
  go_enter Tryz.func6, Tryz.ntmps6
  go_upto_region 3 with fail
  rw [← HW1.out]
  obtain ⟨X, hX⟩ : ∃ X, X = W.heap.size := ⟨_, rfl⟩
  rw [← hX] at Hd ⊢
  clear hX HW1
  refine wp_region_held_drew (S := fun w' => w'.heap[X]? = some (.cells #[.bool false, .int .i64 t, .int .i64 f, .int .i64 c, .int .u64 (limb n 0 : Nat), .int .u64 (limb n 1 : Nat), .int .u64 (limb n 2 : Nat), .int .u64 (limb n 3 : Nat)] 35 (0, 0))) (by kernel_rfl) ?_ (fun hHeld => ?_)
  · exact Hd.out.2.2
  generalize W1.drew = Z0 at Hd HB1 hHeld ⊢
  refine wpAnyH_take (i := 0) (v := ?_) rfl (by kernel_rfl) (by kernel_rfl) (by kernel_rfl) (fun _ _ _ h => h) (Or.inl ⟨by kernel_rfl, ?_⟩) (by with_reducible assumption) ?_
  rotate_left
  · intro wz hSw
    (try dsimp only at hSw)
    go_simp
    (try with_reducible rfl)
  show wpAnyH _ _ _ _ _ _ _ (Act.put _ (some 26) _) _
  (try simp only [Act.put, List.setIfInBounds_toArray, List.set_cons_zero, List.set_cons_succ])
  refine wpAnyH_take (i := 1) (v := ?_) rfl (by kernel_rfl) (by kernel_rfl) (by kernel_rfl) (fun _ _ _ h => h) (Or.inl ⟨by kernel_rfl, ?_⟩) (by with_reducible assumption) ?_
  rotate_left
  · intro wz hSw
    (try dsimp only at hSw)
    go_simp
    (try with_reducible rfl)
  show wpAnyH _ _ _ _ _ _ _ (Act.put _ (some 27) _) _
  (try simp only [Act.put, List.setIfInBounds_toArray, List.set_cons_zero, List.set_cons_succ])
  refine wpAnyH_take (i := 2) (v := .int .i64 t) rfl (by kernel_rfl) (by kernel_rfl) (by kernel_rfl) (fun _ _ _ h => h) (Or.inl ⟨by kernel_rfl, ?_⟩) (by with_reducible assumption) ?_
  · intro wz hSw
    (try dsimp only at hSw)
    have y0 := (hp_cell (i := 1) hSw).trans rfl
    go_simp
    (try with_reducible rfl)
  show wpAnyH _ _ _ _ _ _ _ (Act.put _ (some 28) _) _
  (try simp only [Act.put, List.setIfInBounds_toArray, List.set_cons_zero, List.set_cons_succ])
  refine wpAnyH_take (i := 3) (v := ?_) rfl (by kernel_rfl) (by kernel_rfl) (by kernel_rfl) (fun _ _ _ h => h) (Or.inl ⟨by kernel_rfl, ?_⟩) (by with_reducible assumption) ?_
  rotate_left
  · intro wz hSw
    (try dsimp only at hSw)
    go_simp
    (try with_reducible rfl)
  show wpAnyH _ _ _ _ _ _ _ (Act.put _ (some 29) _) _
  (try simp only [Act.put, List.setIfInBounds_toArray, List.set_cons_zero, List.set_cons_succ])
  refine wpAnyH_take (i := 4) (v := .int .i64 f) rfl (by kernel_rfl) (by kernel_rfl) (by kernel_rfl) (fun _ _ _ h => h) (Or.inl ⟨by kernel_rfl, ?_⟩) (by with_reducible assumption) ?_
  · intro wz hSw
    (try dsimp only at hSw)
    have y0 := (hp_cell (i := 2) hSw).trans rfl
    go_simp
    (try with_reducible rfl)
  show wpAnyH _ _ _ _ _ _ _ (Act.put _ (some 30) _) _
  (try simp only [Act.put, List.setIfInBounds_toArray, List.set_cons_zero, List.set_cons_succ])
  refine wpAnyH_take (i := 5) (v := ?_) rfl (by kernel_rfl) (by kernel_rfl) (by kernel_rfl) (fun _ _ _ h => h) (Or.inl ⟨by kernel_rfl, ?_⟩) (by with_reducible assumption) ?_
  rotate_left
  · intro wz hSw
    (try dsimp only at hSw)
    go_simp
    (try with_reducible rfl)
  show wpAnyH _ _ _ _ _ _ _ (Act.put _ (some 31) _) _
  (try simp only [Act.put, List.setIfInBounds_toArray, List.set_cons_zero, List.set_cons_succ])
  refine wpAnyH_take (i := 6) (v := .int .i64 c) rfl (by kernel_rfl) (by kernel_rfl) (by kernel_rfl) (fun _ _ _ h => h) (Or.inl ⟨by kernel_rfl, ?_⟩) (by with_reducible assumption) ?_
  · intro wz hSw
    (try dsimp only at hSw)
    have y0 := (hp_cell (i := 3) hSw).trans rfl
    go_simp
    (try with_reducible rfl)
  show wpAnyH _ _ _ _ _ _ _ (Act.put _ (some 32) _) _
  (try simp only [Act.put, List.setIfInBounds_toArray, List.set_cons_zero, List.set_cons_succ])
  refine wpAnyH_take (i := 7) (v := ?_) rfl (by kernel_rfl) (by kernel_rfl) (by kernel_rfl) (fun _ _ _ h => h) (Or.inl ⟨by kernel_rfl, ?_⟩) (by with_reducible assumption) ?_
  rotate_left
  · intro wz hSw
    (try dsimp only at hSw)
    go_simp
    (try with_reducible rfl)
  show wpAnyH _ _ _ _ _ _ _ (Act.put _ (some 33) _) _
  (try simp only [Act.put, List.setIfInBounds_toArray, List.set_cons_zero, List.set_cons_succ])
  refine wpAnyH_take (i := 8) (v := .agg #[.int .u64 (limb n 0 : Nat), .int .u64 (limb n 1 : Nat), .int .u64 (limb n 2 : Nat), .int .u64 (limb n 3 : Nat)]) rfl (by kernel_rfl) (by kernel_rfl) (by kernel_rfl) (fun _ _ _ h => h) (Or.inl ⟨by kernel_rfl, ?_⟩) (by with_reducible assumption) ?_
  · intro wz hSw
    (try dsimp only at hSw)
    have y0 := (hp_cell (i := 4) hSw).trans rfl
    have y1 := (hp_cell (i := 5) hSw).trans rfl
    have y2 := (hp_cell (i := 6) hSw).trans rfl
    have y3 := (hp_cell (i := 7) hSw).trans rfl
    go_simp
    (try with_reducible rfl)
  show wpAnyH _ _ _ _ _ _ _ (Act.put _ (some 34) _) _
  (try simp only [Act.put, List.setIfInBounds_toArray, List.set_cons_zero, List.set_cons_succ])
  refine wpAnyH_take (i := 10) (v := ?_) rfl (by kernel_rfl) (by kernel_rfl) (by kernel_rfl) (fun _ _ _ h => h) (Or.inl ⟨by kernel_rfl, ?_⟩) (by with_reducible assumption) ?_
  rotate_left
  · intro wz hSw
    (try dsimp only at hSw)
    go_simp
    (try with_reducible rfl)
  show wpAnyH _ _ _ _ _ _ _ (Act.put _ (some 36) _) _
  (try simp only [Act.put, List.setIfInBounds_toArray, List.set_cons_zero, List.set_cons_succ])
  refine wpAnyH_take (i := 11) (v := ?_) rfl (by kernel_rfl) (by kernel_rfl) (by kernel_rfl) (fun _ _ _ h => h) (Or.inl ⟨by kernel_rfl, ?_⟩) (by with_reducible assumption) ?_
  rotate_left
  · intro wz hSw
    (try dsimp only at hSw)
    go_simp
    (try with_reducible rfl)
  show wpAnyH _ _ _ _ _ _ _ (Act.put _ (some 37) _) _
  (try simp only [Act.put, List.setIfInBounds_toArray, List.set_cons_zero, List.set_cons_succ])
  refine wpAnyH_take (i := 12) (v := .int .i64 t) rfl (by kernel_rfl) (by kernel_rfl) (by kernel_rfl) (fun _ _ _ h => h) (Or.inl ⟨by kernel_rfl, ?_⟩) (by with_reducible assumption) ?_
  · intro wz hSw
    (try dsimp only at hSw)
    have y0 := (hp_cell (i := 1) hSw).trans rfl
    go_simp
    (try with_reducible rfl)
  show wpAnyH _ _ _ _ _ _ _ (Act.put _ (some 38) _) _
  (try simp only [Act.put, List.setIfInBounds_toArray, List.set_cons_zero, List.set_cons_succ])
  refine wpAnyH_take (i := 13) (v := ?_) rfl (by kernel_rfl) (by kernel_rfl) (by kernel_rfl) (fun _ _ _ h => h) (Or.inl ⟨by kernel_rfl, ?_⟩) (by with_reducible assumption) ?_
  rotate_left
  · intro wz hSw
    (try dsimp only at hSw)
    go_simp
    (try with_reducible rfl)
  show wpAnyH _ _ _ _ _ _ _ (Act.put _ (some 39) _) _
  (try simp only [Act.put, List.setIfInBounds_toArray, List.set_cons_zero, List.set_cons_succ])
  refine wpAnyH_take (i := 14) (v := .int .i64 f) rfl (by kernel_rfl) (by kernel_rfl) (by kernel_rfl) (fun _ _ _ h => h) (Or.inl ⟨by kernel_rfl, ?_⟩) (by with_reducible assumption) ?_
  · intro wz hSw
    (try dsimp only at hSw)
    have y0 := (hp_cell (i := 2) hSw).trans rfl
    go_simp
    (try with_reducible rfl)
  show wpAnyH _ _ _ _ _ _ _ (Act.put _ (some 40) _) _
  (try simp only [Act.put, List.setIfInBounds_toArray, List.set_cons_zero, List.set_cons_succ])
  refine wpAnyH_take (i := 15) (v := ?_) rfl (by kernel_rfl) (by kernel_rfl) (by kernel_rfl) (fun _ _ _ h => h) (Or.inl ⟨by kernel_rfl, ?_⟩) (by with_reducible assumption) ?_
  rotate_left
  · intro wz hSw
    (try dsimp only at hSw)
    go_simp
    (try with_reducible rfl)
  show wpAnyH _ _ _ _ _ _ _ (Act.put _ (some 41) _) _
  (try simp only [Act.put, List.setIfInBounds_toArray, List.set_cons_zero, List.set_cons_succ])
  refine wpAnyH_take (i := 16) (v := .int .i64 c) rfl (by kernel_rfl) (by kernel_rfl) (by kernel_rfl) (fun _ _ _ h => h) (Or.inl ⟨by kernel_rfl, ?_⟩) (by with_reducible assumption) ?_
  · intro wz hSw
    (try dsimp only at hSw)
    have y0 := (hp_cell (i := 3) hSw).trans rfl
    go_simp
    (try with_reducible rfl)
  show wpAnyH _ _ _ _ _ _ _ (Act.put _ (some 42) _) _
  (try simp only [Act.put, List.setIfInBounds_toArray, List.set_cons_zero, List.set_cons_succ])
  refine wpAnyH_take (i := 17) (v := ?_) rfl (by kernel_rfl) (by kernel_rfl) (by kernel_rfl) (fun _ _ _ h => h) (Or.inl ⟨by kernel_rfl, ?_⟩) (by with_reducible assumption) ?_
  rotate_left
  · intro wz hSw
    (try dsimp only at hSw)
    go_simp
    (try with_reducible rfl)
  show wpAnyH _ _ _ _ _ _ _ (Act.put _ (some 43) _) _
  (try simp only [Act.put, List.setIfInBounds_toArray, List.set_cons_zero, List.set_cons_succ])
  refine wpAnyH_take (i := 18) (v := .agg #[.int .u64 (limb n 0 : Nat), .int .u64 (limb n 1 : Nat), .int .u64 (limb n 2 : Nat), .int .u64 (limb n 3 : Nat)]) rfl (by kernel_rfl) (by kernel_rfl) (by kernel_rfl) (fun _ _ _ h => h) (Or.inl ⟨by kernel_rfl, ?_⟩) (by with_reducible assumption) ?_
  · intro wz hSw
    (try dsimp only at hSw)
    have y0 := (hp_cell (i := 4) hSw).trans rfl
    have y1 := (hp_cell (i := 5) hSw).trans rfl
    have y2 := (hp_cell (i := 6) hSw).trans rfl
    have y3 := (hp_cell (i := 7) hSw).trans rfl
    go_simp
    (try with_reducible rfl)
  show wpAnyH _ _ _ _ _ _ _ (Act.put _ (some 44) _) _
  (try simp only [Act.put, List.setIfInBounds_toArray, List.set_cons_zero, List.set_cons_succ])
  refine wpAnyH_ready (rs := [9]) (by kernel_rfl) (by simp) ?_
  refine AllReadyH.cons rfl (fun K hK => ?_) AllReadyH.nil
  clear hHeld
  go_simp
  go_at_call 16
  refine (HO.out _ F q qs Hd.out.1 HQ.out.1).mono ?_
  rintro e Z2 ⟨rfl, h2⟩
  have r2 := LiveTo.keepT Hd.out.1 h2 fAct17
  have d2 := ds_live Hd.out.2.1 Hd.out.1 h2
  obtain ⟨F2, q2, qs2, hs2, hq2, _⟩ := h2
  have H2 := Lib.hid (And.intro hs2 (And.intro d2 (r2.2 _ _ _ Hd.out.2.2)))
  have HK2 := Lib.hid ((KeepT.of_below HB1.out).trans r2)
  have HQ2 := Lib.hid hq2
  clear hs2 d2 r2 hq2
  go_wp2_with fail
  refine hK.out _ _ ?_ (fun hHeld => ?_)
  · exact H2.out.2.2
  clear hK K
  (try simp only [Act.put, List.setIfInBounds_toArray, List.set_cons_zero, List.set_cons_succ])
  refine wpAnyH_ready (rs := [19]) (by kernel_rfl) (by simp) ?_
  refine AllReadyH.cons rfl (fun K hK => ?_) AllReadyH.nil
  clear hHeld
  go_simp
  go_at_call 18
  refine (HD.out _ R H2.out.2.1 HQ.out.2).mono ?_
  rintro e Z3 ⟨rfl, R3, hR3, h3⟩
  have r3 := h3.keepT nAct17
  have H3 := Lib.hid (And.intro (snew_other H2.out.1 h3) (And.intro h3.s (r3.2 _ _ _ H2.out.2.2)))
  have HK3 := Lib.hid (HK2.out.trans r3)
  have HR3 := Lib.hid hR3
  clear r3 h3 hR3
  go_wp2_with fail
  refine hK.out _ _ ?_ (fun hHeld => ?_)
  · exact H3.out.2.2
  clear hK K
  (try simp only [Act.put, List.setIfInBounds_toArray, List.set_cons_zero, List.set_cons_succ])
  refine wpAnyH_take (i := 20) (v := ?_) rfl (by kernel_rfl) (by kernel_rfl) (by kernel_rfl) (fun _ _ _ h => h) (Or.inl ⟨by kernel_rfl, ?_⟩) (by with_reducible assumption) ?_
  rotate_left
  · intro wz hSw
    (try dsimp only at hSw)
    go_simp
    (try with_reducible rfl)
  show wpAnyH _ _ _ _ _ _ _ (Act.put _ (some 46) _) _
  (try simp only [Act.put, List.setIfInBounds_toArray, List.set_cons_zero, List.set_cons_succ])
  refine wpAnyH_take (i := 21) (v := ?_) rfl (by kernel_rfl) (by kernel_rfl) (by kernel_rfl) (fun _ _ _ h => h) (Or.inl ⟨by kernel_rfl, ?_⟩) (by with_reducible assumption) ?_
  rotate_left
  · intro wz hSw
    (try dsimp only at hSw)
    go_simp
    (try with_reducible rfl)
  show wpAnyH _ _ _ _ _ _ _ (Act.put _ (some 6) _) _
  (try simp only [Act.put, List.setIfInBounds_toArray, List.set_cons_zero, List.set_cons_succ])
  refine wpAnyH_done (by kernel_rfl) ?_ _
  go_wp2_with fail
  go_ret
  exact ⟨rfl, L2, HM2.out.1, HM2.out.2, ⟨⟨F2, q2, qs2, H3.out.1, HQ2.out⟩, ⟨R3, HR3.out, H3.out.2.1⟩, HK3.out⟩⟩
theorem act17_any (w W : World) (b m : Nat) (L : SL) (hM : BM L) (hN : L.length < 800000) (F : List Nat) (q : Nat) (qs : List Value) (R : List Ch) (hs : SNew w W b F L q qs) (hq : q < 800000) (hd : DS w W m L R) (hR : R.length < 800000) (mt : Bool) (t f c : Int) (n : Nat) (hn : n < 2 ^ 256) :
    Calls Tryz.prog 6 #[.pointer (some ⟨b, 0, none⟩), .pointer (some ⟨m, 0, none⟩), .agg #[.bool mt, .int .i64 t, .int .i64 f, .int .i64 c, .int .u64 (limb n 0 : Nat), .int .u64 (limb n 1 : Nat), .int .u64 (limb n 2 : Nat), .int .u64 (limb n 3 : Nat)]] W fun e W' => e = .returned (.bool true) ∧ ∃ L2, BM L2 ∧ L2.length ≤ L.length + 2 ∧ BankTo w W W' b m q R.length L2 := by
  cases mt
  · exact act17_pay w W b m L hM hN F q qs R hs hq hd hR t f c n hn
  · exact act17_mint w W b m L hM hN F q qs R hs hq hd hR t f c n hn
end Go.Proofs.YtffipojlpdphiaaGreat

namespace Go.Proofs.YtffipojlpdphiaaGreat
open Go.ChangeShapes Go.WideShapes Go.ChangeAt Go.RowKit

theorem cellsU8 : Tryz.prog.cellsOf 5 = 1 := by kernel_rfl
section
variable {H : Type} {enc : TypeId × Value → H} {W : World} {base : Nat}
set_option maxRecDepth 100000 in
theorem open_bl {v : Value} {d : DataW H} {p : List MemPlace} (hv : Value.okWide Tryz.prog W .any base 83 v) (h : DataW.Trod enc Tryz.prog W 0 (fun _ => true) true 83 v d p) :
    ∃ A n c f, v = .slice A n c ∧ Sl W A n f := by
  obtain ⟨a0, n, c, rfl⟩ := okWide_slice Tryz.underlying83 hv
  obtain ⟨fuel, hf⟩ := h
  rcases open_ints Tryz.underlying83 Tryz.underlying5 cellsU8 hf with ⟨hcs, hx⟩ | ⟨a, len', cap', zs, hcs, _, hl, hm, hz, hx, hcell, hwz⟩
  · simp [Value.cells] at hcs
    obtain ⟨rfl, rfl, rfl⟩ := hcs
    exact ⟨none, 0, 0, fun _ => 0, rfl, fun _ => by decide, fun h => absurd h (by omega)⟩
  · simp only [Value.cells, List.cons.injEq, Value.slice.injEq, and_true] at hcs
    obtain ⟨rfl, rfl, rfl⟩ := hcs
    simp only [if_true] at hz
    have hb : ∀ i, 0 ≤ zs.getD i 0 ∧ zs.getD i 0 < 256 := fun i => by
      rcases Nat.lt_or_ge i zs.length with hi | hi
      · have h1 := hwz (zs.getD i 0) (by simp [List.getD, List.getElem?_eq_getElem hi])
        have h2 := bounds_u8 h1
        omega
      · simp only [List.getD, List.getElem?_eq_none hi, Option.getD_none]; decide
    refine ⟨some a, n, c, fun i => (zs.getD i 0).toNat, rfl, fun i => by have := hb i; omega, fun hn => ?_⟩
    have hc0 := hcell 0 (by omega)
    have hlt := World.block_lt_of_cell? W _ hc0
    obtain ⟨g, o, sp⟩ := a
    have hspot : sp = none := by simpa [Addr.add] using World.cell?_spot hc0
    subst hspot
    exact ⟨g, o, rfl, hlt, fun i hi => by
      have h1 := hcell i (by omega)
      have h2 := (hb i).1
      rw [add_plain] at h1
      rw [h1, Int.toNat_of_nonneg h2]⟩
set_option maxRecDepth 100000 in
theorem open_bl2 {v : Value} {d : DataW H} {p : List MemPlace} (hv : Value.okWide Tryz.prog W .any base 83 v) (h : DataW.Trod enc Tryz.prog W 0 (fun _ => true) true 83 v d p) :
    ∃ A n c f, v = .slice A n c ∧ Sl W A n f ∧ (A = none → n = 0 ∧ c = 0) := by
  obtain ⟨a0, n, c, rfl⟩ := okWide_slice Tryz.underlying83 hv
  obtain ⟨fuel, hf⟩ := h
  rcases open_ints Tryz.underlying83 Tryz.underlying5 cellsU8 hf with ⟨hcs, hx⟩ | ⟨a, len', cap', zs, hcs, _, hl, hm, hz, hx, hcell, hwz⟩
  · simp [Value.cells] at hcs
    obtain ⟨rfl, rfl, rfl⟩ := hcs
    exact ⟨none, 0, 0, fun _ => 0, rfl, ⟨fun _ => by decide, fun h => absurd h (by omega)⟩, fun _ => ⟨rfl, rfl⟩⟩
  · simp only [Value.cells, List.cons.injEq, Value.slice.injEq, and_true] at hcs
    obtain ⟨rfl, rfl, rfl⟩ := hcs
    simp only [if_true] at hz
    have hb : ∀ i, 0 ≤ zs.getD i 0 ∧ zs.getD i 0 < 256 := fun i => by
      rcases Nat.lt_or_ge i zs.length with hi | hi
      · have h1 := hwz (zs.getD i 0) (by simp [List.getD, List.getElem?_eq_getElem hi])
        have h2 := bounds_u8 h1
        omega
      · simp only [List.getD, List.getElem?_eq_none hi, Option.getD_none]; decide
    refine ⟨some a, n, c, fun i => (zs.getD i 0).toNat, rfl, ⟨fun i => by have := hb i; omega, fun hn => ?_⟩, fun h => by cases h⟩
    have hc0 := hcell 0 (by omega)
    have hlt := World.block_lt_of_cell? W _ hc0
    obtain ⟨g, o, sp⟩ := a
    have hspot : sp = none := by simpa [Addr.add] using World.cell?_spot hc0
    subst hspot
    exact ⟨g, o, rfl, hlt, fun i hi => by
      have h1 := hcell i (by omega)
      have h2 := (hb i).1
      rw [add_plain] at h1
      rw [h1, Int.toNat_of_nonneg h2]⟩
end
end Go.Proofs.YtffipojlpdphiaaGreat

namespace Go.Proofs.YtffipojlpdphiaaGreat
open Go.ChangeShapes Go.WideShapes Go.ChangeAt Go.RowKit

theorem cells_act17 : Tryz.prog.cellsOf 35 = 8 := by kernel_rfl
theorem cells_act17_U : Tryz.prog.cellsOf 33 = 4 := by kernel_rfl
theorem cells_act17_bool : Tryz.prog.cellsOf 4 = 1 := by kernel_rfl
theorem cells_act17_int : Tryz.prog.cellsOf 3 = 1 := by kernel_rfl
theorem list_act17 {α : Type} (l : List α) (h : l.length = 8) : ∃ b0 b1 b2 b3 b4 b5 b6 b7, l = [b0, b1, b2, b3, b4, b5, b6, b7] := by
  match l, h with
  | [b0, b1, b2, b3, b4, b5, b6, b7], _ => exact ⟨b0, b1, b2, b3, b4, b5, b6, b7, rfl⟩
theorem listy_act17 {α : Type} (l : List α) (h : l.length = 5) : ∃ y0 y1 y2 y3 y4, l = [y0, y1, y2, y3, y4] := by
  match l, h with
  | [y0, y1, y2, y3, y4], _ => exact ⟨y0, y1, y2, y3, y4, rfl⟩
/-- N rows at A, their fields -/
structure act17sAt (W : World) (A : Option Addr) (N : Nat) (x0 : Nat → Bool) (x1 : Nat → Int) (x2 : Nat → Int) (x3 : Nat → Int) (a4 : Nat → Nat) : Prop where
  rows : RowsV W A N 8 (fun i => [.bool (x0 i), .int .i64 (x1 i), .int .i64 (x2 i), .int .i64 (x3 i), .int .u64 (limb (a4 i) 0 : Nat), .int .u64 (limb (a4 i) 1 : Nat), .int .u64 (limb (a4 i) 2 : Nat), .int .u64 (limb (a4 i) 3 : Nat)])
  f0 : ∀ i, i < N → (-9223372036854775808 ≤ (x1 i) ∧ (x1 i) < 2 ^ 63)
  f1 : ∀ i, i < N → (-9223372036854775808 ≤ (x2 i) ∧ (x2 i) < 2 ^ 63)
  f2 : ∀ i, i < N → (-9223372036854775808 ≤ (x3 i) ∧ (x3 i) < 2 ^ 63)
  f3 : ∀ i, i < N → ((a4 i) < 2 ^ 256)
theorem act17sAt.below {W W' : World} {A : Option Addr} {N : Nat} {x0 : Nat → Bool} {x1 : Nat → Int} {x2 : Nat → Int} {x3 : Nat → Int} {a4 : Nat → Nat} (h : act17sAt W A N x0 x1 x2 x3 a4) (hb : Below W.heap.size W W') : act17sAt W' A N x0 x1 x2 x3 a4 :=
  ⟨h.rows.below hb, fun i hi => (h.f0 i hi), fun i hi => (h.f1 i hi), fun i hi => (h.f2 i hi), fun i hi => (h.f3 i hi)⟩
section
variable {H : Type} {enc : TypeId × Value → H} {W : World} {base : Nat}
set_option maxRecDepth 100000 in
theorem open_u_act17 {m : Nat} {c0 c1 c2 c3 : Value} {x : DataW H × List MemPlace} (hf : DataW.trod enc Tryz.prog W 0 (fun _ => true) true m 33 [c0, c1, c2, c3] = some x) :
    ∃ a, a < 2 ^ 256 ∧ c0 = .int .u64 (limb a 0 : Nat) ∧ c1 = .int .u64 (limb a 1 : Nat) ∧ c2 = .int .u64 (limb a 2 : Nat) ∧ c3 = .int .u64 (limb a 3 : Nat) := by
  obtain ⟨y0, y1, y2, y3, m, hx, hy0, hy1, hy2, hy3⟩ := trod_array4 Tryz.underlying33 (show Tryz.prog.cellsOf 31 = 1 by kernel_rfl) hf
  obtain ⟨x0, e0, rfl, w0⟩ := DataW.trod_int Tryz.underlying31 hy0
  obtain ⟨x1, e1, rfl, w1⟩ := DataW.trod_int Tryz.underlying31 hy1
  obtain ⟨x2, e2, rfl, w2⟩ := DataW.trod_int Tryz.underlying31 hy2
  obtain ⟨x3, e3, rfl, w3⟩ := DataW.trod_int Tryz.underlying31 hy3
  simp at e0 e1 e2 e3
  have hb0 := bounds_u64 w0
  have hb1 := bounds_u64 w1
  have hb2 := bounds_u64 w2
  have hb3 := bounds_u64 w3
  obtain ⟨n0, rfl⟩ : ∃ n : Nat, x0 = (n : Int) := ⟨x0.toNat, by omega⟩
  obtain ⟨n1, rfl⟩ : ∃ n : Nat, x1 = (n : Int) := ⟨x1.toNat, by omega⟩
  obtain ⟨n2, rfl⟩ : ∃ n : Nat, x2 = (n : Int) := ⟨x2.toNat, by omega⟩
  obtain ⟨n3, rfl⟩ : ∃ n : Nat, x3 = (n : Int) := ⟨x3.toNat, by omega⟩
  have hl : ∀ i, i < 4 → (fun i => match i with | 0 => n0 | 1 => n1 | 2 => n2 | _ => n3 : Nat → Nat) i < 2 ^ 64 := fun i hi => by
    rcases (by omega : i = 0 ∨ i = 1 ∨ i = 2 ∨ i = 3) with rfl | rfl | rfl | rfl
    · show n0 < 2 ^ 64; omega
    · show n1 < 2 ^ 64; omega
    · show n2 < 2 ^ 64; omega
    · show n3 < 2 ^ 64; omega
  refine ⟨val (fun i => match i with | 0 => n0 | 1 => n1 | 2 => n2 | _ => n3 : Nat → Nat) 4, val_lt 4 hl, ?_, ?_, ?_, ?_⟩
  · rw [e0, limb_val 4 hl 0 (by omega)]; rfl
  · rw [e1, limb_val 4 hl 1 (by omega)]; rfl
  · rw [e2, limb_val 4 hl 2 (by omega)]; rfl
  · rw [e3, limb_val 4 hl 3 (by omega)]; rfl
set_option maxRecDepth 100000 in
theorem open_act17_row {fuel : Nat} {cs : List Value} {x : DataW H × List MemPlace} (hf : DataW.trod enc Tryz.prog W 0 (fun _ => true) true fuel 35 cs = some x) (hsz : cs.length = 8) :
    ∃ x0 x1 x2 x3 a4, cs = [.bool x0, .int .i64 x1, .int .i64 x2, .int .i64 x3, .int .u64 (limb a4 0 : Nat), .int .u64 (limb a4 1 : Nat), .int .u64 (limb a4 2 : Nat), .int .u64 (limb a4 3 : Nat)] ∧ (-9223372036854775808 ≤ x1 ∧ x1 < 2 ^ 63) ∧ (-9223372036854775808 ≤ x2 ∧ x2 < 2 ^ 63) ∧ (-9223372036854775808 ≤ x3 ∧ x3 < 2 ^ 63) ∧ (a4 < 2 ^ 256) := by
  obtain ⟨b0, b1, b2, b3, b4, b5, b6, b7, rfl⟩ := list_act17 cs hsz
  obtain ⟨ys, n2, _, _, _, hyl, hf⟩ := DataW.trod_struct Tryz.underlying35 hf
  obtain ⟨y0, y1, y2, y3, y4, rfl⟩ := listy_act17 ys hyl
  have f0 : DataW.trod enc Tryz.prog W 0 (fun _ => true) true n2 4 (([b0, b1, b2, b3, b4, b5, b6, b7].drop 0).take (Tryz.prog.cellsOf 4)) = some y0 := hf 0 _ rfl
  rw [cells_act17_bool] at f0
  replace f0 : DataW.trod enc Tryz.prog W 0 (fun _ => true) true n2 4 [b0] = some y0 := f0
  have f1 : DataW.trod enc Tryz.prog W 0 (fun _ => true) true n2 3 (([b0, b1, b2, b3, b4, b5, b6, b7].drop 1).take (Tryz.prog.cellsOf 3)) = some y1 := hf 1 _ rfl
  rw [cells_act17_int] at f1
  replace f1 : DataW.trod enc Tryz.prog W 0 (fun _ => true) true n2 3 [b1] = some y1 := f1
  have f2 : DataW.trod enc Tryz.prog W 0 (fun _ => true) true n2 3 (([b0, b1, b2, b3, b4, b5, b6, b7].drop 2).take (Tryz.prog.cellsOf 3)) = some y2 := hf 2 _ rfl
  rw [cells_act17_int] at f2
  replace f2 : DataW.trod enc Tryz.prog W 0 (fun _ => true) true n2 3 [b2] = some y2 := f2
  have f3 : DataW.trod enc Tryz.prog W 0 (fun _ => true) true n2 3 (([b0, b1, b2, b3, b4, b5, b6, b7].drop 3).take (Tryz.prog.cellsOf 3)) = some y3 := hf 3 _ rfl
  rw [cells_act17_int] at f3
  replace f3 : DataW.trod enc Tryz.prog W 0 (fun _ => true) true n2 3 [b3] = some y3 := f3
  have f4 : DataW.trod enc Tryz.prog W 0 (fun _ => true) true n2 33 (([b0, b1, b2, b3, b4, b5, b6, b7].drop 4).take (Tryz.prog.cellsOf 33)) = some y4 := hf 4 _ rfl
  rw [cells_act17_U] at f4
  replace f4 : DataW.trod enc Tryz.prog W 0 (fun _ => true) true n2 33 [b4, b5, b6, b7] = some y4 := f4
  obtain ⟨x0, e0, _⟩ := DataW.trod_bool Tryz.underlying4 f0
  simp at e0
  subst e0
  obtain ⟨x1, e1, _, w1⟩ := DataW.trod_int Tryz.underlying3 f1
  simp at e1
  subst e1
  have h1 := bounds_i64 w1
  obtain ⟨x2, e2, _, w2⟩ := DataW.trod_int Tryz.underlying3 f2
  simp at e2
  subst e2
  have h2 := bounds_i64 w2
  obtain ⟨x3, e3, _, w3⟩ := DataW.trod_int Tryz.underlying3 f3
  simp at e3
  subst e3
  have h3 := bounds_i64 w3
  obtain ⟨a4, ha4, rfl, rfl, rfl, rfl⟩ := open_u_act17 f4
  exact ⟨x0, x1, x2, x3, a4, rfl, ⟨by omega, by omega⟩, ⟨by omega, by omega⟩, ⟨by omega, by omega⟩, ha4⟩
set_option maxRecDepth 100000 in
theorem open_act17s {v : Value} {d : DataW H} {p : List MemPlace} (hv : Value.okWide Tryz.prog W .any base 22 v) (h : DataW.Trod enc Tryz.prog W 0 (fun _ => true) true 22 v d p) :
    ∃ A N C x0 x1 x2 x3 a4, v = .slice A N C ∧ (A = none → N = 0 ∧ C = 0) ∧ N ≤ C ∧ C ≤ 9223372036854775807 ∧ act17sAt W A N x0 x1 x2 x3 a4 := by
  obtain ⟨a0, N, C, rfl⟩ := okWide_slice Tryz.underlying22 hv
  obtain ⟨fuel, hf⟩ := h
  rcases Go.Deep.open_slice Tryz.underlying22 hf with ⟨hcs, hx⟩ | ⟨a, len, cap, m, n, D, Pl, hcs, hb, hl, hm, hmm, _, hx⟩
  · simp [Value.cells] at hcs
    obtain ⟨rfl, rfl, rfl⟩ := hcs
    exact ⟨none, 0, 0, fun _ => false, fun _ => 0, fun _ => 0, fun _ => 0, fun _ => 0, rfl, fun _ => ⟨rfl, rfl⟩, Nat.le_refl _, by decide, ⟨RowsV.nil _ _ _ _, fun i h => absurd h (by omega), fun i h => absurd h (by omega), fun i h => absurd h (by omega), fun i h => absurd h (by omega)⟩⟩
  · simp only [Value.cells, List.cons.injEq, Value.slice.injEq, and_true] at hcs
    obtain ⟨rfl, rfl, rfl⟩ := hcs
    simp only [if_true] at hmm
    subst hmm
    rw [cells_act17] at hx
    obtain ⟨y, hy⟩ := Go.Deep.choose_lt (α := (Bool) × (Int) × (Int) × (Int) × (Nat)) (n := m) (p := fun i y => W.cells? 0 (a.add (i * 8)) 8 = some [.bool y.1, .int .i64 y.2.1, .int .i64 y.2.2.1, .int .i64 y.2.2.2.1, .int .u64 (limb y.2.2.2.2 0 : Nat), .int .u64 (limb y.2.2.2.2 1 : Nat), .int .u64 (limb y.2.2.2.2 2 : Nat), .int .u64 (limb y.2.2.2.2 3 : Nat)] ∧ (-9223372036854775808 ≤ y.2.1 ∧ y.2.1 < 2 ^ 63) ∧ (-9223372036854775808 ≤ y.2.2.1 ∧ y.2.2.1 < 2 ^ 63) ∧ (-9223372036854775808 ≤ y.2.2.2.1 ∧ y.2.2.2.1 < 2 ^ 63) ∧ (y.2.2.2.2 < 2 ^ 256)) (fun i hi => by
      obtain ⟨cs, h1, h2⟩ := hx i hi
      obtain ⟨x0, x1, x2, x3, a4, rfl, g0, g1, g2, g3⟩ := open_act17_row h2 (World.cells?_some h1).2.1
      exact ⟨(x0, x1, x2, x3, a4), h1, g0, g1, g2, g3⟩)
    unfold maxLen at hm
    refine ⟨some a, N, m, fun i => (y i).1, fun i => (y i).2.1, fun i => (y i).2.2.1, fun i => (y i).2.2.2.1, fun i => (y i).2.2.2.2, rfl, (fun h => by cases h), hl, by omega, ⟨RowsV.of_cells (by decide) fun i hi => (hy i (by omega)).1, fun i hi => (hy i (by omega)).2.1, fun i hi => (hy i (by omega)).2.2.1, fun i hi => (hy i (by omega)).2.2.2.1, fun i hi => (hy i (by omega)).2.2.2.2⟩⟩
end
end Go.Proofs.YtffipojlpdphiaaGreat
