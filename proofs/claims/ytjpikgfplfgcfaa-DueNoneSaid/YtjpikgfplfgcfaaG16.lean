/- fifo's queue: head, at, ends: on whatever store. -/
import Derived.Test.YtjpikgfplfgcfaaG13
import Derived.Test.YtjpikgfplfgcfaaG15
import Derived.Deep.RegionHeld
import Derived.StillTailTactics
import Derived.Deep.Quiet
import Derived.Deep.QuietTactic
namespace Go.Proofs.Ytjpikgfplfgcfaa
open Go.RowKit Go.Maps Go.Sort

/-- a queue -/
abbrev qv (P : Option Addr) (t : Int) (A : Option Addr) (n c : Nat) : Value := .agg #[.pointer P, .int .i64 t, .slice A n c]
set_option maxRecDepth 100000 in
set_option maxHeartbeats 1000000 in
theorem qhead_is (P : Option Addr) (t : Int) (A : Option Addr) (n c : Nat) (f : Nat → Int) (K : ByteArray) (hK : keyStr t f n = K) (w : World) (hl : Il w A n f) (hn : n ≤ 20) :
    Calls Try.prog 109 #[.agg #[.pointer P, .int .i64 t, .slice A n c]] w fun e w' => e = .returned (.string K) ∧ Below w.heap.size w w' := by
  have hb0 := (Below.refl w.heap.size w).alloc (Nat.le_refl _) (.cells #[.pointer P, .int .i64 t, .slice A n c] 176)
  have HK := Lib.hid (key_is t A n c f K hK _ (hl.below hb0) (by omega))
  have HB0 := Lib.hid hb0
  clear hl hK hn hb0
  go_enter Try.func109, Try.ntmps109
  go_wp2_with (go_at_call 90; refine HK.out.mono ?_; rintro e w1 ⟨rfl, hb1⟩; have HB1 := Lib.hid (HB0.out.trans (hb1.mono HB0.out.size)); clear hb1)
  go_ret
  exact ⟨rfl, HB1.out⟩
set_option maxRecDepth 100000 in
set_option maxHeartbeats 4000000 in
theorem qat_is (P : Option Addr) (t : Int) (A : Option Addr) (n c : Nat) (f : Nat → Int) (k : Int) (K : ByteArray) (hK : keyStr t (icat f n fun _ => k) (n + 1) = K) (w : World) (hl : Il w A n f) (hz : A = none → n = 0 ∧ c = 0) (hn : n ≤ 20) (hk : k < 2 ^ 63) :
    Calls Try.prog 106 #[.agg #[.pointer P, .int .i64 t, .slice A n c], .int .i64 k] w fun e w' => e = .returned (.string K) ∧ Below w.heap.size w w' := by
  obtain ⟨W0, hW0⟩ : ∃ W0, W0 = w.alloc (.cells #[.pointer P, .int .i64 t, .slice A n c] 176) := ⟨_, rfl⟩
  have hb0 : Below w.heap.size w W0 := by rw [hW0]; exact (Below.refl _ _).alloc (Nat.le_refl _) _
  have r0 : W0.heap[w.heap.size]? = some (.cells #[.pointer P, .int .i64 t, .slice A n c] 176 (0, 0)) := by rw [hW0]; exact heap_alloc_new _ _
  have hl0 := hl.below hb0
  have HC := Lib.hid (fun (W : World) (hb : Below W0.heap.size W0 W) => iconcat2_c A (some ⟨W.heap.size, 0, none⟩) n 1 c 1 f (fun _ => k) (W.alloc (.cells #[.int .i64 k] 3)) ((hl0.below hb).below ((Below.refl _ _).alloc (Nat.le_refl _) _)) (il1 k W 3 hk) hz (fun h => by cases h) (by omega) (by omega) 67)
  have HK := Lib.hid (fun (A' : Option Addr) (c' : Nat) (W : World) (h : Il W A' (n + 1) (icat f n fun _ => k)) => key_is t A' (n + 1) c' _ K hK W h (by omega))
  have HM := Lib.hid (fun (i : Nat) => show icat f n (fun _ => k) i < 2 ^ 63 from by unfold icat; split; exact hl.most _; exact hk)
  have HW := Lib.hid hW0
  have c0 := (hp_cell (i := 0) r0).trans rfl
  have c1 := (hp_cell (i := 1) r0).trans rfl
  have c2 := (hp_cell (i := 2) r0).trans rfl
  have l0 := hp_lt r0
  have H0 := Lib.hid hb0
  clear hl hK hz hn hk hb0 hW0 hl0 r0
  go_enter Try.func106, Try.ntmps106
  go_upto_region 1 with fail
  rw [← HW.out]
  refine wp_region_held_drew (S := fun w' => Below W0.heap.size W0 w') (by kernel_rfl) ?_ (fun hHeld => ?_)
  · exact (Below.refl _ _).drew
  have HZ0 := Lib.hid (show Below W0.heap.size W0 W0.drew from (Below.refl _ _).drew)
  generalize W0.drew = wd at *
  refine wpAnyH_take (i := 0) (v := .pointer (some ⟨w.heap.size, 1, none⟩)) rfl (by kernel_rfl) (by kernel_rfl) (by kernel_rfl) (fun _ _ _ h => h) (Or.inl ⟨by kernel_rfl, ?_⟩) (by with_reducible assumption) ?_
  · intro wz hSw
    (try dsimp only at hSw)
    go_simp
  show wpAnyH _ _ _ _ _ _ _ (Act.put _ (some 5) _) _
  (try simp only [Act.put, List.setIfInBounds_toArray, List.set_cons_zero, List.set_cons_succ])
  refine wpAnyH_take (i := 1) (v := .int .i64 t) rfl (by kernel_rfl) (by kernel_rfl) (by kernel_rfl) (fun _ _ _ h => h) (Or.inl ⟨by kernel_rfl, ?_⟩) (by with_reducible assumption) ?_
  · intro wz hSw
    (try dsimp only at hSw)
    have d1 := (hSw.cell (p := ⟨w.heap.size, 1, none⟩) l0).trans c1
    go_simp
  show wpAnyH _ _ _ _ _ _ _ (Act.put _ (some 6) _) _
  (try simp only [Act.put, List.setIfInBounds_toArray, List.set_cons_zero, List.set_cons_succ])
  refine wpAnyH_take (i := 2) (v := .pointer (some ⟨w.heap.size, 2, none⟩)) rfl (by kernel_rfl) (by kernel_rfl) (by kernel_rfl) (fun _ _ _ h => h) (Or.inl ⟨by kernel_rfl, ?_⟩) (by with_reducible assumption) ?_
  · intro wz hSw
    (try dsimp only at hSw)
    go_simp
  show wpAnyH _ _ _ _ _ _ _ (Act.put _ (some 7) _) _
  (try simp only [Act.put, List.setIfInBounds_toArray, List.set_cons_zero, List.set_cons_succ])
  refine wpAnyH_take (i := 3) (v := .slice A n c) rfl (by kernel_rfl) (by kernel_rfl) (by kernel_rfl) (fun _ _ _ h => h) (Or.inl ⟨by kernel_rfl, ?_⟩) (by with_reducible assumption) ?_
  · intro wz hSw
    (try dsimp only at hSw)
    have d2 := (hSw.cell (p := ⟨w.heap.size, 2, none⟩) l0).trans c2
    go_simp
  show wpAnyH _ _ _ _ _ _ _ (Act.put _ (some 8) _) _
  (try simp only [Act.put, List.setIfInBounds_toArray, List.set_cons_zero, List.set_cons_succ])
  refine wpAnyH_take (i := 4) (v := .int .i64 k) rfl (by kernel_rfl) (by kernel_rfl) (by kernel_rfl) (fun _ _ _ h => h) (Or.inl ⟨by kernel_rfl, ?_⟩) (by with_reducible assumption) ?_
  · intro wz hSw
    (try dsimp only at hSw)
    go_simp
    (try with_reducible rfl)
  show wpAnyH _ _ _ _ _ _ _ (Act.put _ (some 9) _) _
  (try simp only [Act.put, List.setIfInBounds_toArray, List.set_cons_zero, List.set_cons_succ])
  refine wpAnyH_ready (rs := [5]) (by kernel_rfl) (by simp) ?_
  refine AllReadyH.cons rfl (fun K hK => ?_) AllReadyH.nil
  clear hHeld
  go_simp
  refine hK.out _ _ ?_ (fun hHeld => ?_)
  · exact HZ0.out.alloc HZ0.out.size _
  clear hK K
  (try simp only [Act.put, List.setIfInBounds_toArray, List.set_cons_zero, List.set_cons_succ])
  have hc := HC.out wd HZ0.out
  rw [World.size_alloc] at hc
  have HC5 := Lib.hid hc
  have HZ5 := Lib.hid (HZ0.out.alloc HZ0.out.size (.cells #[.int .i64 k] 3))
  clear hc
  refine wpAnyH_ready (rs := [6]) (by kernel_rfl) (by simp) ?_
  refine AllReadyH.cons rfl (fun K hK => ?_) AllReadyH.nil
  clear hHeld
  go_simp
  refine hK.out _ _ ?_ (fun hHeld => ?_)
  · exact HZ5.out.alloc HZ5.out.size _
  clear hK K
  (try simp only [Act.put, List.setIfInBounds_toArray, List.set_cons_zero, List.set_cons_succ])
  refine wpAnyH_ready (rs := [7]) (by kernel_rfl) (by simp) ?_
  refine AllReadyH.cons rfl (fun K hK => ?_) AllReadyH.nil
  clear hHeld
  go_simp
  go_at_call 141
  refine HC5.out.mono ?_
  rintro e z7 ⟨⟨v, rfl, hv⟩, hb⟩
  obtain ⟨A1, c1', rfl, il, _⟩ := own_il hv HM.out
  have HI := Lib.hid il
  have HZ7 := Lib.hid (HZ5.out.trans (hb.mono (Nat.le_succ_of_le HZ0.out.size)))
  clear hv il hb
  go_wp2_with fail
  refine hK.out _ _ ?_ (fun hHeld => ?_)
  · exact HZ7.out
  clear hK K
  (try simp only [Act.put, List.setIfInBounds_toArray, List.set_cons_zero, List.set_cons_succ])
  refine wpAnyH_ready (rs := [8]) (by kernel_rfl) (by simp) ?_
  refine AllReadyH.cons rfl (fun K hK => ?_) AllReadyH.nil
  clear hHeld
  go_simp
  go_at_call 90
  refine (HK.out _ _ _ HI.out).mono ?_
  rintro e z8 ⟨rfl, hb⟩
  have HZ8 := Lib.hid (HZ7.out.trans (hb.mono HZ7.out.size))
  clear hb
  go_wp2_with fail
  refine hK.out _ _ ?_ (fun hHeld => ?_)
  · exact HZ8.out
  clear hK K
  (try simp only [Act.put, List.setIfInBounds_toArray, List.set_cons_zero, List.set_cons_succ])
  refine wpAnyH_take (i := 9) (v := .string K) rfl (by kernel_rfl) (by kernel_rfl) (by kernel_rfl) (fun _ _ _ h => h) (Or.inl ⟨by kernel_rfl, ?_⟩) (by with_reducible assumption) ?_
  · intro wz hSw
    (try dsimp only at hSw)
    go_simp
  show wpAnyH _ _ _ _ _ _ _ (Act.put _ (some 4) _) _
  (try simp only [Act.put, List.setIfInBounds_toArray, List.set_cons_zero, List.set_cons_succ])
  refine wpAnyH_done (by kernel_rfl) ?_ _
  go_wp2_with fail
  go_ret
  exact ⟨rfl, H0.out.trans (HZ8.out.mono H0.out.size)⟩
end Go.Proofs.Ytjpikgfplfgcfaa

namespace Go.Proofs.Ytjpikgfplfgcfaa
open Go.RowKit Go.Maps Go.Sort

theorem idx20 (a b : Value) (w : World) : (Instr.index 177 (.agg #[a, b]) (.int .i64 0)).run Try.prog w = .ok a w := by kernel_rfl
set_option maxRecDepth 100000 in
set_option maxHeartbeats 2000000 in
theorem ends_none (P : Option Addr) (t : Int) (A : Option Addr) (n c : Nat) (f : Nat → Int) (K : ByteArray) (hK : keyStr t f n = K) (w : World) (hl : Il w A n f) (hn : n ≤ 20)
    (HR : ∀ W, Below w.heap.size w W → Calls Try.prog 41 #[.pointer P, .string K] W fun e w' => (∃ g, e = .returned (.slice (some ⟨g, 0, none⟩) 0 0)) ∧ Below W.heap.size W w') :
    Calls Try.prog 107 #[.agg #[.pointer P, .int .i64 t, .slice A n c]] w fun e w' => e = .returned (.agg #[.int .i64 0, .int .i64 0]) ∧ Below w.heap.size w w' := by
  obtain ⟨W0, hW0⟩ : ∃ W0, W0 = (w.alloc (.cells #[.pointer P, .int .i64 t, .slice A n c] 176)).alloc (.cells #[.int .i64 0, .int .i64 0] 177) := ⟨_, rfl⟩
  have hb0 : Below w.heap.size w W0 := by rw [hW0]; exact ((Below.refl _ _).alloc (Nat.le_refl _) _).alloc (by simp) _
  have r0 : W0.heap[w.heap.size]? = some (.cells #[.pointer P, .int .i64 t, .slice A n c] 176 (0, 0)) := by rw [hW0]; exact (heap_alloc_old _ _ (by simp)).trans (heap_alloc_new _ _)
  have r1 : W0.heap[w.heap.size + 1]? = some (.cells #[.int .i64 0, .int .i64 0] 177 (0, 0)) := by
    rw [hW0]
    have := heap_alloc_new (w.alloc (.cells #[.pointer P, .int .i64 t, .slice A n c] 176)) (.cells #[.int .i64 0, .int .i64 0] 177)
    rwa [World.size_alloc] at this
  have f0 := fun (dq : Nat) (osq : Array Obj) => cell_regrown (w := W0) (a := ⟨w.heap.size, 0, none⟩) ((hp_cell (i := 0) r0).trans rfl) dq osq
  have f1 := fun (dq : Nat) (osq : Array Obj) => cell_regrown (w := W0) (a := ⟨w.heap.size, 1, none⟩) ((hp_cell (i := 1) r0).trans rfl) dq osq
  have f2 := fun (dq : Nat) (osq : Array Obj) => cell_regrown (w := W0) (a := ⟨w.heap.size, 2, none⟩) ((hp_cell (i := 2) r0).trans rfl) dq osq
  have HH := Lib.hid (fun (dq : Nat) (osq : Array Obj) => qhead_is P t A n c f K hK (grow (redrawn W0 dq) osq) ((hl.below hb0).below (below_regrown W0 dq osq)) hn)
  have HRw := Lib.hid HR
  have H0 := Lib.hid (And.intro hb0 r1)
  have HW := Lib.hid hW0
  clear HR hl hK hn hb0 hW0 r0 r1
  go_enter Try.func107, Try.ntmps107
  go_upto_region 1 with fail
  rw [← HW.out]
  refine wp_region_quiet_tail 4 (by kernel_rfl) (by kernel_rfl) ?_
  simp only [List.take_succ_cons, List.take_zero]
  repeat (quiet_step (first | (go_at_call 109; with_reducible exact Calls.regrown_of (HH.out _ _))))
  refine wpQuiet_nil ?_
  intro _ hw'
  obtain ⟨⟨dq, osq⟩, hw''⟩ := hw'
  subst hw''
  have hb1 := H0.out.1.trans ((below_regrown W0 dq osq).mono H0.out.1.size)
  have r1 := ((below_regrown W0 dq osq).block _ (hp_lt H0.out.2)).trans H0.out.2
  obtain ⟨W1, hW1⟩ : ∃ W1, W1 = grow (redrawn W0 dq) osq := ⟨_, rfl⟩
  rw [← hW1] at hb1 r1 ⊢
  have H1 := Lib.hid (And.intro hb1 r1)
  clear hb1 r1 hW1 f0 f1 f2 HH
  simp only [List.drop_succ_cons, List.drop_zero]
  go_upto_region 2 with (go_at_call 41; refine (HRw.out _ H1.out.1).mono ?_; rintro e w3 ⟨⟨g, rfl⟩, hb3⟩; have r3 := (hb3.block _ (hp_lt H1.out.2)).trans H1.out.2; have R3 := Lib.hid r3; have HB3 := Lib.hid (H1.out.1.trans (hb3.mono H1.out.1.size)); clear hb3 r3)
  go_quiet (fail)
  have d0 := (hp_cell (i := 0) R3.out).trans rfl
  have d1 := (hp_cell (i := 1) R3.out).trans rfl
  have g0 := hp_free (i := 0) R3.out
  have g1 := hp_free (i := 1) R3.out
  go_wp2
  refine bodyPost_ret (v := .agg #[.int .i64 0, .int .i64 0]) (by simp [results, Try.results107, go_sem, d0, d1]) rfl ⟨rfl, ?_⟩
  exact ((below_drewN HB3.out _).setCell (by simp) _).setCell (by simp) _
set_option maxRecDepth 100000 in
set_option maxHeartbeats 2000000 in
theorem ends_two (P : Option Addr) (t : Int) (A : Option Addr) (n c : Nat) (f : Nat → Int) (K : ByteArray) (hK : keyStr t f n = K) (x y : Int) (hxy : x < y) (w : World) (hl : Il w A n f) (hn : n ≤ 20)
    (HR : ∀ W, Below w.heap.size w W → Calls Try.prog 41 #[.pointer P, .string K] W fun e w' => (∃ g, e = .returned (.slice (some ⟨g, 0, none⟩) 2 2) ∧ w'.cell? ⟨g, 0, none⟩ = some (.int .i64 x) ∧ w'.cell? ⟨g, 1, none⟩ = some (.int .i64 y)) ∧ Below W.heap.size W w') :
    Calls Try.prog 107 #[.agg #[.pointer P, .int .i64 t, .slice A n c]] w fun e w' => e = .returned (.agg #[.int .i64 x, .int .i64 y]) ∧ Below w.heap.size w w' := by
  obtain ⟨W0, hW0⟩ : ∃ W0, W0 = (w.alloc (.cells #[.pointer P, .int .i64 t, .slice A n c] 176)).alloc (.cells #[.int .i64 0, .int .i64 0] 177) := ⟨_, rfl⟩
  have hb0 : Below w.heap.size w W0 := by rw [hW0]; exact ((Below.refl _ _).alloc (Nat.le_refl _) _).alloc (by simp) _
  have r0 : W0.heap[w.heap.size]? = some (.cells #[.pointer P, .int .i64 t, .slice A n c] 176 (0, 0)) := by rw [hW0]; exact (heap_alloc_old _ _ (by simp)).trans (heap_alloc_new _ _)
  have r1 : W0.heap[w.heap.size + 1]? = some (.cells #[.int .i64 0, .int .i64 0] 177 (0, 0)) := by
    rw [hW0]
    have := heap_alloc_new (w.alloc (.cells #[.pointer P, .int .i64 t, .slice A n c] 176)) (.cells #[.int .i64 0, .int .i64 0] 177)
    rwa [World.size_alloc] at this
  have f0 := fun (dq : Nat) (osq : Array Obj) => cell_regrown (w := W0) (a := ⟨w.heap.size, 0, none⟩) ((hp_cell (i := 0) r0).trans rfl) dq osq
  have f1 := fun (dq : Nat) (osq : Array Obj) => cell_regrown (w := W0) (a := ⟨w.heap.size, 1, none⟩) ((hp_cell (i := 1) r0).trans rfl) dq osq
  have f2 := fun (dq : Nat) (osq : Array Obj) => cell_regrown (w := W0) (a := ⟨w.heap.size, 2, none⟩) ((hp_cell (i := 2) r0).trans rfl) dq osq
  have HH := Lib.hid (fun (dq : Nat) (osq : Array Obj) => qhead_is P t A n c f K hK (grow (redrawn W0 dq) osq) ((hl.below hb0).below (below_regrown W0 dq osq)) hn)
  have HRw := Lib.hid HR
  have H0 := Lib.hid (And.intro hb0 r1)
  have HW := Lib.hid hW0
  clear HR hl hK hn hb0 hW0 r0 r1
  go_enter Try.func107, Try.ntmps107
  go_upto_region 1 with fail
  rw [← HW.out]
  refine wp_region_quiet_tail 4 (by kernel_rfl) (by kernel_rfl) ?_
  simp only [List.take_succ_cons, List.take_zero]
  repeat (quiet_step (first | (go_at_call 109; with_reducible exact Calls.regrown_of (HH.out _ _))))
  refine wpQuiet_nil ?_
  intro _ hw'
  obtain ⟨⟨dq, osq⟩, hw''⟩ := hw'
  subst hw''
  have hb1 := H0.out.1.trans ((below_regrown W0 dq osq).mono H0.out.1.size)
  have r1 := ((below_regrown W0 dq osq).block _ (hp_lt H0.out.2)).trans H0.out.2
  obtain ⟨W1, hW1⟩ : ∃ W1, W1 = grow (redrawn W0 dq) osq := ⟨_, rfl⟩
  rw [← hW1] at hb1 r1 ⊢
  have H1 := Lib.hid (And.intro hb1 r1)
  clear hb1 r1 hW1 f0 f1 f2 HH
  simp only [List.drop_succ_cons, List.drop_zero]
  go_upto_region 2 with (go_at_call 41; refine (HRw.out _ H1.out.1).mono ?_; rintro e w3 ⟨⟨g, rfl, hc0, hc1⟩, hb3⟩; have r3 := (hb3.block _ (hp_lt H1.out.2)).trans H1.out.2; have R3 := Lib.hid r3; have HB3 := Lib.hid (H1.out.1.trans (hb3.mono H1.out.1.size)); clear hb3 r3)
  have n1 : ¬ y ≤ x := by omega
  go_quiet (fail)
  go_upto_region 4 with fail
  have hgen : ∀ m, ∃ W4, W4 = w3.drewN m ∧ W4.cell? ⟨g, 0, none⟩ = some (.int .i64 x) ∧ W4.cell? ⟨g, 1, none⟩ = some (.int .i64 y) ∧ W4.heap[w.heap.size + 1]? = some (.cells #[.int .i64 0, .int .i64 0] 177 (0, 0)) ∧ Below w.heap.size w W4 := fun m => ⟨_, rfl, hc0, hc1, R3.out, below_drewN HB3.out m⟩
  clear hc0 hc1
  obtain ⟨W4, hW4, hc0, hc1, r4, hb4⟩ := hgen _
  rw [← hW4]
  have d0 := (hp_cell (i := 0) r4).trans rfl
  have d1 := (hp_cell (i := 1) r4).trans rfl
  have g0 := hp_free (i := 0) r4
  have g1 := hp_free (i := 1) r4
  have HB4 := Lib.hid hb4
  clear hgen hW4 r4 hb4
  go_still_tail 7, (by kernel_rfl)
  go_wp2
  refine bodyPost_ret (v := .agg #[.int .i64 x, .int .i64 y]) (by simp [results, Try.results107, go_sem, d0, d1]) rfl ⟨rfl, ?_⟩
  first
    | exact ((HB4.out.drew).setCell (by simp) _).setCell (by simp) _
    | exact ((HB4.out.setCell (by simp) _).setCell (by simp) _).drew
set_option maxRecDepth 100000 in
set_option maxHeartbeats 1000000 in
theorem qlen_walk (P : Option Addr) (t : Int) (A : Option Addr) (n c : Nat) (x y : Int) (hx : 0 ≤ x) (hxy : x ≤ y) (hy : y ≤ 1000000) (w : World)
    (HE : ∀ W, Below w.heap.size w W → Calls Try.prog 107 #[.agg #[.pointer P, .int .i64 t, .slice A n c]] W fun e w' => e = .returned (.agg #[.int .i64 x, .int .i64 y]) ∧ Below W.heap.size W w') :
    Calls Try.prog 59 #[.pointer P, .int .i64 t, .slice A n c] w fun e w' => e = .returned (.int .i64 (y - x)) ∧ Below w.heap.size w w' := by
  have HEs := Lib.hid (HE w (Below.refl _ _))
  clear HE
  go_enter Try.func59, Try.ntmps59
  go_wp2_with (go_at_call 107; refine HEs.out.mono ?_; rintro e w1 ⟨rfl, hb1⟩; have HB1 := Lib.hid hb1; clear hb1)
  go_ret
  exact ⟨rfl, HB1.out.alloc HB1.out.size _⟩
set_option maxRecDepth 100000 in
set_option maxHeartbeats 2000000 in
theorem peek_none (P : Option Addr) (t : Int) (A : Option Addr) (n c : Nat) (f : Nat → Int) (K : ByteArray) (hK : keyStr t (icat f n fun _ => 0) (n + 1) = K) (w : World) (hl : Il w A n f) (hz : A = none → n = 0 ∧ c = 0) (hn : n ≤ 20)
    (HE : ∀ W, Below w.heap.size w W → Calls Try.prog 107 #[.agg #[.pointer P, .int .i64 t, .slice A n c]] W fun e w' => e = .returned (.agg #[.int .i64 0, .int .i64 0]) ∧ Below W.heap.size W w')
    (HR : ∀ W, Below w.heap.size w W → Calls Try.prog 41 #[.pointer P, .string K] W fun e w' => (∃ g, e = .returned (.slice (some ⟨g, 0, none⟩) 0 0)) ∧ Below W.heap.size W w') :
    Calls Try.prog 56 #[.pointer P, .int .i64 t, .slice A n c] w fun e w' => e = .returned (.tuple #[.slice none 0 0, .bool false]) ∧ Below w.heap.size w w' := by
  obtain ⟨W0, hW0⟩ : ∃ W0, W0 = w.alloc (.cells #[.pointer P, .int .i64 t, .slice A n c] 176) := ⟨_, rfl⟩
  have hb0 : Below w.heap.size w W0 := by rw [hW0]; exact (Below.refl _ _).alloc (Nat.le_refl _) _
  have r0 : W0.heap[w.heap.size]? = some (.cells #[.pointer P, .int .i64 t, .slice A n c] 176 (0, 0)) := by rw [hW0]; exact heap_alloc_new _ _
  have f0 := fun (dq : Nat) (osq : Array Obj) => cell_regrown (w := W0) (a := ⟨w.heap.size, 0, none⟩) ((hp_cell (i := 0) r0).trans rfl) dq osq
  have f1 := fun (dq : Nat) (osq : Array Obj) => cell_regrown (w := W0) (a := ⟨w.heap.size, 1, none⟩) ((hp_cell (i := 1) r0).trans rfl) dq osq
  have f2 := fun (dq : Nat) (osq : Array Obj) => cell_regrown (w := W0) (a := ⟨w.heap.size, 2, none⟩) ((hp_cell (i := 2) r0).trans rfl) dq osq
  have HEs := Lib.hid (fun (dq : Nat) (osq : Array Obj) => HE (grow (redrawn W0 dq) osq) (hb0.trans ((below_regrown W0 dq osq).mono hb0.size)))
  have HAt := Lib.hid (fun (dq : Nat) (osq : Array Obj) => qat_is P t A n c f 0 K hK (grow (redrawn W0 dq) osq) ((hl.below hb0).below (below_regrown W0 dq osq)) hz hn (by decide))
  have HRw := Lib.hid HR
  have HLn := Lib.hid (fun (W : World) (hb : Below w.heap.size w W) => qlen_walk P t A n c 0 0 (by omega) (by omega) (by omega) W (fun W1 hb1 => HE W1 (hb.trans (hb1.mono hb.size))))
  have H0 := Lib.hid hb0
  have HW := Lib.hid hW0
  clear HE HR hl hK hz hn hb0 hW0 r0
  have hix := idx20
  go_enter Try.func56, Try.ntmps56
  go_upto_region 2 with fail
  rw [← HW.out]
  refine wp_region_quiet_tail 6 (by kernel_rfl) (by kernel_rfl) ?_
  simp only [List.take_succ_cons, List.take_zero]
  repeat (quiet_step (first
    | (go_at_call 107; with_reducible exact Calls.regrown_of (HEs.out _ _))
    | (go_at_call 106; with_reducible exact Calls.regrown_of (HAt.out _ _))))
  refine wpQuiet_nil ?_
  intro _ hw'
  obtain ⟨⟨dq, osq⟩, hw''⟩ := hw'
  subst hw''
  have H1 := Lib.hid (H0.out.trans ((below_regrown W0 dq osq).mono H0.out.size))
  clear f0 f1 f2 HEs HAt
  simp only [List.drop_succ_cons, List.drop_zero]
  go_wp2_with (first
    | (go_at_call 59; refine (HLn.out _ H2.out).mono ?_; rintro e w3 ⟨rfl, hb3⟩; have H3 := Lib.hid (H2.out.trans (hb3.mono H2.out.size)); clear hb3)
    | (go_at_call 41; refine (HRw.out _ H1.out).mono ?_; rintro e w2 ⟨⟨g, rfl⟩, hb2⟩; have H2 := Lib.hid (H1.out.trans (hb2.mono H1.out.size)); clear hb2))
  go_ret2
  exact ⟨rfl, H3.out⟩
set_option maxRecDepth 100000 in
set_option maxHeartbeats 1000000 in
theorem pop_none (P : Option Addr) (t : Int) (A : Option Addr) (n c : Nat) (w : World)
    (HP : Calls Try.prog 56 #[.pointer P, .int .i64 t, .slice A n c] w fun e w' => e = .returned (.tuple #[.slice none 0 0, .bool false]) ∧ Below w.heap.size w w') :
    Calls Try.prog 57 #[.pointer P, .int .i64 t, .slice A n c] w fun e w' => e = .returned (.tuple #[.slice none 0 0, .bool false]) ∧ Below w.heap.size w w' := by
  have HPs := Lib.hid HP
  clear HP
  go_enter Try.func57, Try.ntmps57
  go_wp2_with (go_at_call 56; refine HPs.out.mono ?_; rintro e w1 ⟨rfl, hb1⟩; have HB1 := Lib.hid hb1; clear hb1)
  go_ret2
  exact ⟨rfl, HB1.out⟩
set_option maxRecDepth 100000 in
set_option maxHeartbeats 1000000 in
theorem fall_none (P : Option Addr) (t : Int) (A : Option Addr) (n c : Nat) (w : World)
    (HE : ∀ W, Below w.heap.size w W → Calls Try.prog 107 #[.agg #[.pointer P, .int .i64 t, .slice A n c]] W fun e w' => e = .returned (.agg #[.int .i64 0, .int .i64 0]) ∧ Below W.heap.size W w') :
    Calls Try.prog 60 #[.pointer P, .int .i64 t, .slice A n c] w fun e w' => e = .returned (.slice none 0 0) ∧ Below w.heap.size w w' := by
  have hb0 := (Below.refl w.heap.size w).alloc (Nat.le_refl _) (.cells #[.pointer P, .int .i64 t, .slice A n c] 176)
  have HEs := Lib.hid (HE _ hb0)
  have HLn := Lib.hid (fun (W : World) (hb : Below w.heap.size w W) => qlen_walk P t A n c 0 0 (by omega) (by omega) (by omega) W (fun W1 hb1 => HE W1 (hb.trans (hb1.mono hb.size))))
  have H0 := Lib.hid hb0
  clear HE hb0
  have hix := idx20
  go_enter Try.func60, Try.ntmps60
  go_wp2_with (first
    | (go_at_call 59; refine (HLn.out _ H1.out).mono ?_; rintro e w2 ⟨rfl, hb2⟩; have H2 := Lib.hid (H1.out.trans (hb2.mono H1.out.size)); clear hb2)
    | (go_at_call 107; refine HEs.out.mono ?_; rintro e w1 ⟨rfl, hb1⟩; have H1 := Lib.hid (H0.out.trans (hb1.mono H0.out.size)); clear hb1))
  go_loopw [9, 23] (fun v i wr => v = .slice none 0 0 ∧ i = .int .i64 0 ∧ w2 = wr) (fun _ _ _ => 0)
  case atStart => exact ⟨rfl, rfl, rfl⟩
  case round =>
    obtain ⟨rfl, rfl, rfl⟩ := hrel
    go_wp2
    go_ret
    exact ⟨rfl, H2.out⟩
set_option maxRecDepth 100000 in
set_option maxHeartbeats 400000 in
theorem fpush_dead (P : Option Addr) (t : Int) (A : Option Addr) (n c : Nat) (m : Int) (A2 : Option Addr) (n2 c2 : Nat) (w : World) (h : SDead w (.pointer P)) :
    Calls Try.prog 58 #[.pointer P, .int .i64 t, .slice A n c, .int .i64 m, .slice A2 n2 c2] w fun e w' => e = .returned (.int .i64 1) ∧ w = w' := by
  have HM := Lib.hid (made_dead _ w h)
  clear h
  go_enter Try.func58, Try.ntmps58
  go_wp2_with (go_at_call 24; refine HM.out.mono ?_; rintro e w1 ⟨rfl, rfl⟩)
  go_ret
  exact ⟨rfl, rfl⟩
/-! ### a dead store -/
theorem row_dead' (p : Value) (k : ByteArray) (w : World) (h : SDead w p) : Calls Try.prog 41 #[p, .string k] w fun e w' => (∃ g, e = .returned (.slice (some ⟨g, 0, none⟩) 0 0)) ∧ Below w.heap.size w w' :=
  (row_dead p k w h).mono fun e w' hh => ⟨⟨_, hh.1⟩, hh.2⟩
theorem ends_dead (P : Option Addr) (t : Int) (A : Option Addr) (n c : Nat) (f : Nat → Int) (w : World) (h : SDead w (.pointer P)) (hl : Il w A n f) (hn : n ≤ 20) : ∀ W, Below w.heap.size w W → Calls Try.prog 107 #[.agg #[.pointer P, .int .i64 t, .slice A n c]] W fun e w' => e = .returned (.agg #[.int .i64 0, .int .i64 0]) ∧ Below W.heap.size W w' :=
  fun W hb => ends_none P t A n c f _ rfl W (hl.below hb) hn fun W1 hb1 => row_dead' _ _ W1 ((h.below hb).below hb1)
theorem peek_dead (P : Option Addr) (t : Int) (A : Option Addr) (n c : Nat) (f : Nat → Int) (w : World) (h : SDead w (.pointer P)) (hl : Il w A n f) (hz : A = none → n = 0 ∧ c = 0) (hn : n ≤ 20) :
    Calls Try.prog 56 #[.pointer P, .int .i64 t, .slice A n c] w fun e w' => e = .returned (.tuple #[.slice none 0 0, .bool false]) ∧ Below w.heap.size w w' :=
  peek_none P t A n c f _ rfl w hl hz hn (ends_dead P t A n c f w h hl hn) fun W hb => row_dead' _ _ W (h.below hb)
end Go.Proofs.Ytjpikgfplfgcfaa

namespace Go.Proofs.Ytjpikgfplfgcfaa
open Go.RowKit Go.Maps Go.Sort

theorem arr2_all (p : Nat) (w : World) : (Instr.sliceAt 177 (.pointer (some ⟨p, 0, none⟩)) none none none).run Try.prog w = .ok (.slice (some ⟨p, 0, none⟩) 2 2) w := by
  have hu : Try.prog.underlying 177 = some (.array (Try.prog.arrayLen 177) (Try.prog.elem 177)) := by kernel_rfl
  have hl : Try.prog.arrayLen 177 = 2 := by kernel_rfl
  have he : Try.prog.elem 177 = 3 := by kernel_rfl
  rw [run_sliceAt_array_all w _ _ hu, he, hl, Try.sizeOf3]
  simp only [Result.andThen_ok, slicedAt]
  rfl
set_option maxRecDepth 100000 in
set_option maxHeartbeats 1000000 in
theorem min_walk (A : Option Addr) (m c : Nat) (f : Nat → Int) (w : World) (hl : Il w A m f) (h1 : 1 ≤ m) (hm : m ≤ 100) (hf : ∀ i, i < m → 0 ≤ f i) :
    Calls Try.prog 142 #[.slice A m c] w fun e w' => (∃ x, e = .returned (.int .i64 x) ∧ 0 ≤ x) ∧ w = w' := by
  obtain ⟨g, o, rfl, hg, hc⟩ := hl.at_ (by omega)
  have mI : (m : Int) ≤ 100 := by omega
  have mJ : 1 ≤ (m : Int) := by omega
  have hc0 := hc 0 (by omega)
  rw [Nat.add_zero] at hc0
  have HC := Lib.hid (And.intro hc (And.intro hf h1))
  clear hl hc hf h1
  go_enter Try.func142, Try.ntmps142
  go_wp2
  go_loopw [3, 4] (fun v i wr => ∃ (x : Int) (j : Nat), v = .int .i64 x ∧ i = .int .i64 (j : Nat) ∧ 0 ≤ x ∧ j ≤ m ∧ w = wr) (fun _ i _ => m - (intOf i).toNat)
  case atStart => exact ⟨f 0, 1, rfl, rfl, HC.out.2.1 0 (by have := HC.out.2.2; omega), HC.out.2.2, rfl⟩
  case round =>
    obtain ⟨x, j, rfl, rfl, hx, hj, rfl⟩ := hrel
    have kI : (j : Int) ≤ m := by omega
    by_cases hlt : j < m
    · have p1 : (j : Int) < (m : Int) := by omega
      have hcj := HC.out.1 j hlt
      have h0 := HC.out.2.1 j hlt
      obtain ⟨y, hy⟩ : ∃ y, y = f j := ⟨_, rfl⟩
      rw [← hy] at hcj h0
      clear hy
      go_wp2
      all_goals
        refine ⟨⟨_, j + 1, rfl, by simp, ?_, by omega, trivial⟩, by simp [intOf]; omega⟩
        first | omega | (split <;> omega)
    · obtain rfl : j = m := by omega
      have p1 : ¬ (j : Int) < (j : Int) := by omega
      go_wp2
      go_ret
      exact ⟨⟨x, rfl, hx⟩, rfl⟩
set_option maxRecDepth 100000 in
set_option maxHeartbeats 1000000 in
theorem fgood_walk (A : Option Addr) (m c : Nat) (f : Nat → Int) (w : World) (hl : Il w A m f) (h1 : 1 ≤ m) (hm : m ≤ 100) (hf : ∀ i, i < m → 0 ≤ f i) :
    Calls Try.prog 110 #[.slice A m c] w fun e w' => e = .returned (.bool true) ∧ w = w' := by
  have HM := Lib.hid (min_walk A m c f w hl h1 hm hf)
  have p1 : 0 < (m : Int) := by omega
  clear hl h1 hm hf
  go_enter Try.func110, Try.ntmps110
  go_wp2_with (go_at_call 142; refine HM.out.mono ?_; rintro e w1 ⟨⟨x, rfl, hx⟩, rfl⟩)
  go_ret
  exact ⟨rfl, rfl⟩
set_option maxRecDepth 100000 in
set_option maxHeartbeats 2000000 in
theorem turn_live {w W : World} {b : Nat} {F : List Nat} {L : SL} {q : Nat} {qs : List Value} (h : SNew w W b F L q qs) (t : Int) (A : Option Addr) (n c : Nat) (f : Nat → Int) (hl : Il W A n f) (hn : n ≤ 20) (K0 : ByteArray) (hK : keyStr t f n = K0) (hk : K0.size ≤ maxLen) (hk0 : K0 ≠ ⟨#[]⟩)
    (x y dx dy : Int) (hx : 0 ≤ x ∧ x ≤ 1000000) (hy : 0 ≤ y ∧ y ≤ 1000000) (hdx : 0 ≤ dx ∧ dx ≤ 1) (hdy : 0 ≤ dy ∧ dy ≤ 1) (hne : x + dx ≠ y + dy) (hN : L.length < 128) (hq : q < 1000000)
    (HE : ∀ W', Below W.heap.size W W' → Calls Try.prog 107 #[.agg #[.pointer (some ⟨b, 0, none⟩), .int .i64 t, .slice A n c]] W' fun e w' => e = .returned (.agg #[.int .i64 x, .int .i64 y]) ∧ Below W'.heap.size W' w') :
    Calls Try.prog 108 #[.agg #[.pointer (some ⟨b, 0, none⟩), .int .i64 t, .slice A n c], .int .i64 dx, .int .i64 dy] W fun e W' => e = .returned (.tuple #[]) ∧ LiveTo w W W' b F (setL L K0 (rowV (two2 (x + dx) (y + dy)) 2)) (q + 1) := by
  have hb0 := (Below.refl W.heap.size W).alloc (Nat.le_refl _) (.cells #[.pointer (some ⟨b, 0, none⟩), .int .i64 t, .slice A n c] 176)
  have r0 := heap_alloc_new W (.cells #[.pointer (some ⟨b, 0, none⟩), .int .i64 t, .slice A n c] 176)
  have HEs := Lib.hid (HE _ hb0)
  have H0 := Lib.hid (And.intro hb0 r0)
  have HHd := Lib.hid (fun (W1 : World) (hb : Below W.heap.size W W1) => qhead_is (some ⟨b, 0, none⟩) t A n c f K0 hK W1 (hl.below hb) hn)
  have hxd := hx
  have HSR := Lib.hid (fun (W1 : World) (g : Nat) (hb : Below W.heap.size W W1) (hil : Il W1 (some ⟨g, 0, none⟩) 2 (two2 (x + dx) (y + dy))) => (csetRow_set (h.below hb) K0 (some ⟨g, 0, none⟩) 2 2 (two2 (x + dx) (y + dy)) hil (by omega) (by omega) (fun i _ => by unfold two2; split <;> omega) hk hk0 hN hq).mono fun e W' hp => (⟨hp.1, hp.2.pre hb⟩ : e = .returned (.tuple #[]) ∧ LiveTo w W W' b F (setL L K0 (rowV (two2 (x + dx) (y + dy)) 2)) (q + 1)))
  have HIl := Lib.hid (fun (W1 : World) (g : Nat) (hg : g < W1.heap.size) (h0 : W1.cell? ⟨g, 0, none⟩ = some (.int .i64 (x + dx))) (h1 : W1.cell? ⟨g, 1, none⟩ = some (.int .i64 (y + dy))) => show Il W1 (some ⟨g, 0, none⟩) 2 (two2 (x + dx) (y + dy)) from ⟨fun i => by unfold two2; split <;> omega, fun _ => ⟨g, 0, rfl, hg, fun i hi => by rcases (by omega : i = 0 ∨ i = 1) with rfl | rfl; exact h0; exact h1⟩⟩)
  obtain ⟨lm, elm⟩ : ∃ z, z = setL L K0 (rowV (two2 (x + dx) (y + dy)) 2) := ⟨_, rfl⟩
  rw [← elm] at HSR ⊢
  have n1 : ((x + dx) == (y + dy)) = false := by rw [beq_eq_false_iff_ne]; exact hne
  clear HE hb0 r0 h hl hn hK hk hk0 hne hN hq elm
  go_enter Try.func108, Try.ntmps108
  go_upto_region 6 with (go_at_call 107; refine HEs.out.mono ?_; rintro e w1 ⟨rfl, hb1⟩; have H1 := Lib.hid (And.intro (H0.out.1.trans (hb1.mono H0.out.1.size)) ((hb1.block _ (hp_lt H0.out.2)).trans H0.out.2)); clear hb1)
  obtain ⟨W6, hW6⟩ : ∃ W6, W6 = w1.alloc (.cells #[.int .i64 (x + dx), .int .i64 (y + dy)] 177) := ⟨_, rfl⟩
  have hb6 : Below w1.heap.size w1 W6 := by rw [hW6]; exact (Below.refl _ _).alloc (Nat.le_refl _) _
  have r6 : W6.heap[w1.heap.size]? = some (.cells #[.int .i64 (x + dx), .int .i64 (y + dy)] 177 (0, 0)) := by rw [hW6]; exact heap_alloc_new _ _
  have rq := (hb6.block _ (hp_lt H1.out.2)).trans H1.out.2
  rw [← hW6]
  have H6 := Lib.hid (And.intro (H1.out.1.trans (hb6.mono H1.out.1.size)) r6)
  have f0 := fun (dq : Nat) (osq : Array Obj) => cell_regrown (w := W6) (a := ⟨W.heap.size, 0, none⟩) ((hp_cell (i := 0) rq).trans rfl) dq osq
  have f1 := fun (dq : Nat) (osq : Array Obj) => cell_regrown (w := W6) (a := ⟨W.heap.size, 1, none⟩) ((hp_cell (i := 1) rq).trans rfl) dq osq
  have f2 := fun (dq : Nat) (osq : Array Obj) => cell_regrown (w := W6) (a := ⟨W.heap.size, 2, none⟩) ((hp_cell (i := 2) rq).trans rfl) dq osq
  have hsl := arr2_all
  clear hW6 hb6 r6 rq
  have HH6 := Lib.hid (fun (dq : Nat) (osq : Array Obj) => HHd.out (grow (redrawn W6 dq) osq) (H6.out.1.trans ((below_regrown W6 dq osq).mono H6.out.1.size)))
  refine wp_region_quiet_tail 5 (by kernel_rfl) (by kernel_rfl) ?_
  simp only [List.take_succ_cons, List.take_zero]
  repeat (quiet_step (first | (go_at_call 109; with_reducible exact Calls.regrown_of (HH6.out _ _))))
  refine wpQuiet_nil ?_
  intro _ hw'
  obtain ⟨⟨dq, osq⟩, hw''⟩ := hw'
  subst hw''
  have r7 := ((below_regrown W6 dq osq).block _ (hp_lt H6.out.2)).trans H6.out.2
  have H7 := Lib.hid (HSR.out _ w1.heap.size (H6.out.1.trans ((below_regrown W6 dq osq).mono H6.out.1.size)) (HIl.out _ _ (hp_lt r7) ((hp_cell (i := 0) r7).trans rfl) ((hp_cell (i := 1) r7).trans rfl)))
  clear f0 f1 f2 HH6 r7 hsl
  simp only [List.drop_succ_cons, List.drop_zero]
  go_wp2_with (go_at_call 40; refine H7.out.mono ?_; rintro e w9 ⟨rfl, h9⟩; have H9 := Lib.hid h9; clear h9)
  go_end0
  exact ⟨rfl, H9.out⟩
end Go.Proofs.Ytjpikgfplfgcfaa
