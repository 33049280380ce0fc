/- fifo: ends, Len, Peek, Pop, Push, All. -/
import Derived.Test.YtedkhpnlhkjjgaaG14
import Derived.Test.YtedkhpnlhkjjgaaProg
import Derived.Test.YtedkhpnlhkjjgaaG00
import Derived.StillTailTactics
import Derived.Deep.Quiet
import Derived.Deep.QuietTactic
import Derived.Laws.Externs
import Derived.Lib.Hide
namespace Go.Proofs.Ytedkhpnlhkjjgaa
open Go.RowKit Go.Maps Go.Sort

theorem idx20 (a b : Value) (w : World) : (Instr.index 119 (.agg #[a, b]) (.int .i64 0)).run Try.prog w = .ok a w := by kernel_rfl
set_option maxRecDepth 100000 in
set_option maxHeartbeats 2000000 in
theorem ends_none (P : Option Addr) (t : Int) (A : Option Addr) (n c : Nat) (f : Nat → Int) (K : ByteArray) (hK : keyStr t f n = K) (w : World) (hl : Il w A n f) (hn : n ≤ 20)
    (HR : ∀ W, Below w.heap.size w W → Calls Try.prog 77 #[.pointer P, .string K] W fun e w' => (∃ g, e = .returned (.slice (some ⟨g, 0, none⟩) 0 0)) ∧ Below W.heap.size W w') :
    Calls Try.prog 70 #[.agg #[.pointer P, .int .i64 t, .slice A n c]] w fun e w' => e = .returned (.agg #[.int .i64 0, .int .i64 0]) ∧ Below w.heap.size w w' := by
  obtain ⟨W0, hW0⟩ : ∃ W0, W0 = (w.alloc (.cells #[.pointer P, .int .i64 t, .slice A n c] 117)).alloc (.cells #[.int .i64 0, .int .i64 0] 119) := ⟨_, rfl⟩
  have hb0 : Below w.heap.size w W0 := by rw [hW0]; exact ((Below.refl _ _).alloc (Nat.le_refl _) _).alloc (by simp) _
  have r0 : W0.heap[w.heap.size]? = some (.cells #[.pointer P, .int .i64 t, .slice A n c] 117 (0, 0)) := by rw [hW0]; exact (heap_alloc_old _ _ (by simp)).trans (heap_alloc_new _ _)
  have r1 : W0.heap[w.heap.size + 1]? = some (.cells #[.int .i64 0, .int .i64 0] 119 (0, 0)) := by
    rw [hW0]
    have := heap_alloc_new (w.alloc (.cells #[.pointer P, .int .i64 t, .slice A n c] 117)) (.cells #[.int .i64 0, .int .i64 0] 119)
    rwa [World.size_alloc] at this
  have f0 := fun (dq : Nat) (osq : Array Obj) => cell_regrown (w := W0) (a := ⟨w.heap.size, 0, none⟩) ((hp_cell (i := 0) r0).trans rfl) dq osq
  have f1 := fun (dq : Nat) (osq : Array Obj) => cell_regrown (w := W0) (a := ⟨w.heap.size, 1, none⟩) ((hp_cell (i := 1) r0).trans rfl) dq osq
  have f2 := fun (dq : Nat) (osq : Array Obj) => cell_regrown (w := W0) (a := ⟨w.heap.size, 2, none⟩) ((hp_cell (i := 2) r0).trans rfl) dq osq
  have HH := Lib.hid (fun (dq : Nat) (osq : Array Obj) => qhead_is P t A n c f K hK (grow (redrawn W0 dq) osq) ((hl.below hb0).below (below_regrown W0 dq osq)) hn)
  have HRw := Lib.hid HR
  have H0 := Lib.hid (And.intro hb0 r1)
  have HW := Lib.hid hW0
  clear HR hl hK hn hb0 hW0 r0 r1
  go_enter Try.func70, Try.ntmps70
  go_upto_region 1 with fail
  rw [← HW.out]
  refine wp_region_quiet_tail 4 (by kernel_rfl) (by kernel_rfl) ?_
  simp only [List.take_succ_cons, List.take_zero]
  repeat (quiet_step (first | (go_at_call 69; with_reducible exact Calls.regrown_of (HH.out _ _))))
  refine wpQuiet_nil ?_
  intro _ hw'
  obtain ⟨⟨dq, osq⟩, hw''⟩ := hw'
  subst hw''
  have hb1 := H0.out.1.trans ((below_regrown W0 dq osq).mono H0.out.1.size)
  have r1 := ((below_regrown W0 dq osq).block _ (hp_lt H0.out.2)).trans H0.out.2
  obtain ⟨W1, hW1⟩ : ∃ W1, W1 = grow (redrawn W0 dq) osq := ⟨_, rfl⟩
  rw [← hW1] at hb1 r1 ⊢
  have H1 := Lib.hid (And.intro hb1 r1)
  clear hb1 r1 hW1 f0 f1 f2 HH
  simp only [List.drop_succ_cons, List.drop_zero]
  go_upto_region 2 with (go_at_call 77; refine (HRw.out _ H1.out.1).mono ?_; rintro e w3 ⟨⟨g, rfl⟩, hb3⟩; have r3 := (hb3.block _ (hp_lt H1.out.2)).trans H1.out.2; have R3 := Lib.hid r3; have HB3 := Lib.hid (H1.out.1.trans (hb3.mono H1.out.1.size)); clear hb3 r3)
  go_quiet (fail)
  have d0 := (hp_cell (i := 0) R3.out).trans rfl
  have d1 := (hp_cell (i := 1) R3.out).trans rfl
  have g0 := hp_free (i := 0) R3.out
  have g1 := hp_free (i := 1) R3.out
  go_wp2
  refine bodyPost_ret (v := .agg #[.int .i64 0, .int .i64 0]) (by simp [results, Try.results70, go_sem, d0, d1]) rfl ⟨rfl, ?_⟩
  exact ((below_drewN HB3.out _).setCell (by simp) _).setCell (by simp) _
set_option maxRecDepth 100000 in
set_option maxHeartbeats 2000000 in
theorem ends_two (P : Option Addr) (t : Int) (A : Option Addr) (n c : Nat) (f : Nat → Int) (K : ByteArray) (hK : keyStr t f n = K) (x y : Int) (hxy : x < y) (w : World) (hl : Il w A n f) (hn : n ≤ 20)
    (HR : ∀ W, Below w.heap.size w W → Calls Try.prog 77 #[.pointer P, .string K] W fun e w' => (∃ g, e = .returned (.slice (some ⟨g, 0, none⟩) 2 2) ∧ w'.cell? ⟨g, 0, none⟩ = some (.int .i64 x) ∧ w'.cell? ⟨g, 1, none⟩ = some (.int .i64 y)) ∧ Below W.heap.size W w') :
    Calls Try.prog 70 #[.agg #[.pointer P, .int .i64 t, .slice A n c]] w fun e w' => e = .returned (.agg #[.int .i64 x, .int .i64 y]) ∧ Below w.heap.size w w' := by
  obtain ⟨W0, hW0⟩ : ∃ W0, W0 = (w.alloc (.cells #[.pointer P, .int .i64 t, .slice A n c] 117)).alloc (.cells #[.int .i64 0, .int .i64 0] 119) := ⟨_, rfl⟩
  have hb0 : Below w.heap.size w W0 := by rw [hW0]; exact ((Below.refl _ _).alloc (Nat.le_refl _) _).alloc (by simp) _
  have r0 : W0.heap[w.heap.size]? = some (.cells #[.pointer P, .int .i64 t, .slice A n c] 117 (0, 0)) := by rw [hW0]; exact (heap_alloc_old _ _ (by simp)).trans (heap_alloc_new _ _)
  have r1 : W0.heap[w.heap.size + 1]? = some (.cells #[.int .i64 0, .int .i64 0] 119 (0, 0)) := by
    rw [hW0]
    have := heap_alloc_new (w.alloc (.cells #[.pointer P, .int .i64 t, .slice A n c] 117)) (.cells #[.int .i64 0, .int .i64 0] 119)
    rwa [World.size_alloc] at this
  have f0 := fun (dq : Nat) (osq : Array Obj) => cell_regrown (w := W0) (a := ⟨w.heap.size, 0, none⟩) ((hp_cell (i := 0) r0).trans rfl) dq osq
  have f1 := fun (dq : Nat) (osq : Array Obj) => cell_regrown (w := W0) (a := ⟨w.heap.size, 1, none⟩) ((hp_cell (i := 1) r0).trans rfl) dq osq
  have f2 := fun (dq : Nat) (osq : Array Obj) => cell_regrown (w := W0) (a := ⟨w.heap.size, 2, none⟩) ((hp_cell (i := 2) r0).trans rfl) dq osq
  have HH := Lib.hid (fun (dq : Nat) (osq : Array Obj) => qhead_is P t A n c f K hK (grow (redrawn W0 dq) osq) ((hl.below hb0).below (below_regrown W0 dq osq)) hn)
  have HRw := Lib.hid HR
  have H0 := Lib.hid (And.intro hb0 r1)
  have HW := Lib.hid hW0
  clear HR hl hK hn hb0 hW0 r0 r1
  go_enter Try.func70, Try.ntmps70
  go_upto_region 1 with fail
  rw [← HW.out]
  refine wp_region_quiet_tail 4 (by kernel_rfl) (by kernel_rfl) ?_
  simp only [List.take_succ_cons, List.take_zero]
  repeat (quiet_step (first | (go_at_call 69; with_reducible exact Calls.regrown_of (HH.out _ _))))
  refine wpQuiet_nil ?_
  intro _ hw'
  obtain ⟨⟨dq, osq⟩, hw''⟩ := hw'
  subst hw''
  have hb1 := H0.out.1.trans ((below_regrown W0 dq osq).mono H0.out.1.size)
  have r1 := ((below_regrown W0 dq osq).block _ (hp_lt H0.out.2)).trans H0.out.2
  obtain ⟨W1, hW1⟩ : ∃ W1, W1 = grow (redrawn W0 dq) osq := ⟨_, rfl⟩
  rw [← hW1] at hb1 r1 ⊢
  have H1 := Lib.hid (And.intro hb1 r1)
  clear hb1 r1 hW1 f0 f1 f2 HH
  simp only [List.drop_succ_cons, List.drop_zero]
  go_upto_region 2 with (go_at_call 77; refine (HRw.out _ H1.out.1).mono ?_; rintro e w3 ⟨⟨g, rfl, hc0, hc1⟩, hb3⟩; have r3 := (hb3.block _ (hp_lt H1.out.2)).trans H1.out.2; have R3 := Lib.hid r3; have HB3 := Lib.hid (H1.out.1.trans (hb3.mono H1.out.1.size)); clear hb3 r3)
  have n1 : ¬ y ≤ x := by omega
  go_quiet (fail)
  go_upto_region 4 with fail
  have hgen : ∀ m, ∃ W4, W4 = w3.drewN m ∧ W4.cell? ⟨g, 0, none⟩ = some (.int .i64 x) ∧ W4.cell? ⟨g, 1, none⟩ = some (.int .i64 y) ∧ W4.heap[w.heap.size + 1]? = some (.cells #[.int .i64 0, .int .i64 0] 119 (0, 0)) ∧ Below w.heap.size w W4 := fun m => ⟨_, rfl, hc0, hc1, R3.out, below_drewN HB3.out m⟩
  clear hc0 hc1
  obtain ⟨W4, hW4, hc0, hc1, r4, hb4⟩ := hgen _
  rw [← hW4]
  have d0 := (hp_cell (i := 0) r4).trans rfl
  have d1 := (hp_cell (i := 1) r4).trans rfl
  have g0 := hp_free (i := 0) r4
  have g1 := hp_free (i := 1) r4
  have HB4 := Lib.hid hb4
  clear hgen hW4 r4 hb4
  go_still_tail 7, (by kernel_rfl)
  go_wp2
  refine bodyPost_ret (v := .agg #[.int .i64 x, .int .i64 y]) (by simp [results, Try.results70, go_sem, d0, d1]) rfl ⟨rfl, ?_⟩
  first
    | exact ((HB4.out.drew).setCell (by simp) _).setCell (by simp) _
    | exact ((HB4.out.setCell (by simp) _).setCell (by simp) _).drew
set_option maxRecDepth 100000 in
set_option maxHeartbeats 1000000 in
theorem qlen_walk (P : Option Addr) (t : Int) (A : Option Addr) (n c : Nat) (x y : Int) (hx : 0 ≤ x) (hxy : x ≤ y) (hy : y ≤ 1000000) (w : World)
    (HE : ∀ W, Below w.heap.size w W → Calls Try.prog 70 #[.agg #[.pointer P, .int .i64 t, .slice A n c]] W fun e w' => e = .returned (.agg #[.int .i64 x, .int .i64 y]) ∧ Below W.heap.size W w') :
    Calls Try.prog 68 #[.pointer P, .int .i64 t, .slice A n c] w fun e w' => e = .returned (.int .i64 (y - x)) ∧ Below w.heap.size w w' := by
  have HEs := Lib.hid (HE w (Below.refl _ _))
  clear HE
  go_enter Try.func68, Try.ntmps68
  go_wp2_with (go_at_call 70; refine HEs.out.mono ?_; rintro e w1 ⟨rfl, hb1⟩; have HB1 := Lib.hid hb1; clear hb1)
  go_ret
  exact ⟨rfl, HB1.out.alloc HB1.out.size _⟩
set_option maxRecDepth 100000 in
set_option maxHeartbeats 2000000 in
theorem peek_none (P : Option Addr) (t : Int) (A : Option Addr) (n c : Nat) (f : Nat → Int) (K : ByteArray) (hK : keyStr t (icat f n fun _ => 0) (n + 1) = K) (w : World) (hl : Il w A n f) (hz : A = none → n = 0 ∧ c = 0) (hn : n ≤ 20)
    (HE : ∀ W, Below w.heap.size w W → Calls Try.prog 70 #[.agg #[.pointer P, .int .i64 t, .slice A n c]] W fun e w' => e = .returned (.agg #[.int .i64 0, .int .i64 0]) ∧ Below W.heap.size W w')
    (HR : ∀ W, Below w.heap.size w W → Calls Try.prog 77 #[.pointer P, .string K] W fun e w' => (∃ g, e = .returned (.slice (some ⟨g, 0, none⟩) 0 0)) ∧ Below W.heap.size W w') :
    Calls Try.prog 75 #[.pointer P, .int .i64 t, .slice A n c] w fun e w' => e = .returned (.tuple #[.slice none 0 0, .bool false]) ∧ Below w.heap.size w w' := by
  obtain ⟨W0, hW0⟩ : ∃ W0, W0 = w.alloc (.cells #[.pointer P, .int .i64 t, .slice A n c] 117) := ⟨_, rfl⟩
  have hb0 : Below w.heap.size w W0 := by rw [hW0]; exact (Below.refl _ _).alloc (Nat.le_refl _) _
  have r0 : W0.heap[w.heap.size]? = some (.cells #[.pointer P, .int .i64 t, .slice A n c] 117 (0, 0)) := by rw [hW0]; exact heap_alloc_new _ _
  have f0 := fun (dq : Nat) (osq : Array Obj) => cell_regrown (w := W0) (a := ⟨w.heap.size, 0, none⟩) ((hp_cell (i := 0) r0).trans rfl) dq osq
  have f1 := fun (dq : Nat) (osq : Array Obj) => cell_regrown (w := W0) (a := ⟨w.heap.size, 1, none⟩) ((hp_cell (i := 1) r0).trans rfl) dq osq
  have f2 := fun (dq : Nat) (osq : Array Obj) => cell_regrown (w := W0) (a := ⟨w.heap.size, 2, none⟩) ((hp_cell (i := 2) r0).trans rfl) dq osq
  have HEs := Lib.hid (fun (dq : Nat) (osq : Array Obj) => HE (grow (redrawn W0 dq) osq) (hb0.trans ((below_regrown W0 dq osq).mono hb0.size)))
  have HAt := Lib.hid (fun (dq : Nat) (osq : Array Obj) => qat_is P t A n c f 0 K hK (grow (redrawn W0 dq) osq) ((hl.below hb0).below (below_regrown W0 dq osq)) hz hn (by decide))
  have HRw := Lib.hid HR
  have HLn := Lib.hid (fun (W : World) (hb : Below w.heap.size w W) => qlen_walk P t A n c 0 0 (by omega) (by omega) (by omega) W (fun W1 hb1 => HE W1 (hb.trans (hb1.mono hb.size))))
  have H0 := Lib.hid hb0
  have HW := Lib.hid hW0
  clear HE HR hl hK hz hn hb0 hW0 r0
  have hix := idx20
  go_enter Try.func75, Try.ntmps75
  go_upto_region 2 with fail
  rw [← HW.out]
  refine wp_region_quiet_tail 6 (by kernel_rfl) (by kernel_rfl) ?_
  simp only [List.take_succ_cons, List.take_zero]
  repeat (quiet_step (first
    | (go_at_call 70; with_reducible exact Calls.regrown_of (HEs.out _ _))
    | (go_at_call 72; with_reducible exact Calls.regrown_of (HAt.out _ _))))
  refine wpQuiet_nil ?_
  intro _ hw'
  obtain ⟨⟨dq, osq⟩, hw''⟩ := hw'
  subst hw''
  have H1 := Lib.hid (H0.out.trans ((below_regrown W0 dq osq).mono H0.out.size))
  clear f0 f1 f2 HEs HAt
  simp only [List.drop_succ_cons, List.drop_zero]
  go_wp2_with (first
    | (go_at_call 68; refine (HLn.out _ H2.out).mono ?_; rintro e w3 ⟨rfl, hb3⟩; have H3 := Lib.hid (H2.out.trans (hb3.mono H2.out.size)); clear hb3)
    | (go_at_call 77; refine (HRw.out _ H1.out).mono ?_; rintro e w2 ⟨⟨g, rfl⟩, hb2⟩; have H2 := Lib.hid (H1.out.trans (hb2.mono H1.out.size)); clear hb2))
  go_ret2
  exact ⟨rfl, H3.out⟩
set_option maxRecDepth 100000 in
set_option maxHeartbeats 1000000 in
theorem pop_none (P : Option Addr) (t : Int) (A : Option Addr) (n c : Nat) (w : World)
    (HP : Calls Try.prog 75 #[.pointer P, .int .i64 t, .slice A n c] w fun e w' => e = .returned (.tuple #[.slice none 0 0, .bool false]) ∧ Below w.heap.size w w') :
    Calls Try.prog 22 #[.pointer P, .int .i64 t, .slice A n c] w fun e w' => e = .returned (.tuple #[.slice none 0 0, .bool false]) ∧ Below w.heap.size w w' := by
  have HPs := Lib.hid HP
  clear HP
  go_enter Try.func22, Try.ntmps22
  go_wp2_with (go_at_call 75; refine HPs.out.mono ?_; rintro e w1 ⟨rfl, hb1⟩; have HB1 := Lib.hid hb1; clear hb1)
  go_ret2
  exact ⟨rfl, HB1.out⟩
set_option maxRecDepth 100000 in
set_option maxHeartbeats 1000000 in
theorem fall_none (P : Option Addr) (t : Int) (A : Option Addr) (n c : Nat) (w : World)
    (HE : ∀ W, Below w.heap.size w W → Calls Try.prog 70 #[.agg #[.pointer P, .int .i64 t, .slice A n c]] W fun e w' => e = .returned (.agg #[.int .i64 0, .int .i64 0]) ∧ Below W.heap.size W w') :
    Calls Try.prog 25 #[.pointer P, .int .i64 t, .slice A n c] w fun e w' => e = .returned (.slice none 0 0) ∧ Below w.heap.size w w' := by
  have hb0 := (Below.refl w.heap.size w).alloc (Nat.le_refl _) (.cells #[.pointer P, .int .i64 t, .slice A n c] 117)
  have HEs := Lib.hid (HE _ hb0)
  have HLn := Lib.hid (fun (W : World) (hb : Below w.heap.size w W) => qlen_walk P t A n c 0 0 (by omega) (by omega) (by omega) W (fun W1 hb1 => HE W1 (hb.trans (hb1.mono hb.size))))
  have H0 := Lib.hid hb0
  clear HE hb0
  have hix := idx20
  go_enter Try.func25, Try.ntmps25
  go_wp2_with (first
    | (go_at_call 68; refine (HLn.out _ H1.out).mono ?_; rintro e w2 ⟨rfl, hb2⟩; have H2 := Lib.hid (H1.out.trans (hb2.mono H1.out.size)); clear hb2)
    | (go_at_call 70; refine HEs.out.mono ?_; rintro e w1 ⟨rfl, hb1⟩; have H1 := Lib.hid (H0.out.trans (hb1.mono H0.out.size)); clear hb1))
  go_loopw [9, 23] (fun v i wr => v = .slice none 0 0 ∧ i = .int .i64 0 ∧ w2 = wr) (fun _ _ _ => 0)
  case atStart => exact ⟨rfl, rfl, rfl⟩
  case round =>
    obtain ⟨rfl, rfl, rfl⟩ := hrel
    go_wp2
    go_ret
    exact ⟨rfl, H2.out⟩
set_option maxRecDepth 100000 in
set_option maxHeartbeats 400000 in
theorem fpush_dead (P : Option Addr) (t : Int) (A : Option Addr) (n c : Nat) (m : Int) (A2 : Option Addr) (n2 c2 : Nat) (w : World) (h : SDead w (.pointer P)) :
    Calls Try.prog 20 #[.pointer P, .int .i64 t, .slice A n c, .int .i64 m, .slice A2 n2 c2] w fun e w' => e = .returned (.int .i64 1) ∧ w = w' := by
  have HM := Lib.hid (made_dead _ w h)
  clear h
  go_enter Try.func20, Try.ntmps20
  go_wp2_with (go_at_call 27; refine HM.out.mono ?_; rintro e w1 ⟨rfl, rfl⟩)
  go_ret
  exact ⟨rfl, rfl⟩
/-! ### a dead store -/
theorem row_dead' (p : Value) (k : ByteArray) (w : World) (h : SDead w p) : Calls Try.prog 77 #[p, .string k] w fun e w' => (∃ g, e = .returned (.slice (some ⟨g, 0, none⟩) 0 0)) ∧ Below w.heap.size w w' :=
  (row_dead p k w h).mono fun e w' hh => ⟨⟨_, hh.1⟩, hh.2⟩
theorem ends_dead (P : Option Addr) (t : Int) (A : Option Addr) (n c : Nat) (f : Nat → Int) (w : World) (h : SDead w (.pointer P)) (hl : Il w A n f) (hn : n ≤ 20) : ∀ W, Below w.heap.size w W → Calls Try.prog 70 #[.agg #[.pointer P, .int .i64 t, .slice A n c]] W fun e w' => e = .returned (.agg #[.int .i64 0, .int .i64 0]) ∧ Below W.heap.size W w' :=
  fun W hb => ends_none P t A n c f _ rfl W (hl.below hb) hn fun W1 hb1 => row_dead' _ _ W1 ((h.below hb).below hb1)
theorem peek_dead (P : Option Addr) (t : Int) (A : Option Addr) (n c : Nat) (f : Nat → Int) (w : World) (h : SDead w (.pointer P)) (hl : Il w A n f) (hz : A = none → n = 0 ∧ c = 0) (hn : n ≤ 20) :
    Calls Try.prog 75 #[.pointer P, .int .i64 t, .slice A n c] w fun e w' => e = .returned (.tuple #[.slice none 0 0, .bool false]) ∧ Below w.heap.size w w' :=
  peek_none P t A n c f _ rfl w hl hz hn (ends_dead P t A n c f w h hl hn) fun W hb => row_dead' _ _ W (h.below hb)
end Go.Proofs.Ytedkhpnlhkjjgaa

namespace Go.Proofs.Ytedkhpnlhkjjgaa
open Go.RowKit Go.Maps Go.Sort

theorem arr2_all (p : Nat) (w : World) : (Instr.sliceAt 119 (.pointer (some ⟨p, 0, none⟩)) none none none).run Try.prog w = .ok (.slice (some ⟨p, 0, none⟩) 2 2) w := by
  have hu : Try.prog.underlying 119 = some (.array (Try.prog.arrayLen 119) (Try.prog.elem 119)) := by kernel_rfl
  have hl : Try.prog.arrayLen 119 = 2 := by kernel_rfl
  have he : Try.prog.elem 119 = 3 := by kernel_rfl
  rw [run_sliceAt_array_all w _ _ hu, he, hl, Try.sizeOf3]
  simp only [Result.andThen_ok, slicedAt]
  rfl
set_option maxRecDepth 100000 in
set_option maxHeartbeats 1000000 in
theorem min_walk (A : Option Addr) (m c : Nat) (f : Nat → Int) (w : World) (hl : Il w A m f) (h1 : 1 ≤ m) (hm : m ≤ 100) (hf : ∀ i, i < m → 0 ≤ f i) :
    Calls Try.prog 74 #[.slice A m c] w fun e w' => (∃ x, e = .returned (.int .i64 x) ∧ 0 ≤ x) ∧ w = w' := by
  obtain ⟨g, o, rfl, hg, hc⟩ := hl.at_ (by omega)
  have mI : (m : Int) ≤ 100 := by omega
  have mJ : 1 ≤ (m : Int) := by omega
  have hc0 := hc 0 (by omega)
  rw [Nat.add_zero] at hc0
  have HC := Lib.hid (And.intro hc (And.intro hf h1))
  clear hl hc hf h1
  go_enter Try.func74, Try.ntmps74
  go_wp2
  go_loopw [3, 4] (fun v i wr => ∃ (x : Int) (j : Nat), v = .int .i64 x ∧ i = .int .i64 (j : Nat) ∧ 0 ≤ x ∧ j ≤ m ∧ w = wr) (fun _ i _ => m - (intOf i).toNat)
  case atStart => exact ⟨f 0, 1, rfl, rfl, HC.out.2.1 0 (by have := HC.out.2.2; omega), HC.out.2.2, rfl⟩
  case round =>
    obtain ⟨x, j, rfl, rfl, hx, hj, rfl⟩ := hrel
    have kI : (j : Int) ≤ m := by omega
    by_cases hlt : j < m
    · have p1 : (j : Int) < (m : Int) := by omega
      have hcj := HC.out.1 j hlt
      have h0 := HC.out.2.1 j hlt
      obtain ⟨y, hy⟩ : ∃ y, y = f j := ⟨_, rfl⟩
      rw [← hy] at hcj h0
      clear hy
      go_wp2
      all_goals
        refine ⟨⟨_, j + 1, rfl, by simp, ?_, by omega, trivial⟩, by simp [intOf]; omega⟩
        first | omega | (split <;> omega)
    · obtain rfl : j = m := by omega
      have p1 : ¬ (j : Int) < (j : Int) := by omega
      go_wp2
      go_ret
      exact ⟨⟨x, rfl, hx⟩, rfl⟩
set_option maxRecDepth 100000 in
set_option maxHeartbeats 1000000 in
theorem fgood_walk (A : Option Addr) (m c : Nat) (f : Nat → Int) (w : World) (hl : Il w A m f) (h1 : 1 ≤ m) (hm : m ≤ 100) (hf : ∀ i, i < m → 0 ≤ f i) :
    Calls Try.prog 21 #[.slice A m c] w fun e w' => e = .returned (.bool true) ∧ w = w' := by
  have HM := Lib.hid (min_walk A m c f w hl h1 hm hf)
  have p1 : 0 < (m : Int) := by omega
  clear hl h1 hm hf
  go_enter Try.func21, Try.ntmps21
  go_wp2_with (go_at_call 74; refine HM.out.mono ?_; rintro e w1 ⟨⟨x, rfl, hx⟩, rfl⟩)
  go_ret
  exact ⟨rfl, rfl⟩
set_option maxRecDepth 100000 in
set_option maxHeartbeats 2000000 in
theorem turn_live {w W : World} {b : Nat} {F : List Nat} {L : SL} {q : Nat} {qs : List Value} (h : SNew w W b F L q qs) (t : Int) (A : Option Addr) (n c : Nat) (f : Nat → Int) (hl : Il W A n f) (hn : n ≤ 20) (K0 : ByteArray) (hK : keyStr t f n = K0) (hk : K0.size ≤ maxLen) (hk0 : K0 ≠ ⟨#[]⟩)
    (x y dx dy : Int) (hx : 0 ≤ x ∧ x ≤ 1000000) (hy : 0 ≤ y ∧ y ≤ 1000000) (hdx : 0 ≤ dx ∧ dx ≤ 1) (hdy : 0 ≤ dy ∧ dy ≤ 1) (hne : x + dx ≠ y + dy) (hN : L.length < 128) (hq : q < 1000000)
    (HE : ∀ W', Below W.heap.size W W' → Calls Try.prog 70 #[.agg #[.pointer (some ⟨b, 0, none⟩), .int .i64 t, .slice A n c]] W' fun e w' => e = .returned (.agg #[.int .i64 x, .int .i64 y]) ∧ Below W'.heap.size W' w') :
    Calls Try.prog 73 #[.agg #[.pointer (some ⟨b, 0, none⟩), .int .i64 t, .slice A n c], .int .i64 dx, .int .i64 dy] W fun e W' => e = .returned (.tuple #[]) ∧ LiveTo w W W' b F (setL L K0 (rowV (two2 (x + dx) (y + dy)) 2)) (q + 1) := by
  have hb0 := (Below.refl W.heap.size W).alloc (Nat.le_refl _) (.cells #[.pointer (some ⟨b, 0, none⟩), .int .i64 t, .slice A n c] 117)
  have r0 := heap_alloc_new W (.cells #[.pointer (some ⟨b, 0, none⟩), .int .i64 t, .slice A n c] 117)
  have HEs := Lib.hid (HE _ hb0)
  have H0 := Lib.hid (And.intro hb0 r0)
  have HHd := Lib.hid (fun (W1 : World) (hb : Below W.heap.size W W1) => qhead_is (some ⟨b, 0, none⟩) t A n c f K0 hK W1 (hl.below hb) hn)
  have hxd := hx
  have HSR := Lib.hid (fun (W1 : World) (g : Nat) (hb : Below W.heap.size W W1) (hil : Il W1 (some ⟨g, 0, none⟩) 2 (two2 (x + dx) (y + dy))) => (csetRow_set (h.below hb) K0 (some ⟨g, 0, none⟩) 2 2 (two2 (x + dx) (y + dy)) hil (by omega) (by omega) (fun i _ => by unfold two2; split <;> omega) hk hk0 hN hq).mono fun e W' hp => (⟨hp.1, hp.2.pre hb⟩ : e = .returned (.tuple #[]) ∧ LiveTo w W W' b F (setL L K0 (rowV (two2 (x + dx) (y + dy)) 2)) (q + 1)))
  have HIl := Lib.hid (fun (W1 : World) (g : Nat) (hg : g < W1.heap.size) (h0 : W1.cell? ⟨g, 0, none⟩ = some (.int .i64 (x + dx))) (h1 : W1.cell? ⟨g, 1, none⟩ = some (.int .i64 (y + dy))) => show Il W1 (some ⟨g, 0, none⟩) 2 (two2 (x + dx) (y + dy)) from ⟨fun i => by unfold two2; split <;> omega, fun _ => ⟨g, 0, rfl, hg, fun i hi => by rcases (by omega : i = 0 ∨ i = 1) with rfl | rfl; exact h0; exact h1⟩⟩)
  obtain ⟨lm, elm⟩ : ∃ z, z = setL L K0 (rowV (two2 (x + dx) (y + dy)) 2) := ⟨_, rfl⟩
  rw [← elm] at HSR ⊢
  have n1 : ((x + dx) == (y + dy)) = false := by rw [beq_eq_false_iff_ne]; exact hne
  clear HE hb0 r0 h hl hn hK hk hk0 hne hN hq elm
  go_enter Try.func73, Try.ntmps73
  go_upto_region 6 with (go_at_call 70; refine HEs.out.mono ?_; rintro e w1 ⟨rfl, hb1⟩; have H1 := Lib.hid (And.intro (H0.out.1.trans (hb1.mono H0.out.1.size)) ((hb1.block _ (hp_lt H0.out.2)).trans H0.out.2)); clear hb1)
  obtain ⟨W6, hW6⟩ : ∃ W6, W6 = w1.alloc (.cells #[.int .i64 (x + dx), .int .i64 (y + dy)] 119) := ⟨_, rfl⟩
  have hb6 : Below w1.heap.size w1 W6 := by rw [hW6]; exact (Below.refl _ _).alloc (Nat.le_refl _) _
  have r6 : W6.heap[w1.heap.size]? = some (.cells #[.int .i64 (x + dx), .int .i64 (y + dy)] 119 (0, 0)) := by rw [hW6]; exact heap_alloc_new _ _
  have rq := (hb6.block _ (hp_lt H1.out.2)).trans H1.out.2
  rw [← hW6]
  have H6 := Lib.hid (And.intro (H1.out.1.trans (hb6.mono H1.out.1.size)) r6)
  have f0 := fun (dq : Nat) (osq : Array Obj) => cell_regrown (w := W6) (a := ⟨W.heap.size, 0, none⟩) ((hp_cell (i := 0) rq).trans rfl) dq osq
  have f1 := fun (dq : Nat) (osq : Array Obj) => cell_regrown (w := W6) (a := ⟨W.heap.size, 1, none⟩) ((hp_cell (i := 1) rq).trans rfl) dq osq
  have f2 := fun (dq : Nat) (osq : Array Obj) => cell_regrown (w := W6) (a := ⟨W.heap.size, 2, none⟩) ((hp_cell (i := 2) rq).trans rfl) dq osq
  have hsl := arr2_all
  clear hW6 hb6 r6 rq
  have HH6 := Lib.hid (fun (dq : Nat) (osq : Array Obj) => HHd.out (grow (redrawn W6 dq) osq) (H6.out.1.trans ((below_regrown W6 dq osq).mono H6.out.1.size)))
  refine wp_region_quiet_tail 5 (by kernel_rfl) (by kernel_rfl) ?_
  simp only [List.take_succ_cons, List.take_zero]
  repeat (quiet_step (first | (go_at_call 69; with_reducible exact Calls.regrown_of (HH6.out _ _))))
  refine wpQuiet_nil ?_
  intro _ hw'
  obtain ⟨⟨dq, osq⟩, hw''⟩ := hw'
  subst hw''
  have r7 := ((below_regrown W6 dq osq).block _ (hp_lt H6.out.2)).trans H6.out.2
  have H7 := Lib.hid (HSR.out _ w1.heap.size (H6.out.1.trans ((below_regrown W6 dq osq).mono H6.out.1.size)) (HIl.out _ _ (hp_lt r7) ((hp_cell (i := 0) r7).trans rfl) ((hp_cell (i := 1) r7).trans rfl)))
  clear f0 f1 f2 HH6 r7 hsl
  simp only [List.drop_succ_cons, List.drop_zero]
  go_wp2_with (go_at_call 71; refine H7.out.mono ?_; rintro e w9 ⟨rfl, h9⟩; have H9 := Lib.hid h9; clear h9)
  go_end0
  exact ⟨rfl, H9.out⟩
end Go.Proofs.Ytedkhpnlhkjjgaa

namespace Go.Proofs.Ytedkhpnlhkjjgaa
open Go.RowKit

def r64 (x y c : Nat) : Nat := (x + 18446744073709551616 - y - c) % 18446744073709551616
def b64 (x y c : Nat) : Nat := if x < y + c then 1 else 0
theorem run_sub64n (x y b : Nat) (hb : b ≤ 1) (w : World) :
    (callFunc 138 #[.int .u64 (x : Nat), .int .u64 (y : Nat), .int .u64 (b : Nat)]).run Try.prog w =
      .ok (.value (.tuple #[.int .u64 (r64 x y b : Nat), .int .u64 (b64 x y b : Nat)])) w := by
  rw [run_callFunc_extern (fn := Try.f138) (by kernel_rfl) (by kernel_rfl) (by kernel_rfl) (by kernel_rfl) (e := fun args => do
    let (x, y, b) ← Extern.MathBitsCarry.three "Sub64" args
    pure (Extern.MathBitsCarry.pair ((x + Extern.MathBitsCarry.m64 - y - b) % Extern.MathBitsCarry.m64) (if x < y + b then 1 else 0))) (by kernel_rfl)]
  have : b = 0 ∨ b = 1 := by omega
  rcases this with rfl | rfl <;> rfl
theorem r64_lt (x y c : Nat) : r64 x y c < 2 ^ 64 := by unfold r64; omega
theorem b64_le (x y c : Nat) : b64 x y c ≤ 1 := by unfold b64; split <;> omega
theorem rb64 (x y c : Nat) (hx : x < 2 ^ 64) (hy : y < 2 ^ 64) (hc : c ≤ 1) : r64 x y c + y + c = x + b64 x y c * 2 ^ 64 := by unfold r64 b64; split <;> omega

/-- what Sub comes to -/
def SubPost (a b : Nat) (w : World) (e : Ending) (w' : World) : Prop :=
  e = .returned (.tuple #[U (if b ≤ a then a - b else 0), .bool (decide (b ≤ a))]) ∧ Below w.heap.size w w'
theorem subPost_yes {a b : Nat} {w w' : World} {e : Ending} (h : b ≤ a) (he : e = .returned (.tuple #[U (a - b), .bool true])) (hw : Below w.heap.size w w') : SubPost a b w e w' := by
  unfold SubPost; rw [if_pos h, decide_eq_true h]; exact ⟨he, hw⟩
theorem subPost_no {a b : Nat} {w w' : World} {e : Ending} (h : ¬ b ≤ a) (he : e = .returned (.tuple #[U 0, .bool false])) (hw : Below w.heap.size w w') : SubPost a b w e w' := by
  unfold SubPost; rw [if_neg h, decide_eq_false h]; exact ⟨he, hw⟩
/-- the state at the head of Sub's loop -/
def SubRel (a b : Nat) (w : World) (c i : Value) (wr : World) : Prop :=
  ∃ (k d : Nat) (f : Nat → Nat), k ≤ 4 ∧ i = .int .i64 (k : Nat) ∧ c = .int .u64 (d : Nat) ∧ d ≤ 1 ∧ (∀ j, f j < 2 ^ 64) ∧
    val f k + val (limb b) k = val (limb a) k + d * 2 ^ (64 * k) ∧
    Arr .u64 wr w.heap.size 4 (limb a) ∧ Arr .u64 wr (w.heap.size + 1) 4 (limb b) ∧ Arr .u64 wr (w.heap.size + 1 + 1) 4 (fun _ => 0) ∧ Arr .u64 wr (w.heap.size + 1 + 1 + 1) 4 f ∧
    Below w.heap.size w wr ∧ w.heap.size + 1 + 1 + 1 < wr.heap.size

set_option maxRecDepth 100000 in
set_option maxHeartbeats 1000000 in
theorem sub_walk (a b : Nat) (w : World) (hal : a < 2 ^ 256) (hbl : b < 2 ^ 256) :
    Calls Try.prog 103 #[U a, U b] w (SubPost a b w) := by
  have hsub := run_sub64n
  unfold U
  go_enter Try.func103, Try.ntmps103
  go_wp2
  go_loopw [7, 9] (SubRel a b w) (fun _ i _ => 4 - (intOf i).toNat)
  case atStart =>
    refine ⟨0, 0, fun _ => 0, by omega, rfl, rfl, by omega, by simp, by simp [val], ?_, ?_, ?_, ?_, ?_, ?_⟩
    · exact (((Arr.new4 (f := limb a) rfl).alloc _).alloc _).alloc _
    · exact ((Arr.new4 (f := limb b) (by simp)).alloc _).alloc _
    · exact (Arr.new4 (f := fun _ => 0) (by simp)).alloc _
    · exact Arr.new4 (f := fun _ => 0) (by simp)
    · exact ((((Below.refl _ _).alloc (Nat.le_refl _) _).alloc (by simp only [World.size_alloc]; omega) _).alloc (by simp only [World.size_alloc]; omega) _).alloc (by simp only [World.size_alloc]; omega) _
    · simp
  case round =>
    obtain ⟨k, d, f, hk, rfl, rfl, hd, hf, hv, ha, hb, hz, hs, hbel, hsz⟩ := hrel
    by_cases hlt : k < 4
    · have a1 := ha.cell k hlt
      have b1 := hb.cell k hlt
      have f1 := hs.free k hlt
      have f2 := hs.cell k hlt
      go_wp2
      go_region_with (fail)
      all_goals
        go_wp2
        go_roundw
        case rel =>
          refine ⟨k + 1, b64 (limb a k) (limb b k) d, upd f k (r64 (limb a k) (limb b k) d), by omega, by go_num, rfl, b64_le _ _ _, upd_lt hf (r64_lt _ _ _), ?_, ?_, ?_, ?_, ?_, ?_, ?_⟩
          · rw [val_upd_succ, pow_succ64]
            have h1 := congrArg (· * 2 ^ (64 * k)) (rb64 (limb a k) (limb b k) d (limb_lt a k) (limb_lt b k) hd)
            simp only [val]
            simp only [Nat.add_mul, Nat.mul_assoc] at h1
            omega
          · exact ha.drew.set_far (by omega)
          · exact hb.drew.set_far (by omega)
          · exact hz.drew.set_far (by omega)
          · exact hs.drew.set hlt
          · exact (below_drewN hbel 1).setCell (by simp; omega) _
          · simp; omega
        case measure => simp [intOf]; omega
    · obtain rfl : k = 4 := by omega
      have f0 := hs.cell 0 (by omega)
      have f1 := hs.cell 1 (by omega)
      have f2 := hs.cell 2 (by omega)
      have f3 := hs.cell 3 (by omega)
      have z0 := hz.cell 0 (by omega)
      have z1 := hz.cell 1 (by omega)
      have z2 := hz.cell 2 (by omega)
      have z3 := hz.cell 3 (by omega)
      have y0 := hz.free 0 (by omega)
      have y1 := hz.free 1 (by omega)
      have y2 := hz.free 2 (by omega)
      have y3 := hz.free 3 (by omega)
      have hv4 : val f 4 + b = a + d * 2 ^ 256 := by rw [val4_limb hal, val4_limb hbl] at hv; exact hv
      have hfl := val_lt 4 (fun i _ => hf i)
      have Hv := Lib.hid hv4
      have Hfl := Lib.hid hfl
      clear hv hv4 hfl
      go_wp2
      · have hd' : (d : Int) ≠ 0 := by simpa using ‹((d : Int) != 0) = true›
        have hge : ¬ b ≤ a := by have := Hv.out; have := Hfl.out; have := Nat.mul_le_mul_right (2 ^ 256) (show 1 ≤ d by omega); omega
        refine bodyPost_ret (v := .tuple #[.agg #[.int .u64 0, .int .u64 0, .int .u64 0, .int .u64 0], .bool false]) (by simp [results, Try.results103, go_sem, z0, z1, z2, z3]) rfl (subPost_no hge (by rw [U_zero]) (below_set4 hbel (by omega)))
      · have hd' : (d : Int) = 0 := by simpa using ‹((d : Int) != 0) = false›
        have hd0 : d = 0 := by omega
        have hlt : b ≤ a := by have := Hv.out; have := Hfl.out; subst hd0; omega
        have hab : a - b = val f 4 := by have := Hv.out; subst hd0; omega
        refine bodyPost_ret (v := .tuple #[.agg #[.int .u64 (f 0 : Nat), .int .u64 (f 1 : Nat), .int .u64 (f 2 : Nat), .int .u64 (f 3 : Nat)], .bool true]) (by simp [results, Try.results103, go_sem, z0, z1, z2, z3]) rfl (subPost_yes hlt (by rw [hab, U_of hf]) (below_set4 hbel (by omega)))
end Go.Proofs.Ytedkhpnlhkjjgaa
