/- tallagelaw01.WordOrder, walked: it returns true. -/
import Derived.Test.YtiofphpdonlaoaaLives1
import Derived.Test.YtiofphpdonlaoaaU1
import Derived.Test.YtiofphpdonlaoaaU4
import Derived.Test.YtiofphpdonlaoaaU5
import Derived.Lib.QuietBelow
import Derived.Deep.DeepCutAuto
namespace Go.Proofs.Ytiofphpdonlaoaa
open Go.RowKit Go.Sort

def addv (a b : Nat) : Nat := if a + b < 2 ^ 256 then a + b else 0
def addk (a b : Nat) : Bool := decide (a + b < 2 ^ 256)
def mulv (a b : Nat) : Nat := if a * b < 2 ^ 256 then a * b else 0
def mulk (a b : Nat) : Bool := decide (a * b < 2 ^ 256)
theorem addv_lt (a b : Nat) : addv a b < 2 ^ 256 := by unfold addv; split <;> omega
theorem mulv_lt (a b : Nat) : mulv a b < 2 ^ 256 := by unfold mulv; split <;> omega
theorem add_c (a b : Nat) (w : World) (ha : a < 2 ^ 256) (hb : b < 2 ^ 256) : Calls Try.prog 15 #[U a, U b] w fun e w' => e = .returned (.tuple #[U (addv a b), .bool (addk a b)]) ∧ Below w.heap.size w w' := add_walk a b w ha hb
theorem mul_c (a b : Nat) (w : World) (ha : a < 2 ^ 256) (hb : b < 2 ^ 256) : Calls Try.prog 19 #[U a, U b] w fun e w' => e = .returned (.tuple #[U (mulv a b), .bool (mulk a b)]) ∧ Below w.heap.size w w' := mul_walk a b w ha hb
theorem cmp_c (a b : Nat) (w : World) (ha : a < 2 ^ 256) (hb : b < 2 ^ 256) : Calls Try.prog 24 #[U a, U b] w fun e w' => e = .returned (.int .i64 (cmpU a b)) ∧ Below w.heap.size w w' := cmp_walk a b w ha hb
theorem bits_c (a : Nat) (w : World) (ha : a < 2 ^ 256) : Calls Try.prog 37 #[U a] w fun e w' => e = .returned (.int .i64 (blen a : Nat)) ∧ Below w.heap.size w w' := bits_walk a w ha

theorem blen_mono {a b : Nat} (h : a ≤ b) : blen a ≤ blen b := blen_le (Nat.lt_of_le_of_lt h (lt_blen b))
/-- three numbers in boxes -/
structure Three (w wr : World) (a b c : Nat) : Prop where
  a : Arr .u64 wr w.heap.size 4 (limb a)
  b : Arr .u64 wr (w.heap.size + 1) 4 (limb b)
  c : Arr .u64 wr (w.heap.size + 1 + 1) 4 (limb c)
  l : Below w.heap.size w wr
  s : w.heap.size + 1 + 1 < wr.heap.size
theorem Three.below {w wr w' : World} {a b c : Nat} (h : Three w wr a b c) (hb : Below wr.heap.size wr w') : Three w w' a b c := by
  have := h.s; have := hb.size
  exact ⟨h.a.below hb (by omega), h.b.below hb (by omega), h.c.below hb (by omega), h.l.trans (hb.mono (by omega)), by omega⟩
theorem Three.alloc {w wr : World} {a b c : Nat} (h : Three w wr a b c) (o : Obj) : Three w (wr.alloc o) a b c := by
  have := h.s
  exact ⟨h.a.alloc o, h.b.alloc o, h.c.alloc o, h.l.alloc (by omega) o, by rw [World.size_alloc]; omega⟩
/-- a number in a box made later -/
structure Box (wr : World) (L n : Nat) : Prop where
  a : Arr .u64 wr L 4 (limb n)
  s : L < wr.heap.size
theorem Box.below {wr w' : World} {L n : Nat} (h : Box wr L n) (hb : Below wr.heap.size wr w') : Box w' L n := ⟨h.a.below hb h.s, Nat.lt_of_lt_of_le h.s hb.size⟩
theorem Box.alloc {wr : World} {L n : Nat} (h : Box wr L n) (o : Obj) : Box (wr.alloc o) L n := ⟨h.a.alloc o, by rw [World.size_alloc]; have := h.s; omega⟩
theorem Box.new {wr : World} {L n : Nat} {t : TypeId} (h : L = wr.heap.size) : Box (wr.alloc (.cells #[.int .u64 (limb n 0 : Nat), .int .u64 (limb n 1 : Nat), .int .u64 (limb n 2 : Nat), .int .u64 (limb n 3 : Nat)] t)) L n :=
  ⟨Arr.new4 (f := limb n) h, by rw [World.size_alloc]; omega⟩
/-- .. and in every world of the class that a quiet region walks over -/
theorem Arr.grow4 {wr : World} {b : Nat} {f : Nat → Nat} (h : Arr .u64 wr b 4 f) :
    (∀ d os, (grow (redrawn wr d) os).cell? ⟨b, 0, none⟩ = some (.int .u64 (f 0 : Nat))) ∧ (∀ d os, (grow (redrawn wr d) os).cell? ⟨b, 1, none⟩ = some (.int .u64 (f 1 : Nat))) ∧
    (∀ d os, (grow (redrawn wr d) os).cell? ⟨b, 2, none⟩ = some (.int .u64 (f 2 : Nat))) ∧ (∀ d os, (grow (redrawn wr d) os).cell? ⟨b, 3, none⟩ = some (.int .u64 (f 3 : Nat))) :=
  ⟨fun d os => cell_regrown (h.cell 0 (by omega)) d os, fun d os => cell_regrown (h.cell 1 (by omega)) d os, fun d os => cell_regrown (h.cell 2 (by omega)) d os, fun d os => cell_regrown (h.cell 3 (by omega)) d os⟩

set_option maxRecDepth 100000 in
set_option maxHeartbeats 2000000 in
theorem wordOrder_walk (a b c : Nat) (w : World) (hal : a < 2 ^ 256) (hbl : b < 2 ^ 256) (hcl : c < 2 ^ 256) :
    Calls Try.prog 6 #[U a, U b, U c] w fun e w' => e = .returned (.bool true) ∧ Below w.heap.size w w' := by
  have heq := fun w => eq_run hal hbl w
  have Hal := Lib.hid hal
  have Hbl := Lib.hid hbl
  have Hcl := Lib.hid hcl
  clear hal hbl hcl
  unfold U
  go_enter Try.func6, Try.ntmps6
  go_wp2_with fail
  refine (add_c a b _ Hal.out Hbl.out).mono ?_
  rintro e w1 ⟨rfl, hb1⟩
  obtain ⟨s, hs⟩ : ∃ s, s = addv a b := ⟨_, rfl⟩
  obtain ⟨ok, hok⟩ : ∃ s, s = addk a b := ⟨_, rfl⟩
  rw [← hs, ← hok]
  unfold U
  have t1 : Three w w1 a b c := Three.below (hb := hb1) (h := ⟨((Arr.new4 (f := limb a) rfl).alloc _).alloc _, (Arr.new4 (f := limb b) (by simp)).alloc _, Arr.new4 (f := limb c) (by simp), (((Below.refl _ _).alloc (Nat.le_refl _) _).alloc (by simp only [World.size_alloc]; omega) _).alloc (by simp only [World.size_alloc]; omega) _, by simp⟩)
  have Hs := Lib.hid hs
  have Hok := Lib.hid hok
  clear hs hok hb1
  have t1s := t1.s
  obtain ⟨a0, a1, a2, a3⟩ := t1.a.cells4
  obtain ⟨b0, b1, b2, b3⟩ := t1.b.cells4
  have za : w.heap.size < w1.heap.size := by omega
  have zb : w.heap.size + 1 < w1.heap.size := by omega
  go_wp2_with fail
  refine (add_c b a _ Hbl.out Hal.out).mono ?_
  rintro e w2 ⟨rfl, hb2⟩
  rw [show addv b a = s by rw [Hs.out]; unfold addv; rw [Nat.add_comm], show addk b a = ok by rw [Hok.out]; unfold addk; rw [Nat.add_comm]]
  unfold U
  have t2 : Three w w2 a b c := (t1.alloc _).below hb2
  have x2 : Box w2 w1.heap.size s := (Box.new rfl).below hb2
  clear a0 a1 a2 a3 b0 b1 b2 b3 hb2 t1s za zb
  have t2s := t2.s
  have x2s := x2.s
  obtain ⟨a0, a1, a2, a3⟩ := t2.a.cells4
  obtain ⟨b0, b1, b2, b3⟩ := t2.b.cells4
  have za : w.heap.size < w2.heap.size := by omega
  have zb : w.heap.size + 1 < w2.heap.size := by omega
  go_wp2_with fail
  refine (mul_c a b _ Hal.out Hbl.out).mono ?_
  rintro e w3 ⟨rfl, hb3⟩
  obtain ⟨p, hp⟩ : ∃ s, s = mulv a b := ⟨_, rfl⟩
  obtain ⟨may, hmay⟩ : ∃ s, s = mulk a b := ⟨_, rfl⟩
  rw [← hp, ← hmay]
  unfold U
  have t3 : Three w w3 a b c := (t2.alloc _).below hb3
  have x3 : Box w3 w1.heap.size s := (x2.alloc _).below hb3
  have y3 : Box w3 w2.heap.size s := (Box.new rfl).below hb3
  have Hp := Lib.hid hp
  have Hmay := Lib.hid hmay
  clear a0 a1 a2 a3 b0 b1 b2 b3 hb3 t2s x2s za zb hp hmay
  have t3s := t3.s
  have y3s := y3.s
  have x3s := x3.s
  obtain ⟨a0, a1, a2, a3⟩ := t3.a.cells4
  obtain ⟨b0, b1, b2, b3⟩ := t3.b.cells4
  have za : w.heap.size < w3.heap.size := by omega
  have zb : w.heap.size + 1 < w3.heap.size := by omega
  go_wp2_with fail
  refine (mul_c b a _ Hbl.out Hal.out).mono ?_
  rintro e w4 ⟨rfl, hb4⟩
  rw [show mulv b a = p by rw [Hp.out]; unfold mulv; rw [Nat.mul_comm], show mulk b a = may by rw [Hmay.out]; unfold mulk; rw [Nat.mul_comm]]
  unfold U
  have t4 : Three w w4 a b c := (t3.alloc _).below hb4
  have x4 : Box w4 w1.heap.size s := (x3.alloc _).below hb4
  have y4 : Box w4 w2.heap.size s := (y3.alloc _).below hb4
  have p4 : Box w4 w3.heap.size p := (Box.new rfl).below hb4
  clear a0 a1 a2 a3 b0 b1 b2 b3 hb4 t3s x3s y3s za zb
  obtain ⟨W, hW⟩ : ∃ W, W = w4.alloc (.cells #[.int .u64 (limb p 0 : Nat), .int .u64 (limb p 1 : Nat), .int .u64 (limb p 2 : Nat), .int .u64 (limb p 3 : Nat)] 24) := ⟨_, rfl⟩
  have t5 : Three w W a b c := by rw [hW]; exact t4.alloc _
  have x5 : Box W w1.heap.size s := by rw [hW]; exact x4.alloc _
  have y5 : Box W w2.heap.size s := by rw [hW]; exact y4.alloc _
  have p5 : Box W w3.heap.size p := by rw [hW]; exact p4.alloc _
  have q5 : Box W w4.heap.size p := by rw [hW]; exact Box.new rfl
  have HW := Lib.hid hW
  clear hW
  obtain ⟨x0, x1, x2', x3'⟩ := x5.a.cells4
  obtain ⟨y0, y1, y2', y3'⟩ := y5.a.cells4
  obtain ⟨p0, p1, p2, p3⟩ := p5.a.cells4
  obtain ⟨q0, q1, q2, q3⟩ := q5.a.cells4
  have heqs := fun w => eq_run (a := s) (b := s) (by rw [Hs.out]; exact addv_lt _ _) (by rw [Hs.out]; exact addv_lt _ _) w
  have heqp := fun w => eq_run (a := p) (b := p) (by rw [Hp.out]; exact mulv_lt _ _) (by rw [Hp.out]; exact mulv_lt _ _) w
  go_upto_region 5 with (fail)
  rw [← HW.out]
  go_upto_region 7 with (fail)
  clear heqs heqp x0 x1 x2' x3' y0 y1 y2' y3' p0 p1 p2 p3 q0 q1 q2 q3 x4 y4 p4 t4 x5 y5 p5 q5
  obtain ⟨a0, a1, a2, a3⟩ := t5.a.grow4
  obtain ⟨b0, b1, b2, b3⟩ := t5.b.grow4
  obtain ⟨c0, c1, c2, c3⟩ := t5.c.grow4
  refine wp_region_quiet_below (by kernel_rfl) (by kernel_rfl) ?_
  repeat (quiet_step ((go_at_call 24; refine Calls.regrown_of (cmp_c _ _ _ ?_ ?_) <;> (first | exact Hal.out | exact Hbl.out | exact Hcl.out))))
  refine wpQuiet_nil ?_
  intro _ hw'
  obtain ⟨⟨dq, osq⟩, hw''⟩ := hw'
  subst hw''
  have hbw := below_regrown W dq osq
  generalize grow (redrawn W dq) osq = W2 at *
  have t6 : Three w W2 a b c := t5.below hbw
  clear a0 a1 a2 a3 b0 b1 b2 b3 c0 c1 c2 c3 hbw t5
  obtain ⟨a0, a1, a2, a3⟩ := t6.a.grow4
  obtain ⟨b0, b1, b2, b3⟩ := t6.b.grow4
  obtain ⟨d, hd⟩ : ∃ d, d = cmpU a b := ⟨_, rfl⟩
  obtain ⟨e, he⟩ : ∃ d, d = cmpU b c := ⟨_, rfl⟩
  obtain ⟨f, hf⟩ : ∃ d, d = cmpU a c := ⟨_, rfl⟩
  rw [← hd, ← he, ← hf]
  have k1 : (d == -(cmpU b a)) = true := by rw [hd]; unfold cmpU; rw [beq_iff_eq]; (repeat' split) <;> omega
  have k5 : -1 ≤ cmpU b a ∧ cmpU b a ≤ 1 := by unfold cmpU; (repeat' split) <;> omega
  have k6 : IntKind.i64.wrap (-(cmpU b a)) = -(cmpU b a) := IntWalk.i64_in _ (by omega)
  have k7 : wrap64 (-(cmpU b a)) = -(cmpU b a) := by unfold wrap64; omega
  clear k5
  have k2 : ((d == 0) == decide (a = b)) = true := by rw [hd]; unfold cmpU; by_cases h : a = b <;> simp [h]; split <;> omega
  have k3 : ¬ 0 < d → ¬ 0 < e → f ≤ 0 := by rw [hd, he, hf]; unfold cmpU; (repeat' split) <;> omega
  have k4 : ¬ blen a ≤ blen b → 0 < d := by
    intro h
    have : ¬ a ≤ b := fun hab => h (blen_mono hab)
    rw [hd]; unfold cmpU; rw [if_neg (by omega), if_pos (by omega)]; omega
  have Hd := Lib.hid hd
  have He := Lib.hid he
  have Hf := Lib.hid hf
  have K3 := Lib.hid k3
  have K4 := Lib.hid k4
  clear hd he hf k3 k4
  have hfin : ∀ dq osq, Below w.heap.size w (grow (redrawn W2 dq) osq) := fun dq osq => t6.l.trans ((below_regrown W2 dq osq).mono (by have := t6.s; omega))
  have Hfin := Lib.hid hfin
  clear hfin
  by_cases h1 : 0 < d
  · by_cases h2 : (blen a : Int) ≤ (blen b : Int)
    · go_wp2
      refine wp_region_quiet_below (by kernel_rfl) (by kernel_rfl) ?_
      repeat (quiet_step (first | (go_at_call 24; refine Calls.regrown_of (cmp_c _ _ _ ?_ ?_) <;> (first | exact Hal.out | exact Hbl.out | exact Hcl.out)) | (go_at_call 37; refine Calls.regrown_of (bits_c _ _ ?_); first | exact Hal.out | exact Hbl.out) | (go_at_call 26; exact Calls.regrown_of (lives1_walk _))))
      refine wpQuiet_nil ?_
      intro _ hw'
      obtain ⟨⟨dq, osq⟩, hw''⟩ := hw'
      subst hw''
      go_wp2
      go_ret
      exact ⟨rfl, Hfin.out _ _⟩
    · have h2d : decide ((blen a : Int) ≤ (blen b : Int)) = false := decide_eq_false h2
      have h2e : decide (blen a ≤ blen b) = false := decide_eq_false (by omega)
      go_wp2
      refine wp_region_quiet_below (by kernel_rfl) (by kernel_rfl) ?_
      repeat (quiet_step (first | (go_at_call 24; refine Calls.regrown_of (cmp_c _ _ _ ?_ ?_) <;> (first | exact Hal.out | exact Hbl.out | exact Hcl.out)) | (go_at_call 37; refine Calls.regrown_of (bits_c _ _ ?_); first | exact Hal.out | exact Hbl.out) | (go_at_call 26; exact Calls.regrown_of (lives1_walk _))))
      refine wpQuiet_nil ?_
      intro _ hw'
      obtain ⟨⟨dq, osq⟩, hw''⟩ := hw'
      subst hw''
      go_wp2
      go_ret
      exact ⟨rfl, Hfin.out _ _⟩
  · have h2 : (blen a : Int) ≤ (blen b : Int) := by
      rcases Nat.lt_or_ge (blen b) (blen a) with h | h
      · exact absurd (K4.out (by omega)) h1
      · omega
    by_cases h3 : 0 < e
    · go_wp2
      refine wp_region_quiet_below (by kernel_rfl) (by kernel_rfl) ?_
      repeat (quiet_step (first | (go_at_call 24; refine Calls.regrown_of (cmp_c _ _ _ ?_ ?_) <;> (first | exact Hal.out | exact Hbl.out | exact Hcl.out)) | (go_at_call 37; refine Calls.regrown_of (bits_c _ _ ?_); first | exact Hal.out | exact Hbl.out) | (go_at_call 26; exact Calls.regrown_of (lives1_walk _))))
      refine wpQuiet_nil ?_
      intro _ hw'
      obtain ⟨⟨dq, osq⟩, hw''⟩ := hw'
      subst hw''
      go_wp2
      go_ret
      exact ⟨rfl, Hfin.out _ _⟩
    · have h4 : f ≤ 0 := K3.out h1 h3
      go_wp2
      refine wp_region_quiet_below (by kernel_rfl) (by kernel_rfl) ?_
      repeat (quiet_step (first | (go_at_call 24; refine Calls.regrown_of (cmp_c _ _ _ ?_ ?_) <;> (first | exact Hal.out | exact Hbl.out | exact Hcl.out)) | (go_at_call 37; refine Calls.regrown_of (bits_c _ _ ?_); first | exact Hal.out | exact Hbl.out) | (go_at_call 26; exact Calls.regrown_of (lives1_walk _))))
      refine wpQuiet_nil ?_
      intro _ hw'
      obtain ⟨⟨dq, osq⟩, hw''⟩ := hw'
      subst hw''
      go_wp2
      go_ret
      exact ⟨rfl, Hfin.out _ _⟩
end Go.Proofs.Ytiofphpdonlaoaa
