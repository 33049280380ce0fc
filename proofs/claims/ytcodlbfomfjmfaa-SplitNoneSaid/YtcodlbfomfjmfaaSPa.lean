/- split.isBips, Parts$1, walked. -/
import Derived.Test.YtcodlbfomfjmfaaR7
import Derived.Test.YtcodlbfomfjmfaaBK
import Derived.Test.YtcodlbfomfjmfaaU2
namespace Go.Proofs.Ytcodlbfomfjmfaa
open Go.RowKit Go.Sort

theorem sub_c (a b : Nat) (w : World) (ha : a < 2 ^ 256) (hb : b < 2 ^ 256) : Calls Try.prog 19 #[U a, U b] w fun e w' => e = .returned (.tuple #[U (subv a b), .bool (subk a b)]) ∧ Below w.heap.size w w' := sub_walk a b w ha hb
theorem Bk.nil {w : World} : Bk w w [] := ⟨fun p hp => (by cases hp), Below.refl _ _⟩
theorem Bk.old {w wr : World} {l : List (Nat × Nat)} {L n : Nat} (h : Bk w wr l) (hL : Box wr L n) : Bk w wr ((L, n) :: l) :=
  ⟨fun p hp => by
    rcases List.mem_cons.1 hp with rfl | hp
    · exact hL
    · exact h.b p hp, h.l⟩
/-- a box of zeroes that nobody wrote yet -/
structure Zb (w wr : World) (L : Nat) : Prop where
  a : Arr .u64 wr L 4 (fun _ => 0)
  s : L < wr.heap.size
  o : w.heap.size ≤ L
theorem Zb.below {w wr w' : World} {L : Nat} (h : Zb w wr L) (hb : Below wr.heap.size wr w') : Zb w w' L := ⟨h.a.below hb h.s, Nat.lt_of_lt_of_le h.s hb.size, h.o⟩
theorem Zb.alloc {w wr : World} {L : Nat} (h : Zb w wr L) (o : Obj) : Zb w (wr.alloc o) L := ⟨h.a.alloc o, by rw [World.size_alloc]; have := h.s; omega, h.o⟩
theorem Zb.drew {w wr : World} {L : Nat} (h : Zb w wr L) : Zb w wr.drew L := ⟨h.a.drew, h.s, h.o⟩
theorem Zb.new {w wr : World} {L : Nat} {t : TypeId} (h : L = wr.heap.size) (hs : w.heap.size ≤ wr.heap.size) : Zb w (wr.alloc (.cells #[.int .u64 0, .int .u64 0, .int .u64 0, .int .u64 0] t)) L :=
  ⟨Arr.new4 (f := fun _ => 0) h, by rw [World.size_alloc]; omega, by omega⟩



/-- a box that may be written -/
structure Wb (w wr : World) (L : Nat) : Prop where
  a : ∃ f, Arr .u64 wr L 4 f
  s : L < wr.heap.size
  o : w.heap.size ≤ L
theorem Wb.below {w wr w' : World} {L : Nat} (h : Wb w wr L) (hb : Below wr.heap.size wr w') : Wb w w' L := ⟨h.a.elim fun f hf => ⟨f, hf.below hb h.s⟩, Nat.lt_of_lt_of_le h.s hb.size, h.o⟩
theorem Wb.alloc {w wr : World} {L : Nat} (h : Wb w wr L) (o : Obj) : Wb w (wr.alloc o) L := ⟨h.a.elim fun f hf => ⟨f, hf.alloc o⟩, by rw [World.size_alloc]; have := h.s; omega, h.o⟩
theorem Wb.drew {w wr : World} {L : Nat} (h : Wb w wr L) : Wb w wr.drew L := ⟨h.a.elim fun f hf => ⟨f, hf.drew⟩, h.s, h.o⟩
theorem Zb.wb {w wr : World} {L : Nat} (h : Zb w wr L) : Wb w wr L := ⟨⟨_, h.a⟩, h.s, h.o⟩
theorem Wb.put4 {w wr : World} {L L' m : Nat} (h : Wb w wr L) : Wb w ((((wr.setCell ⟨L', 0, none⟩ (.int .u64 (limb m 0 : Nat))).setCell ⟨L', 1, none⟩ (.int .u64 (limb m 1 : Nat))).setCell ⟨L', 2, none⟩ (.int .u64 (limb m 2 : Nat))).setCell ⟨L', 3, none⟩ (.int .u64 (limb m 3 : Nat))) L := by
  refine ⟨?_, by simp only [World.size_setCell]; exact h.s, h.o⟩
  obtain ⟨f, hf⟩ := h.a
  by_cases e : L' = L
  · subst e; exact ⟨_, hf.put4 (n := m)⟩
  · exact ⟨f, hf.put4_far e⟩
theorem Bk.put4 {w wr : World} {l : List (Nat × Nat)} {L : Nat} {x0 x1 x2 x3 : Value} (h : Bk w wr l) (hL : w.heap.size ≤ L) (hn : ∀ p, p ∈ l → L ≠ p.1) : Bk w ((((wr.setCell ⟨L, 0, none⟩ x0).setCell ⟨L, 1, none⟩ x1).setCell ⟨L, 2, none⟩ x2).setCell ⟨L, 3, none⟩ x3) l :=
  ⟨fun p hp => (h.b p hp).putN_far (hn p hp), below_set4 h.l hL⟩

theorem kpA {W w' : World} (h : Below W.heap.size W w') (o : Obj) : Below W.heap.size W (w'.alloc o) := h.alloc h.size o
theorem kpD {W w' : World} (h : Below W.heap.size W w') : Below W.heap.size W w'.drew := below_drewN h 1
theorem kpP {W w' : World} {L : Nat} {x0 x1 x2 x3 : Value} (h : Below W.heap.size W w') (hL : W.heap.size ≤ L) : Below W.heap.size W ((((w'.setCell ⟨L, 0, none⟩ x0).setCell ⟨L, 1, none⟩ x1).setCell ⟨L, 2, none⟩ x2).setCell ⟨L, 3, none⟩ x3) := below_set4 h hL
theorem kpB {W w1 w2 : World} (h : Below W.heap.size W w1) (hb : Below w1.heap.size w1 w2) : Below W.heap.size W w2 := h.trans (hb.mono h.size)
theorem hldW {W w' : World} {B b : Nat} (hc : Arr .u64 W B 4 (limb b)) (h : Below W.heap.size W w') : w'.cell? ⟨B, 0, none⟩ = some (.int .u64 (limb b 0 : Nat)) ∧ w'.cell? ⟨B, 1, none⟩ = some (.int .u64 (limb b 1 : Nat)) ∧ w'.cell? ⟨B, 2, none⟩ = some (.int .u64 (limb b 2 : Nat)) ∧ w'.cell? ⟨B, 3, none⟩ = some (.int .u64 (limb b 3 : Nat)) ∧ Below W.heap.size W w' := by
  obtain ⟨a0, a1, a2, a3⟩ := (hc.below h hc.lt4).cells4
  exact ⟨a0, a1, a2, a3, h⟩
theorem un_hldW {W w' : World} {B b : Nat} (h : w'.cell? ⟨B, 0, none⟩ = some (.int .u64 (limb b 0 : Nat)) ∧ w'.cell? ⟨B, 1, none⟩ = some (.int .u64 (limb b 1 : Nat)) ∧ w'.cell? ⟨B, 2, none⟩ = some (.int .u64 (limb b 2 : Nat)) ∧ w'.cell? ⟨B, 3, none⟩ = some (.int .u64 (limb b 3 : Nat)) ∧ Below W.heap.size W w') : Below W.heap.size W w' := h.2.2.2.2

theorem Bk.push2 {w wr : World} {l : List (Nat × Nat)} {t t' : TypeId} (n m : Nat) (h : Bk w wr l) : Bk w ((wr.alloc (.cells #[.int .u64 (limb n 0 : Nat), .int .u64 (limb n 1 : Nat), .int .u64 (limb n 2 : Nat), .int .u64 (limb n 3 : Nat)] t)).alloc (.cells #[.int .u64 (limb m 0 : Nat), .int .u64 (limb m 1 : Nat), .int .u64 (limb m 2 : Nat), .int .u64 (limb m 3 : Nat)] t')) ((wr.heap.size + 1, m) :: (wr.heap.size, n) :: l) := by
  have h2 := (h.push (t := t) n).push (t := t') m
  rw [World.size_alloc] at h2
  exact h2

def inBips (n : Int) : Bool := decide (0 ≤ n) && decide (n ≤ 10000)
theorem isBips_walk (n : Int) (w : World) : Calls Try.prog 139 #[.int .i64 n] w fun e w' => e = .returned (.bool (inBips n)) ∧ w' = w := by
  by_cases h0 : 0 ≤ n
  · by_cases h1 : n ≤ 10000
    · have e : inBips n = true := by unfold inBips; rw [decide_eq_true h0, decide_eq_true h1]; rfl
      rw [e]; clear e
      go_enter Try.func139, Try.ntmps139
      go_wp2
      go_ret
      exact ⟨rfl, rfl⟩
    · have e : inBips n = false := by unfold inBips; rw [decide_eq_false h1, Bool.and_false]
      rw [e]; clear e
      go_enter Try.func139, Try.ntmps139
      go_wp2
      go_ret
      exact ⟨rfl, rfl⟩
  · have e : inBips n = false := by unfold inBips; rw [decide_eq_false h0]; rfl
    rw [e]; clear e
    go_enter Try.func139, Try.ntmps139
    go_wp2
    go_ret
    exact ⟨rfl, rfl⟩
set_option maxRecDepth 100000 in
set_option maxHeartbeats 4000000 in
theorem parted_walk (a x : Nat) (ok : Bool) (L : Nat) (w : World) (ha : a < 2 ^ 256) (hx : x < 2 ^ 256) (hL : Box w L a) :
    Calls Try.prog 138 #[U x, .bool ok, .pointer (some ⟨L, 0, none⟩)] w fun e w' => e = .returned (.tuple #[U x, U (subv a x), .bool ok]) ∧ Below w.heap.size w w' := by
  have Ha := Lib.hid ha
  have Hx := Lib.hid hx
  obtain ⟨y, hy⟩ : ∃ y, y = subv a x := ⟨_, rfl⟩
  rw [← hy]
  have Hy := Lib.hid hy
  clear ha hx hy
  unfold U
  go_enter Try.func138, Try.ntmps138
  go_upto_region 1 with (fail)
  have K0 : Bk w _ [(L, a), (w.heap.size, x)] := (((Bk.push (t := 24) x Bk.nil).alloc (.cells #[.int .u64 0, .int .u64 0, .int .u64 0, .int .u64 0] 24)).alloc (.cells #[.int .u64 0, .int .u64 0, .int .u64 0, .int .u64 0] 24)).old (((hL.alloc _).alloc _).alloc _)
  have Z1 : Zb w _ (w.heap.size + 1) := (Zb.new (w := w) (wr := w.alloc (.cells #[.int .u64 (limb x 0 : Nat), .int .u64 (limb x 1 : Nat), .int .u64 (limb x 2 : Nat), .int .u64 (limb x 3 : Nat)] 24)) (t := 24) (by simp) (by simp)).alloc (.cells #[.int .u64 0, .int .u64 0, .int .u64 0, .int .u64 0] 24)
  have Z2 : Zb w _ (w.heap.size + 1 + 1) := Zb.new (w := w) (wr := (w.alloc (.cells #[.int .u64 (limb x 0 : Nat), .int .u64 (limb x 1 : Nat), .int .u64 (limb x 2 : Nat), .int .u64 (limb x 3 : Nat)] 24)).alloc (.cells #[.int .u64 0, .int .u64 0, .int .u64 0, .int .u64 0] 24)) (t := 24) (by simp) (by simp; omega)
  obtain ⟨⟨a0, a1, a2, a3⟩, a4⟩ := K0.cells L a (by simp)
  obtain ⟨⟨x0, x1, x2, x3⟩, x4⟩ := K0.cells w.heap.size x (by simp)
  have H := Lib.hid (And.intro K0 (And.intro Z1 Z2))
  clear K0 Z1 Z2 hL x4
  go_upto_region 2 with (go_at_call 19; refine (sub_c a x _ Ha.out Hx.out).mono ?_; rintro e w1 ⟨rfl, hb1⟩; rw [← Hy.out]; have k0 := H.out.1.call hb1; have k1 := k0.push (t := 24) y; have z1 := H.out.2.1.below hb1; have z2 := H.out.2.2.below hb1; obtain ⟨⟨b0, b1, b2, b3⟩, b4⟩ := k0.cells w.heap.size x (by simp); obtain ⟨⟨h0, h1, h2, h3⟩, h4⟩ := k1.cells w1.heap.size y (by simp); obtain ⟨f0, f1, f2, f3⟩ := z1.a.frees4; obtain ⟨g0, g1, g2, g3⟩ := z2.a.frees4; obtain ⟨c0, c1, c2, c3⟩ := z1.a.cells4; obtain ⟨d0, d1, d2, d3⟩ := z2.a.cells4; have l1 := (H.out.2.1.below hb1).s; have l2 := (H.out.2.2.below hb1).s; have l0 : w.heap.size < w1.heap.size := (by omega); unfold U)
  go_region
  all_goals
    go_wp2
    refine bodyPost_ret (v := .tuple #[.agg #[.int .u64 (limb x 0 : Nat), .int .u64 (limb x 1 : Nat), .int .u64 (limb x 2 : Nat), .int .u64 (limb x 3 : Nat)], .agg #[.int .u64 (limb y 0 : Nat), .int .u64 (limb y 1 : Nat), .int .u64 (limb y 2 : Nat), .int .u64 (limb y 3 : Nat)], .bool ok]) (by simp [results, Try.results138, go_sem, c0, c1, c2, c3, d0, d1, d2, d3, l1, l2]) rfl ⟨rfl, ?_⟩
    exact below_drewN ((below_set4 (below_set4 k0.l (by omega)) (by omega)).alloc (by simp only [World.size_setCell]; omega) _) 1
end Go.Proofs.Ytcodlbfomfjmfaa
