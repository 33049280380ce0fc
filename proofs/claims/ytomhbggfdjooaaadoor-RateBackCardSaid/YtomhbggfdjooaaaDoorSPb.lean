/- Boxes: old ones, zeroes, those that may be written. -/
import Derived.Test.YtomhbggfdjooaaaDoorR7
import Derived.Test.YtomhbggfdjooaaaDoorBK
import Derived.Test.YtomhbggfdjooaaaDoorU2
namespace Go.Proofs.YtomhbggfdjooaaaDoor
open Go.RowKit Go.Sort

theorem sub_c (a b : Nat) (w : World) (ha : a < 2 ^ 256) (hb : b < 2 ^ 256) : Calls Tryd.prog 38 #[U a, U b] w fun e w' => e = .returned (.tuple #[U (subv a b), .bool (subk a b)]) ∧ Below w.heap.size w w' := sub_walk a b w ha hb
theorem Bk.nil {w : World} : Bk w w [] := ⟨fun p hp => (by cases hp), Below.refl _ _⟩
theorem Bk.old {w wr : World} {l : List (Nat × Nat)} {L n : Nat} (h : Bk w wr l) (hL : Box wr L n) : Bk w wr ((L, n) :: l) :=
  ⟨fun p hp => by
    rcases List.mem_cons.1 hp with rfl | hp
    · exact hL
    · exact h.b p hp, h.l⟩
/-- a box of zeroes that nobody wrote yet -/
structure Zb (w wr : World) (L : Nat) : Prop where
  a : Arr .u64 wr L 4 (fun _ => 0)
  s : L < wr.heap.size
  o : w.heap.size ≤ L
theorem Zb.below {w wr w' : World} {L : Nat} (h : Zb w wr L) (hb : Below wr.heap.size wr w') : Zb w w' L := ⟨h.a.below hb h.s, Nat.lt_of_lt_of_le h.s hb.size, h.o⟩
theorem Zb.alloc {w wr : World} {L : Nat} (h : Zb w wr L) (o : Obj) : Zb w (wr.alloc o) L := ⟨h.a.alloc o, by rw [World.size_alloc]; have := h.s; omega, h.o⟩
theorem Zb.drew {w wr : World} {L : Nat} (h : Zb w wr L) : Zb w wr.drew L := ⟨h.a.drew, h.s, h.o⟩
theorem Zb.new {w wr : World} {L : Nat} {t : TypeId} (h : L = wr.heap.size) (hs : w.heap.size ≤ wr.heap.size) : Zb w (wr.alloc (.cells #[.int .u64 0, .int .u64 0, .int .u64 0, .int .u64 0] t)) L :=
  ⟨Arr.new4 (f := fun _ => 0) h, by rw [World.size_alloc]; omega, by omega⟩



/-- a box that may be written -/
structure Wb (w wr : World) (L : Nat) : Prop where
  a : ∃ f, Arr .u64 wr L 4 f
  s : L < wr.heap.size
  o : w.heap.size ≤ L
theorem Wb.below {w wr w' : World} {L : Nat} (h : Wb w wr L) (hb : Below wr.heap.size wr w') : Wb w w' L := ⟨h.a.elim fun f hf => ⟨f, hf.below hb h.s⟩, Nat.lt_of_lt_of_le h.s hb.size, h.o⟩
theorem Wb.alloc {w wr : World} {L : Nat} (h : Wb w wr L) (o : Obj) : Wb w (wr.alloc o) L := ⟨h.a.elim fun f hf => ⟨f, hf.alloc o⟩, by rw [World.size_alloc]; have := h.s; omega, h.o⟩
theorem Wb.drew {w wr : World} {L : Nat} (h : Wb w wr L) : Wb w wr.drew L := ⟨h.a.elim fun f hf => ⟨f, hf.drew⟩, h.s, h.o⟩
theorem Zb.wb {w wr : World} {L : Nat} (h : Zb w wr L) : Wb w wr L := ⟨⟨_, h.a⟩, h.s, h.o⟩
theorem Wb.put4 {w wr : World} {L L' m : Nat} (h : Wb w wr L) : Wb w ((((wr.setCell ⟨L', 0, none⟩ (.int .u64 (limb m 0 : Nat))).setCell ⟨L', 1, none⟩ (.int .u64 (limb m 1 : Nat))).setCell ⟨L', 2, none⟩ (.int .u64 (limb m 2 : Nat))).setCell ⟨L', 3, none⟩ (.int .u64 (limb m 3 : Nat))) L := by
  refine ⟨?_, by simp only [World.size_setCell]; exact h.s, h.o⟩
  obtain ⟨f, hf⟩ := h.a
  by_cases e : L' = L
  · subst e; exact ⟨_, hf.put4 (n := m)⟩
  · exact ⟨f, hf.put4_far e⟩
theorem Bk.put4 {w wr : World} {l : List (Nat × Nat)} {L : Nat} {x0 x1 x2 x3 : Value} (h : Bk w wr l) (hL : w.heap.size ≤ L) (hn : ∀ p, p ∈ l → L ≠ p.1) : Bk w ((((wr.setCell ⟨L, 0, none⟩ x0).setCell ⟨L, 1, none⟩ x1).setCell ⟨L, 2, none⟩ x2).setCell ⟨L, 3, none⟩ x3) l :=
  ⟨fun p hp => (h.b p hp).putN_far (hn p hp), below_set4 h.l hL⟩

theorem kpA {W w' : World} (h : Below W.heap.size W w') (o : Obj) : Below W.heap.size W (w'.alloc o) := h.alloc h.size o
theorem kpD {W w' : World} (h : Below W.heap.size W w') : Below W.heap.size W w'.drew := below_drewN h 1
theorem kpP {W w' : World} {L : Nat} {x0 x1 x2 x3 : Value} (h : Below W.heap.size W w') (hL : W.heap.size ≤ L) : Below W.heap.size W ((((w'.setCell ⟨L, 0, none⟩ x0).setCell ⟨L, 1, none⟩ x1).setCell ⟨L, 2, none⟩ x2).setCell ⟨L, 3, none⟩ x3) := below_set4 h hL
theorem kpB {W w1 w2 : World} (h : Below W.heap.size W w1) (hb : Below w1.heap.size w1 w2) : Below W.heap.size W w2 := h.trans (hb.mono h.size)
theorem hldW {W w' : World} {B b : Nat} (hc : Arr .u64 W B 4 (limb b)) (h : Below W.heap.size W w') : w'.cell? ⟨B, 0, none⟩ = some (.int .u64 (limb b 0 : Nat)) ∧ w'.cell? ⟨B, 1, none⟩ = some (.int .u64 (limb b 1 : Nat)) ∧ w'.cell? ⟨B, 2, none⟩ = some (.int .u64 (limb b 2 : Nat)) ∧ w'.cell? ⟨B, 3, none⟩ = some (.int .u64 (limb b 3 : Nat)) ∧ Below W.heap.size W w' := by
  obtain ⟨a0, a1, a2, a3⟩ := (hc.below h hc.lt4).cells4
  exact ⟨a0, a1, a2, a3, h⟩
theorem un_hldW {W w' : World} {B b : Nat} (h : w'.cell? ⟨B, 0, none⟩ = some (.int .u64 (limb b 0 : Nat)) ∧ w'.cell? ⟨B, 1, none⟩ = some (.int .u64 (limb b 1 : Nat)) ∧ w'.cell? ⟨B, 2, none⟩ = some (.int .u64 (limb b 2 : Nat)) ∧ w'.cell? ⟨B, 3, none⟩ = some (.int .u64 (limb b 3 : Nat)) ∧ Below W.heap.size W w') : Below W.heap.size W w' := h.2.2.2.2

theorem Bk.push2 {w wr : World} {l : List (Nat × Nat)} {t t' : TypeId} (n m : Nat) (h : Bk w wr l) : Bk w ((wr.alloc (.cells #[.int .u64 (limb n 0 : Nat), .int .u64 (limb n 1 : Nat), .int .u64 (limb n 2 : Nat), .int .u64 (limb n 3 : Nat)] t)).alloc (.cells #[.int .u64 (limb m 0 : Nat), .int .u64 (limb m 1 : Nat), .int .u64 (limb m 2 : Nat), .int .u64 (limb m 3 : Nat)] t')) ((wr.heap.size + 1, m) :: (wr.heap.size, n) :: l) := by
  have h2 := (h.push (t := t) n).push (t := t') m
  rw [World.size_alloc] at h2
  exact h2

end Go.Proofs.YtomhbggfdjooaaaDoor
