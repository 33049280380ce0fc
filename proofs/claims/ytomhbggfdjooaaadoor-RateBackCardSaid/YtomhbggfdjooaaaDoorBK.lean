/- Numbers in boxes, any many of them; u256.Min, walked. -/
import Derived.Test.YtomhbggfdjooaaaDoorBase
namespace Go.Proofs.YtomhbggfdjooaaaDoor
open Go.RowKit Go.Sort

/-- in wr lie boxes with these numbers, and what was there in w is as it was -/
structure Bk (w wr : World) (l : List (Nat × Nat)) : Prop where
  b : ∀ p, p ∈ l → Box wr p.1 p.2
  l : Below w.heap.size w wr
theorem Bk.call {w wr w' : World} {l : List (Nat × Nat)} (h : Bk w wr l) (hb : Below wr.heap.size wr w') : Bk w w' l := ⟨fun p hp => (h.b p hp).below hb, h.l.trans (hb.mono h.l.size)⟩
theorem Bk.push {w wr : World} {l : List (Nat × Nat)} {t : TypeId} (n : Nat) (h : Bk w wr l) : Bk w (wr.alloc (.cells #[.int .u64 (limb n 0 : Nat), .int .u64 (limb n 1 : Nat), .int .u64 (limb n 2 : Nat), .int .u64 (limb n 3 : Nat)] t)) ((wr.heap.size, n) :: l) := by
  refine ⟨fun p hp => ?_, h.l.alloc h.l.size _⟩
  rcases List.mem_cons.1 hp with rfl | hp
  · exact Box.new rfl
  · exact (h.b p hp).alloc _
theorem Bk.alloc {w wr : World} {l : List (Nat × Nat)} (h : Bk w wr l) (o : Obj) : Bk w (wr.alloc o) l := ⟨fun p hp => (h.b p hp).alloc o, h.l.alloc h.l.size _⟩
theorem Bk.cells {w wr : World} {l : List (Nat × Nat)} (h : Bk w wr l) (L n : Nat) (hm : (L, n) ∈ l) :
    (wr.cell? ⟨L, 0, none⟩ = some (.int .u64 (limb n 0 : Nat)) ∧ wr.cell? ⟨L, 1, none⟩ = some (.int .u64 (limb n 1 : Nat)) ∧ wr.cell? ⟨L, 2, none⟩ = some (.int .u64 (limb n 2 : Nat)) ∧ wr.cell? ⟨L, 3, none⟩ = some (.int .u64 (limb n 3 : Nat))) ∧ L < wr.heap.size :=
  ⟨(h.b _ hm).a.cells4, (h.b _ hm).s⟩
theorem Bk.two {a b : Nat} {w : World} {t1 t2 : TypeId} :
    Bk w ((w.alloc (.cells #[.int .u64 (limb a 0 : Nat), .int .u64 (limb a 1 : Nat), .int .u64 (limb a 2 : Nat), .int .u64 (limb a 3 : Nat)] t1)).alloc (.cells #[.int .u64 (limb b 0 : Nat), .int .u64 (limb b 1 : Nat), .int .u64 (limb b 2 : Nat), .int .u64 (limb b 3 : Nat)] t2)) [(w.heap.size + 1, b), (w.heap.size, a)] := by
  have h := (Bk.push (t := t2) b (Bk.push (t := t1) a (⟨fun p hp => (by cases hp), Below.refl _ _⟩ : Bk w w [])))
  rw [World.size_alloc] at h
  exact h
theorem Bk.three {a b c : Nat} {w : World} {t1 t2 t3 : TypeId} :
    Bk w (((w.alloc (.cells #[.int .u64 (limb a 0 : Nat), .int .u64 (limb a 1 : Nat), .int .u64 (limb a 2 : Nat), .int .u64 (limb a 3 : Nat)] t1)).alloc (.cells #[.int .u64 (limb b 0 : Nat), .int .u64 (limb b 1 : Nat), .int .u64 (limb b 2 : Nat), .int .u64 (limb b 3 : Nat)] t2)).alloc (.cells #[.int .u64 (limb c 0 : Nat), .int .u64 (limb c 1 : Nat), .int .u64 (limb c 2 : Nat), .int .u64 (limb c 3 : Nat)] t3)) [(w.heap.size + 1 + 1, c), (w.heap.size + 1, b), (w.heap.size, a)] := by
  have h := Bk.push (t := t3) c (Bk.two (a := a) (b := b) (w := w) (t1 := t1) (t2 := t2))
  rw [World.size_alloc, World.size_alloc] at h
  exact h
theorem Box.putN_far {w : World} {L L' n : Nat} {x0 x1 x2 x3 : Value} (h : Box w L n) (hL : L' ≠ L) : Box ((((w.setCell ⟨L', 0, none⟩ x0).setCell ⟨L', 1, none⟩ x1).setCell ⟨L', 2, none⟩ x2).setCell ⟨L', 3, none⟩ x3) L n :=
  ⟨h.a.put4_far hL, by simp only [World.size_setCell]; exact h.s⟩
theorem Box.putN {w : World} {L n m : Nat} (h : Box w L n) :
    Box ((((w.setCell ⟨L, 0, none⟩ (.int .u64 (limb m 0 : Nat))).setCell ⟨L, 1, none⟩ (.int .u64 (limb m 1 : Nat))).setCell ⟨L, 2, none⟩ (.int .u64 (limb m 2 : Nat))).setCell ⟨L, 3, none⟩ (.int .u64 (limb m 3 : Nat))) L m :=
  ⟨h.a.put4, by simp only [World.size_setCell]; exact h.s⟩
def minv (a b : Nat) : Nat := if 0 < cmpU a b then b else a
theorem minv_lt {a b : Nat} (ha : a < 2 ^ 256) (hb : b < 2 ^ 256) : minv a b < 2 ^ 256 := by unfold minv; split; exact hb; exact ha
end Go.Proofs.YtomhbggfdjooaaaDoor
