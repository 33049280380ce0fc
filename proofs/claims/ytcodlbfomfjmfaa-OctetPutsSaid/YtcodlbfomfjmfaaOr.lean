/- A source that Read made, and the document's: where they lie, and what a call on one leaves as it was. -/
import Derived.Test.YtcodlbfomfjmfaaOo
import Derived.Test.YtcodlbfomfjmfaaOp
namespace Go.Proofs.Ytcodlbfomfjmfaa
open Go.RowKit

/-- all below B but the block p is as it was -/
structure But (B p : Nat) (w w' : World) : Prop where
  os : w'.os = w.os
  tape : w'.tape = w.tape
  output : w'.output = w.output
  size : w.heap.size ≤ w'.heap.size
  block : ∀ k, k < B → k ≠ p → w'.heap[k]? = w.heap[k]?
theorem But.refl (B p : Nat) (w : World) : But B p w w := ⟨rfl, rfl, rfl, Nat.le_refl _, fun _ _ _ => rfl⟩
theorem But.trans {B p : Nat} {a b c : World} (h : But B p a b) (k : But B p b c) : But B p a c :=
  ⟨k.os.trans h.os, k.tape.trans h.tape, k.output.trans h.output, Nat.le_trans h.size k.size, fun i hi hp => (k.block i hi hp).trans (h.block i hi hp)⟩
theorem But.mono {B B' p : Nat} {w w' : World} (h : But B p w w') (hB : B' ≤ B) : But B' p w w' :=
  ⟨h.os, h.tape, h.output, h.size, fun k hk hp => h.block k (Nat.lt_of_lt_of_le hk hB) hp⟩
theorem But.of_below {B p : Nat} {w w' : World} (h : Below B w w') : But B p w w' :=
  ⟨h.os, h.tape, h.output, h.size, fun k hk _ => h.block k hk⟩
theorem But.below {B C p : Nat} {w w' : World} (h : But B p w w') (hp : C ≤ p) (hB : C ≤ B) : Below C w w' :=
  ⟨h.os, h.tape, h.output, h.size, fun k hk => h.block k (by omega) (by omega)⟩
theorem But.set {B p : Nat} {a w : World} (h : But B p a w) (i : Nat) (u : Value) : But B p a (w.setCell ⟨p, i, none⟩ u) :=
  h.trans ⟨rfl, rfl, rfl, by simp [World.setCell], fun k _ hp => Below.heap_setCell _ _ _ _ hp⟩
theorem But.cell {B p : Nat} {w w' : World} (h : But B p w w') {b o : Nat} (hb : b < B) (hn : b ≠ p) : w'.cell? ⟨b, o, none⟩ = w.cell? ⟨b, o, none⟩ :=
  World.cell?_of_block (w := w) (h.block b hb hn)
theorem heap_lt {w : World} {p : Nat} {o : Obj} (h : w.heap[p]? = some o) : p < w.heap.size := (Array.getElem?_eq_some_iff.1 h).1
theorem heap_set {w : World} {p i : Nat} {cs : Array Value} {t : TypeId} {fr : Nat × Nat} {v : Value} (h : w.heap[p]? = some (.cells cs t fr)) :
    (w.setCell ⟨p, i, none⟩ v).heap[p]? = some (.cells (cs.setIfInBounds i v) t fr) := by
  simp [World.setCell, Array.getElem?_modify, h]
theorem cell_in {w : World} {p i : Nat} {cs : Array Value} {t : TypeId} {fr : Nat × Nat} (h : w.heap[p]? = some (.cells cs t fr)) : w.cell? ⟨p, i, none⟩ = cs[i]? := by
  simp [World.cell?, h]
theorem free_in {w : World} {p i : Nat} {cs : Array Value} {t : TypeId} (h : w.heap[p]? = some (.cells cs t (0, 0))) : w.frozen? ⟨p, i, none⟩ = false := by
  simp [World.frozen?, h]
theorem Sl.but {w w' : World} {A : Option Addr} {n p : Nat} {f : Nat → Nat} (h : Sl w A n f) (hb : But w.heap.size p w w') (ha : ∀ a, A = some a → a.block ≠ p) : Sl w' A n f := by
  refine ⟨h.small, fun hn => ?_⟩
  obtain ⟨g, o, e, hg, hc⟩ := h.at_ hn
  refine ⟨g, o, e, Nat.lt_of_lt_of_le hg hb.size, fun i hi => ?_⟩
  rw [hb.cell hg (ha _ e)]
  exact hc i hi
/-- the source at p, of the bytes f, at the k-th, with the error e -/
structure Src (w : World) (p : Nat) (A : Option Addr) (n c : Nat) (f : Nat → Nat) (k e : Nat) : Prop where
  heap : w.heap[p]? = some (.cells #[.bool true, .slice A n c, .int .i64 (k : Nat), .int .i64 (e : Nat)] 72 (0, 0))
  sl : Sl w A n f
  le : k ≤ n
  cap : n ≤ c
  most : n ≤ 2 ^ 20
  nil : A = none → n = 0 ∧ c = 0
  apart : ∀ a, A = some a → a.block ≠ p
theorem Src.lt {w : World} {p : Nat} {A : Option Addr} {n c : Nat} {f : Nat → Nat} {k e : Nat} (h : Src w p A n c f k e) : p < w.heap.size := heap_lt h.heap
theorem Src.but {w w' : World} {p q : Nat} {A : Option Addr} {n c : Nat} {f : Nat → Nat} {k e : Nat} (h : Src w p A n c f k e) (hb : But w.heap.size q w w') (hq : p ≠ q) (ha : ∀ a, A = some a → a.block ≠ q) : Src w' p A n c f k e :=
  ⟨by rw [hb.block p h.lt hq]; exact h.heap, h.sl.but hb ha, h.le, h.cap, h.most, h.nil, h.apart⟩
theorem Src.below {w w' : World} {p : Nat} {A : Option Addr} {n c : Nat} {f : Nat → Nat} {k e : Nat} (h : Src w p A n c f k e) (hb : Below w.heap.size w w') : Src w' p A n c f k e :=
  ⟨by rw [hb.block p h.lt]; exact h.heap, h.sl.below hb, h.le, h.cap, h.most, h.nil, h.apart⟩
theorem Src.setAt {w : World} {p : Nat} {A : Option Addr} {n c : Nat} {f : Nat → Nat} {k e : Nat} (h : Src w p A n c f k e) (k' : Nat) (hk : k' ≤ n) : Src (w.setCell ⟨p, 2, none⟩ (.int .i64 (k' : Nat))) p A n c f k' e :=
  ⟨heap_set h.heap, h.sl.but ((But.refl _ _ _).set _ _) h.apart, hk, h.cap, h.most, h.nil, h.apart⟩
theorem Src.setErr {w : World} {p : Nat} {A : Option Addr} {n c : Nat} {f : Nat → Nat} {k e : Nat} (h : Src w p A n c f k e) (e' : Nat) : Src (w.setCell ⟨p, 3, none⟩ (.int .i64 (e' : Nat))) p A n c f k e' :=
  ⟨heap_set h.heap, h.sl.but ((But.refl _ _ _).set _ _) h.apart, h.le, h.cap, h.most, h.nil, h.apart⟩
theorem Src.c0 {w : World} {p : Nat} {A : Option Addr} {n c : Nat} {f : Nat → Nat} {k e : Nat} (h : Src w p A n c f k e) : w.cell? ⟨p, 0, none⟩ = some (.bool true) := cell_in h.heap
theorem Src.c1 {w : World} {p : Nat} {A : Option Addr} {n c : Nat} {f : Nat → Nat} {k e : Nat} (h : Src w p A n c f k e) : w.cell? ⟨p, 1, none⟩ = some (.slice A n c) := cell_in h.heap
theorem Src.c2 {w : World} {p : Nat} {A : Option Addr} {n c : Nat} {f : Nat → Nat} {k e : Nat} (h : Src w p A n c f k e) : w.cell? ⟨p, 2, none⟩ = some (.int .i64 (k : Nat)) := cell_in h.heap
theorem Src.c3 {w : World} {p : Nat} {A : Option Addr} {n c : Nat} {f : Nat → Nat} {k e : Nat} (h : Src w p A n c f k e) : w.cell? ⟨p, 3, none⟩ = some (.int .i64 (e : Nat)) := cell_in h.heap
theorem Src.fr {w : World} {p : Nat} {A : Option Addr} {n c : Nat} {f : Nat → Nat} {k e : Nat} (h : Src w p A n c f k e) (i : Nat) : w.frozen? ⟨p, i, none⟩ = false := free_in h.heap
theorem Sl.part {w : World} {b o n c : Nat} {f : Nat → Nat} (h : Sl w (some ⟨b, o, none⟩) n f) (k m : Nat) (hk : k + m ≤ n) : Sl w (some ⟨b, o + k, none⟩) m (fun i => f (k + i)) := by
  refine ⟨fun i => h.small _, fun hm => ?_⟩
  obtain ⟨g, o', e, hg, hc⟩ := h.at_ (by omega)
  cases e
  refine ⟨b, o + k, rfl, hg, fun i hi => ?_⟩
  rw [Nat.add_assoc]; exact hc (k + i) (by omega)
end Go.Proofs.Ytcodlbfomfjmfaa
