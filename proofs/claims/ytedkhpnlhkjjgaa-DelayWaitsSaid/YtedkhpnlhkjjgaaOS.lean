/- Rows of k cells that a slice of structs leads to. -/
import Derived.Test.YtedkhpnlhkjjgaaKit
import Derived.Deep.Slices
namespace Go.Proofs.Ytedkhpnlhkjjgaa
open Go.RowKit

/-- N rows of k cells at A: row i holds V i -/
def RowsV (W : World) (A : Option Addr) (N k : Nat) (V : Nat → List Value) : Prop :=
  0 < N → ∃ g o, A = some ⟨g, o, none⟩ ∧ g < W.heap.size ∧ ∀ i, i < N → ∀ j u, (V i)[j]? = some u → W.cell? ⟨g, o + i * k + j, none⟩ = some u
theorem RowsV.nil (W : World) (A : Option Addr) (k : Nat) (V : Nat → List Value) : RowsV W A 0 k V := fun h => absurd h (by omega)
theorem RowsV.below {W W' : World} {A : Option Addr} {N k : Nat} {V : Nat → List Value} (h : RowsV W A N k V) (hb : Below W.heap.size W W') : RowsV W' A N k V := fun hN => by
  obtain ⟨g, o, e, hg, hc⟩ := h hN
  refine ⟨g, o, e, Nat.lt_of_lt_of_le hg hb.size, fun i hi j u hu => ?_⟩
  exact (hb.cell (p := ⟨g, o + i * k + j, none⟩) hg).trans (hc i hi j u hu)
theorem RowsV.of_cells {W : World} {a : Addr} {N k : Nat} {V : Nat → List Value} (hk : 0 < k) (h : ∀ i, i < N → W.cells? 0 (a.add (i * k)) k = some (V i)) : RowsV W (some a) N k V := fun hN => by
  have hat : ∀ i, i < N → ∀ j u, (V i)[j]? = some u → W.cell? (a.add (i * k + j)) = some u := fun i hi j u hu => by
    obtain ⟨_, hl, hc⟩ := World.cells?_some (h i hi)
    have hj : j < k := by
      rw [← hl]
      rcases Nat.lt_or_ge j (V i).length with h | h
      · exact h
      · rw [List.getElem?_eq_none h] at hu; cases hu
    have := hc j hj
    rw [Go.Deep.add_add] at this
    rw [this, hu]
  obtain ⟨_, hl, _⟩ := World.cells?_some (h 0 hN)
  obtain ⟨u, hu⟩ : ∃ u, (V 0)[0]? = some u := ⟨(V 0)[0]'(by omega), by rw [List.getElem?_eq_getElem]⟩
  have h0 := hat 0 hN 0 u hu
  have hlt := World.block_lt_of_cell? W _ h0
  obtain ⟨g, o, sp⟩ := a
  have hspot : sp = none := by simpa [Addr.add] using World.cell?_spot h0
  subst hspot
  refine ⟨g, o, rfl, by simpa [Addr.add] using hlt, fun i hi j u hu => ?_⟩
  have := hat i hi j u hu
  rw [show (⟨g, o, none⟩ : Addr).add (i * k + j) = ⟨g, o + (i * k + j), none⟩ from by
    generalize i * k + j = z
    cases z <;> simp [Addr.add], ← Nat.add_assoc] at this
  exact this
end Go.Proofs.Ytedkhpnlhkjjgaa
