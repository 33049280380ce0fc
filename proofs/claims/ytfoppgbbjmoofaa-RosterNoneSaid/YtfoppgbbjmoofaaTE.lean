/- delay: Settle, Of, a value's row; Get and Set on a live store, walked. -/
import Derived.Test.YtfoppgbbjmoofaaTD
import Derived.Deep.RegionHeld3
import Derived.StillTailTactics
namespace Go.Proofs.Ytfoppgbbjmoofaa
open Go.RowKit Go.Maps

theorem nums_row {f : Nat → Int} {n : Nat} (w : World) (hn : n ≤ 100) (hf : ∀ i, i < n → 0 ≤ f i ∧ f i < 2 ^ 63) : Calls Try.prog 88 #[.string (rowV f n)] w fun e w' => e = .returned (.tuple #[.slice (some ⟨w.heap.size, 0, none⟩) n n, .bool true]) ∧ (∀ i, i < n → w'.cell? ⟨w.heap.size, i, none⟩ = some (.int .i64 (f i))) ∧ (1 ≤ n → w.heap.size < w'.heap.size) ∧ Below w.heap.size w w' := by
  have hch : ∀ i, i < n → chunk (rowV f n) i = (f i).toNat := fun i hi => chunk_tl (f := f) (n := n) rfl hi (hf i hi).2
  refine (nums_walk (rowV f n) n w (by rw [rowV_size]) hn).mono ?_
  rintro e w' ⟨⟨_, he, hr⟩ | ⟨⟨i, hi, hne⟩, _⟩, hb⟩
  · refine ⟨he, fun i hi => ?_, fun _ => (hr.lt w.heap.size rfl).2, hb⟩
    rw [hr.cellAt i (by omega)]
    have h0 := (hf i hi).1
    have e1 : (((f i).toNat : Nat) : Int) = f i := by omega
    simp [i64n, hi, hch i hi, e1]
  · have := (hf i hi).2
    rw [hch i hi] at hne
    omega
/-- delay's values -/
def dval (h : Bool) (n x a : Int) (m : Bool) : Value := .agg #[.bool h, .int .i64 n, .int .i64 x, .int .i64 a, .bool m]
end Go.Proofs.Ytfoppgbbjmoofaa
