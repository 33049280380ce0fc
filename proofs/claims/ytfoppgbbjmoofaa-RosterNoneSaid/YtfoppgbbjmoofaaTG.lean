/- delay on a live store: a value's row, put, Get, Set of the document's example; lives of layer 28. -/
import Derived.Test.YtfoppgbbjmoofaaTE
namespace Go.Proofs.Ytfoppgbbjmoofaa
open Go.RowKit Go.Maps

/-- the numbers of a value's row -/
def rowF (h : Bool) (n x a : Int) (m : Bool) : Nat → Int
  | 0 => if h then 1 else 0
  | 1 => n
  | 2 => if m then 1 else 0
  | 3 => x
  | _ => a
theorem rowF_nonneg {h : Bool} {n x a : Int} {m : Bool} (hn : 0 ≤ n) (hx : 0 ≤ x) (ha : 0 ≤ a) : ∀ i, i < 5 → 0 ≤ rowF h n x a m i := by
  intro i hi
  rcases (by omega : i = 0 ∨ i = 1 ∨ i = 2 ∨ i = 3 ∨ i = 4) with rfl | rfl | rfl | rfl | rfl
  · show (0 : Int) ≤ if h then 1 else 0
    split <;> decide
  · exact hn
  · show (0 : Int) ≤ if m then 1 else 0
    split <;> decide
  · exact hx
  · exact ha
/-- the example's key -/
def K25 : ByteArray := ⟨#[25, 0, 0, 0, 0, 0, 0, 0, 7]⟩
theorem key25 : keyStr 25 (fun _ => 7) 1 = K25 := by decide +kernel
/-- the example's value, and its row -/
def V25 : Value := dval false 0 5 13 true
abbrev f25 : Nat → Int := rowF false 0 5 13 true
end Go.Proofs.Ytfoppgbbjmoofaa
