/- cell.SetRow of a row without a number below 0, and cell.Row, on a live store, walked. -/
import Derived.Test.YtamhlpjiiplmgaaDoorG11
import Derived.Test.YtamhlpjiiplmgaaDoorG03
import Derived.Deep.RegionHeld3
import Derived.StillTailTactics
namespace Go.Proofs.YtamhlpjiiplmgaaDoor
open Go.RowKit Go.Maps

/-- the value of a row -/
def rowV (f : Nat → Int) (n : Nat) : ByteArray := ⟨(u8l (tl f 0 n)).toArray⟩
theorem tl_len (f : Nat → Int) (r : Nat) : ∀ d, (tl f r d).length = 8 * d
  | 0 => rfl
  | d + 1 => by rw [tl_snoc, List.length_append, tl_len f r d]; simp [kb8]; omega
theorem u8l_len (l : List Nat) : (u8l l).length = l.length := by simp [u8l]
theorem rowV_size (f : Nat → Int) (n : Nat) : (rowV f n).size = 8 * n := by
  show (u8l (tl f 0 n)).toArray.size = 8 * n
  rw [List.size_toArray, u8l_len, tl_len]
theorem rowV_ne {f : Nat → Int} {n : Nat} (h : 1 ≤ n) : rowV f n ≠ ⟨#[]⟩ := by
  intro e
  have := rowV_size f n
  rw [e] at this
  have h0 : (⟨#[]⟩ : ByteArray).size = 0 := rfl
  omega
theorem numStr_cells {x : Int} (h : 0 ≤ x) : Lib.strCells (numStr x) = Lib.byteCells (u8l (kb8 x.toNat)) := by
  rw [Lib.strCells_eq]
  congr 1
  unfold numStr
  rw [Int.max_eq_left h, ← Lib.toList_data]
  exact strOfNums_u8l _
theorem byteCells_app (a b : List UInt8) : Lib.byteCells a ++ Lib.byteCells b = Lib.byteCells (a ++ b) := by simp [Lib.byteCells]
end Go.Proofs.YtamhlpjiiplmgaaDoor

namespace Go.Proofs.YtamhlpjiiplmgaaDoor
open Go.RowKit Go.Maps

theorem nums_row {f : Nat → Int} {n : Nat} (w : World) (hn : n ≤ 100) (hf : ∀ i, i < n → 0 ≤ f i ∧ f i < 2 ^ 63) : Calls Tryd.prog 40 #[.string (rowV f n)] w fun e w' => e = .returned (.tuple #[.slice (some ⟨w.heap.size, 0, none⟩) n n, .bool true]) ∧ (∀ i, i < n → w'.cell? ⟨w.heap.size, i, none⟩ = some (.int .i64 (f i))) ∧ (1 ≤ n → w.heap.size < w'.heap.size) ∧ Below w.heap.size w w' := by
  have hch : ∀ i, i < n → chunk (rowV f n) i = (f i).toNat := fun i hi => chunk_tl (f := f) (n := n) rfl hi (hf i hi).2
  refine (nums_walk (rowV f n) n w (by rw [rowV_size]) hn).mono ?_
  rintro e w' ⟨⟨_, he, hr⟩ | ⟨⟨i, hi, hne⟩, _⟩, hb⟩
  · refine ⟨he, fun i hi => ?_, fun _ => (hr.lt w.heap.size rfl).2, hb⟩
    rw [hr.cellAt i (by omega)]
    have h0 := (hf i hi).1
    have e1 : (((f i).toNat : Nat) : Int) = f i := by omega
    simp [i64n, hi, hch i hi, e1]
  · have := (hf i hi).2
    rw [hch i hi] at hne
    omega
/-- delay's values -/
def dval (h : Bool) (n x a : Int) (m : Bool) : Value := .agg #[.bool h, .int .i64 n, .int .i64 x, .int .i64 a, .bool m]
end Go.Proofs.YtamhlpjiiplmgaaDoor

namespace Go.Proofs.YtamhlpjiiplmgaaDoor
open Go.RowKit Go.Maps

/-- the numbers of a value's row -/
def rowF (h : Bool) (n x a : Int) (m : Bool) : Nat → Int
  | 0 => if h then 1 else 0
  | 1 => n
  | 2 => if m then 1 else 0
  | 3 => x
  | _ => a
theorem rowF_nonneg {h : Bool} {n x a : Int} {m : Bool} (hn : 0 ≤ n) (hx : 0 ≤ x) (ha : 0 ≤ a) : ∀ i, i < 5 → 0 ≤ rowF h n x a m i := by
  intro i hi
  rcases (by omega : i = 0 ∨ i = 1 ∨ i = 2 ∨ i = 3 ∨ i = 4) with rfl | rfl | rfl | rfl | rfl
  · show (0 : Int) ≤ if h then 1 else 0
    split <;> decide
  · exact hn
  · show (0 : Int) ≤ if m then 1 else 0
    split <;> decide
  · exact hx
  · exact ha
/-- the example's key -/
def K25 : ByteArray := ⟨#[25, 0, 0, 0, 0, 0, 0, 0, 7]⟩
theorem key25 : keyStr 25 (fun _ => 7) 1 = K25 := by decide +kernel
/-- the example's value, and its row -/
def V25 : Value := dval false 0 5 13 true
abbrev f25 : Nat → Int := rowF false 0 5 13 true
end Go.Proofs.YtamhlpjiiplmgaaDoor
