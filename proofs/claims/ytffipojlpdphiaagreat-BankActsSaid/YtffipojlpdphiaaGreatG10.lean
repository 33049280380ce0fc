/- strings.Builder: copyCheck, WriteString, walked. -/
import Derived.Test.YtffipojlpdphiaaGreatG08
import Derived.Test.YtffipojlpdphiaaGreatG03
import Derived.Shelf.Strings.Builder1
import Derived.Deep.RegionHeld3
import Derived.StillTailTactics
namespace Go.Proofs.YtffipojlpdphiaaGreat
open Go.RowKit Go.Maps

theorem bldByte : (Tryz.prog.info? 5).map (fun i => (i.zero, i.size, i.bytes)) = some (some (.int .u8 0), 1, 1) := by kernel_rfl
end Go.Proofs.YtffipojlpdphiaaGreat

namespace Go.Proofs.YtffipojlpdphiaaGreat
open Go.RowKit Go.Maps

/-- the value of a row -/
def rowV (f : Nat → Int) (n : Nat) : ByteArray := ⟨(u8l (tl f 0 n)).toArray⟩
theorem tl_len (f : Nat → Int) (r : Nat) : ∀ d, (tl f r d).length = 8 * d
  | 0 => rfl
  | d + 1 => by rw [tl_snoc, List.length_append, tl_len f r d]; simp [kb8]; omega
theorem u8l_len (l : List Nat) : (u8l l).length = l.length := by simp [u8l]
theorem rowV_size (f : Nat → Int) (n : Nat) : (rowV f n).size = 8 * n := by
  show (u8l (tl f 0 n)).toArray.size = 8 * n
  rw [List.size_toArray, u8l_len, tl_len]
theorem rowV_ne {f : Nat → Int} {n : Nat} (h : 1 ≤ n) : rowV f n ≠ ⟨#[]⟩ := by
  intro e
  have := rowV_size f n
  rw [e] at this
  have h0 : (⟨#[]⟩ : ByteArray).size = 0 := rfl
  omega
theorem numStr_cells {x : Int} (h : 0 ≤ x) : Lib.strCells (numStr x) = Lib.byteCells (u8l (kb8 x.toNat)) := by
  rw [Lib.strCells_eq]
  congr 1
  unfold numStr
  rw [Int.max_eq_left h, ← Lib.toList_data]
  exact strOfNums_u8l _
theorem byteCells_app (a b : List UInt8) : Lib.byteCells a ++ Lib.byteCells b = Lib.byteCells (a ++ b) := by simp [Lib.byteCells]
end Go.Proofs.YtffipojlpdphiaaGreat

namespace Go.Proofs.YtffipojlpdphiaaGreat
open Go.RowKit Go.Maps

/-- delay's values -/
def dval (h : Bool) (n x a : Int) (m : Bool) : Value := .agg #[.bool h, .int .i64 n, .int .i64 x, .int .i64 a, .bool m]
end Go.Proofs.YtffipojlpdphiaaGreat
