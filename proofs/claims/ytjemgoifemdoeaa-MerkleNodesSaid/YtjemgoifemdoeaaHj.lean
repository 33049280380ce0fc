/- Rows of 32-bit words written one by one; the hash behind so many blocks; the text's end. No program. -/
import Derived.Test.YtjemgoifemdoeaaHg
import Derived.Test.YtjemgoifemdoeaaOa
namespace Go.Proofs.Ytjemgoifemdoeaa
open Go.RowKit

theorem and_lt32 {a b : Nat} (_ : a < 2 ^ 32) (hb : b < 2 ^ 32) : a &&& b < 2 ^ 32 := Nat.and_lt_two_pow a hb
theorem not32 {a : Nat} (h : a < 2 ^ 32) : bits .xor .u32 (if IntKind.u32.signed = true then -1 else IntKind.u32.max) (a : Int) = ((4294967295 - a : Nat) : Int) := by
  have e : (if IntKind.u32.signed = true then -1 else IntKind.u32.max) = ((4294967295 : Nat) : Int) := by decide
  rw [e, bits_xor32 (by decide) h]
  congr 1
  have k := congrArg BitVec.toNat (BitVec.not_def (x := BitVec.ofNat 32 a))
  rw [BitVec.toNat_not, BitVec.toNat_xor, BitVec.toNat_ofNat, BitVec.toNat_allOnes, Nat.mod_eq_of_lt h] at k
  exact k.symm
structure St.ok (s : St) : Prop where
  a : s.a < 2 ^ 32
  b : s.b < 2 ^ 32
  c : s.c < 2 ^ 32
  d : s.d < 2 ^ 32
  e : s.e < 2 ^ 32
  f : s.f < 2 ^ 32
  g : s.g < 2 ^ 32
  h : s.h < 2 ^ 32
theorem rnds_ok (K : Nat → Nat) (l : List Nat) {s : St} (h : s.ok) : ∀ n, (rnds K l s n).ok
  | 0 => h
  | n + 1 => by
    have k := rnds_ok K l h n
    exact ⟨Nat.mod_lt _ (by decide), k.a, k.b, k.c, Nat.mod_lt _ (by decide), k.e, k.f, k.g⟩
theorem St.ok.at {s : St} (h : s.ok) (i : Nat) : s.at i < 2 ^ 32 := by
  unfold St.at
  split
  · exact h.a
  · exact h.b
  · exact h.c
  · exact h.d
  · exact h.e
  · exact h.f
  · exact h.g
  · exact h.h
  · decide
/-- nothing but the row sp was changed -/
structure Only (sp : Nat) (w w' : World) : Prop where
  os : w'.os = w.os
  tape : w'.tape = w.tape
  output : w'.output = w.output
  size : w.heap.size ≤ w'.heap.size
  row : ∀ k, k < w.heap.size → k ≠ sp → w'.heap[k]? = w.heap[k]?
theorem Only.refl (sp : Nat) (w : World) : Only sp w w := ⟨rfl, rfl, rfl, Nat.le_refl _, fun _ _ _ => rfl⟩
theorem Only.of_below {sp : Nat} {w w' : World} (h : Below w.heap.size w w') : Only sp w w' := ⟨h.os, h.tape, h.output, h.size, fun k hk _ => h.block k hk⟩
theorem Only.trans {sp : Nat} {w w' w'' : World} (h : Only sp w w') (h' : Only sp w' w'') : Only sp w w'' :=
  ⟨h'.os.trans h.os, h'.tape.trans h.tape, h'.output.trans h.output, Nat.le_trans h.size h'.size, fun k hk hn => (h'.row k (Nat.lt_of_lt_of_le hk h.size) hn).trans (h.row k hk hn)⟩
theorem Only.below {sp B : Nat} {w0 w w' : World} (h : Only sp w w') (hb : Below B w0 w) (hs : B ≤ sp) (hB : B ≤ w0.heap.size) : Below B w0 w' :=
  hb.trans ⟨h.os, h.tape, h.output, h.size, fun k hk => h.row k (Nat.lt_of_lt_of_le hk (Nat.le_trans hB hb.size)) (by omega)⟩
theorem Only.drewN {sp : Nat} {w w' : World} (h : Only sp w w') (n : Nat) : Only sp w (w'.drewN n) := ⟨h.os, h.tape, h.output, h.size, h.row⟩
theorem Only.setCell {sp i : Nat} {w w' : World} (h : Only sp w w') (v : Value) : Only sp w (w'.setCell ⟨sp, i, none⟩ v) :=
  ⟨h.os, h.tape, h.output, by simpa [World.setCell] using h.size, fun k hk hn => (row_far hn).trans (h.row k hk hn)⟩
theorem Only.setRow {sp : Nat} {w w' : World} (h : Only sp w w') (cs : Array Value) : Only sp w (w'.setRow sp cs) :=
  ⟨h.os, h.tape, h.output, by simpa using h.size, fun k hk hn => (setRow_other _ _ _ _ hn).trans (h.row k hk hn)⟩
/-- the first j words from o on are written -/
def putN (cs : Array Value) (o : Nat) (G : Nat → Nat) : Nat → Array Value
  | 0 => cs
  | j + 1 => (putN cs o G j).setIfInBounds (o + j) (.int .u32 (G j : Nat))
theorem putN_get (cs : Array Value) (o : Nat) (G : Nat → Nat) {i : Nat} : ∀ {j : Nat}, o + j ≤ i → (putN cs o G j)[i]? = cs[i]?
  | 0, _ => rfl
  | j + 1, h => by
    show ((putN cs o G j).setIfInBounds (o + j) _)[i]? = _
    rw [Array.getElem?_setIfInBounds, if_neg (by omega)]
    exact putN_get cs o G (by omega)
/-- a state's cells -/
def stCells (b : Value) (h : Nat → Nat) (rest : List Value) : List Value := b :: (vals .u32 h 8 ++ rest)
theorem stCells_get (b : Value) (h : Nat → Nat) (rest : List Value) {i : Nat} (hi : i < 8) : (stCells b h rest).toArray[1 + i]? = some (.int .u32 (h i : Nat)) := by
  rw [List.getElem?_toArray, Nat.add_comm]
  show (vals .u32 h 8 ++ rest)[i]? = _
  rw [List.getElem?_append_left (by rw [vals_length]; exact hi)]
  exact vals_get _ _ hi
theorem putN_st (b : Value) (h G : Nat → Nat) (rest : List Value) : putN (stCells b h rest).toArray 1 G 8 = (stCells b G rest).toArray := by
  unfold stCells
  show putN (b :: .int .u32 (h 0 : Nat) :: .int .u32 (h 1 : Nat) :: .int .u32 (h 2 : Nat) :: .int .u32 (h 3 : Nat) :: .int .u32 (h 4 : Nat) :: .int .u32 (h 5 : Nat) :: .int .u32 (h 6 : Nat) :: .int .u32 (h 7 : Nat) :: rest).toArray 1 G 8 =
    (b :: .int .u32 (G 0 : Nat) :: .int .u32 (G 1 : Nat) :: .int .u32 (G 2 : Nat) :: .int .u32 (G 3 : Nat) :: .int .u32 (G 4 : Nat) :: .int .u32 (G 5 : Nat) :: .int .u32 (G 6 : Nat) :: .int .u32 (G 7 : Nat) :: rest).toArray
  simp only [putN, List.setIfInBounds_toArray, List.set_cons_zero, List.set_cons_succ, Nat.reduceAdd]
theorem mix_lt (K f h : Nat → Nat) (i : Nat) : mix K f h i < 2 ^ 32 := Nat.mod_lt _ (by decide)
end Go.Proofs.Ytjemgoifemdoeaa
