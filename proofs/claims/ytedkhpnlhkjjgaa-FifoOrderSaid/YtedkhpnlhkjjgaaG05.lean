/-
  DERIVED: THE SHELF's CONTRACTS AT THIS DUMP, IN PLAIN WORDS (tools/lay-plain.mjs out of 'TryShelf.lean', which tools/lay-shelf.mjs wrote): THE SAME DECLARATIONS UNDER THE SAME NAMES: 'import', 'namespace', 'open', 'def', 'theorem' AND NOTHING ELSE: no command of the shelf's: FOR A HAND-IN. Each laying: the table of numbers ('.._ren') and one theorem, a field a fact of the dump's own or the kernel's comparison; each contract: ONE APPLICATION.
-/
import Derived.Test.YtedkhpnlhkjjgaaProg
import Derived.Test.YtedkhpnlhkjjgaaG04
import Derived.Shelf.Strings.Builder1
import Derived.Shelf.Strings.BuilderF
import Derived.Shelf.Strings.BuilderK
import Derived.Shelf.Strings.Prefix
import Derived.Shelf.Strings.BuilderCap
import Derived.Shelf.Slices.Turned
import Derived.Ground.Names2Prog
import Derived.Shelf.Slices.ReverseS
import Derived.Shelf.Slices.Delete
import Derived.Shelf.Slices.Cells
import Derived.Shelf.Slices.Empties
import Derived.Ground.SlgnProg
import Derived.Shelf.SlicesE.Delete
import Derived.Shelf.SlSorted.Search
import Derived.Ground.SlsoProg
import Derived.Shelf.Spec.SlicesInsert
import Derived.Shelf.Spec.SlicesInsertGrow
import Derived.Deep.DeepCutAuto
import Derived.Deep.CutBlock
import Derived.Deep.RegionHeld3
import Derived.Lib.QuietBelow
namespace Go.Proofs
open Go.Shelf
def Try.lays169_ren : Go.Shelf.Ren := ⟨fun | 169 => 120 | n => n, fun | 70 => 170 | 9 => 9 | 0 => 0 | 72 => 172 | 37 => 56 | 127 => 201 | 3 => 3 | 5 => 5 | n => n, fun | n => n⟩
theorem Try.lays169 : Go.Proofs.Lays.n169 Try.prog Try.lays169_ren := {
  mixed := by kernel_rfl
  f169 := Try.func120.trans (congrArg some (by kernel_rfl))
  t0 := Try.underlying0
  a0 := Try.isAgg0
  z0 := Try.sizeOf0
  v0 := Try.zeroValue0
  t3 := Try.underlying3
  a3 := Try.isAgg3
  z3 := Try.sizeOf3
  v3 := Try.zeroValue3
  t9 := Try.underlying9
  a9 := Try.isAgg9
  z9 := Try.sizeOf9
  v9 := Try.zeroValue9
  t37 := Try.underlying56
  a37 := Try.isAgg56
  z37 := Try.sizeOf56
  v37 := Try.zeroValue56
  t70 := Try.underlying170
  a70 := Try.isAgg170
  z70 := Try.sizeOf170
  v70 := Try.zeroValue170
  t72 := Try.underlying172
  a72 := Try.isAgg172
  z72 := Try.sizeOf172
  v72 := Try.zeroValue172
  t127 := Try.underlying201
  a127 := Try.isAgg201
  z127 := Try.sizeOf201
  v127 := Try.zeroValue201 }
theorem Try.Builder_Extra_169 : Builder.Extra Try.prog Try.lays169_ren := {
  sizeBuilder := by kernel_rfl
  liesBuilder := by kernel_rfl
  t5 := Try.underlying5
  a5 := Try.isAgg5
  z5 := Try.sizeOf5
  v5 := Try.zeroValue5
  infoByte := by kernel_rfl
  cellsByte := by kernel_rfl
  sizeByte := by kernel_rfl
  neB5 := by decide }
open Go.RowKit in
/-- (*strings.Builder).String: "String returns the accumulated string.": OF A BUILDER THAT HOLDS AT LEAST ONE BYTE. ✋ THE MODEL FREEZES THOSE BYTES IN THE BUFFER (unsafe.String): a later write INTO them ends the model's run without an answer; a later append BEHIND them goes on. The statement's order of evaluation is drawn: one draw. (LAID: no walk: one application.) -/
theorem Try.Builder_String (B b : Nat) (l : List UInt8) (w : World) (h : Lib.IsBuilder 172 5 B b (Lib.byteCells l) w) (h0 : l ≠ []) :
    Calls Try.prog 120 #[.pointer (some ⟨b, 0, none⟩)] w fun e w' => e = .returned (.string ⟨l.toArray⟩) ∧ Below B w w' := Any.Builder_String Try.lays169 Try.Builder_Extra_169 B b l w h h0
open Go.RowKit in
/-- (*strings.Builder).String OF A BUILDER THAT HOLDS NO BYTE: the empty string. (Its buffer is nil, or a row of which it has taken nothing yet; where that row has NO capacity the model lays one new block for unsafe.SliceData's 'some address'.) One draw. (LAID: no walk: one application.) -/
theorem Try.Builder_String_empty (B b : Nat) (w : World) (h : Lib.IsBuilder 172 5 B b [] w) (hBw : B ≤ w.heap.size) :
    Calls Try.prog 120 #[.pointer (some ⟨b, 0, none⟩)] w fun e w' => e = .returned (.string ⟨#[]⟩) ∧ Below B w w' := Any.Builder_String_empty Try.lays169 Try.Builder_Extra_169 B b w h hBw
open Go.RowKit in
/-- (*strings.Builder).String: "String returns the accumulated string.": WHATEVER THE BUILDER HOLDS. (LAID: no walk: one application.) -/
theorem Try.Builder_String_any (B b : Nat) (l : List UInt8) (w : World) (h : Lib.IsBuilder 172 5 B b (Lib.byteCells l) w) (hBw : B ≤ w.heap.size) :
    Calls Try.prog 120 #[.pointer (some ⟨b, 0, none⟩)] w fun e w' => e = .returned (.string ⟨l.toArray⟩) ∧ Below B w w' := Any.Builder_String_any Try.lays169 Try.Builder_Extra_169 B b l w h hBw
open Go.RowKit in
/-- (*strings.Builder).String: "String returns the accumulated string.": OF A BUILDER THAT HOLDS AT LEAST ONE BYTE. ✋ THE MODEL FREEZES THOSE BYTES IN THE BUFFER (unsafe.String): a later write INTO them ends the model's run without an answer; a later append BEHIND them goes on. The statement's order of evaluation is drawn: one draw. THE FORM '_f': IT SAYS BESIDES THAT THE BUILDER IS A BUILDER STILL ('Lib.IsBuilderF', the same bytes): SO IT CAN BE WRITTEN ON: 'b.WriteString(b.String()[:k])'. (LAID: no walk: one application.) -/
theorem Try.Builder_String_f (B b : Nat) (l : List UInt8) (w : World) (h : Lib.IsBuilderF 172 5 B b (Lib.byteCells l) w) (h0 : l ≠ []) :
    Calls Try.prog 120 #[.pointer (some ⟨b, 0, none⟩)] w fun e w' => e = .returned (.string ⟨l.toArray⟩) ∧ (Lib.IsBuilderF 172 5 B b (Lib.byteCells l) w' ∧ Below B w w') := Any.Builder_String_f Try.lays169 Try.Builder_Extra_169 B b l w h h0
open Go.RowKit in
/-- (*strings.Builder).String OF A BUILDER THAT HOLDS NO BYTE: the empty string; THE FORM '_f': a builder still. (LAID: no walk: one application.) -/
theorem Try.Builder_String_empty_f (B b : Nat) (w : World) (h : Lib.IsBuilderF 172 5 B b [] w) (hBw : B ≤ w.heap.size) :
    Calls Try.prog 120 #[.pointer (some ⟨b, 0, none⟩)] w fun e w' => e = .returned (.string ⟨#[]⟩) ∧ (Lib.IsBuilderF 172 5 B b [] w' ∧ Below B w w') := Any.Builder_String_empty_f Try.lays169 Try.Builder_Extra_169 B b w h hBw
open Go.RowKit in
/-- (*strings.Builder).String: "String returns the accumulated string.": WHATEVER THE BUILDER HOLDS; THE FORM '_f': OF A BUILDER THAT MAY HAVE BEEN READ BEFORE; AND IT IS A BUILDER STILL, holding the same bytes: it can be written on. (LAID: no walk: one application.) -/
theorem Try.Builder_String_any_f (B b : Nat) (l : List UInt8) (w : World) (h : Lib.IsBuilderF 172 5 B b (Lib.byteCells l) w) (hBw : B ≤ w.heap.size) :
    Calls Try.prog 120 #[.pointer (some ⟨b, 0, none⟩)] w fun e w' => e = .returned (.string ⟨l.toArray⟩) ∧ (Lib.IsBuilderF 172 5 B b (Lib.byteCells l) w' ∧ Below B w w') := Any.Builder_String_any_f Try.lays169 Try.Builder_Extra_169 B b l w h hBw
open Go.RowKit in
/-- (*strings.Builder).String: "String returns the accumulated string.": OF A BUILDER THAT HOLDS AT LEAST ONE BYTE. ✋ THE MODEL FREEZES THOSE BYTES IN THE BUFFER (unsafe.String): a later write INTO them ends the model's run without an answer; a later append BEHIND them goes on. The statement's order of evaluation is drawn: one draw. THE FORM '_k': OVER 'Lib.IsBuilderF' (a builder that 'String()' may have read), AND WITH THE FRAME THAT REACHES ABOVE THE BUILDER: 'Lib.OthersKept': every block that is not b and is no row of uint8's stands as it stood: the iterator of a range among them. (LAID: no walk: one application.) -/
theorem Try.Builder_String_k (B b : Nat) (l : List UInt8) (w : World) (h : Lib.IsBuilderF 172 5 B b (Lib.byteCells l) w) (h0 : l ≠ []) :
    Calls Try.prog 120 #[.pointer (some ⟨b, 0, none⟩)] w fun e w' => e = .returned (.string ⟨l.toArray⟩) ∧ (Lib.IsBuilderF 172 5 B b (Lib.byteCells l) w' ∧ Below B w w' ∧ Lib.OthersKept 5 (some b) w w') := Any.Builder_String_k Try.lays169 Try.Builder_Extra_169 B b l w h h0
open Go.RowKit in
/-- (*strings.Builder).String OF A BUILDER THAT HOLDS NO BYTE: the empty string; THE FORM '_k': OVER 'Lib.IsBuilderF' (a builder that 'String()' may have read), AND WITH THE FRAME THAT REACHES ABOVE THE BUILDER: 'Lib.OthersKept': every block that is not b and is no row of uint8's stands as it stood: the iterator of a range among them. (LAID: no walk: one application.) -/
theorem Try.Builder_String_empty_k (B b : Nat) (w : World) (h : Lib.IsBuilderF 172 5 B b [] w) (hBw : B ≤ w.heap.size) :
    Calls Try.prog 120 #[.pointer (some ⟨b, 0, none⟩)] w fun e w' => e = .returned (.string ⟨#[]⟩) ∧ (Lib.IsBuilderF 172 5 B b [] w' ∧ Below B w w' ∧ Lib.OthersKept 5 (some b) w w') := Any.Builder_String_empty_k Try.lays169 Try.Builder_Extra_169 B b w h hBw
open Go.RowKit in
/-- (*strings.Builder).String: "String returns the accumulated string.": WHATEVER THE BUILDER HOLDS; THE FORM '_k': OVER 'Lib.IsBuilderF' (a builder that 'String()' may have read), AND WITH THE FRAME THAT REACHES ABOVE THE BUILDER: 'Lib.OthersKept': every block that is not b and is no row of uint8's stands as it stood: the iterator of a range among them. (LAID: no walk: one application.) -/
theorem Try.Builder_String_any_k (B b : Nat) (l : List UInt8) (w : World) (h : Lib.IsBuilderF 172 5 B b (Lib.byteCells l) w) (hBw : B ≤ w.heap.size) :
    Calls Try.prog 120 #[.pointer (some ⟨b, 0, none⟩)] w fun e w' => e = .returned (.string ⟨l.toArray⟩) ∧ (Lib.IsBuilderF 172 5 B b (Lib.byteCells l) w' ∧ Below B w w' ∧ Lib.OthersKept 5 (some b) w w') := Any.Builder_String_any_k Try.lays169 Try.Builder_Extra_169 B b l w h hBw
def Try.lays206_ren : Go.Shelf.Ren := ⟨fun | 206 => 158 | n => n, fun | 9 => 9 | 4 => 4 | 3 => 3 | n => n, fun | n => n⟩
theorem Try.lays206 : Go.Proofs.Lays.n206 Try.prog Try.lays206_ren := {
  mixed := by kernel_rfl
  f206 := Try.func158.trans (congrArg some (by kernel_rfl))
  t3 := Try.underlying3
  a3 := Try.isAgg3
  z3 := Try.sizeOf3
  v3 := Try.zeroValue3
  t4 := Try.underlying4
  a4 := Try.isAgg4
  z4 := Try.sizeOf4
  v4 := Try.zeroValue4
  t9 := Try.underlying9
  a9 := Try.isAgg9
  z9 := Try.sizeOf9
  v9 := Try.zeroValue9 }
open Go.RowKit Go.Lib in
/-- internal/stringslite.HasPrefix (what strings.HasPrefix calls). (LAID: no walk: one application.) -/
theorem Try.stringslite_HasPrefix (s p : ByteArray) (w : World) :
    Calls Try.prog 158 #[.string s, .string p] w fun e w' => e = .returned (.bool (Lib.hasPrefix s.data.toList p.data.toList)) ∧ w' = w := Any.stringslite_HasPrefix Try.lays206 s p w
def Try.lays99_ren : Go.Shelf.Ren := ⟨fun | 99 => 148 | 206 => 158 | n => n, fun | 9 => 9 | 4 => 4 | 3 => 3 | n => n, fun | n => n⟩
theorem Try.lays99 : Go.Proofs.Lays.n99 Try.prog Try.lays99_ren := {
  mixed := by kernel_rfl
  f99 := Try.func148.trans (congrArg some (by kernel_rfl))
  f206 := Try.func158.trans (congrArg some (by kernel_rfl))
  t3 := Try.underlying3
  a3 := Try.isAgg3
  z3 := Try.sizeOf3
  v3 := Try.zeroValue3
  t4 := Try.underlying4
  a4 := Try.isAgg4
  z4 := Try.sizeOf4
  v4 := Try.zeroValue4
  t9 := Try.underlying9
  a9 := Try.isAgg9
  z9 := Try.sizeOf9
  v9 := Try.zeroValue9 }
open Go.RowKit Go.Lib in
/-- strings.HasPrefix: "HasPrefix reports whether the string s begins with prefix.": IT RETURNS 'Lib.hasPrefix s prefix'; the world is as it was. (LAID: no walk: one application.) -/
theorem Try.strings_HasPrefix (s p : ByteArray) (w : World) :
    Calls Try.prog 148 #[.string s, .string p] w fun e w' => e = .returned (.bool (Lib.hasPrefix s.data.toList p.data.toList)) ∧ w' = w := Any.strings_HasPrefix Try.lays99 s p w
def Try.lays114_ren : Go.Shelf.Ren := ⟨fun | 114 => 74 | n => n, fun | 28 => 30 | 3 => 3 | 4 => 4 | 9 => 9 | 20 => 20 | 0 => 0 | n => n, fun | n => n⟩
theorem Try.lays114 : Go.Proofs.Lays.n114 Try.prog Try.lays114_ren := {
  mixed := by kernel_rfl
  f114 := Try.func74.trans (congrArg some (by kernel_rfl))
  t0 := Try.underlying0
  a0 := Try.isAgg0
  z0 := Try.sizeOf0
  v0 := Try.zeroValue0
  t3 := Try.underlying3
  a3 := Try.isAgg3
  z3 := Try.sizeOf3
  v3 := Try.zeroValue3
  t4 := Try.underlying4
  a4 := Try.isAgg4
  z4 := Try.sizeOf4
  v4 := Try.zeroValue4
  t9 := Try.underlying9
  a9 := Try.isAgg9
  z9 := Try.sizeOf9
  v9 := Try.zeroValue9
  t20 := Try.underlying20
  a20 := Try.isAgg20
  z20 := Try.sizeOf20
  v20 := Try.zeroValue20
  t28 := Try.underlying30
  a28 := Try.isAgg30
  z28 := Try.sizeOf30
  v28 := Try.zeroValue30 }
open Go.Lib in
/-- slices.Min at []int: "Min returns the minimal value in x. It panics if x is empty.": OF A SLICE THAT IS NOT EMPTY IT RETURNS 'Lib.minOf (the elements)'; the world is as it was. (Of an empty one it panics: no contract here.) (LAID: no walk: one application.) -/
theorem Try.slices_Min_int (b off n c : Nat) (zs : List Int) (w : World) (hn : 0 < n) (hz : n ≤ zs.length) (hbig : n ≤ 9223372036854775807) (hc : ∀ j, j < zs.length → w.cell? ⟨b, off + j, none⟩ = some (.int .i64 (zs.getD j 0))) :
    Calls Try.prog 74 #[.slice (some ⟨b, off, none⟩) n c] w fun e w' => e = .returned (.int .i64 (Lib.minOf (zs.take n))) ∧ w' = w := Any.slices_Min_int Try.lays114 b off n c zs w hn hz hbig hc
def Try.laysNm217_ren : Go.Shelf.Ren := ⟨fun | 17 => 166 | n => n, fun | 24 => 193 | 9 => 9 | 3 => 3 | 4 => 4 | 0 => 0 | n => n, fun | n => n⟩
theorem Try.laysNm217 : Go.Proofs.Lays2.n17 Try.prog Try.laysNm217_ren := {
  mixed := by kernel_rfl
  f17 := Try.func166.trans (congrArg some (by kernel_rfl))
  t0 := Try.underlying0
  a0 := Try.isAgg0
  z0 := Try.sizeOf0
  v0 := Try.zeroValue0
  t3 := Try.underlying3
  a3 := Try.isAgg3
  z3 := Try.sizeOf3
  v3 := Try.zeroValue3
  t4 := Try.underlying4
  a4 := Try.isAgg4
  z4 := Try.sizeOf4
  v4 := Try.zeroValue4
  t9 := Try.underlying9
  a9 := Try.isAgg9
  z9 := Try.sizeOf9
  v9 := Try.zeroValue9
  t24 := Try.underlying193
  a24 := Try.isAgg193
  z24 := Try.sizeOf193
  v24 := Try.zeroValue193 }
open Go.RowKit Go.Lib Go.Sort in
/-- slices.Reverse at []string, over an array: Go's loop from the two ends inward is walked; it makes 'Sort.reverseLoop 0 (len - 1)', which is 'Array.reverse' (Derived/Lib/SlicesMore.lean). (LAID: no walk: one application.) -/
theorem Try.slices_Reverse_string_arr (blk off cap : Nat) (d : Array (List UInt8)) (w : World) (hH : Holds encStr w blk off d) (hsz : d.size ≤ 9223372036854775807) :
    Calls Try.prog 166 #[.slice (some ⟨blk, off, none⟩) d.size cap] w fun e w' => e = .returned (.tuple #[]) ∧ ∃ n, w' = putRow encStr (Sort.ahead w n) blk off d.reverse := Any.slices_Reverse_string_arr Try.laysNm217 blk off cap d w hH hsz
open Go.RowKit Go.Lib Go.Sort in
/-- slices.Reverse at []string: "Reverse reverses the elements of the slice in place.": THE SLICE's CELLS HOLD 'zs.reverse' BEHIND THE CALL; all else is as it was, but for the count of draws (the exchange 's[i], s[j] = s[j], s[i]' draws its order, once a round). IN THE WORDS OF slices.Sort's CONTRACT: 'Holds': the cells hold zs and none is frozen; 'putRow': the world with those cells holding another array. A slice of length 0 that is not nil is among them ('zs = []'); nil: '.._nil'. (LAID: no walk: one application.) -/
theorem Try.slices_Reverse_string (blk off cap : Nat) (zs : List (List UInt8)) (w : World) (hH : Holds encStr w blk off zs.toArray) (hsz : zs.length ≤ 9223372036854775807) :
    Calls Try.prog 166 #[.slice (some ⟨blk, off, none⟩) zs.length cap] w fun e w' => e = .returned (.tuple #[]) ∧ ∃ n, w' = putRow encStr (Sort.ahead w n) blk off zs.reverse.toArray := Any.slices_Reverse_string Try.laysNm217 blk off cap zs w hH hsz
open Go.RowKit Go.Lib Go.Sort in
/-- The same at a slice of length 0, a nil one too: nothing is read, nothing written, nothing drawn. (LAID: no walk: one application.) -/
theorem Try.slices_Reverse_string_empty (a : Option Addr) (cap : Nat) (w : World) :
    Calls Try.prog 166 #[.slice a 0 cap] w fun e w' => e = .returned (.tuple #[]) ∧ w' = w := Any.slices_Reverse_string_empty Try.laysNm217 a cap w
def Try.laysNm224_ren : Go.Shelf.Ren := ⟨fun | 24 => 146 | n => n, fun | 24 => 193 | 9 => 9 | 3 => 3 | 4 => 4 | 0 => 0 | n => n, fun | n => n⟩
theorem Try.laysNm224 : Go.Proofs.Lays2.n24 Try.prog Try.laysNm224_ren := {
  mixed := by kernel_rfl
  f24 := Try.func146.trans (congrArg some (by kernel_rfl))
  t0 := Try.underlying0
  a0 := Try.isAgg0
  z0 := Try.sizeOf0
  v0 := Try.zeroValue0
  t3 := Try.underlying3
  a3 := Try.isAgg3
  z3 := Try.sizeOf3
  v3 := Try.zeroValue3
  t4 := Try.underlying4
  a4 := Try.isAgg4
  z4 := Try.sizeOf4
  v4 := Try.zeroValue4
  t9 := Try.underlying9
  a9 := Try.isAgg9
  z9 := Try.sizeOf9
  v9 := Try.zeroValue9
  t24 := Try.underlying193
  a24 := Try.isAgg193
  z24 := Try.sizeOf193
  v24 := Try.zeroValue193
  i9 := by kernel_rfl }
open Go.RowKit Go.Lib Go.Sort in
/-- slices.Delete at []string, over an array. (LAID: no walk: one application.) -/
theorem Try.slices_Delete_string_arr (blk off cap i j : Nat) (d : Array (List UInt8)) (w : World) (hH : Holds encStr w blk off d) (hcap : d.size ≤ cap) (hm : cap ≤ 9223372036854775807) (hij : i ≤ j) (hj : j ≤ d.size) :
    Calls Try.prog 146 #[.slice (some ⟨blk, off, none⟩) d.size cap, .int .i64 i, .int .i64 j] w fun e w' => e = .returned (.slice (some ⟨blk, off, none⟩) (d.size - (j - i)) cap) ∧ ∃ q, w' = putRow encStr (Sort.ahead w q) blk off (d.toList.take i ++ d.toList.drop j ++ List.replicate (j - i) []).toArray := Any.slices_Delete_string_arr Try.laysNm224 blk off cap i j d w hH hcap hm hij hj
open Go.RowKit Go.Lib Go.Sort in
/-- slices.Delete at []string: "Delete modifies s in place by removing the elements s[i:j], and returns the modified slice. Delete panics if j > len(s) or s[i:j] is not a valid slice of s. Delete is O(len(s)-i), so if many items must be deleted, it is better to make a single call deleting them all together than to delete one at a time. Delete zeroes the elements s[len(s)-(j-i):len(s)]. If the result is empty, it has the same nilness as s.": FOR i ≤ j ≤ len(s) IT RETURNS THE SLICE CUT TO len(s) - (j - i) ELEMENTS; ITS CELLS HOLD what stood ahead of i, what stood from j on, then j - i zero values; all else is as it was, but for the count of draws. IN THE WORDS OF slices.Sort's CONTRACT ('Holds', 'putRow'). It asks 'zs.length ≤ cap ≤ 2^63 - 1' (every slice's). (Outside i ≤ j ≤ len(s) it panics: no contract here.) (LAID: no walk: one application.) -/
theorem Try.slices_Delete_string (blk off cap i j : Nat) (zs : List (List UInt8)) (w : World) (hH : Holds encStr w blk off zs.toArray) (hcap : zs.length ≤ cap) (hm : cap ≤ 9223372036854775807) (hij : i ≤ j) (hj : j ≤ zs.length) :
    Calls Try.prog 146 #[.slice (some ⟨blk, off, none⟩) zs.length cap, .int .i64 i, .int .i64 j] w fun e w' => e = .returned (.slice (some ⟨blk, off, none⟩) (zs.length - (j - i)) cap) ∧ ∃ q, w' = putRow encStr (Sort.ahead w q) blk off (zs.take i ++ zs.drop j ++ List.replicate (j - i) []).toArray := Any.slices_Delete_string Try.laysNm224 blk off cap i j zs w hH hcap hm hij hj
open Go.RowKit Go.Lib Go.Sort in
/-- slices.Reverse at []string, of an argument. (LAID: no walk: one application.) -/
theorem Try.slices_Reverse_string_cells (b off n c : Nat) (Sx : Nat → ByteArray) (w : World) (hbig : n ≤ 9223372036854775807) (hc : ∀ i, i < n → w.cell? ⟨b, off + i, none⟩ = some (.string (Sx i))) (hf : ∀ j, j < n → w.frozen? ⟨b, off + j, none⟩ = false) :
    Calls Try.prog 166 #[.slice (some ⟨b, off, none⟩) n c] w fun e w' => e = .returned (.tuple #[]) ∧ ∃ q, w' = (w.drewN q).setCells b off ((Lib.strsOf Sx n).reverse.map encStr) := Any.slices_Reverse_string_cells Try.laysNm217 b off n c Sx w hbig hc hf
open Go.RowKit Go.Lib Go.Sort in
/-- slices.Delete at []string, of an argument, for i ≤ j ≤ n. (LAID: no walk: one application.) -/
theorem Try.slices_Delete_string_cells (b off n c i j : Nat) (Sx : Nat → ByteArray) (w : World) (hcap : n ≤ c) (hm : c ≤ 9223372036854775807) (hij : i ≤ j) (hj : j ≤ n) (hc : ∀ i, i < n → w.cell? ⟨b, off + i, none⟩ = some (.string (Sx i))) (hf : ∀ j, j < n → w.frozen? ⟨b, off + j, none⟩ = false) :
    Calls Try.prog 146 #[.slice (some ⟨b, off, none⟩) n c, .int .i64 i, .int .i64 j] w fun e w' => e = .returned (.slice (some ⟨b, off, none⟩) (n - (j - i)) c) ∧ ∃ q, w' = (w.drewN q).setCells b off (((Lib.strsOf Sx n).take i ++ (Lib.strsOf Sx n).drop j ++ List.replicate (j - i) []).map encStr) := Any.slices_Delete_string_cells Try.laysNm224 b off n c i j Sx w hcap hm hij hj hc hf
open Go.RowKit Go.Lib in
/-- slices.Delete at []string of no element ('Delete(s, 0, 0)'): s comes back; the world is as it was. (LAID: no walk: one application.) -/
theorem Try.slices_Delete_string_empty (a : Option Addr) (c : Nat) (w : World) :
    Calls Try.prog 146 #[.slice a 0 c, .int .i64 0, .int .i64 0] w fun e w' => e = .returned (.slice a 0 c) ∧ w' = w := Any.slices_Delete_string_empty Try.laysNm224 a c w
def Try.laysSlE45_f146_ren : Go.Shelf.Ren := ⟨fun | 45 => 146 | n => n, fun | 22 => 193 | 23 => 9 | 3 => 3 | 4 => 4 | 0 => 0 | n => n, fun | n => n⟩
theorem Try.laysSlE45_f146 : Go.Proofs.SlLaysE.n45 Try.prog Try.laysSlE45_f146_ren := {
  mixed := by kernel_rfl
  f45 := ⟨Try.f146.name, by decide, Try.func146.trans (congrArg some (by kernel_rfl))⟩
  t0 := Try.underlying0
  a0 := Try.isAgg0
  z0 := Try.sizeOf0
  v0 := Try.zeroValue0
  t3 := Try.underlying3
  a3 := Try.isAgg3
  z3 := Try.sizeOf3
  v3 := Try.zeroValue3
  t4 := Try.underlying4
  a4 := Try.isAgg4
  z4 := Try.sizeOf4
  v4 := Try.zeroValue4
  t22 := Try.underlying193
  a22 := Try.isAgg193
  z22 := Try.sizeOf193
  v22 := Try.zeroValue193
  a23 := Try.isAgg9
  z23 := Try.sizeOf9 }
open Go.RowKit Go.Lib Go.Sort in
/-- slices.Delete: "Delete modifies s in place by removing the elements s[i:j], and returns the modified slice. .. Delete zeroes the elements s[len(s)-(j-i):len(s)].": FOR i ≤ j ≤ len(s) IT RETURNS THE SLICE CUT TO len(s) - (j - i) ELEMENTS; ITS CELLS HOLD what stood ahead of i, what stood from j on, then j - i zero values ('zr': the element whose 'enc' is the type's zero value). (LAID AT THE INSTANCE 'slices.Delete[[]string,string]': no walk: one application.) -/
theorem Try.slices_Delete_f146 {α : Type} [Inhabited α] (enc : α → Value) (h1 : OneCell enc) (zr : α) (v23 : ∀ w, (zeroValue 9).run Try.prog w = .ok (enc zr) w) (i0 : TypeInfo) (hi0 : Try.prog.info? 9 = some i0) (hz1 : i0.size = 1) (blk off cap i j : Nat) (d : Array α) (w : World) (hH : Holds enc w blk off d) (hcap : d.size ≤ cap) (hm : cap ≤ 9223372036854775807) (hij : i ≤ j) (hj : j ≤ d.size) :
    Calls Try.prog 146 #[.slice (some ⟨blk, off, none⟩) d.size cap, .int .i64 i, .int .i64 j] w fun e w' => e = .returned (.slice (some ⟨blk, off, none⟩) (d.size - (j - i)) cap) ∧ ∃ q, w' = putRow enc (Sort.ahead w q) blk off (d.toList.take i ++ d.toList.drop j ++ List.replicate (j - i) zr).toArray := AnyE.slices_Delete Try.laysSlE45_f146 enc h1 zr v23 i0 hi0 hz1 blk off cap i j d w hH hcap hm hij hj
def Try.laysSlE45_f147_ren : Go.Shelf.Ren := ⟨fun | 45 => 147 | n => n, fun | 22 => 104 | 23 => 193 | 3 => 3 | 4 => 4 | 0 => 0 | n => n, fun | n => n⟩
theorem Try.laysSlE45_f147 : Go.Proofs.SlLaysE.n45 Try.prog Try.laysSlE45_f147_ren := {
  mixed := by kernel_rfl
  f45 := ⟨Try.f147.name, by decide, Try.func147.trans (congrArg some (by kernel_rfl))⟩
  t0 := Try.underlying0
  a0 := Try.isAgg0
  z0 := Try.sizeOf0
  v0 := Try.zeroValue0
  t3 := Try.underlying3
  a3 := Try.isAgg3
  z3 := Try.sizeOf3
  v3 := Try.zeroValue3
  t4 := Try.underlying4
  a4 := Try.isAgg4
  z4 := Try.sizeOf4
  v4 := Try.zeroValue4
  t22 := Try.underlying104
  a22 := Try.isAgg104
  z22 := Try.sizeOf104
  v22 := Try.zeroValue104
  a23 := Try.isAgg193
  z23 := Try.sizeOf193 }
open Go.RowKit Go.Lib Go.Sort in
/-- slices.Delete: "Delete modifies s in place by removing the elements s[i:j], and returns the modified slice. .. Delete zeroes the elements s[len(s)-(j-i):len(s)].": FOR i ≤ j ≤ len(s) IT RETURNS THE SLICE CUT TO len(s) - (j - i) ELEMENTS; ITS CELLS HOLD what stood ahead of i, what stood from j on, then j - i zero values ('zr': the element whose 'enc' is the type's zero value). (LAID AT THE INSTANCE 'slices.Delete[[][]string,[]string]': no walk: one application.) -/
theorem Try.slices_Delete_f147 {α : Type} [Inhabited α] (enc : α → Value) (h1 : OneCell enc) (zr : α) (v23 : ∀ w, (zeroValue 193).run Try.prog w = .ok (enc zr) w) (i0 : TypeInfo) (hi0 : Try.prog.info? 193 = some i0) (hz1 : i0.size = 1) (blk off cap i j : Nat) (d : Array α) (w : World) (hH : Holds enc w blk off d) (hcap : d.size ≤ cap) (hm : cap ≤ 9223372036854775807) (hij : i ≤ j) (hj : j ≤ d.size) :
    Calls Try.prog 147 #[.slice (some ⟨blk, off, none⟩) d.size cap, .int .i64 i, .int .i64 j] w fun e w' => e = .returned (.slice (some ⟨blk, off, none⟩) (d.size - (j - i)) cap) ∧ ∃ q, w' = putRow enc (Sort.ahead w q) blk off (d.toList.take i ++ d.toList.drop j ++ List.replicate (j - i) zr).toArray := AnyE.slices_Delete Try.laysSlE45_f147 enc h1 zr v23 i0 hi0 hz1 blk off cap i j d w hH hcap hm hij hj
def Try.laysSearch_ren : Go.Shelf.Ren := ⟨fun | 16 => 155 | n => n, fun | 3 => 3 | 35 => 138 | 4 => 4 | 38 => 190 | n => n, fun | n => n⟩
theorem Try.laysSearch : Go.Proofs.SlLaysO.n16 Try.prog Try.laysSearch_ren := {
  mixed := by kernel_rfl
  f16 := Try.func155.trans (congrArg some (by kernel_rfl))
  t3 := Try.underlying3
  a3 := Try.isAgg3
  z3 := Try.sizeOf3
  v3 := Try.zeroValue3
  t4 := Try.underlying4
  a4 := Try.isAgg4
  z4 := Try.sizeOf4
  v4 := Try.zeroValue4
  t35 := Try.underlying138
  a35 := Try.isAgg138
  z35 := Try.sizeOf138
  v35 := Try.zeroValue138
  t38 := Try.underlying190
  a38 := Try.isAgg190
  z38 := Try.sizeOf190
  v38 := Try.zeroValue190 }
open Go.RowKit Go.Lib Go.Sort in
/-- sort.Search. -/
theorem Try.sort_Search (g : Nat) (cb : Array Value) (n : Nat) (p : Nat → Bool) (w : World) (eg : ∀ args w, (callFunc g args).run Try.prog w = .ok (.enter g args) w) (hsz : n < 4611686018427387904)
    (hf : ∀ (m : Nat) (os : Array Obj) (i : Nat), i < n → Calls Try.prog g (#[.int .i64 i] ++ cb) (grow (w.drewN m) os) fun e w' => e = .returned (.bool (p i)) ∧ ∃ q os', w' = grow ((grow (w.drewN m) os).drewN q) os')
    (hmono : ∀ a b, a ≤ b → b < n → p a = true → p b = true) :
    Calls Try.prog 155 #[.int .i64 n, .func (.func g) #[] cb] w fun e w' => e = .returned (.int .i64 ((List.range n).countP (fun i => !p i) : Nat)) ∧ ∃ q os, w' = grow (w.drewN q) os := Any.sort_Search Try.laysSearch g cb n p w eg hsz hf hmono
def Try.laysSearchStrings_ren : Go.Shelf.Ren := ⟨fun | 15 => 157 | 23 => 163 | 16 => 155 | n => n, fun | 30 => 193 | 9 => 9 | 3 => 3 | 0 => 0 | 35 => 138 | 4 => 4 | 38 => 190 | n => n, fun | n => n⟩
theorem Try.laysSearchStrings : Go.Proofs.SlLaysO.n15 Try.prog Try.laysSearchStrings_ren := {
  mixed := by kernel_rfl
  f15 := Try.func157.trans (congrArg some (by kernel_rfl))
  f16 := Try.func155.trans (congrArg some (by kernel_rfl))
  f23 := Try.func163.trans (congrArg some (by kernel_rfl))
  t0 := Try.underlying0
  a0 := Try.isAgg0
  z0 := Try.sizeOf0
  v0 := Try.zeroValue0
  t3 := Try.underlying3
  a3 := Try.isAgg3
  z3 := Try.sizeOf3
  v3 := Try.zeroValue3
  t4 := Try.underlying4
  a4 := Try.isAgg4
  z4 := Try.sizeOf4
  v4 := Try.zeroValue4
  t9 := Try.underlying9
  a9 := Try.isAgg9
  z9 := Try.sizeOf9
  v9 := Try.zeroValue9
  t30 := Try.underlying193
  a30 := Try.isAgg193
  z30 := Try.sizeOf193
  v30 := Try.zeroValue193
  t35 := Try.underlying138
  a35 := Try.isAgg138
  z35 := Try.sizeOf138
  v35 := Try.zeroValue138
  t38 := Try.underlying190
  a38 := Try.isAgg190
  z38 := Try.sizeOf190
  v38 := Try.zeroValue190 }
open Go.RowKit Go.Lib Go.Sort in
/-- sort.SearchStrings. -/
theorem Try.sort_SearchStrings (blk off cap : Nat) (d : Array ByteArray) (x : ByteArray) (w : World) (hc : ∀ i, i < d.size → w.cell? ⟨blk, off + i, none⟩ = some (Value.string d[i]!)) (hblk : blk < w.heap.size) (hsz : d.size < 4611686018427387904)
    (hs : ∀ a b, a ≤ b → b < d.size → (!decide (d[a]!.data.toList < x.data.toList)) = true → (!decide (d[b]!.data.toList < x.data.toList)) = true) :
    Calls Try.prog 157 #[.slice (some ⟨blk, off, none⟩) d.size cap, .string x] w fun e w' => e = .returned (.int .i64 (d.toList.countP (fun y => !!decide (y.data.toList < x.data.toList)) : Nat)) ∧ Below w.heap.size w w' := Any.sort_SearchStrings Try.laysSearchStrings blk off cap d x w hc hblk hsz hs
def Try.laysInsertS_ren : Go.Shelf.Ren := ⟨fun | 22 => 152 | 29 => 159 | 30 => 160 | 36 => 164 | 17 => 166 | n => n, fun | 24 => 193 | 9 => 9 | 3 => 3 | 4 => 4 | 0 => 0 | n => n, fun | n => n⟩
theorem Try.laysInsertS : Go.Proofs.Lays2.n22 Try.prog Try.laysInsertS_ren := {
  mixed := by kernel_rfl
  f17 := Try.func166.trans (congrArg some (by kernel_rfl))
  f22 := Try.func152.trans (congrArg some (by kernel_rfl))
  f29 := Try.func159.trans (congrArg some (by kernel_rfl))
  f30 := Try.func160.trans (congrArg some (by kernel_rfl))
  f36 := Try.func164.trans (congrArg some (by kernel_rfl))
  t0 := Try.underlying0
  a0 := Try.isAgg0
  z0 := Try.sizeOf0
  v0 := Try.zeroValue0
  t3 := Try.underlying3
  a3 := Try.isAgg3
  z3 := Try.sizeOf3
  v3 := Try.zeroValue3
  t4 := Try.underlying4
  a4 := Try.isAgg4
  z4 := Try.sizeOf4
  v4 := Try.zeroValue4
  t9 := Try.underlying9
  a9 := Try.isAgg9
  z9 := Try.sizeOf9
  v9 := Try.zeroValue9
  t24 := Try.underlying193
  a24 := Try.isAgg193
  z24 := Try.sizeOf193
  v24 := Try.zeroValue193
  i9 := by kernel_rfl }
open Go.RowKit Go.Lib Go.Sort in
/-- slices.Insert of strings, ahead of an element, where there is room. -/
theorem Try.slices_Insert_shift (b off n c i vb voff m vc : Nat) (cs vs : List Value) (w : World) (hi : i < n) (hm : 0 < m) (hroom : n + m ≤ c) (hc63 : c ≤ 9223372036854775807) (hvb : vb ≠ b)
    (hcl : cs.length = n) (hvl : vs.length = m)
    (hcs : ∀ j v, cs[j]? = some v → w.cell? ⟨b, off + j, none⟩ = some v) (hsp : ∀ j, j < n + m → (w.cell? ⟨b, off + j, none⟩).isSome = true) (hfz : ∀ j, j < n + m → w.frozen? ⟨b, off + j, none⟩ = false)
    (hvs : ∀ j v, vs[j]? = some v → w.cell? ⟨vb, voff + j, none⟩ = some v) (h1c : ∀ v ∈ cs, v.oneCell' = true) (h1v : ∀ v ∈ vs, v.oneCell' = true)
    (tA tB : TypeId) (kA kB : Nat) (hsa : w.shape? vb = some (tA, kA)) (hsb : w.shape? b = some (tB, kB)) (hkB : kB ≠ 0) (hfa : w.frozen? ⟨vb, voff, none⟩ = false) (hfe : w.frozen? ⟨vb, kA, none⟩ = false) :
    Calls Try.prog 152 #[.slice (some ⟨b, off, none⟩) n c, .int .i64 i, .slice (some ⟨vb, voff, none⟩) m vc] w fun e w' =>
      e = .returned (.slice (some ⟨b, off, none⟩) (n + m) c) ∧ w' = (w.drew.setCells b (off + (i + m)) (cs.drop i)).setCells b (off + i) vs := Any2.slices_Insert_string_shift Try.laysInsertS b off n c i vb voff m vc cs vs w hi hm hroom hc63 hvb hcl hvl hcs hsp hfz hvs h1c h1v tA tB kA kB hsa hsb hkB hfa hfe
open Go.RowKit Go.Lib Go.Sort in
/-- slices.Insert of strings, at the end, where there is room. -/
theorem Try.slices_Insert_end_room (b off n c vb voff m vc : Nat) (vs : List Value) (w : World) (hm : 0 < m) (hroom : n + m ≤ c) (hc63 : c ≤ 9223372036854775807)
    (hvl : vs.length = m) (hsp : ∀ j, j < m → (w.cell? ⟨b, off + n + j, none⟩).isSome = true) (hfz : ∀ j, j < m → w.frozen? ⟨b, off + n + j, none⟩ = false)
    (hvs : ∀ j v, vs[j]? = some v → w.cell? ⟨vb, voff + j, none⟩ = some v) (h1v : ∀ v ∈ vs, v.oneCell' = true) :
    Calls Try.prog 152 #[.slice (some ⟨b, off, none⟩) n c, .int .i64 n, .slice (some ⟨vb, voff, none⟩) m vc] w fun e w' =>
      e = .returned (.slice (some ⟨b, off, none⟩) (n + m) c) ∧ w' = w.setCells b (off + n) vs := Any2.slices_Insert_string_end_room Try.laysInsertS b off n c vb voff m vc vs w hm hroom hc63 hvl hsp hfz hvs h1v
open Go.RowKit Go.Lib Go.Sort in
/-- slices.Insert of strings, at the end, where there is no room. -/
theorem Try.slices_Insert_end_grow (base : Option Addr) (n c vb voff m vc : Nat) (cs vs : List Value) (w : World) (hm : 0 < m) (hnc : n ≤ c) (hroom : c < n + m) (hbig : (n + m) * 16 ≤ 140737488355328)
    (hcl : cs.length = n) (hvl : vs.length = m) (hnil : base = none → n = 0)
    (hcs : ∀ a, base = some a → ∀ j v, cs[j]? = some v → w.cell? (a.add j) = some v)
    (hvs : ∀ j v, vs[j]? = some v → w.cell? ⟨vb, voff + j, none⟩ = some v) (h1v : ∀ v ∈ vs, v.oneCell' = true) :
    Calls Try.prog 152 #[.slice base n c, .int .i64 n, .slice (some ⟨vb, voff, none⟩) m vc] w fun e w' =>
      e = .returned (.slice (some ⟨w.heap.size, 0, none⟩) (n + m) (grownCap w (n + m) c 9)) ∧
      w' = w.drew.alloc (.cells ((cs ++ vs).toArray ++ Builtin.zeroCells (Value.string ⟨#[]⟩).cells (grownCap w (n + m) c 9 - (n + m))) 9) := Any2.slices_Insert_string_end_grow Try.laysInsertS base n c vb voff m vc cs vs w hm hnc hroom hbig hcl hvl hnil hcs hvs h1v
open Go.RowKit Go.Lib Go.Sort in
/-- slices.Insert of strings, ahead of an element, where there is no room. -/
theorem Try.slices_Insert_grow (b off n c i vb voff m vc : Nat) (cs vs : List Value) (w : World) (hi : i < n) (hm : 0 < m) (hnc : n ≤ c) (hroom : c < n + m) (hbig : (n + m) * 16 ≤ 140737488355328)
    (hcl : cs.length = n) (hvl : vs.length = m)
    (hcs : ∀ j v, cs[j]? = some v → w.cell? ⟨b, off + j, none⟩ = some v)
    (hvs : ∀ j v, vs[j]? = some v → w.cell? ⟨vb, voff + j, none⟩ = some v) (h1c : ∀ v ∈ cs, v.oneCell' = true) (h1v : ∀ v ∈ vs, v.oneCell' = true) :
    Calls Try.prog 152 #[.slice (some ⟨b, off, none⟩) n c, .int .i64 i, .slice (some ⟨vb, voff, none⟩) m vc] w fun e w' =>
      e = .returned (.slice (some ⟨w.heap.size, 0, none⟩) (n + m) (grownCap w (n + m) c 9)) ∧
      w' = (((w.alloc (.cells ((cs.take i).toArray ++ Builtin.zeroCells (Value.string ⟨#[]⟩).cells (n + m - i) ++ Builtin.zeroCells (Value.string ⟨#[]⟩).cells (grownCap w (n + m) c 9 - (n + m))) 9)).drew.setCells w.heap.size i vs).drew).setCells w.heap.size (i + m) (cs.drop i) := Any2.slices_Insert_string_grow Try.laysInsertS b off n c i vb voff m vc cs vs w hi hm hnc hroom hbig hcl hvl hcs hvs h1c h1v
end Go.Proofs

namespace Go.Proofs.Ytedkhpnlhkjjgaa
open Go.RowKit Go.Maps Go.Sort

theorem ownsRow_cell {w : World} {base : Nat} {e : TypeId} {size : Nat} {v : Value} {n : Nat} {xs : List Value} (h : w.ownsRow base e size v n xs) {g cap : Nat} (hv : v = .slice (some ⟨g, 0, none⟩) n cap) {j : Nat} {u : Value} (hj : xs[j]? = some u) : w.cell? ⟨g, j, none⟩ = some u := by
  obtain ⟨h1, h2⟩ := h
  rcases h2 with ⟨rfl, h0⟩ | ⟨g', cap', cur, rfl, hb, hg, hn, hc, hs, ht⟩
  · cases hv
  · cases hv
    have hjl : j < xs.length := (List.getElem?_eq_some_iff.1 hj).1
    rw [← ht, List.getElem?_take_of_lt (by omega)] at hj
    rw [hp_cell hg, ← hj]
    simp
theorem ownsRow_form {w : World} {base : Nat} {e : TypeId} {size : Nat} {v : Value} {n : Nat} {xs : List Value} (h : w.ownsRow base e size v n xs) (hn : 0 < n) : ∃ g cap, v = .slice (some ⟨g, 0, none⟩) n cap ∧ g < w.heap.size := by
  obtain ⟨g, cap, h1, _, h2⟩ := h.form hn
  exact ⟨g, cap, h1, h2⟩
set_option maxRecDepth 100000 in
set_option maxHeartbeats 1000000 in
theorem place1_walk (W : World) (B2 B3 b ba bc bk n kc : Nat) (x y : ByteArray) (hn : 0 < n) (h63 : n ≤ 4611686018427387904)
    (c2 : W.cell? ⟨B2, 0, none⟩ = some (.pointer (some ⟨b, 0, none⟩))) (c3 : W.cell? ⟨B3, 0, none⟩ = some (.string x)) (c1 : W.cell? ⟨b, 1, none⟩ = some (.slice (some ⟨ba, 0, none⟩) 1 bc)) (ca : W.cell? ⟨ba, 0, none⟩ = some (.slice (some ⟨bk, 0, none⟩) n kc)) (ck : W.cell? ⟨bk, n - 1, none⟩ = some (.string y)) :
    Calls Try.prog 156 (#[.int .i64 0] ++ #[.pointer (some ⟨B2, 0, none⟩), .pointer (some ⟨B3, 0, none⟩)]) W fun e w' => e = .returned (.bool (!decide (y.data.toList < x.data.toList))) ∧ ∃ q, w' = W.drewN q := by
  obtain ⟨m, rfl⟩ : ∃ m, n = m + 1 := ⟨n - 1, by omega⟩
  rw [Nat.add_sub_cancel] at ck
  go_enter Try.func156, Try.ntmps156
  go_wp2
  go_region
  all_goals go_wp2
  all_goals go_ret
  all_goals exact ⟨by rw [bytesLess_eq, Lib.toList_data, Lib.toList_data]; rfl, 1, rfl⟩
theorem last_lt {ks : List ByteArray} (hs : Rising ks) {x : ByteArray} (hn : 0 < ks.length) : ((ks[ks.length - 1]'(by omega)).data.toList < x.data.toList) ↔ klo ks x = ks.length := by
  unfold klo
  rw [List.countP_eq_length]
  constructor
  · intro h a ha
    obtain ⟨i, hi, rfl⟩ := List.mem_iff_getElem.1 ha
    rw [decide_eq_true_eq]
    by_cases e : i = ks.length - 1
    · subst e; exact h
    · have := List.pairwise_iff_getElem.1 hs i (ks.length - 1) hi (by omega) (by omega)
      exact List.lt_trans this h
  · intro h
    have := h (ks[ks.length - 1]'(by omega)) (List.getElem_mem _)
    rwa [decide_eq_true_eq] at this
theorem rising_mono {ks : List ByteArray} (hs : Rising ks) (x : ByteArray) : ∀ a b, a ≤ b → b < ks.toArray.size → (!decide (ks.toArray[a]!.data.toList < x.data.toList)) = true → (!decide (ks.toArray[b]!.data.toList < x.data.toList)) = true := by
  intro a b hab hb h
  rw [List.size_toArray] at hb
  rw [getElem!_pos ks.toArray a (by simpa using by omega), List.getElem_toArray] at h
  rw [getElem!_pos ks.toArray b (by simpa using hb), List.getElem_toArray]
  simp only [Bool.not_eq_true', decide_eq_false_iff_not] at h ⊢
  intro hlt
  by_cases e : a = b
  · subst e; exact h hlt
  · exact h (List.lt_trans (List.pairwise_iff_getElem.1 hs a b (by omega) hb (by omega)) hlt)
set_option maxRecDepth 100000 in
set_option maxHeartbeats 2000000 in
/-- where there is nothing -/
theorem place_none (b bm : Nat) (A : Option Addr) (c : Nat) (vq : Value) (x : ByteArray) (w : World) (hr : w.heap[b]? = some (.cells #[.map (some bm), .slice A 0 c, vq] 107 (0, 0))) :
    Calls Try.prog 145 #[.pointer (some ⟨b, 0, none⟩), .string x] w fun e w' => e = .returned (.tuple #[.int .i64 0, .int .i64 0]) ∧ Below w.heap.size w w' := by
  obtain ⟨W0, hW0⟩ : ∃ W0, W0 = (w.alloc (.cells #[.pointer (some ⟨b, 0, none⟩)] 25)).alloc (.cells #[.string x] 9) := ⟨_, rfl⟩
  have hb : Below w.heap.size w W0 := by rw [hW0]; exact ((Below.refl _ _).alloc (Nat.le_refl _) _).alloc (by simp) _
  have hr0 := (hb.block b (hp_lt hr)).trans hr
  have c2 : W0.heap[w.heap.size]? = some (.cells #[.pointer (some ⟨b, 0, none⟩)] 25 (0, 0)) := by rw [hW0]; exact (heap_alloc_old _ _ (by simp)).trans (heap_alloc_new _ _)
  have eg : ∀ args w, (callFunc 156 args).run Try.prog w = .ok (.enter 156 args) w := enters_of Try.func156 (by kernel_rfl) rfl
  have hS := Try.sort_Search 156 #[.pointer (some ⟨w.heap.size, 0, none⟩), .pointer (some ⟨w.heap.size + 1, 0, none⟩)] 0 (fun _ => true) W0 eg (by omega) (fun _ _ i hi => absurd hi (Nat.not_lt_zero _)) (fun _ _ _ _ h => h)
  have HS := Lib.hid hS
  have HB := Lib.hid hb
  have C2 := Lib.hid c2
  have R0 := Lib.hid hr0
  have EW := Lib.hid hW0
  have r1' := (hp_cell (i := 1) hr0).trans rfl
  have c2' := (hp_cell (i := 0) c2).trans rfl
  clear hS hb hr hr0 hW0 eg c2
  go_enter Try.func145, Try.ntmps145
  go_upto_region 1 with (fail)
  rw [← EW.out]
  clear EW
  go_wp2_with (go_at_call 155; refine HS.out.mono ?_; rintro e w1 ⟨rfl, qd, os, hw1⟩; have B1 := Lib.hid (show Below W0.heap.size W0 w1 by rw [hw1]; exact below_grown_sl _ _ _ _ (Nat.le_refl _)); have d2 := (hp_cell (i := 0) ((B1.out.block _ (hp_lt C2.out)).trans C2.out)).trans rfl; have d1 := (hp_cell (i := 1) ((B1.out.block _ (hp_lt R0.out)).trans R0.out)).trans rfl; clear hw1)
  go_ret2
  exact ⟨rfl, HB.out.trans (B1.out.mono HB.out.size)⟩
theorem klo_arr (ks : List ByteArray) (x : ByteArray) : (ks.toArray.toList.countP (fun y => !!decide (y.data.toList < x.data.toList))) = klo ks x := by
  unfold klo
  simp
theorem pl_keep {w W0 W : World} {b bm ba bc bk n kc : Nat} {vq : Value} {x : ByteArray} (h2 : W0.heap[w.heap.size]? = some (.cells #[.pointer (some ⟨b, 0, none⟩)] 25 (0, 0))) (h3 : W0.heap[w.heap.size + 1]? = some (.cells #[.string x] 9 (0, 0))) (hr : W0.heap[b]? = some (.cells #[.map (some bm), .slice (some ⟨ba, 0, none⟩) 1 bc, vq] 107 (0, 0))) (ha : W0.cell? ⟨ba, 0, none⟩ = some (.slice (some ⟨bk, 0, none⟩) n kc)) (hB : Below W0.heap.size W0 W) :
    W.cell? ⟨w.heap.size, 0, none⟩ = some (.pointer (some ⟨b, 0, none⟩)) ∧ W.cell? ⟨w.heap.size + 1, 0, none⟩ = some (.string x) ∧ W.cell? ⟨b, 1, none⟩ = some (.slice (some ⟨ba, 0, none⟩) 1 bc) ∧ W.cell? ⟨ba, 0, none⟩ = some (.slice (some ⟨bk, 0, none⟩) n kc) ∧ Below W0.heap.size W0 W :=
  ⟨(hp_cell (i := 0) ((hB.block _ (hp_lt h2)).trans h2)).trans rfl, (hp_cell (i := 0) ((hB.block _ (hp_lt h3)).trans h3)).trans rfl, (hp_cell (i := 1) ((hB.block _ (hp_lt hr)).trans hr)).trans rfl, (hB.cell (p := ⟨ba, 0, none⟩) (World.block_lt_of_cell? _ _ ha)).trans ha, hB⟩
set_option maxRecDepth 100000 in
set_option maxHeartbeats 2000000 in
/-- where there are keys: the block behind all, or the place in the one block -/
theorem place_some (b bm ba bc bk kc : Nat) (ks : List ByteArray) (vq : Value) (x : ByteArray) (w : World) (hn : 0 < ks.length) (h63 : ks.length ≤ 1000000) (hs : Rising ks) (hr : w.heap[b]? = some (.cells #[.map (some bm), .slice (some ⟨ba, 0, none⟩) 1 bc, vq] 107 (0, 0)))
    (ha : w.cell? ⟨ba, 0, none⟩ = some (.slice (some ⟨bk, 0, none⟩) ks.length kc)) (hk : ∀ i (h : i < ks.length), w.cell? ⟨bk, i, none⟩ = some (.string ks[i])) :
    Calls Try.prog 145 #[.pointer (some ⟨b, 0, none⟩), .string x] w fun e w' => e = .returned (.tuple (if klo ks x = ks.length then #[.int .i64 1, .int .i64 0] else #[.int .i64 0, .int .i64 (klo ks x : Nat)])) ∧ Below w.heap.size w w' := by
  obtain ⟨W0, hW0⟩ : ∃ W0, W0 = (w.alloc (.cells #[.pointer (some ⟨b, 0, none⟩)] 25)).alloc (.cells #[.string x] 9) := ⟨_, rfl⟩
  have hb : Below w.heap.size w W0 := by rw [hW0]; exact ((Below.refl _ _).alloc (Nat.le_refl _) _).alloc (by simp) _
  have hr0 := (hb.block b (hp_lt hr)).trans hr
  have c2 : W0.heap[w.heap.size]? = some (.cells #[.pointer (some ⟨b, 0, none⟩)] 25 (0, 0)) := by rw [hW0]; exact (heap_alloc_old _ _ (by simp)).trans (heap_alloc_new _ _)
  have c3 : W0.heap[w.heap.size + 1]? = some (.cells #[.string x] 9 (0, 0)) := by rw [hW0]; simpa using heap_alloc_new (w.alloc (.cells #[.pointer (some ⟨b, 0, none⟩)] 25)) (.cells #[.string x] 9)
  have ha0 : W0.cell? ⟨ba, 0, none⟩ = some (.slice (some ⟨bk, 0, none⟩) ks.length kc) := by rw [hb.cell (p := ⟨ba, 0, none⟩) (World.block_lt_of_cell? _ _ ha)]; exact ha
  have hk0 : ∀ i (h : i < ks.length), W0.cell? ⟨bk, i, none⟩ = some (.string ks[i]) := fun i h => by rw [hb.cell (p := ⟨bk, i, none⟩) (World.block_lt_of_cell? _ _ (hk i h))]; exact hk i h
  have hbk : bk < W0.heap.size := World.block_lt_of_cell? _ _ (hk0 0 hn)
  obtain ⟨y, hy⟩ : ∃ y, y = ks[ks.length - 1]'(by omega) := ⟨_, rfl⟩
  obtain ⟨l, hl⟩ : ∃ l, l = klo ks x := ⟨_, rfl⟩
  have hll : y.data.toList < x.data.toList ↔ l = ks.length := by rw [hy, hl]; exact last_lt hs hn
  have eg : ∀ args w, (callFunc 156 args).run Try.prog w = .ok (.enter 156 args) w := enters_of Try.func156 (by kernel_rfl) rfl
  have hS := Try.sort_Search 156 #[.pointer (some ⟨w.heap.size, 0, none⟩), .pointer (some ⟨w.heap.size + 1, 0, none⟩)] 1 (fun _ => !decide (y.data.toList < x.data.toList)) W0 eg (by omega)
    (fun m os i hi => by
      obtain rfl : i = 0 := by omega
      have hB := below_grown_sl W0.heap.size W0 m os (Nat.le_refl _)
      have hc : ∀ (p : Addr) (v : Value), W0.cell? p = some v → (grow (W0.drewN m) os).cell? p = some v := fun p v hp => by rw [hB.cell (World.block_lt_of_cell? _ _ hp)]; exact hp
      refine (place1_walk (grow (W0.drewN m) os) w.heap.size (w.heap.size + 1) b ba bc bk ks.length kc x y hn (by omega) (hc _ _ ((hp_cell (i := 0) c2).trans rfl)) (hc _ _ ((hp_cell (i := 0) c3).trans rfl)) (hc _ _ ((hp_cell (i := 1) hr0).trans rfl)) (hc _ _ ha0) (hc _ _ (by rw [hk0 _ (by omega), hy]))).mono ?_
      rintro e w' ⟨he, q, hq⟩
      exact ⟨he, q, #[], by rw [hq, grow_empty]⟩) (fun _ _ _ _ h => h)
  have hcnt : ((List.range 1).countP (fun i => !(fun _ : Nat => !decide (y.data.toList < x.data.toList)) i) : Nat) = if l = ks.length then 1 else 0 := by
    by_cases h : l = ks.length
    · rw [if_pos h, decide_eq_true (hll.2 h)]; rfl
    · rw [if_neg h, decide_eq_false (fun hh => h (hll.1 hh))]; rfl
  rw [hcnt] at hS
  have HS := Lib.hid hS
  have HSS := Lib.hid (fun W (hB : Below W0.heap.size W0 W) => by
    have h := Try.sort_SearchStrings bk 0 kc ks.toArray x W (fun i hi => by
      rw [List.size_toArray] at hi
      rw [Nat.zero_add, hB.cell (p := ⟨bk, i, none⟩) hbk, hk0 i hi, getElem!_pos ks.toArray i (by simpa using hi), List.getElem_toArray]) (Nat.lt_of_lt_of_le hbk hB.size) (by rw [List.size_toArray]; omega) (rising_mono hs x)
    rw [klo_arr, ← hl, List.size_toArray] at h
    exact h)
  rw [← hl]
  have HB := Lib.hid hb
  have C2 := Lib.hid c2
  have C3 := Lib.hid c3
  have R0 := Lib.hid hr0
  have A0 := Lib.hid ha0
  have EW := Lib.hid hW0
  have r1' := (hp_cell (i := 1) hr0).trans rfl
  have c2' := (hp_cell (i := 0) c2).trans rfl
  obtain ⟨n, hnn⟩ : ∃ n, n = ks.length := ⟨_, rfl⟩
  rw [← hnn] at HS HSS A0 ⊢
  clear hS hb hr hr0 hW0 eg c2 c3 ha hk ha0 hk0 hbk hy hl hll hcnt hs hn h63 hnn
  by_cases hln : l = n
  · rw [if_pos hln] at HS ⊢
    clear hln HSS
    go_enter Try.func145, Try.ntmps145
    go_upto_region 1 with (fail)
    rw [← EW.out]
    clear EW
    go_wp2_with (go_at_call 155; refine HS.out.mono ?_; rintro e w1 ⟨rfl, qd, os, hw1⟩; have B1 := Lib.hid (show Below W0.heap.size W0 w1 by rw [hw1]; exact below_grown_sl _ _ _ _ (Nat.le_refl _)); have d2 := (hp_cell (i := 0) ((B1.out.block _ (hp_lt C2.out)).trans C2.out)).trans rfl; have d1 := (hp_cell (i := 1) ((B1.out.block _ (hp_lt R0.out)).trans R0.out)).trans rfl; clear hw1)
    go_ret2
    exact ⟨rfl, HB.out.trans (B1.out.mono HB.out.size)⟩
  · rw [if_neg hln] at HS ⊢
    clear hln
    go_enter Try.func145, Try.ntmps145
    go_upto_region 1 with (fail)
    rw [← EW.out]
    clear EW
    go_upto_region 4 with (go_at_call 155; refine HS.out.mono ?_; rintro e w1 ⟨rfl, qd, os, hw1⟩; have B1 := Lib.hid (show Below W0.heap.size W0 w1 by rw [hw1]; exact below_grown_sl _ _ _ _ (Nat.le_refl _)); have d2 := (hp_cell (i := 0) ((B1.out.block _ (hp_lt C2.out)).trans C2.out)).trans rfl; have d3 := (hp_cell (i := 0) ((B1.out.block _ (hp_lt C3.out)).trans C3.out)).trans rfl; have d1 := (hp_cell (i := 1) ((B1.out.block _ (hp_lt R0.out)).trans R0.out)).trans rfl; have d0 := (B1.out.cell (p := ⟨ba, 0, none⟩) (World.block_lt_of_cell? _ _ A0.out)).trans A0.out; clear hw1)
    go_region_held3 (fun w' => w'.cell? ⟨w.heap.size, 0, none⟩ = some (.pointer (some ⟨b, 0, none⟩)) ∧ w'.cell? ⟨w.heap.size + 1, 0, none⟩ = some (.string x) ∧ w'.cell? ⟨b, 1, none⟩ = some (.slice (some ⟨ba, 0, none⟩) 1 bc) ∧ w'.cell? ⟨ba, 0, none⟩ = some (.slice (some ⟨bk, 0, none⟩) n kc) ∧ Below W0.heap.size W0 w')
      ((first | exact ⟨d2, d3, d1, d0, B1.out⟩ | exact ⟨d2, d3, d1, d0, B1.out.drew⟩ | exact pl_keep C2.out C3.out R0.out A0.out B2.out))
      ((go_at_call 157; refine (HSS.out _ B1.out.drew).mono ?_; rintro e w2 ⟨rfl, hb2⟩; have B2 := Lib.hid (B1.out.drew.trans (hb2.mono B1.out.drew.size)); clear hb2))
    all_goals go_wp2
    all_goals go_ret2
    all_goals exact ⟨rfl, HB.out.trans (B2.out.mono HB.out.size)⟩
end Go.Proofs.Ytedkhpnlhkjjgaa

namespace Go.Proofs.Ytedkhpnlhkjjgaa
open Go.RowKit Go.Maps Go.Sort

def putA (cur : Array Value) : Nat → List Value → Array Value
  | _, [] => cur
  | o, v :: r => putA (cur.setIfInBounds o v) (o + 1) r
theorem putA_size : ∀ (vs : List Value) (cur : Array Value) (o : Nat), (putA cur o vs).size = cur.size
  | [], _, _ => rfl
  | v :: r, cur, o => by rw [putA, putA_size r]; simp
theorem putA_list : ∀ (vs : List Value) (cur : Array Value) (o : Nat), o + vs.length ≤ cur.size → (putA cur o vs).toList = cur.toList.take o ++ vs ++ cur.toList.drop (o + vs.length)
  | [], cur, o, h => by simp [putA]
  | v :: r, cur, o, h => by
    rw [putA, putA_list r _ _ (by simp at h ⊢; omega)]
    have h1 : o < cur.toList.length := by simp at h ⊢; omega
    have hlo : (cur.toList.take o).length = o := by rw [List.length_take]; omega
    have e1 : (cur.toList.set o v).take (o + 1) = cur.toList.take o ++ [v] := by
      rw [List.set_eq_take_append_cons_drop, if_pos h1, List.take_append, hlo, List.take_of_length_le (by omega), Nat.add_sub_cancel_left]
      rfl
    rw [Array.toList_setIfInBounds, e1, List.drop_set_of_lt (by omega)]
    simp [Nat.add_assoc, Nat.add_comm 1]
theorem heap_setCell_row {w : World} {b o : Nat} {cur : Array Value} {t : TypeId} {fr : Nat × Nat} (h : w.heap[b]? = some (.cells cur t fr)) (v : Value) : (w.setCell ⟨b, o, none⟩ v).heap[b]? = some (.cells (cur.setIfInBounds o v) t fr) := by
  simp only [World.setCell, Array.getElem?_modify]
  rw [if_pos trivial, h]
  rfl
theorem heap_setCells_row : ∀ (vs : List Value) (o : Nat) {w : World} {b : Nat} {cur : Array Value} {t : TypeId} {fr : Nat × Nat}, w.heap[b]? = some (.cells cur t fr) → (w.setCells b o vs).heap[b]? = some (.cells (putA cur o vs) t fr)
  | [], _, _, _, _, _, _, h => h
  | v :: r, o, _, _, _, _, _, h => heap_setCells_row r (o + 1) (heap_setCell_row h v)
theorem touch_setCells {F : List Nat} (b : Nat) (hb : b ∈ F) : ∀ (vs : List Value) (o : Nat) (w : World), Touch F w (w.setCells b o vs)
  | [], _, w => Touch.refl F w
  | v :: r, o, w => (Touch.setCell w ⟨b, o, none⟩ v hb).trans (fun _ hk => .inl hk) (touch_setCells b hb r (o + 1) _)
/-- a row that the store owns, opened -/
theorem ownsRow_open {w : World} {e : TypeId} {size : Nat} {g n cap : Nat} {xs : List Value} (h : w.ownsRow 0 e size (.slice (some ⟨g, 0, none⟩) n cap) n xs) : ∃ cur, w.heap[g]? = some (.cells cur e (0, 0)) ∧ n ≤ cap ∧ cap ≤ maxLen ∧ cur.size = cap * size ∧ cur.toList.take (n * size) = xs ∧ xs.length = n * size := by
  obtain ⟨h1, h2⟩ := h
  rcases h2 with ⟨h3, _⟩ | ⟨g', cap', cur, hv, hb, hg, hn, hc, hs, ht⟩
  · cases h3
  · cases hv
    exact ⟨cur, hg, hn, hc, hs, ht, h1⟩
theorem ownsRow_shut {w : World} {e : TypeId} {size : Nat} {g n cap : Nat} {xs : List Value} {cur : Array Value} (hg : w.heap[g]? = some (.cells cur e (0, 0))) (hn : n ≤ cap) (hc : cap ≤ maxLen) (hs : cur.size = cap * size) (ht : cur.toList.take (n * size) = xs) (hl : xs.length = n * size) : w.ownsRow 0 e size (.slice (some ⟨g, 0, none⟩) n cap) n xs :=
  ⟨hl, .inr ⟨g, cap, cur, rfl, Nat.zero_le _, hg, hn, hc, hs, ht⟩⟩
theorem zeroCells_size (n : Nat) : (Builtin.zeroCells (Value.string ⟨#[]⟩).cells n).size = n := by
  unfold Builtin.zeroCells
  rw [Array.size_map, Array.size_range]
  exact Nat.mul_one n
theorem ins_list {α : Type} (cs cur : List α) (x : α) (i n : Nat) (hn : cs.length = n) (hi : i ≤ n) (hc : n + 1 ≤ cur.length) (ht : cur.take i = cs.take i) :
    ((cur.take (i + 1) ++ cs.drop i ++ cur.drop (i + 1 + (n - i))).take i ++ [x] ++ (cur.take (i + 1) ++ cs.drop i ++ cur.drop (i + 1 + (n - i))).drop (i + 1)).take (n + 1) = cs.take i ++ [x] ++ cs.drop i := by
  have l1 : (cur.take (i + 1)).length = i + 1 := by rw [List.length_take]; omega
  have e1 : (cur.take (i + 1) ++ cs.drop i ++ cur.drop (i + 1 + (n - i))).take i = cs.take i := by
    rw [List.append_assoc, List.take_append_of_le_length (by omega), List.take_take, Nat.min_eq_left (by omega), ht]
  have e2 : (cur.take (i + 1) ++ cs.drop i ++ cur.drop (i + 1 + (n - i))).drop (i + 1) = cs.drop i ++ cur.drop (i + 1 + (n - i)) := by
    rw [List.append_assoc, List.drop_left' l1]
  rw [e1, e2, ← List.append_assoc]
  exact List.take_left' (by simp; omega)
theorem ins_list2 {α : Type} (cs cur : List α) (x : α) (i n : Nat) (hn : cs.length = n) (hi : i ≤ n) (hc : n + 1 ≤ cur.length) (ht : cur.take i = cs.take i) :
    ((cur.take i ++ [x] ++ cur.drop (i + 1)).take (i + 1) ++ cs.drop i ++ (cur.take i ++ [x] ++ cur.drop (i + 1)).drop (i + 1 + (n - i))).take (n + 1) = cs.take i ++ [x] ++ cs.drop i := by
  have l1 : (cur.take i ++ [x]).length = i + 1 := by simp; omega
  rw [List.take_left' l1, ht]
  exact List.take_left' (by simp; omega)
theorem touch_drew {F : List Nat} {w w' : World} (h : Touch F w w') : Touch F w w'.drew := ⟨h.os, h.tape, h.output, h.size, h.block⟩
theorem touch_alloc {F : List Nat} {w w' : World} (h : Touch F w w') (o : Obj) : Touch F w (w'.alloc o) :=
  ⟨h.os, h.tape, h.output, by rw [World.size_alloc]; have := h.size; omega, fun k hk hn => (Below.heap_alloc _ _ _ (Nat.lt_of_lt_of_le hk h.size)).trans (h.block k hk hn)⟩
theorem touch_cells_new {F : List Nat} {w w' : World} (h : Touch F w w') (b : Nat) (hb : w.heap.size ≤ b) (vs : List Value) (o : Nat) : Touch F w (w'.setCells b o vs) := by
  have h2 := touch_setCells (F := [b]) b (by simp) vs o w'
  exact ⟨h2.os.trans h.os, h2.tape.trans h.tape, h2.output.trans h.output, Nat.le_trans h.size h2.size, fun k hk hn => (h2.block k (Nat.lt_of_lt_of_le hk h.size) (by simp; omega)).trans (h.block k hk hn)⟩
set_option maxRecDepth 100000 in
set_option maxHeartbeats 1000000 in
theorem insert_own (ks : List ByteArray) (bk kc vb i : Nat) (x : ByteArray) (w : World) (hi : i ≤ ks.length) (hn : 0 < ks.length) (hN : ks.length ≤ 1000000) (hne : vb ≠ bk)
    (hk : w.ownsRow 0 9 1 (.slice (some ⟨bk, 0, none⟩) ks.length kc) ks.length (ks.map Value.string)) (hv : w.heap[vb]? = some (.cells #[.string x] 9 (0, 0))) :
    Calls Try.prog 152 #[.slice (some ⟨bk, 0, none⟩) ks.length kc, .int .i64 (i : Nat), .slice (some ⟨vb, 0, none⟩) 1 1] w fun e w' =>
      ∃ g cap, e = .returned (.slice (some ⟨g, 0, none⟩) (ks.length + 1 : Nat) cap) ∧ w'.ownsRow 0 9 1 (.slice (some ⟨g, 0, none⟩) (ks.length + 1) cap) (ks.length + 1) ((ks.take i ++ [x] ++ ks.drop i).map Value.string) ∧ (g = bk ∨ w.heap.size ≤ g) ∧ g < w'.heap.size ∧ Touch [bk] w w' := by
  obtain ⟨cur, hg, hnc, hcm, hcs, hct, hxl⟩ := ownsRow_open hk
  rw [Nat.mul_one] at hcs hct hxl
  have hcell : ∀ j v, (ks.map Value.string)[j]? = some v → w.cell? ⟨bk, 0 + j, none⟩ = some v := fun j v hj => by
    rw [Nat.zero_add]
    exact ownsRow_cell hk rfl hj
  have hvs : ∀ j v, [Value.string x][j]? = some v → w.cell? ⟨vb, 0 + j, none⟩ = some v := fun j v hj => by
    rcases j with _ | j
    · simp at hj; subst hj; rw [hp_cell hv]; rfl
    · simp at hj
  have h1v : ∀ v ∈ [Value.string x], v.oneCell' = true := fun v hv => by simp at hv; subst hv; rfl
  have h1c : ∀ v ∈ ks.map Value.string, v.oneCell' = true := fun v hv => by obtain ⟨y, _, rfl⟩ := List.mem_map.1 hv; rfl
  have hsome : ∀ j, j < kc → (w.cell? ⟨bk, j, none⟩).isSome = true := fun j hj => by
    rw [hp_cell hg]; simp [hcs, hj]
  have hfree : ∀ j, w.frozen? ⟨bk, j, none⟩ = false := fun j => hp_free hg
  have hc63 : kc ≤ 9223372036854775807 := hcm
  by_cases hroom : ks.length + 1 ≤ kc
  · by_cases he : i = ks.length
    · subst he
      refine (Try.slices_Insert_end_room bk 0 ks.length kc vb 0 1 1 [.string x] w (by omega) hroom hc63 rfl (fun j hj => by rw [Nat.zero_add]; exact hsome _ (by omega)) (fun j _ => hfree _) hvs h1v).mono ?_
      rintro e w' ⟨rfl, rfl⟩
      rw [Nat.zero_add]
      refine ⟨bk, kc, rfl, ?_, .inl rfl, ?_, touch_setCells bk (by simp) _ _ _⟩
      · refine ownsRow_shut (heap_setCells_row _ _ hg) hroom hcm (by rw [putA_size, hcs, Nat.mul_one]) ?_ (by simp)
        rw [putA_list _ _ _ (by simp; omega)]
        simp only [List.length_cons, List.length_nil, Nat.zero_add, Nat.mul_one]
        rw [hct, List.take_append_of_le_length (by simp), List.take_of_length_le (by simp)]
        simp
      · have := (touch_setCells (F := [bk]) bk (by simp) [.string x] ks.length w).size
        exact Nat.lt_of_lt_of_le (hp_lt hg) this
    · obtain ⟨tA, tB, kA, kB, s1, s2, s3⟩ : ∃ tA tB kA kB, w.shape? vb = some (tA, kA) ∧ w.shape? bk = some (tB, kB) ∧ kB ≠ 0 := ⟨9, 9, 1, kc, by simp [World.shape?, hv], by simp [World.shape?, hg, hcs], by omega⟩
      refine (Try.slices_Insert_shift bk 0 ks.length kc i vb 0 1 1 (ks.map Value.string) [.string x] w (by omega) (by omega) hroom hc63 hne (by simp) rfl hcell (fun j hj => by rw [Nat.zero_add]; exact hsome _ (by omega)) (fun j _ => hfree _) hvs h1c h1v tA tB kA kB s1 s2 s3 (hp_free hv) (hp_free hv)).mono ?_
      rintro e w' ⟨rfl, rfl⟩
      rw [Nat.zero_add, Nat.zero_add]
      refine ⟨bk, kc, rfl, ?_, .inl rfl, ?_, ?_⟩
      · refine ownsRow_shut (heap_setCells_row _ _ (heap_setCells_row _ _ (show w.drew.heap[bk]? = _ from hg))) hroom hcm (by rw [putA_size, putA_size, hcs, Nat.mul_one]) ?_ (by simp; omega)
        have l1 : ((ks.map Value.string).drop i).length = ks.length - i := by simp
        rw [putA_list _ _ _ (by rw [putA_size]; simp; omega), putA_list _ _ _ (by rw [l1]; omega), l1]
        simp only [List.length_cons, List.length_nil, Nat.zero_add, Nat.mul_one]
        rw [ins_list (ks.map Value.string) cur.toList (.string x) i ks.length (by simp) hi (by simp; omega) (by rw [← hct, List.take_take, Nat.min_eq_left (by omega)])]
        simp
      · have h1 := (touch_setCells (F := [bk]) bk (by simp) ((ks.map Value.string).drop i) (i + 1) w.drew).size
        have h2 := (touch_setCells (F := [bk]) bk (by simp) [.string x] i (w.drew.setCells bk (i + 1) ((ks.map Value.string).drop i))).size
        exact Nat.lt_of_lt_of_le (hp_lt hg) (Nat.le_trans h1 h2)
      · exact (touch_drew (Touch.refl [bk] w)).trans (fun _ hk => .inl hk) ((touch_setCells bk (by simp) _ _ _).trans (fun _ hk => .inl hk) (touch_setCells bk (by simp) _ _ _))
  · have hbig : (ks.length + 1) * 16 ≤ 140737488355328 := by omega
    have hge := grownCap_ge w (ks.length + 1) kc 9
    have hle := grownCap_le_maxLen w (ks.length + 1) kc 9 (by unfold maxLen; omega)
    obtain ⟨G, hG⟩ : ∃ G, G = grownCap w (ks.length + 1) kc 9 := ⟨_, rfl⟩
    rw [← hG] at hge hle
    by_cases he : i = ks.length
    · subst he
      refine (Try.slices_Insert_end_grow (some ⟨bk, 0, none⟩) ks.length kc vb 0 1 1 (ks.map Value.string) [.string x] w (by omega) hnc (by omega) hbig (by simp) rfl (fun h => by cases h) (fun a ha j v hj => by cases ha; rw [Addr.add_lit]; exact hcell j v hj) hvs h1v).mono ?_
      rintro e w' ⟨rfl, rfl⟩
      rw [← hG]
      refine ⟨w.heap.size, G, rfl, ?_, .inr (Nat.le_refl _), by simp, touch_alloc (touch_drew (Touch.refl [bk] w)) _⟩
      refine ownsRow_shut (heap_alloc_new w.drew _) hge hle (by simp [zeroCells_size]; omega) ?_ (by simp)
      rw [Array.toList_append, List.take_append_of_le_length (by simp), List.take_of_length_le (by simp)]
      simp
    · refine (Try.slices_Insert_grow bk 0 ks.length kc i vb 0 1 1 (ks.map Value.string) [.string x] w (by omega) (by omega) hnc (by omega) hbig (by simp) rfl hcell hvs h1c h1v).mono ?_
      rintro e w' ⟨rfl, rfl⟩
      rw [← hG]
      have hz := zeroCells_size (ks.length + 1 - i)
      have hz2 := zeroCells_size (G - (ks.length + 1))
      generalize Builtin.zeroCells (Value.string ⟨#[]⟩).cells (ks.length + 1 - i) = Z at hz ⊢
      generalize Builtin.zeroCells (Value.string ⟨#[]⟩).cells (G - (ks.length + 1)) = Y at hz2 ⊢
      refine ⟨w.heap.size, G, rfl, ?_, .inr (Nat.le_refl _), ?_, ?_⟩
      · refine ownsRow_shut (heap_setCells_row _ _ (heap_setCells_row _ _ (show (w.alloc (.cells _ 9)).drew.heap[w.heap.size]? = _ from heap_alloc_new w _))) hge hle (by rw [putA_size, putA_size]; simp [hz, hz2]; omega) ?_ (by simp; omega)
        have l1 : ((ks.map Value.string).drop i).length = ks.length - i := by simp
        have l2 : ((ks.map Value.string).take i).length = i := by simp; omega
        rw [putA_list _ _ _ (by rw [putA_size, l1]; simp [hz, hz2]; omega), putA_list _ _ _ (by simp [hz, hz2]; omega), l1]
        simp only [List.length_cons, List.length_nil, Nat.zero_add, Nat.mul_one]
        rw [ins_list2 (ks.map Value.string) _ (.string x) i ks.length (by simp) hi (by simp [hz, hz2]; omega) (by
          simp only [Array.toList_append, List.append_assoc]
          exact List.take_left' l2)]
        simp
      · have h1 := (touch_cells_new (F := []) (touch_drew (touch_alloc (Touch.refl [] w) (.cells (((ks.map Value.string).take i).toArray ++ Z ++ Y) 9))) w.heap.size (Nat.le_refl _) [.string x] i)
        have h2 := touch_cells_new (F := []) (touch_drew h1) w.heap.size (Nat.le_refl _) ((ks.map Value.string).drop i) (i + 1)
        have h3 := (touch_setCells (F := [w.heap.size]) w.heap.size (by simp) [.string x] i (w.alloc (.cells (((ks.map Value.string).take i).toArray ++ Z ++ Y) 9)).drew).size
        have h4 := (touch_setCells (F := [w.heap.size]) w.heap.size (by simp) ((ks.map Value.string).drop i) (i + 1) ((w.alloc (.cells (((ks.map Value.string).take i).toArray ++ Z ++ Y) 9)).drew.setCells w.heap.size i [.string x]).drew).size
        refine Nat.lt_of_lt_of_le ?_ h4
        refine Nat.lt_of_lt_of_le ?_ h3
        show w.heap.size < (w.alloc _).heap.size
        simp
      · exact touch_cells_new (touch_drew (touch_cells_new (touch_drew (touch_alloc (Touch.refl [bk] w) _)) _ (Nat.le_refl _) _ _)) _ (Nat.le_refl _) _ _
end Go.Proofs.Ytedkhpnlhkjjgaa
