/- How a hash that comes in is opened. -/
import Derived.Test.YthloohoefjmmoaaG00
import Derived.Test.YthloohoefjmmoaaG01
namespace Go.Proofs.Ythloohoefjmmoaa
open Go.ChangeShapes Go.WideShapes Go.ChangeAt Go.RowKit

theorem cellsHash : Try.prog.cellsOf 32 = 32 := by kernel_rfl
theorem cellsU8h : Try.prog.cellsOf 5 = 1 := by kernel_rfl
theorem wf_u8 {x : Int} (h : (Lit.int IntKind.u8 x).wf = true) : ∃ n : Nat, x = (n : Int) ∧ n < 256 := by
  have hb := bounds_u8 h
  exact ⟨x.toNat, by omega, by omega⟩
section
variable {H : Type} {enc : TypeId × Value → H} {W : World} {base : Nat}
/-- cells that read as a hash -/
theorem trod_hash {m : Nat} {cs : List Value} {x : DataW H × List MemPlace} (hl : cs.length = 32) (h : DataW.trod enc Try.prog W 0 (fun _ => true) true m 32 cs = some x) :
    ∃ f : Nat → Nat, (∀ i, f i < 256) ∧ cs = bys f 32 := by
  obtain ⟨ys, n2, _, _, _, hyl, hf⟩ := DataW.trod_array Try.underlying32 h
  have key : ∀ i, i < 32 → ∃ n : Nat, n < 256 ∧ cs[i]? = some (.int .u8 (n : Nat)) := fun i hi => by
    have e := hf i (by omega)
    rw [cellsU8h, Nat.mul_one] at e
    have hil : i < cs.length := by omega
    have ed : (cs.drop i).take 1 = [cs[i]] := by
      rw [List.drop_eq_getElem_cons hil]; rfl
    rw [ed, List.getElem?_eq_getElem (by omega)] at e
    obtain ⟨x, e0, _, w0⟩ := DataW.trod_int Try.underlying5 e
    obtain ⟨n, rfl, hn⟩ := wf_u8 w0
    refine ⟨n, hn, ?_⟩
    rw [List.getElem?_eq_getElem hil]
    simpa using e0
  obtain ⟨f, hfz⟩ : ∃ f : Nat → Nat, ∀ i, i < 32 → f i < 256 ∧ cs[i]? = some (.int .u8 (f i : Nat)) :=
    ⟨fun i => if h : i < 32 then (key i h).choose else 0, fun i hi => by simp only [dif_pos hi]; exact (key i hi).choose_spec⟩
  refine ⟨fun i => if i < 32 then f i else 0, fun i => ?_, ?_⟩
  · show (if i < 32 then f i else 0) < 256
    split
    · exact (hfz i (by assumption)).1
    · decide
  · refine List.ext_getElem? fun i => ?_
    by_cases hi : i < 32
    · rw [(hfz i hi).2, bys_get _ hi, if_pos hi]
    · rw [List.getElem?_eq_none (by omega), List.getElem?_eq_none (by rw [bys_length]; omega)]
set_option maxRecDepth 100000 in
theorem open_hash {v : Value} {d : DataW H} {p : List MemPlace} (hv : Value.okWide Try.prog W .any base 32 v) (h : DataW.Trod enc Try.prog W 0 (fun _ => true) true 32 v d p) :
    ∃ f : Nat → Nat, (∀ i, f i < 256) ∧ v = .agg (bys f 32).toArray := by
  obtain ⟨cs, rfl, hsz, _⟩ : ∃ cs, v = .agg cs ∧ cs.size = Try.prog.cellsOf 32 ∧ Row.okWide Try.prog W .any base 32 cs := by
    simpa [Value.okWide, Try.underlying32] using hv
  rw [cellsHash] at hsz
  obtain ⟨fuel, hf⟩ := h
  obtain ⟨f, h1, h2⟩ := trod_hash (cs := cs.toList) (by simpa using hsz) hf
  exact ⟨f, h1, by rw [← h2]⟩
end
end Go.Proofs.Ythloohoefjmmoaa

namespace Go.Proofs.Ythloohoefjmmoaa
open Go.RowKit

theorem D8_cells (w : World) (m : Nat) (t : TypeId) : ∀ i, i < 8 → (w.alloc (.cells #[.int .u8 (kbyte m 7 : Nat), .int .u8 (kbyte m 6 : Nat), .int .u8 (kbyte m 5 : Nat), .int .u8 (kbyte m 4 : Nat), .int .u8 (kbyte m 3 : Nat), .int .u8 (kbyte m 2 : Nat), .int .u8 (kbyte m 1 : Nat), .int .u8 (kbyte m 0 : Nat)] t)).cell? ⟨w.heap.size, 0 + i, none⟩ = some (.int .u8 ((ints (kb8 m)).getD i 0)) := by
  intro i hi
  rw [Nat.zero_add, World.cell?_alloc_new]
  rcases (by omega : i = 0 ∨ i = 1 ∨ i = 2 ∨ i = 3 ∨ i = 4 ∨ i = 5 ∨ i = 6 ∨ i = 7) with rfl | rfl | rfl | rfl | rfl | rfl | rfl | rfl <;> rfl
def numStr (n : Int) : ByteArray := strOfNums (ints (kb8 (max n 0).toNat))
set_option maxRecDepth 100000 in
set_option maxHeartbeats 1000000 in
theorem knum_walk (n : Int) (w : World) (hn : n < 2 ^ 63) : Calls Try.prog 47 #[.int .i64 n] w fun e w' => e = .returned (.string (numStr n)) ∧ Below w.heap.size w w' := by
  go_enter Try.func47, Try.ntmps47
  go_wp2_with fail
  · refine (dig_c (0 : Int) _ (by omega) (by omega)).mono ?_
    rintro e w2 ⟨rfl, hb2⟩
    obtain ⟨m, hm⟩ : ∃ m, m = (0 : Int).toNat := ⟨_, rfl⟩
    rw [← hm]
    unfold D8
    have hcv := run_convert_bytes_arg (P := Try.prog) (w2.alloc (.cells #[.int .u8 (kbyte m 7 : Nat), .int .u8 (kbyte m 6 : Nat), .int .u8 (kbyte m 5 : Nat), .int .u8 (kbyte m 4 : Nat), .int .u8 (kbyte m 3 : Nat), .int .u8 (kbyte m 2 : Nat), .int .u8 (kbyte m 1 : Nat), .int .u8 (kbyte m 0 : Nat)] 83)) 73 5 Try.underlying73 Try.underlying5 w2.heap.size 0 8 8 (ints (kb8 m)) rfl (D8_cells w2 _ _) 9 Try.underlying9
    have hst : numStr n = strOfNums (ints (kb8 m)) := by unfold numStr; rw [Int.max_eq_right (by omega), ← hm]
    rw [← hst] at hcv
    clear hst hn hm
    go_wp2
    go_ret
    exact ⟨rfl, hb2.alloc hb2.size _⟩
  · refine (dig_c (n) _ (by omega) (by omega)).mono ?_
    rintro e w2 ⟨rfl, hb2⟩
    obtain ⟨m, hm⟩ : ∃ m, m = (n).toNat := ⟨_, rfl⟩
    rw [← hm]
    unfold D8
    have hcv := run_convert_bytes_arg (P := Try.prog) (w2.alloc (.cells #[.int .u8 (kbyte m 7 : Nat), .int .u8 (kbyte m 6 : Nat), .int .u8 (kbyte m 5 : Nat), .int .u8 (kbyte m 4 : Nat), .int .u8 (kbyte m 3 : Nat), .int .u8 (kbyte m 2 : Nat), .int .u8 (kbyte m 1 : Nat), .int .u8 (kbyte m 0 : Nat)] 83)) 73 5 Try.underlying73 Try.underlying5 w2.heap.size 0 8 8 (ints (kb8 m)) rfl (D8_cells w2 _ _) 9 Try.underlying9
    have hst : numStr n = strOfNums (ints (kb8 m)) := by unfold numStr; rw [Int.max_eq_left (by omega), ← hm]
    rw [← hst] at hcv
    clear hst hn hm
    go_wp2
    go_ret
    exact ⟨rfl, hb2.alloc hb2.size _⟩
end Go.Proofs.Ythloohoefjmmoaa

namespace Go.Proofs.Ythloohoefjmmoaa
open Go.RowKit

/-- the number of the first k bytes -/
def numv (v : ByteArray) : Nat → Nat
  | 0 => 0
  | k + 1 => numv v k * 256 + (v.data.toList.getD k 0).toNat
theorem numv_lt (v : ByteArray) : ∀ k, numv v k < 2 ^ (8 * k)
  | 0 => by simp [numv]
  | k + 1 => by
    have h := numv_lt v k
    have h2 := (v.data.toList.getD k 0).toNat_lt
    rw [numv, show 8 * (k + 1) = 8 * k + 8 by omega, Nat.pow_add]
    omega
theorem or_byte {n y : Nat} (hn : n < 2 ^ 56) (hy : y < 256) : bits BinOp.or IntKind.u64 (IntKind.u64.wrap ((n : Int) * 256)) (IntKind.u64.wrap (y : Int)) = ((n * 256 + y : Nat) : Int) := by
  have h1 : IntKind.u64.wrap ((n : Int) * 256) = ((n * 256 : Nat) : Int) := by rw [IntKind.wrap_u64]; omega
  have h2 : IntKind.u64.wrap (y : Int) = ((y : Nat) : Int) := by rw [IntKind.wrap_u64]; omega
  rw [h1, h2, u64_or_nat _ _ (by omega) (by omega), nat_join 8 _ _ (by omega) (by omega)]
theorem num_top (n : Nat) : ((n : Int) / 9223372036854775808 == 0) = decide (n < 2 ^ 63) := by
  by_cases h : n < 2 ^ 63
  · rw [decide_eq_true h, beq_iff_eq]; omega
  · rw [decide_eq_false h, beq_eq_false_iff_ne]; omega
def NumRel (v : ByteArray) (w : World) (x i : Value) (wr : World) : Prop := ∃ k : Nat, k ≤ 8 ∧ i = .int .i64 (k : Nat) ∧ x = .int .u64 (numv v k : Nat) ∧ wr = w
set_option maxRecDepth 100000 in
set_option maxHeartbeats 1000000 in
theorem number_walk (v : ByteArray) (w : World) (hv : 8 ≤ v.size) (hv2 : (v.size : Int) ≤ 9223372036854775807) : Calls Try.prog 62 #[.string v] w fun e w' => e = .returned (.tuple #[.int .i64 (IntKind.i64.wrap (numv v 8 : Nat)), .bool (decide (numv v 8 < 2 ^ 63))]) ∧ w' = w := by
  go_enter Try.func62, Try.ntmps62
  go_wp2
  go_loopw [4, 6] (NumRel v w) (fun _ i _ => 8 - (intOf i).toNat)
  case atStart => exact ⟨0, by omega, rfl, rfl, rfl⟩
  case round =>
    obtain ⟨k, hk, rfl, rfl, rfl⟩ := hrel
    obtain ⟨n, hn⟩ : ∃ n, n = numv v k := ⟨_, rfl⟩
    rw [← hn]
    have Hn := Lib.hid hn
    clear hn
    by_cases hlt : k < 8
    · have kv : (k : Int) < v.size := by omega
      go_wp2
      go_roundw
      case rel =>
        have h1 : n < 2 ^ 56 := by
          rw [Hn.out]
          exact Nat.lt_of_lt_of_le (numv_lt v k) (Nat.pow_le_pow_right (by decide) (by omega))
        refine ⟨k + 1, by omega, by go_num, ?_, rfl⟩
        rw [or_byte h1 (UInt8.toNat_lt _), numv, ← Hn.out]
        congr 4
        have hk8 : k < v.data.toList.length := by have : v.data.toList.length = v.size := rfl; omega
        simp only [List.getD, List.getElem?_eq_getElem hk8, Option.getD_some]
        rfl
      case measure => simp [intOf]; omega
    · obtain rfl : k = 8 := by omega
      go_wp2
      refine bodyPost_ret (v := .tuple #[.int .i64 (wrap64 (n : Int)), .bool ((n : Int) / 9223372036854775808 == 0)]) (by simp [results, Try.results62, go_sem]) rfl ⟨?_, rfl⟩
      rw [← Hn.out, num_top, show wrap64 (n : Int) = IntKind.i64.wrap (n : Int) by rw [IntKind.wrap_i64]; unfold wrap64; omega]
end Go.Proofs.Ythloohoefjmmoaa
