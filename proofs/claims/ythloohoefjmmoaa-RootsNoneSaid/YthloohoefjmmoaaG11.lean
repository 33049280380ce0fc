/- strings.Builder: copyCheck, WriteString, walked. -/
import Derived.Test.YthloohoefjmmoaaG09
import Derived.Test.YthloohoefjmmoaaG04
import Derived.Shelf.Strings.Builder1
import Derived.Deep.RegionHeld3
import Derived.StillTailTactics
namespace Go.Proofs.Ythloohoefjmmoaa
open Go.RowKit Go.Maps

theorem bldSize : (Try.prog.info? 97).map (·.size) = some 2 := by kernel_rfl
theorem bldLies : liesAt Try.prog Try.prog.depth 97 (2 / Try.prog.cellsOf 97) 0 97 1 = true := by kernel_rfl
theorem bldByte : (Try.prog.info? 5).map (fun i => (i.zero, i.size, i.bytes)) = some (some (.int .u8 0), 1, 1) := by kernel_rfl
/-- the builder b holds the bytes bs -/
abbrev Bld (B b : Nat) (bs : List Value) (w : World) : Prop := Lib.IsBuilder 97 5 B b bs w
set_option maxHeartbeats 1000000 in
set_option maxRecDepth 100000 in
theorem bld_used (b : Nat) (w : World) (h0 : w.cell? ⟨b, 0, none⟩ = some (.pointer (some ⟨b, 0, none⟩))) :
    Calls Try.prog 59 #[.pointer (some ⟨b, 0, none⟩)] w fun e w' => e = .returned (.tuple #[]) ∧ w' = w := by
  obtain ⟨j, hj, _⟩ := Option.map_eq_some_iff.1 bldSize
  go_enter Try.func59, Try.ntmps59
  go_wp2
  rw [Lib.run_neq_ptr_same w _ Try.underlying95 hj]
  go_wp2
  go_end0
  exact ⟨rfl, rfl⟩
set_option maxHeartbeats 1000000 in
set_option maxRecDepth 100000 in
theorem bld_fresh (b : Nat) (w : World) (h0 : w.cell? ⟨b, 0, none⟩ = some (.pointer none)) (hsh : w.shape? b = some (97, 2)) (hfz : w.frozen? ⟨b, 0, none⟩ = false) :
    Calls Try.prog 59 #[.pointer (some ⟨b, 0, none⟩)] w fun e w' => e = .returned (.tuple #[]) ∧ w' = w.setCell ⟨b, 0, none⟩ (.pointer (some ⟨b, 0, none⟩)) := by
  obtain ⟨j, hj, hjs⟩ := Option.map_eq_some_iff.1 bldSize
  go_enter Try.func59, Try.ntmps59
  go_wp2
  rw [Lib.run_to_unsafe w ⟨b, 0, none⟩ Try.underlying95 Try.underlying121 hj (by rw [hjs]; decide) hsh (Nat.zero_lt_succ 1)]
  simp only [Result.andThen]
  rw [Oper.upon_value]
  go_wp2
  rw [run_callFunc_extern Try.func64 (by kernel_rfl) (by kernel_rfl) (by kernel_rfl) (e := Extern.AbiNoEscape.same) (by kernel_rfl)]
  rw [Lib.run_noEscape]
  simp only [Result.andThen]
  rw [Oper.upon_value]
  go_wp2
  rw [Lib.run_from_unsafe w ⟨b, 0, none⟩ Try.underlying121 Try.underlying95 hj hsh bldLies]
  simp only [Result.andThen]
  rw [Oper.upon_value]
  go_wp2
  go_end0
  exact ⟨rfl, rfl⟩
theorem bld_check (B b : Nat) (bs : List Value) (w : World) (h : Bld B b bs w) :
    Calls Try.prog 59 #[.pointer (some ⟨b, 0, none⟩)] w fun e w' => e = .returned (.tuple #[]) ∧ (Lib.BuilderAt 97 5 B b (.pointer (some ⟨b, 0, none⟩)) bs w' ∧ Below B w w') := by
  rcases h with h | h
  · refine (bld_fresh b w h.cell0 h.shape h.frozen0).mono ?_
    rintro e w' ⟨rfl, rfl⟩
    exact ⟨rfl, h.used _, (Below.refl B w).setCell (p := ⟨b, 0, none⟩) h.1 _⟩
  · refine (bld_used b w h.cell0).mono ?_
    rintro e w' ⟨rfl, rfl⟩
    exact ⟨rfl, h, Below.refl B _⟩
set_option maxHeartbeats 1000000 in
set_option maxRecDepth 100000 in
theorem bld_write (B b : Nat) (bs : List Value) (s : ByteArray) (w : World) (h : Bld B b bs w) (hlen : bs.length + s.size ≤ 140737488355328) (hBw : B ≤ w.heap.size) :
    Calls Try.prog 46 #[.pointer (some ⟨b, 0, none⟩), .string s] w fun e w' => e = .returned (.tuple #[.int .i64 s.size, .nilIface]) ∧ Bld B b (bs ++ Lib.strCells s) w' ∧ Below B w w' := by
  obtain ⟨i0, hi, hz0, hz1, hz2⟩ := info_parts bldByte
  have HC := Lib.hid (bld_check B b bs w h)
  go_enter Try.func46, Try.ntmps46
  go_wp2_with (go_at_call 59; refine HC.out.mono ?_)
  rintro e w1 ⟨rfl, h1, hb1⟩
  obtain ⟨hB, v, hbk, hown, hne⟩ := h1
  have c0 : w1.cell? ⟨b, 0, none⟩ = some (.pointer (some ⟨b, 0, none⟩)) := by rw [Lib.cell_of_heap hbk]; rfl
  have c1 : w1.cell? ⟨b, 1, none⟩ = some v := by rw [Lib.cell_of_heap hbk]; rfl
  go_wp2_with (at_builtin; refine Lib.wpList_append_own_string _ rfl _ _ 73 9 rfl B 5 i0 Try.underlying73 Try.underlying9 hi hz0 hz1 hz2 _ _ _ rfl hown s rfl ?c3 ?c4 ?c5 ?_)
  case c3 => unfold maxLen; omega
  case c4 => omega
  case c5 => have := hb1.size; omega
  intro v' w2 hown' hgrow _
  have hlt : b < w1.heap.size := hp_lt hbk
  have hb2 : w2.heap[b]? = some (.cells #[.pointer (some ⟨b, 0, none⟩), v] 97 (0, 0)) := by
    rw [hgrow.block b hlt (fun e => hne e.symm)]
    exact hbk
  have d0 : w2.cell? ⟨b, 0, none⟩ = some (.pointer (some ⟨b, 0, none⟩)) := by rw [Lib.cell_of_heap hb2]; rfl
  have d1 : w2.cell? ⟨b, 1, none⟩ = some v := by rw [Lib.cell_of_heap hb2]; rfl
  have f1 : w2.frozen? ⟨b, 1, none⟩ = false := Lib.frozen_of_heap hb2 1
  obtain ⟨ao, n', cap, rfl⟩ : ∃ ao n' cap, v' = .slice ao n' cap := by
    rcases hown'.2 with ⟨hv, _⟩ | ⟨g, cap, cur, hv, _⟩
    · exact ⟨_, _, _, hv⟩
    · exact ⟨_, _, _, hv⟩
  go_wp2
  go_ret2
  refine ⟨rfl, .inr ?_, ?_⟩
  · exact Lib.BuilderAt.put hB hb2 (bs' := bs ++ Lib.strCells s) (by simpa [Lib.strCells_length] using hown') (by decide)
  · exact (hb1.grown hgrow (by have := hb1.size; omega) (fun k hk => (hown.lt k hk).1)).setCell (p := ⟨b, 1, none⟩) hB _
end Go.Proofs.Ythloohoefjmmoaa

namespace Go.Proofs.Ythloohoefjmmoaa
open Go.RowKit Go.Maps

/-- the value of a row -/
def rowV (f : Nat → Int) (n : Nat) : ByteArray := ⟨(u8l (tl f 0 n)).toArray⟩
theorem tl_len (f : Nat → Int) (r : Nat) : ∀ d, (tl f r d).length = 8 * d
  | 0 => rfl
  | d + 1 => by rw [tl_snoc, List.length_append, tl_len f r d]; simp [kb8]; omega
theorem u8l_len (l : List Nat) : (u8l l).length = l.length := by simp [u8l]
theorem rowV_size (f : Nat → Int) (n : Nat) : (rowV f n).size = 8 * n := by
  show (u8l (tl f 0 n)).toArray.size = 8 * n
  rw [List.size_toArray, u8l_len, tl_len]
theorem rowV_ne {f : Nat → Int} {n : Nat} (h : 1 ≤ n) : rowV f n ≠ ⟨#[]⟩ := by
  intro e
  have := rowV_size f n
  rw [e] at this
  have h0 : (⟨#[]⟩ : ByteArray).size = 0 := rfl
  omega
theorem numStr_cells {x : Int} (h : 0 ≤ x) : Lib.strCells (numStr x) = Lib.byteCells (u8l (kb8 x.toNat)) := by
  rw [Lib.strCells_eq]
  congr 1
  unfold numStr
  rw [Int.max_eq_left h, ← Lib.toList_data]
  exact strOfNums_u8l _
theorem byteCells_app (a b : List UInt8) : Lib.byteCells a ++ Lib.byteCells b = Lib.byteCells (a ++ b) := by simp [Lib.byteCells]
theorem bld_below {B b : Nat} {bs : List Value} {w w' : World} (h : Bld B b bs w) (hb : Below w.heap.size w w') : Bld B b bs w' := by
  rcases h with ⟨hB, v, hbk, hown, hne⟩ | ⟨hB, v, hbk, hown, hne⟩
  · exact .inl ⟨hB, v, (hb.block _ (hp_lt hbk)).trans hbk, kown_below hown hb, hne⟩
  · exact .inr ⟨hB, v, (hb.block _ (hp_lt hbk)).trans hbk, kown_below hown hb, hne⟩
set_option maxRecDepth 100000 in
set_option maxHeartbeats 2000000 in
theorem csetRow_set {w W : World} {b : Nat} {F : List Nat} {L : SL} {q : Nat} {qs : List Value} (h : SNew w W b F L q qs) (k : ByteArray) (A : Option Addr) (n c : Nat) (f : Nat → Int) (hl : Il W A n f) (hn0 : 1 ≤ n) (hn : n ≤ 100) (hf : ∀ i, i < n → 0 ≤ f i)
    (hk : k.size ≤ maxLen) (hk0 : k ≠ ⟨#[]⟩) (hN : L.length < 1000000) (hq : q < 1000000) :
    Calls Try.prog 33 #[.pointer (some ⟨b, 0, none⟩), .string k, .slice A n c] W fun e W' => e = .returned (.tuple #[]) ∧ LiveTo w W W' b F (setL L k (rowV f n)) (q + 1) := by
  have hnI : (n : Int) ≤ 100 := by omega
  have hb1 := (Below.refl W.heap.size W).alloc (Nat.le_refl _) (.cells #[.pointer none, .slice none 0 0] 97)
  have hB1 : Bld W.heap.size W.heap.size [] (W.alloc (.cells #[.pointer none, .slice none 0 0] 97)) := .inl ⟨Nat.le_refl _, .slice none 0 0, heap_alloc_new _ _, ⟨rfl, .inl ⟨rfl, rfl⟩⟩, by simp [Value.ownBlock]⟩
  have HB1 := Lib.hid hb1
  have HBl := Lib.hid hB1
  have HF := Lib.hid hf
  have HS := Lib.hid (fun (W1 : World) (hb : Below W.heap.size W W1) => (cput_set (h.below hb) k (rowV f n) hk (by rw [rowV_size]; unfold maxLen; omega) hk0 (rowV_ne hn0) hN hq).mono fun e W' hp => (⟨hp.1, hp.2.pre hb⟩ : e = .returned (.tuple #[]) ∧ LiveTo w W W' b F (setL L k (rowV f n)) (q + 1)))
  obtain ⟨rv, hrv⟩ : ∃ x, x = rowV f n := ⟨_, rfl⟩
  rw [← hrv] at HS ⊢
  have HRV := Lib.hid hrv
  clear hb1 hB1 hf h hk hk0 hN hq hrv
  go_enter Try.func33, Try.ntmps33
  go_wp2
  go_loopw [11] (fun i wr => ∃ j : Nat, j ≤ n ∧ i = .int .i64 (j : Nat) ∧ Bld W.heap.size W.heap.size (Lib.byteCells (u8l (tl f 0 j))) wr ∧ Below W.heap.size W wr) (fun i _ => n - (intOf i).toNat)
  case atStart => exact ⟨0, by omega, rfl, HBl.out, HB1.out⟩
  case round =>
    obtain ⟨j, hj, rfl, hbl, hbe⟩ := hrel
    have HBd := Lib.hid hbl
    have HBe := Lib.hid hbe
    clear hbl hbe
    have kI : (j : Int) ≤ n := by omega
    by_cases hlt : j < n
    · have p1 : (j : Int) < (n : Int) := by omega
      obtain ⟨g, o, rfl, hg, hc⟩ := hl.at_ (by omega)
      have hm := hl.most j
      have h0 := HF.out j hlt
      have hck : wr.cell? ⟨g, o + j, none⟩ = some (.int .i64 (f j)) := by rw [HBe.out.cell (p := ⟨g, o + j, none⟩) hg]; exact hc j hlt
      have hnc := numStr_cells h0
      obtain ⟨x, hx⟩ : ∃ x, x = f j := ⟨_, rfl⟩
      rw [← hx] at hm h0 hck hnc
      have HX := Lib.hid hx
      have HNum := Lib.hid (fun w => knum_walk x w hm)
      have n1 : ¬ x < 0 := by omega
      have HM := Lib.hid hm
      have HNC := Lib.hid hnc
      clear hc hl hx hm hnc
      go_wp2_with (first
        | (go_at_call 46; refine (bld_write W.heap.size W.heap.size _ (numStr x) w2 (HB2b.out) (by rw [Lib.byteCells_length, u8l_len, tl_len, numStr_sizeA]; omega) HB2.out.size).mono ?_; rintro e w3 ⟨rfl, hb3, hbe3⟩; have HB3b := Lib.hid hb3; have HB3 := Lib.hid (HB2.out.trans hbe3); clear hb3 hbe3)
        | (go_at_call 47; refine (HNum.out _).mono ?_; rintro e w2 ⟨rfl, hb2⟩; have HB2 := Lib.hid (HBe.out.trans (hb2.mono HBe.out.size)); have HB2b := Lib.hid (bld_below HBd.out hb2); clear hb2))
      refine ⟨⟨j + 1, by omega, by simp, ?_, HB3.out⟩, by simp [intOf]; omega⟩
      have := HB3b.out
      rw [HNC.out, byteCells_app, ← u8l_append, HX.out] at this
      rw [tl_snoc, Nat.zero_add]
      exact this
    · obtain rfl : j = n := by omega
      have p1 : ¬ (j : Int) < (j : Int) := by omega
      have HStr := Lib.hid (Try.Builder_String_any W.heap.size W.heap.size (u8l (tl f 0 j)) wr HBd.out HBe.out.size)
      have HRV2 := HRV.out
      unfold rowV at HRV2
      rw [← HRV2] at HStr
      clear HRV2
      go_wp2_with (first
        | (go_at_call 48; refine (HS.out w5 HB5.out).mono ?_; rintro e w6 ⟨rfl, h6⟩; have H6 := Lib.hid h6; clear h6)
        | (go_at_call 49; refine HStr.out.mono ?_; rintro e w5 ⟨rfl, hb5⟩; have HB5 := Lib.hid (HBe.out.trans hb5); clear hb5))
      go_end0
      exact ⟨rfl, H6.out⟩
end Go.Proofs.Ythloohoefjmmoaa

namespace Go.Proofs.Ythloohoefjmmoaa
open Go.RowKit Go.Maps

theorem nums_row {f : Nat → Int} {n : Nat} (w : World) (hn : n ≤ 100) (hf : ∀ i, i < n → 0 ≤ f i ∧ f i < 2 ^ 63) : Calls Try.prog 54 #[.string (rowV f n)] w fun e w' => e = .returned (.tuple #[.slice (some ⟨w.heap.size, 0, none⟩) n n, .bool true]) ∧ (∀ i, i < n → w'.cell? ⟨w.heap.size, i, none⟩ = some (.int .i64 (f i))) ∧ (1 ≤ n → w.heap.size < w'.heap.size) ∧ Below w.heap.size w w' := by
  have hch : ∀ i, i < n → chunk (rowV f n) i = (f i).toNat := fun i hi => chunk_tl (f := f) (n := n) rfl hi (hf i hi).2
  refine (nums_walk (rowV f n) n w (by rw [rowV_size]) hn).mono ?_
  rintro e w' ⟨⟨_, he, hr⟩ | ⟨⟨i, hi, hne⟩, _⟩, hb⟩
  · refine ⟨he, fun i hi => ?_, fun _ => (hr.lt w.heap.size rfl).2, hb⟩
    rw [hr.cellAt i (by omega)]
    have h0 := (hf i hi).1
    have e1 : (((f i).toNat : Nat) : Int) = f i := by omega
    simp [i64n, hi, hch i hi, e1]
  · have := (hf i hi).2
    rw [hch i hi] at hne
    omega
set_option maxRecDepth 100000 in
set_option maxHeartbeats 1000000 in
theorem crow_some {w W : World} {b : Nat} {F : List Nat} {L : SL} {q : Nat} {qs : List Value} (h : SNew w W b F L q qs) (k : ByteArray) (f : Nat → Int) (n : Nat) (hn0 : 1 ≤ n) (hn : n ≤ 100) (hf : ∀ i, i < n → 0 ≤ f i ∧ f i < 2 ^ 63) (hk : k.size ≤ maxLen) (he : sget L k = some (rowV f n)) :
    Calls Try.prog 25 #[.pointer (some ⟨b, 0, none⟩), .string k] W fun e W' => (∃ g, e = .returned (.slice (some ⟨g, 0, none⟩) n n) ∧ (∀ i, i < n → W'.cell? ⟨g, i, none⟩ = some (.int .i64 (f i))) ∧ g < W'.heap.size) ∧ Below W.heap.size W W' := by
  have HG := Lib.hid (h.get_some k (rowV f n) hk he)
  have HN := Lib.hid (fun w => nums_row w hn hf)
  have HNB : Hid (Calls Try.prog 38 #[.func (Fn.func 27) #[.pointer (some ⟨b, 0, none⟩)] #[], .string k] W fun e W' => (∃ g, e = .returned (.slice (some ⟨g, 0, none⟩) n n) ∧ (∀ i, i < n → W'.cell? ⟨g, i, none⟩ = some (.int .i64 (f i))) ∧ g < W'.heap.size) ∧ Below W.heap.size W W') := by
    obtain ⟨rv, hrv⟩ : ∃ x, x = rowV f n := ⟨_, rfl⟩
    rw [← hrv] at HG HN
    have HN0 := Lib.hid hn0
    clear h hk he hn hf hrv hn0
    refine Lib.hid ?_
    go_enter Try.func38, Try.ntmps38
    go_wp2_with (first
      | (go_at_call 54; refine (HN.out w1).mono ?_; rintro e w2 ⟨rfl, hc, hl, hb⟩; have HC := Lib.hid hc; have HL := Lib.hid (hl HN0.out); have HB2 := Lib.hid (HB1.out.trans (hb.mono HB1.out.size)); clear hc hl hb)
      | (go_at_call 27; refine HG.out.mono ?_; rintro e w1 ⟨rfl, _, hb1⟩; have HB1 := Lib.hid hb1; clear hb1))
    go_ret
    exact ⟨⟨_, rfl, HC.out, HL.out⟩, HB2.out⟩
  clear h hk he hn hf HG HN hn0
  go_enter Try.func25, Try.ntmps25
  go_wp2_with (go_at_call 38; refine HNB.out.mono ?_; rintro e w1 ⟨⟨g, rfl, hc, hl⟩, hb1⟩; have HC := Lib.hid hc; have HL := Lib.hid hl; have HB1 := Lib.hid hb1; clear hb1 hc hl)
  go_ret
  exact ⟨⟨g, rfl, HC.out, HL.out⟩, HB1.out⟩
set_option maxRecDepth 100000 in
set_option maxHeartbeats 1000000 in
theorem crow_none {w W : World} {b : Nat} {F : List Nat} {L : SL} {q : Nat} {qs : List Value} (h : SNew w W b F L q qs) (k : ByteArray) (hk : k.size ≤ maxLen) (he : sget L k = none) :
    Calls Try.prog 25 #[.pointer (some ⟨b, 0, none⟩), .string k] W fun e W' => (∃ g, e = .returned (.slice (some ⟨g, 0, none⟩) 0 0)) ∧ Below W.heap.size W W' := by
  have HN := Lib.hid (numbers_none h k hk he)
  clear h hk he
  go_enter Try.func25, Try.ntmps25
  go_wp2_with (go_at_call 38; refine HN.out.mono ?_; rintro e w1 ⟨⟨g, rfl⟩, hb1⟩; have HB1 := Lib.hid hb1; clear hb1)
  go_ret
  exact ⟨⟨g, rfl⟩, HB1.out⟩
/-- delay's values -/
def dval (h : Bool) (n x a : Int) (m : Bool) : Value := .agg #[.bool h, .int .i64 n, .int .i64 x, .int .i64 a, .bool m]
end Go.Proofs.Ythloohoefjmmoaa
