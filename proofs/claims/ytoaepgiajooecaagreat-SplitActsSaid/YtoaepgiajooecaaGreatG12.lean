/- cell.SetRow of a row without a number below 0, and cell.Row, on a live store, walked. -/
import Derived.Test.YtoaepgiajooecaaGreatG11
import Derived.Test.YtoaepgiajooecaaGreatG03
import Derived.Deep.RegionHeld3
import Derived.StillTailTactics
namespace Go.Proofs.YtoaepgiajooecaaGreat
open Go.RowKit Go.Maps

/-- the value of a row -/
def rowV (f : Nat → Int) (n : Nat) : ByteArray := ⟨(u8l (tl f 0 n)).toArray⟩
theorem tl_len (f : Nat → Int) (r : Nat) : ∀ d, (tl f r d).length = 8 * d
  | 0 => rfl
  | d + 1 => by rw [tl_snoc, List.length_append, tl_len f r d]; simp [kb8]; omega
theorem u8l_len (l : List Nat) : (u8l l).length = l.length := by simp [u8l]
theorem rowV_size (f : Nat → Int) (n : Nat) : (rowV f n).size = 8 * n := by
  show (u8l (tl f 0 n)).toArray.size = 8 * n
  rw [List.size_toArray, u8l_len, tl_len]
theorem rowV_ne {f : Nat → Int} {n : Nat} (h : 1 ≤ n) : rowV f n ≠ ⟨#[]⟩ := by
  intro e
  have := rowV_size f n
  rw [e] at this
  have h0 : (⟨#[]⟩ : ByteArray).size = 0 := rfl
  omega
theorem numStr_cells {x : Int} (h : 0 ≤ x) : Lib.strCells (numStr x) = Lib.byteCells (u8l (kb8 x.toNat)) := by
  rw [Lib.strCells_eq]
  congr 1
  unfold numStr
  rw [Int.max_eq_left h, ← Lib.toList_data]
  exact strOfNums_u8l _
theorem byteCells_app (a b : List UInt8) : Lib.byteCells a ++ Lib.byteCells b = Lib.byteCells (a ++ b) := by simp [Lib.byteCells]
theorem bld_below {B b : Nat} {bs : List Value} {w w' : World} (h : Bld B b bs w) (hb : Below w.heap.size w w') : Bld B b bs w' := by
  rcases h with ⟨hB, v, hbk, hown, hne⟩ | ⟨hB, v, hbk, hown, hne⟩
  · exact .inl ⟨hB, v, (hb.block _ (hp_lt hbk)).trans hbk, kown_below hown hb, hne⟩
  · exact .inr ⟨hB, v, (hb.block _ (hp_lt hbk)).trans hbk, kown_below hown hb, hne⟩
set_option maxRecDepth 100000 in
set_option maxHeartbeats 2000000 in
theorem csetRow_set {w W : World} {b : Nat} {F : List Nat} {L : SL} {q : Nat} {qs : List Value} (h : SNew w W b F L q qs) (k : ByteArray) (A : Option Addr) (n c : Nat) (f : Nat → Int) (hl : Il W A n f) (hn0 : 1 ≤ n) (hn : n ≤ 100) (hf : ∀ i, i < n → 0 ≤ f i)
    (hk : k.size ≤ maxLen) (hk0 : k ≠ ⟨#[]⟩) (hN : L.length < 1000000) (hq : q < 1000000) :
    Calls Tryz.prog 70 #[.pointer (some ⟨b, 0, none⟩), .string k, .slice A n c] W fun e W' => e = .returned (.tuple #[]) ∧ LiveTo w W W' b F (setL L k (rowV f n)) (q + 1) := by
  have hnI : (n : Int) ≤ 100 := by omega
  have hb1 := (Below.refl W.heap.size W).alloc (Nat.le_refl _) (.cells #[.pointer none, .slice none 0 0] 141)
  have hB1 : Bld W.heap.size W.heap.size [] (W.alloc (.cells #[.pointer none, .slice none 0 0] 141)) := .inl ⟨Nat.le_refl _, .slice none 0 0, heap_alloc_new _ _, ⟨rfl, .inl ⟨rfl, rfl⟩⟩, by simp [Value.ownBlock]⟩
  have HB1 := Lib.hid hb1
  have HBl := Lib.hid hB1
  have HF := Lib.hid hf
  have HS := Lib.hid (fun (W1 : World) (hb : Below W.heap.size W W1) => (cput_set (h.below hb) k (rowV f n) hk (by rw [rowV_size]; unfold maxLen; omega) hk0 (rowV_ne hn0) hN hq).mono fun e W' hp => (⟨hp.1, hp.2.pre hb⟩ : e = .returned (.tuple #[]) ∧ LiveTo w W W' b F (setL L k (rowV f n)) (q + 1)))
  obtain ⟨rv, hrv⟩ : ∃ x, x = rowV f n := ⟨_, rfl⟩
  rw [← hrv] at HS ⊢
  have HRV := Lib.hid hrv
  clear hb1 hB1 hf h hk hk0 hN hq hrv
  go_enter Tryz.func70, Tryz.ntmps70
  go_wp2
  go_loopw [11] (fun i wr => ∃ j : Nat, j ≤ n ∧ i = .int .i64 (j : Nat) ∧ Bld W.heap.size W.heap.size (Lib.byteCells (u8l (tl f 0 j))) wr ∧ Below W.heap.size W wr) (fun i _ => n - (intOf i).toNat)
  case atStart => exact ⟨0, by omega, rfl, HBl.out, HB1.out⟩
  case round =>
    obtain ⟨j, hj, rfl, hbl, hbe⟩ := hrel
    have HBd := Lib.hid hbl
    have HBe := Lib.hid hbe
    clear hbl hbe
    have kI : (j : Int) ≤ n := by omega
    by_cases hlt : j < n
    · have p1 : (j : Int) < (n : Int) := by omega
      obtain ⟨g, o, rfl, hg, hc⟩ := hl.at_ (by omega)
      have hm := hl.most j
      have h0 := HF.out j hlt
      have hck : wr.cell? ⟨g, o + j, none⟩ = some (.int .i64 (f j)) := by rw [HBe.out.cell (p := ⟨g, o + j, none⟩) hg]; exact hc j hlt
      have hnc := numStr_cells h0
      obtain ⟨x, hx⟩ : ∃ x, x = f j := ⟨_, rfl⟩
      rw [← hx] at hm h0 hck hnc
      have HX := Lib.hid hx
      have HNum := Lib.hid (fun w => knum_walk x w hm)
      have n1 : ¬ x < 0 := by omega
      have HM := Lib.hid hm
      have HNC := Lib.hid hnc
      clear hc hl hx hm hnc
      go_wp2_with (first
        | (go_at_call 90; refine (bld_write W.heap.size W.heap.size _ (numStr x) w2 (HB2b.out) (by rw [Lib.byteCells_length, u8l_len, tl_len, numStr_sizeA]; omega) HB2.out.size).mono ?_; rintro e w3 ⟨rfl, hb3, hbe3⟩; have HB3b := Lib.hid hb3; have HB3 := Lib.hid (HB2.out.trans hbe3); clear hb3 hbe3)
        | (go_at_call 65; refine (HNum.out _).mono ?_; rintro e w2 ⟨rfl, hb2⟩; have HB2 := Lib.hid (HBe.out.trans (hb2.mono HBe.out.size)); have HB2b := Lib.hid (bld_below HBd.out hb2); clear hb2))
      refine ⟨⟨j + 1, by omega, by simp, ?_, HB3.out⟩, by simp [intOf]; omega⟩
      have := HB3b.out
      rw [HNC.out, byteCells_app, ← u8l_append, HX.out] at this
      rw [tl_snoc, Nat.zero_add]
      exact this
    · obtain rfl : j = n := by omega
      have p1 : ¬ (j : Int) < (j : Int) := by omega
      have HStr := Lib.hid (Tryz.Builder_String_any W.heap.size W.heap.size (u8l (tl f 0 j)) wr HBd.out HBe.out.size)
      have HRV2 := HRV.out
      unfold rowV at HRV2
      rw [← HRV2] at HStr
      clear HRV2
      go_wp2_with (first
        | (go_at_call 64; refine (HS.out w5 HB5.out).mono ?_; rintro e w6 ⟨rfl, h6⟩; have H6 := Lib.hid h6; clear h6)
        | (go_at_call 91; refine HStr.out.mono ?_; rintro e w5 ⟨rfl, hb5⟩; have HB5 := Lib.hid (HBe.out.trans hb5); clear hb5))
      go_end0
      exact ⟨rfl, H6.out⟩
end Go.Proofs.YtoaepgiajooecaaGreat

namespace Go.Proofs.YtoaepgiajooecaaGreat
open Go.RowKit Go.Maps

theorem nums_row {f : Nat → Int} {n : Nat} (w : World) (hn : n ≤ 100) (hf : ∀ i, i < n → 0 ≤ f i ∧ f i < 2 ^ 63) : Calls Tryz.prog 92 #[.string (rowV f n)] w fun e w' => e = .returned (.tuple #[.slice (some ⟨w.heap.size, 0, none⟩) n n, .bool true]) ∧ (∀ i, i < n → w'.cell? ⟨w.heap.size, i, none⟩ = some (.int .i64 (f i))) ∧ (1 ≤ n → w.heap.size < w'.heap.size) ∧ Below w.heap.size w w' := by
  have hch : ∀ i, i < n → chunk (rowV f n) i = (f i).toNat := fun i hi => chunk_tl (f := f) (n := n) rfl hi (hf i hi).2
  refine (nums_walk (rowV f n) n w (by rw [rowV_size]) hn).mono ?_
  rintro e w' ⟨⟨_, he, hr⟩ | ⟨⟨i, hi, hne⟩, _⟩, hb⟩
  · refine ⟨he, fun i hi => ?_, fun _ => (hr.lt w.heap.size rfl).2, hb⟩
    rw [hr.cellAt i (by omega)]
    have h0 := (hf i hi).1
    have e1 : (((f i).toNat : Nat) : Int) = f i := by omega
    simp [i64n, hi, hch i hi, e1]
  · have := (hf i hi).2
    rw [hch i hi] at hne
    omega
set_option maxRecDepth 100000 in
set_option maxHeartbeats 1000000 in
theorem crow_some {w W : World} {b : Nat} {F : List Nat} {L : SL} {q : Nat} {qs : List Value} (h : SNew w W b F L q qs) (k : ByteArray) (f : Nat → Int) (n : Nat) (hn0 : 1 ≤ n) (hn : n ≤ 100) (hf : ∀ i, i < n → 0 ≤ f i ∧ f i < 2 ^ 63) (hk : k.size ≤ maxLen) (he : sget L k = some (rowV f n)) :
    Calls Tryz.prog 53 #[.pointer (some ⟨b, 0, none⟩), .string k] W fun e W' => (∃ g, e = .returned (.slice (some ⟨g, 0, none⟩) n n) ∧ (∀ i, i < n → W'.cell? ⟨g, i, none⟩ = some (.int .i64 (f i))) ∧ g < W'.heap.size) ∧ Below W.heap.size W W' := by
  have HG := Lib.hid (h.get_some k (rowV f n) hk he)
  have HN := Lib.hid (fun w => nums_row w hn hf)
  have HNB : Hid (Calls Tryz.prog 72 #[.func (Fn.func 73) #[.pointer (some ⟨b, 0, none⟩)] #[], .string k] W fun e W' => (∃ g, e = .returned (.slice (some ⟨g, 0, none⟩) n n) ∧ (∀ i, i < n → W'.cell? ⟨g, i, none⟩ = some (.int .i64 (f i))) ∧ g < W'.heap.size) ∧ Below W.heap.size W W') := by
    obtain ⟨rv, hrv⟩ : ∃ x, x = rowV f n := ⟨_, rfl⟩
    rw [← hrv] at HG HN
    have HN0 := Lib.hid hn0
    clear h hk he hn hf hrv hn0
    refine Lib.hid ?_
    go_enter Tryz.func72, Tryz.ntmps72
    go_wp2_with (first
      | (go_at_call 92; refine (HN.out w1).mono ?_; rintro e w2 ⟨rfl, hc, hl, hb⟩; have HC := Lib.hid hc; have HL := Lib.hid (hl HN0.out); have HB2 := Lib.hid (HB1.out.trans (hb.mono HB1.out.size)); clear hc hl hb)
      | (go_at_call 73; refine HG.out.mono ?_; rintro e w1 ⟨rfl, _, hb1⟩; have HB1 := Lib.hid hb1; clear hb1))
    go_ret
    exact ⟨⟨_, rfl, HC.out, HL.out⟩, HB2.out⟩
  clear h hk he hn hf HG HN hn0
  go_enter Tryz.func53, Tryz.ntmps53
  go_wp2_with (go_at_call 72; refine HNB.out.mono ?_; rintro e w1 ⟨⟨g, rfl, hc, hl⟩, hb1⟩; have HC := Lib.hid hc; have HL := Lib.hid hl; have HB1 := Lib.hid hb1; clear hb1 hc hl)
  go_ret
  exact ⟨⟨g, rfl, HC.out, HL.out⟩, HB1.out⟩
set_option maxRecDepth 100000 in
set_option maxHeartbeats 1000000 in
theorem crow_none {w W : World} {b : Nat} {F : List Nat} {L : SL} {q : Nat} {qs : List Value} (h : SNew w W b F L q qs) (k : ByteArray) (hk : k.size ≤ maxLen) (he : sget L k = none) :
    Calls Tryz.prog 53 #[.pointer (some ⟨b, 0, none⟩), .string k] W fun e W' => (∃ g, e = .returned (.slice (some ⟨g, 0, none⟩) 0 0)) ∧ Below W.heap.size W W' := by
  have HN := Lib.hid (numbers_none h k hk he)
  clear h hk he
  go_enter Tryz.func53, Tryz.ntmps53
  go_wp2_with (go_at_call 72; refine HN.out.mono ?_; rintro e w1 ⟨⟨g, rfl⟩, hb1⟩; have HB1 := Lib.hid hb1; clear hb1)
  go_ret
  exact ⟨⟨g, rfl⟩, HB1.out⟩
/-- delay's values -/
def dval (h : Bool) (n x a : Int) (m : Bool) : Value := .agg #[.bool h, .int .i64 n, .int .i64 x, .int .i64 a, .bool m]
set_option maxRecDepth 100000 in
set_option maxHeartbeats 400000 in
theorem settle_stays (h : Bool) (n x a b : Int) (w : World) (hab : b < a) : Calls Tryz.prog 46 #[dval h n x a true, .int .i64 b] w fun e w' => e = .returned (dval h n x a true) ∧ Below w.heap.size w w' := by
  unfold dval
  go_enter Tryz.func46, Tryz.ntmps46
  go_wp2
  refine bodyPost_ret (v := .agg #[.bool h, .int .i64 n, .int .i64 x, .int .i64 a, .bool true]) (by simp [results, Tryz.results46, go_sem]) rfl ⟨rfl, ?_⟩
  exact ((Below.refl w.heap.size w).alloc (Nat.le_refl _) _).alloc (by simp) _
set_option maxRecDepth 100000 in
set_option maxHeartbeats 400000 in
theorem settle_turns (h : Bool) (n x a b : Int) (w : World) (hab : ¬ b < a) : Calls Tryz.prog 46 #[dval h n x a true, .int .i64 b] w fun e w' => e = .returned (dval true x 0 0 false) ∧ Below w.heap.size w w' := by
  unfold dval
  go_enter Tryz.func46, Tryz.ntmps46
  go_wp2
  refine bodyPost_ret (v := .agg #[.bool true, .int .i64 x, .int .i64 0, .int .i64 0, .bool false]) (by simp [results, Tryz.results46, go_sem]) rfl ⟨rfl, ?_⟩
  exact ((Below.refl w.heap.size w).alloc (Nat.le_refl _) _).alloc (by simp) _
set_option maxRecDepth 100000 in
set_option maxHeartbeats 400000 in
theorem of_of (h0 : Bool) (n0 x a : Int) (m : Bool) (h1 : Bool) (n1 x1 a1 : Int) (m1 : Bool) (b : Int) (w : World) (HS0 : ∀ w, Calls Tryz.prog 46 #[dval h0 n0 x a m, .int .i64 b] w fun e w' => e = .returned (dval h1 n1 x1 a1 m1) ∧ Below w.heap.size w w') :
    Calls Tryz.prog 25 #[dval h0 n0 x a m, .int .i64 b] w fun e w' => e = .returned (.tuple #[.int .i64 n1, .bool h1]) ∧ Below w.heap.size w w' := by
  have hb0 := (Below.refl w.heap.size w).alloc (Nat.le_refl _) (.cells #[.bool h0, .int .i64 n0, .int .i64 x, .int .i64 a, .bool m] 59)
  have HB0 := Lib.hid hb0
  have HS := HS0 (w.alloc (.cells #[.bool h0, .int .i64 n0, .int .i64 x, .int .i64 a, .bool m] 59))
  unfold dval at HS ⊢
  have HSe := Lib.hid HS
  clear hb0 HS HS0
  go_enter Tryz.func25, Tryz.ntmps25
  go_wp2_with (go_at_call 46; refine HSe.out.mono ?_; rintro e w1 ⟨rfl, hb1⟩; have HB1 := Lib.hid (HB0.out.trans (hb1.mono HB0.out.size)); clear hb1)
  all_goals
    go_region
    all_goals
      go_wp2
      go_ret2
      exact ⟨rfl, (HB1.out.alloc HB1.out.size _).drew⟩
set_option maxRecDepth 100000 in
set_option maxHeartbeats 400000 in
theorem flag_walk (b : Bool) (w : World) : Calls Tryz.prog 71 #[.bool b] w fun e w' => e = .returned (.int .i64 (if b then 1 else 0)) ∧ w = w' := by
  cases b <;>
    (go_enter Tryz.func71, Tryz.ntmps71
     go_wp2
     go_ret
     exact ⟨rfl, rfl⟩)
end Go.Proofs.YtoaepgiajooecaaGreat

namespace Go.Proofs.YtoaepgiajooecaaGreat
open Go.RowKit Go.Maps

/-- the numbers of a value's row -/
def rowF (h : Bool) (n x a : Int) (m : Bool) : Nat → Int
  | 0 => if h then 1 else 0
  | 1 => n
  | 2 => if m then 1 else 0
  | 3 => x
  | _ => a
set_option maxRecDepth 100000 in
set_option maxHeartbeats 2000000 in
theorem drow_walk (h : Bool) (n x a : Int) (m : Bool) (w : World) (hn : n < 2 ^ 63) (hx : x < 2 ^ 63) (ha : a < 2 ^ 63) : Calls Tryz.prog 48 #[dval h n x a m] w fun e w' => (∃ g, e = .returned (.slice (some ⟨g, 0, none⟩) 5 5) ∧ Il w' (some ⟨g, 0, none⟩) 5 (rowF h n x a m)) ∧ Below w.heap.size w w' := by
  obtain ⟨i1, e1⟩ : ∃ i : Int, i = if h then 1 else 0 := ⟨_, rfl⟩
  obtain ⟨i2, e2⟩ : ∃ i : Int, i = if m then 1 else 0 := ⟨_, rfl⟩
  have hb1 := (Below.refl w.heap.size w).alloc (Nat.le_refl _) (.cells #[.bool h, .int .i64 n, .int .i64 x, .int .i64 a, .bool m] 59)
  have HB1 := Lib.hid hb1
  have HF1 := Lib.hid (fun w => show Calls Tryz.prog 71 #[.bool h] w fun e w' => e = .returned (.int .i64 i1) ∧ w = w' from by rw [e1]; exact flag_walk h w)
  have HF2 := Lib.hid (fun w => show Calls Tryz.prog 71 #[.bool m] w fun e w' => e = .returned (.int .i64 i2) ∧ w = w' from by rw [e2]; exact flag_walk m w)
  have HE := Lib.hid (And.intro e1 (And.intro e2 (And.intro hn (And.intro hx ha))))
  clear hb1 e1 e2 hn hx ha
  unfold dval
  go_enter Tryz.func48, Tryz.ntmps48
  go_upto_region 1 with fail
  go_region_held3 (fun w' => w'.cell? ⟨w.heap.size, 0, none⟩ = some (.bool h) ∧ w'.cell? ⟨w.heap.size, 1, none⟩ = some (.int .i64 n) ∧ w'.cell? ⟨w.heap.size, 2, none⟩ = some (.int .i64 x) ∧ w'.cell? ⟨w.heap.size, 3, none⟩ = some (.int .i64 a) ∧ w'.cell? ⟨w.heap.size, 4, none⟩ = some (.bool m))
    ((simp [go_sem, World.cell?_alloc_past]))
    ((first
      | (go_at_call 71; with_reducible refine (HF1.out _).mono ?_; rintro e w1 ⟨rfl, rfl⟩)
      | (go_at_call 71; with_reducible refine (HF2.out _).mono ?_; rintro e w1 ⟨rfl, rfl⟩)))
  all_goals
    go_wp2
    go_ret
    refine ⟨⟨_, rfl, fun i => ?_, fun _ => ⟨w.heap.size + 1, 0, rfl, ?_, fun i hi => ?_⟩⟩, ?_⟩
    · obtain ⟨e1, e2, hn, hx, ha⟩ := HE.out
      rcases i with _ | _ | _ | _ | i
      · show (if h then (1 : Int) else 0) < 2 ^ 63
        split <;> decide
      · exact hn
      · show (if m then (1 : Int) else 0) < 2 ^ 63
        split <;> decide
      · exact hx
      · exact ha
    · show w.heap.size + 1 < ((w.alloc _).alloc _).heap.size
      simp only [World.size_alloc]
      omega
    · obtain ⟨e1, e2, hn, hx, ha⟩ := HE.out
      refine (World.cell?_alloc_at _ _ _ _ (by simp)).trans ?_
      rcases (by omega : i = 0 ∨ i = 1 ∨ i = 2 ∨ i = 3 ∨ i = 4) with rfl | rfl | rfl | rfl | rfl
      · rw [e1]; rfl
      · rfl
      · rw [e2]; rfl
      · rfl
      · rfl
    · exact (HB1.out.alloc HB1.out.size _).drew
theorem rowF_nonneg {h : Bool} {n x a : Int} {m : Bool} (hn : 0 ≤ n) (hx : 0 ≤ x) (ha : 0 ≤ a) : ∀ i, i < 5 → 0 ≤ rowF h n x a m i := by
  intro i hi
  rcases (by omega : i = 0 ∨ i = 1 ∨ i = 2 ∨ i = 3 ∨ i = 4) with rfl | rfl | rfl | rfl | rfl
  · show (0 : Int) ≤ if h then 1 else 0
    split <;> decide
  · exact hn
  · show (0 : Int) ≤ if m then 1 else 0
    split <;> decide
  · exact hx
  · exact ha
set_option maxRecDepth 100000 in
set_option maxHeartbeats 1000000 in
theorem dput_walk {w W : World} {b : Nat} {F : List Nat} {L : SL} {q : Nat} {qs : List Value} (hs : SNew w W b F L q qs) (k : ByteArray) (h : Bool) (n x a : Int) (m : Bool) (hn : 0 ≤ n ∧ n < 2 ^ 63) (hx : 0 ≤ x ∧ x < 2 ^ 63) (ha : 0 ≤ a ∧ a < 2 ^ 63)
    (hk : k.size ≤ maxLen) (hk0 : k ≠ ⟨#[]⟩) (hN : L.length < 1000000) (hq : q < 1000000) :
    Calls Tryz.prog 47 #[.pointer (some ⟨b, 0, none⟩), .string k, .func (Fn.func 48) #[dval h n x a m] #[]] W fun e W' => e = .returned (.tuple #[]) ∧ LiveTo w W W' b F (setL L k (rowV (rowF h n x a m) 5)) (q + 1) := by
  have HR := Lib.hid (drow_walk h n x a m W hn.2 hx.2 ha.2)
  have HS := Lib.hid (fun (W1 : World) (hb : Below W.heap.size W W1) (g : Nat) (hl : Il W1 (some ⟨g, 0, none⟩) 5 (rowF h n x a m)) => (csetRow_set (hs.below hb) k (some ⟨g, 0, none⟩) 5 5 (rowF h n x a m) hl (by omega) (by omega) (rowF_nonneg hn.1 hx.1 ha.1) hk hk0 hN hq).mono fun e W' hp => (⟨hp.1, hp.2.pre hb⟩ : e = .returned (.tuple #[]) ∧ LiveTo w W W' b F (setL L k (rowV (rowF h n x a m) 5)) (q + 1)))
  obtain ⟨V, hV⟩ : ∃ y, y = dval h n x a m := ⟨_, rfl⟩
  obtain ⟨L', hL'⟩ : ∃ y, y = setL L k (rowV (rowF h n x a m) 5) := ⟨_, rfl⟩
  rw [← hL'] at HS ⊢
  rw [← hV] at HR ⊢
  clear hs hn hx ha hk hk0 hN hq hV hL'
  go_enter Tryz.func47, Tryz.ntmps47
  go_wp2_with (first
    | (go_at_call 70; refine (HS.out w1 HB1.out g HI.out).mono ?_; rintro e w2 ⟨rfl, h2⟩; have H2 := Lib.hid h2; clear h2)
    | (go_at_call 48; refine HR.out.mono ?_; rintro e w1 ⟨⟨g, rfl, hi⟩, hb1⟩; have HI := Lib.hid hi; have HB1 := Lib.hid hb1; clear hb1 hi))
  go_end0
  exact ⟨rfl, H2.out⟩
/-- the example's key -/
def K25 : ByteArray := ⟨#[25, 0, 0, 0, 0, 0, 0, 0, 7]⟩
theorem key25 : keyStr 25 (fun _ => 7) 1 = K25 := by decide +kernel
/-- the example's value, and its row -/
def V25 : Value := dval false 0 5 13 true
abbrev f25 : Nat → Int := rowF false 0 5 13 true
set_option maxRecDepth 100000 in
set_option maxHeartbeats 1000000 in
theorem dget_none {w W : World} {b : Nat} {F : List Nat} {L : SL} {q : Nat} {qs : List Value} (hs : SNew w W b F L q qs) (he : sget L K25 = none) (A : Option Addr) (c : Nat) (hl : Il W A 1 (fun _ => 7)) :
    Calls Tryz.prog 26 #[.pointer (some ⟨b, 0, none⟩), .int .i64 25, .slice A 1 c] W fun e W' => e = .returned dv0 ∧ Below W.heap.size W W' := by
  have hb0 := (Below.refl W.heap.size W).alloc (Nat.le_refl _) (.cells #[.bool false, .int .i64 0, .int .i64 0, .int .i64 0, .bool false] 59)
  have HB0 := Lib.hid hb0
  have HK := Lib.hid (key_walk 25 A 1 c (fun _ => 7) _ (hl.below hb0) (by omega))
  rw [show KeyPost 25 (fun _ => 7) 1 = fun w e w' => e = .returned (.string K25) ∧ Below w.heap.size w w' from by funext w e w'; unfold KeyPost; rw [key25]] at HK
  have HRw := Lib.hid (fun (W1 : World) (hb : Below W.heap.size W W1) => crow_none (hs.below hb) K25 (by decide) he)
  obtain ⟨kk, hkk⟩ : ∃ x, x = K25 := ⟨_, rfl⟩
  rw [← hkk] at HK HRw
  have r0 : (W.alloc (.cells #[.bool false, .int .i64 0, .int .i64 0, .int .i64 0, .bool false] 59)).heap[W.heap.size]? = some (.cells #[.bool false, .int .i64 0, .int .i64 0, .int .i64 0, .bool false] 59 (0, 0)) := heap_alloc_new _ _
  have R0 := Lib.hid r0
  have Z0 := Lib.hid (hp_lt r0)
  clear hs hl hb0 r0 he hkk
  unfold dv0
  go_enter Tryz.func26, Tryz.ntmps26
  go_wp2_with (first
    | (go_at_call 53; refine (HRw.out w1 HB1.out).mono ?_; rintro e w2 ⟨⟨g, rfl⟩, hb2⟩; have HB2 := Lib.hid (HB1.out.trans (hb2.mono HB1.out.size)); have r2 := (hb2.block W.heap.size (Nat.lt_of_lt_of_le Z0.out Z1.out)).trans R1.out; have c0 := (hp_cell (i := 0) r2).trans rfl; have g0 := hp_free (i := 0) r2; have c1 := (hp_cell (i := 1) r2).trans rfl; have g1 := hp_free (i := 1) r2; have c2 := (hp_cell (i := 2) r2).trans rfl; have g2 := hp_free (i := 2) r2; have c3 := (hp_cell (i := 3) r2).trans rfl; have g3 := hp_free (i := 3) r2; have c4 := (hp_cell (i := 4) r2).trans rfl; have g4 := hp_free (i := 4) r2; have Z2 := Lib.hid (hp_lt r2); clear hb2 r2)
    | (go_at_call 39; refine HK.out.mono ?_; rintro e w1 ⟨rfl, hb1⟩; have HB1 := Lib.hid (HB0.out.trans (hb1.mono HB0.out.size)); have R1 := Lib.hid ((hb1.block W.heap.size Z0.out).trans R0.out); have Z1 := Lib.hid hb1.size; clear hb1))
  refine bodyPost_ret (v := .agg #[.bool false, .int .i64 0, .int .i64 0, .int .i64 0, .bool false]) (by simp [results, Tryz.results26, go_sem, c0, c1, c2, c3, c4]) rfl ⟨rfl, ?_⟩
  exact ((((HB2.out.setCell (Nat.le_refl _) _).setCell (Nat.le_refl _) _).setCell (Nat.le_refl _) _).setCell (Nat.le_refl _) _).setCell (Nat.le_refl _) _
set_option maxRecDepth 100000 in
set_option maxHeartbeats 1000000 in
theorem dget_some {w W : World} {b : Nat} {F : List Nat} {L : SL} {q : Nat} {qs : List Value} (hs : SNew w W b F L q qs) (he : sget L K25 = some (rowV f25 5)) (A : Option Addr) (c : Nat) (hl : Il W A 1 (fun _ => 7)) :
    Calls Tryz.prog 26 #[.pointer (some ⟨b, 0, none⟩), .int .i64 25, .slice A 1 c] W fun e W' => e = .returned V25 ∧ Below W.heap.size W W' := by
  have hb0 := (Below.refl W.heap.size W).alloc (Nat.le_refl _) (.cells #[.bool false, .int .i64 0, .int .i64 0, .int .i64 0, .bool false] 59)
  have HB0 := Lib.hid hb0
  have HK := Lib.hid (key_walk 25 A 1 c (fun _ => 7) _ (hl.below hb0) (by omega))
  rw [show KeyPost 25 (fun _ => 7) 1 = fun w e w' => e = .returned (.string K25) ∧ Below w.heap.size w w' from by funext w e w'; unfold KeyPost; rw [key25]] at HK
  have hf5 : ∀ i, i < 5 → 0 ≤ f25 i ∧ f25 i < 2 ^ 63 := by
    intro i hi
    rcases (by omega : i = 0 ∨ i = 1 ∨ i = 2 ∨ i = 3 ∨ i = 4) with rfl | rfl | rfl | rfl | rfl <;> decide
  have HRw := Lib.hid (fun (W1 : World) (hb : Below W.heap.size W W1) => crow_some (hs.below hb) K25 f25 5 (by omega) (by omega) hf5 (by decide) he)
  obtain ⟨kk, hkk⟩ : ∃ x, x = K25 := ⟨_, rfl⟩
  rw [← hkk] at HK HRw
  have r0 : (W.alloc (.cells #[.bool false, .int .i64 0, .int .i64 0, .int .i64 0, .bool false] 59)).heap[W.heap.size]? = some (.cells #[.bool false, .int .i64 0, .int .i64 0, .int .i64 0, .bool false] 59 (0, 0)) := heap_alloc_new _ _
  have R0 := Lib.hid r0
  have Z0 := Lib.hid (hp_lt r0)
  clear hs hl hb0 r0 he hkk hf5
  unfold V25 dval
  go_enter Tryz.func26, Tryz.ntmps26
  go_upto_region 4 with (first
    | (go_at_call 53; refine (HRw.out w1 HB1.out).mono ?_; rintro e w2 ⟨⟨g, rfl, hcc, hgl⟩, hb2⟩; have HB2 := Lib.hid (HB1.out.trans (hb2.mono HB1.out.size)); have r2 := (hb2.block W.heap.size (Nat.lt_of_lt_of_le Z0.out Z1.out)).trans R1.out; have c0 := (hp_cell (i := 0) r2).trans rfl; have g0 := hp_free (i := 0) r2; have c1 := (hp_cell (i := 1) r2).trans rfl; have g1 := hp_free (i := 1) r2; have c2 := (hp_cell (i := 2) r2).trans rfl; have g2 := hp_free (i := 2) r2; have c3 := (hp_cell (i := 3) r2).trans rfl; have g3 := hp_free (i := 3) r2; have c4 := (hp_cell (i := 4) r2).trans rfl; have g4 := hp_free (i := 4) r2; have Z2 := Lib.hid (hp_lt r2); have x0 : w2.cell? ⟨g, 0, none⟩ = some (.int .i64 0) := hcc 0 (by omega); have x1 : w2.cell? ⟨g, 1, none⟩ = some (.int .i64 0) := hcc 1 (by omega); have x2 : w2.cell? ⟨g, 2, none⟩ = some (.int .i64 1) := hcc 2 (by omega); have x3 : w2.cell? ⟨g, 3, none⟩ = some (.int .i64 5) := hcc 3 (by omega); have x4 : w2.cell? ⟨g, 4, none⟩ = some (.int .i64 13) := hcc 4 (by omega); clear hb2 r2 hcc hgl)
    | (go_at_call 39; refine HK.out.mono ?_; rintro e w1 ⟨rfl, hb1⟩; have HB1 := Lib.hid (HB0.out.trans (hb1.mono HB0.out.size)); have R1 := Lib.hid ((hb1.block W.heap.size Z0.out).trans R0.out); have Z1 := Lib.hid hb1.size; clear hb1))
  go_still_tail 18, (by kernel_rfl)
  go_wp2
  refine bodyPost_ret (v := .agg #[.bool false, .int .i64 0, .int .i64 5, .int .i64 13, .bool true]) (by simp [results, Tryz.results26, go_sem, c0, c1, c2, c3, c4]) rfl ⟨rfl, ?_⟩
  exact ((((((HB2.out.setCell (Nat.le_refl _) _).setCell (Nat.le_refl _) _).setCell (Nat.le_refl _) _).setCell (Nat.le_refl _) _).setCell (Nat.le_refl _) _)).drew
end Go.Proofs.YtoaepgiajooecaaGreat
