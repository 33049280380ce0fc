/- The document's SetRow (tallageref10) of a row without a number below 0. -/
import Derived.Test.YtoaepgiajooecaaGreatG30
import Derived.Test.YtoaepgiajooecaaGreatG13
namespace Go.Proofs.YtoaepgiajooecaaGreat
open Go.RowKit Go.Maps Go.Sort

theorem rowV_app {f : Nat → Int} {j : Nat} (h : 0 ≤ f j) : rowV f j ++ numStr (f j) = rowV f (j + 1) := by
  apply ByteArray.ext
  apply Array.ext'
  have e : (numStr (f j)).data.toList = u8l (kb8 (f j).toNat) := by
    unfold numStr
    rw [Int.max_eq_left h, ← Lib.toList_data]
    exact strOfNums_u8l _
  rw [ByteArray.data_append, Array.toList_append, e]
  show u8l (tl f 0 j) ++ u8l (kb8 (f j).toNat) = u8l (tl f 0 (j + 1))
  rw [tl_snoc, Nat.zero_add, u8l_append]
theorem rowV_zero (f : Nat → Int) : rowV f 0 = ⟨#[]⟩ := rfl
set_option maxRecDepth 100000 in
set_option maxHeartbeats 2000000 in
theorem rsetRow_walk (w W : World) (m : Nat) (L : SL) (R : List Ch) (k : ByteArray) (A : Option Addr) (n c : Nat) (f : Nat → Int) (h : DS w W m L R) (hl : Il W A n f) (hn0 : 1 ≤ n) (hn : n ≤ 100) (hf : ∀ i, i < n → 0 ≤ f i) (hr : Rising (skeys L)) (hN : L.length < 1000000) (hR : R.length < 1000000) :
    Calls Tryz.prog 51 #[.pointer (some ⟨m, 0, none⟩), .string k, .slice A n c] W fun e W' => e = .returned (.tuple #[]) ∧ DSTo w W W' m (setE L k (rowV f n)) (setR L R k (rowV f n)) := by
  have hnI : (n : Int) ≤ 100 := by omega
  have HS := Lib.hid (fun (W1 : World) (hb : Below W.heap.size W W1) => (rset_walk w W1 m L R k (rowV f n) (h.below hb) hr hN hR).mono fun e W' hp => (⟨⟨_, hp.1⟩, DSTo.pre h hb hp.2⟩ : (∃ z, e = .returned (.int .i64 z)) ∧ DSTo w W W' m (setE L k (rowV f n)) (setR L R k (rowV f n))))
  have HF := Lib.hid hf
  have HL := Lib.hid hl
  have HN0 := Lib.hid hn0
  clear h hr hN hR hf hl hn0
  go_enter Tryz.func51, Tryz.ntmps51
  go_wp2
  go_loopw [6, 11] (fun s i wr => ∃ j : Nat, j ≤ n ∧ i = .int .i64 (j : Nat) ∧ s = .string (rowV f j) ∧ Below W.heap.size W wr) (fun _ i _ => n - (intOf i).toNat)
  case atStart => exact ⟨0, by omega, rfl, rfl, Below.refl _ _⟩
  case round =>
    obtain ⟨j, hj, rfl, rfl, hbe⟩ := hrel
    have HBe := Lib.hid hbe
    clear hbe
    have kI : (j : Int) ≤ n := by omega
    by_cases hlt : j < n
    · have p1 : (j : Int) < (n : Int) := by omega
      obtain ⟨g, o, rfl, hg, hc⟩ := HL.out.at_ (by omega)
      have hm := HL.out.most j
      have h0 := HF.out j hlt
      have hck : wr.cell? ⟨g, o + j, none⟩ = some (.int .i64 (f j)) := by rw [HBe.out.cell (p := ⟨g, o + j, none⟩) hg]; exact hc j hlt
      have z1 : ¬ 9223372036854775807 < (rowV f j).size + (numStr (f j)).size := by rw [rowV_size, numStr_size9]; omega
      have hvs := Lib.hid (rowV_app h0)
      have n1 : ¬ f j < 0 := by omega
      clear hc
      go_wp2_with (go_at_call 69; refine (rnum9_walk (f j) _ hm).mono ?_; rintro e w3 ⟨rfl, hb3⟩)
      go_roundw
      case rel => exact ⟨j + 1, by omega, by go_num, by rw [hvs.out], HBe.out.trans (hb3.mono HBe.out.size)⟩
      case measure => simp [intOf]; omega
    · obtain rfl : j = n := by omega
      have q3 : ¬ (j : Int) < j := by omega
      obtain ⟨v, hv⟩ : ∃ v, v = rowV f j := ⟨_, rfl⟩
      have hne : v ≠ ⟨#[]⟩ := by rw [hv]; exact rowV_ne HN0.out
      have hne2 := ba_nil hne
      have HV := Lib.hid hv
      rw [← hv] at HS ⊢
      clear hv hne HL
      go_wp2_with (go_at_call 68; refine (HS.out _ HBe.out).mono ?_; rintro e w2 ⟨⟨z, rfl⟩, h2⟩; have H2 := Lib.hid h2; clear h2)
      go_end0
      have h2 := H2.out
      rw [HV.out] at h2
      exact ⟨rfl, h2⟩
end Go.Proofs.YtoaepgiajooecaaGreat

namespace Go.Proofs.YtoaepgiajooecaaGreat
open Go.RowKit Go.Maps

structure DV where
  h : Bool
  n : Int
  x : Int
  a : Int
  m : Bool
def DV.val (v : DV) : Value := dval v.h v.n v.x v.a v.m
def DV.row (v : DV) : ByteArray := rowV (rowF v.h v.n v.x v.a v.m) 5
def DV.none : DV := ⟨false, 0, 0, 0, false⟩
structure DV.ok (v : DV) : Prop where
  n : 0 ≤ v.n ∧ v.n < 2 ^ 63
  x : 0 ≤ v.x ∧ v.x < 2 ^ 63
  a : 0 ≤ v.a ∧ v.a < 2 ^ 63
theorem DV.ok_none : DV.none.ok := ⟨by decide, by decide, by decide⟩
/-- v at a block -/
def settleD (v : DV) (b : Int) : DV := if v.m = true ∧ ¬ b < v.a then ⟨true, v.x, 0, 0, false⟩ else v
theorem settleD_ok {v : DV} (h : v.ok) (b : Int) : (settleD v b).ok := by
  unfold settleD
  split
  · exact ⟨h.x, ⟨Int.le_refl _, by show (0 : Int) < 2 ^ 63; decide⟩, ⟨Int.le_refl _, by show (0 : Int) < 2 ^ 63; decide⟩⟩
  · exact h
/-- what Set makes of v -/
def putD (v : DV) (x blk wait : Int) : DV := { settleD v blk with x := x, a := blk + wait, m := true }
def stepD (v : DV) (x blk wait : Int) : DV := settleD (putD v x blk wait) blk
theorem putD_ok {v : DV} (h : v.ok) {x blk wait : Int} (hx : 0 ≤ x ∧ x ≤ 1099511627776) (hb : 0 ≤ blk ∧ blk ≤ 1099511627776) (hw : 0 ≤ wait ∧ wait ≤ 1099511627776) : (putD v x blk wait).ok :=
  ⟨(settleD_ok h blk).n, ⟨hx.1, by show x < 2 ^ 63; omega⟩, by show 0 ≤ blk + wait ∧ blk + wait < 2 ^ 63; omega⟩
theorem stepD_ok {v : DV} (h : v.ok) {x blk wait : Int} (hx : 0 ≤ x ∧ x ≤ 1099511627776) (hb : 0 ≤ blk ∧ blk ≤ 1099511627776) (hw : 0 ≤ wait ∧ wait ≤ 1099511627776) : (stepD v x blk wait).ok := settleD_ok (putD_ok h hx hb hw) _

set_option maxRecDepth 100000 in
set_option maxHeartbeats 400000 in
theorem settle_no (h : Bool) (n x a b : Int) (w : World) : Calls Tryz.prog 46 #[dval h n x a false, .int .i64 b] w fun e w' => e = .returned (dval h n x a false) ∧ Below w.heap.size w w' := by
  unfold dval
  go_enter Tryz.func46, Tryz.ntmps46
  go_wp2
  refine bodyPost_ret (v := .agg #[.bool h, .int .i64 n, .int .i64 x, .int .i64 a, .bool false]) (by simp [results, Tryz.results46, go_sem]) rfl ⟨rfl, ?_⟩
  exact ((Below.refl w.heap.size w).alloc (Nat.le_refl _) _).alloc (by simp) _
theorem settle_any (v : DV) (b : Int) (w : World) : Calls Tryz.prog 46 #[v.val, .int .i64 b] w fun e w' => e = .returned (settleD v b).val ∧ Below w.heap.size w w' := by
  obtain ⟨h, n, x, a, m⟩ := v
  unfold settleD DV.val
  cases m with
  | false => exact settle_no h n x a b w
  | true =>
    by_cases hb : b < a
    · rw [if_neg (by simpa using hb)]; exact settle_stays h n x a b w hb
    · rw [if_pos (by simpa using hb)]; exact settle_turns h n x a b w hb
theorem of_any (v : DV) (b : Int) (w : World) : Calls Tryz.prog 25 #[v.val, .int .i64 b] w fun e w' => e = .returned (.tuple #[.int .i64 (settleD v b).n, .bool (settleD v b).h]) ∧ Below w.heap.size w w' :=
  of_of v.h v.n v.x v.a v.m (settleD v b).h (settleD v b).n (settleD v b).x (settleD v b).a (settleD v b).m b w fun w => settle_any v b w
/-- what stands at a key -/
def DAt (L : SL) (K : ByteArray) (v : DV) : Prop := (sget L K = Option.none ∧ v = DV.none) ∨ sget L K = some v.row
set_option maxRecDepth 100000 in
set_option maxHeartbeats 1000000 in
theorem dget_no {w W : World} {b : Nat} {F : List Nat} {L : SL} {q : Nat} {qs : List Value} (hs : SNew w W b F L q qs) (t : Int) (A : Option Addr) (n c : Nat) (f : Nat → Int) (K : ByteArray) (hK : keyStr t f n = K) (hn : n ≤ 100) (hk : K.size ≤ maxLen) (he : sget L K = Option.none) (hl : Il W A n f) :
    Calls Tryz.prog 26 #[.pointer (some ⟨b, 0, Option.none⟩), .int .i64 t, .slice A n c] W fun e W' => e = .returned dv0 ∧ Below W.heap.size W W' := by
  have hb0 := (Below.refl W.heap.size W).alloc (Nat.le_refl _) (.cells #[.bool false, .int .i64 0, .int .i64 0, .int .i64 0, .bool false] 59)
  have HB0 := Lib.hid hb0
  have HK := Lib.hid (key_is t A n c f K hK _ (hl.below hb0) hn)
  have HRw := Lib.hid (fun (W1 : World) (hb : Below W.heap.size W W1) => crow_none (hs.below hb) K hk he)
  have r0 : (W.alloc (.cells #[.bool false, .int .i64 0, .int .i64 0, .int .i64 0, .bool false] 59)).heap[W.heap.size]? = some (.cells #[.bool false, .int .i64 0, .int .i64 0, .int .i64 0, .bool false] 59 (0, 0)) := heap_alloc_new _ _
  have R0 := Lib.hid r0
  have Z0 := Lib.hid (hp_lt r0)
  clear hs hl hb0 r0 he hK hk hn
  unfold dv0
  go_enter Tryz.func26, Tryz.ntmps26
  go_wp2_with (first
    | (go_at_call 53; refine (HRw.out w1 HB1.out).mono ?_; rintro e w2 ⟨⟨g, rfl⟩, hb2⟩; have HB2 := Lib.hid (HB1.out.trans (hb2.mono HB1.out.size)); have r2 := (hb2.block W.heap.size (Nat.lt_of_lt_of_le Z0.out Z1.out)).trans R1.out; have c0 := (hp_cell (i := 0) r2).trans rfl; have g0 := hp_free (i := 0) r2; have c1 := (hp_cell (i := 1) r2).trans rfl; have g1 := hp_free (i := 1) r2; have c2 := (hp_cell (i := 2) r2).trans rfl; have g2 := hp_free (i := 2) r2; have c3 := (hp_cell (i := 3) r2).trans rfl; have g3 := hp_free (i := 3) r2; have c4 := (hp_cell (i := 4) r2).trans rfl; have g4 := hp_free (i := 4) r2; have Z2 := Lib.hid (hp_lt r2); clear hb2 r2)
    | (go_at_call 39; refine HK.out.mono ?_; rintro e w1 ⟨rfl, hb1⟩; have HB1 := Lib.hid (HB0.out.trans (hb1.mono HB0.out.size)); have R1 := Lib.hid ((hb1.block W.heap.size Z0.out).trans R0.out); have Z1 := Lib.hid hb1.size; clear hb1))
  refine bodyPost_ret (v := .agg #[.bool false, .int .i64 0, .int .i64 0, .int .i64 0, .bool false]) (by simp [results, Tryz.results26, go_sem, c0, c1, c2, c3, c4]) rfl ⟨rfl, ?_⟩
  exact ((((HB2.out.setCell (Nat.le_refl _) _).setCell (Nat.le_refl _) _).setCell (Nat.le_refl _) _).setCell (Nat.le_refl _) _).setCell (Nat.le_refl _) _
set_option maxRecDepth 100000 in
set_option maxHeartbeats 2000000 in
theorem dget_yes {w W : World} {b : Nat} {F : List Nat} {L : SL} {q : Nat} {qs : List Value} (hs : SNew w W b F L q qs) (t : Int) (A : Option Addr) (n c : Nat) (f : Nat → Int) (K : ByteArray) (hK : keyStr t f n = K) (hn : n ≤ 100) (hk : K.size ≤ maxLen) (v : DV) (hv : v.ok) (he : sget L K = some v.row) (hl : Il W A n f) :
    Calls Tryz.prog 26 #[.pointer (some ⟨b, 0, Option.none⟩), .int .i64 t, .slice A n c] W fun e W' => e = .returned v.val ∧ Below W.heap.size W W' := by
  obtain ⟨vh, vn, vx, va, vm⟩ := v
  unfold DV.row at he
  unfold DV.val dval
  simp only at he ⊢
  have hb0 := (Below.refl W.heap.size W).alloc (Nat.le_refl _) (.cells #[.bool false, .int .i64 0, .int .i64 0, .int .i64 0, .bool false] 59)
  have HB0 := Lib.hid hb0
  have HK := Lib.hid (key_is t A n c f K hK _ (hl.below hb0) hn)
  have hf5 : ∀ i, i < 5 → 0 ≤ rowF vh vn vx va vm i ∧ rowF vh vn vx va vm i < 2 ^ 63 := by
    intro i hi
    rcases (by omega : i = 0 ∨ i = 1 ∨ i = 2 ∨ i = 3 ∨ i = 4) with rfl | rfl | rfl | rfl | rfl
    · show (0 : Int) ≤ (if vh then 1 else 0) ∧ (if vh then 1 else 0) < (2 : Int) ^ 63
      split <;> decide
    · exact hv.n
    · show (0 : Int) ≤ (if vm then 1 else 0) ∧ (if vm then 1 else 0) < (2 : Int) ^ 63
      split <;> decide
    · exact hv.x
    · exact hv.a
  have HRw := Lib.hid (fun (W1 : World) (hb : Below W.heap.size W W1) => crow_some (hs.below hb) K (rowF vh vn vx va vm) 5 (by omega) (by omega) hf5 hk he)
  have r0 : (W.alloc (.cells #[.bool false, .int .i64 0, .int .i64 0, .int .i64 0, .bool false] 59)).heap[W.heap.size]? = some (.cells #[.bool false, .int .i64 0, .int .i64 0, .int .i64 0, .bool false] 59 (0, 0)) := heap_alloc_new _ _
  have R0 := Lib.hid r0
  have Z0 := Lib.hid (hp_lt r0)
  clear hs hl hb0 r0 he hK hk hn hf5 hv
  cases vh <;> cases vm
  all_goals
    go_enter Tryz.func26, Tryz.ntmps26
    go_upto_region 4 with (first
      | (go_at_call 53; refine (HRw.out w1 HB1.out).mono ?_; rintro e w2 ⟨⟨g, rfl, hcc, hgl⟩, hb2⟩; have HB2 := Lib.hid (HB1.out.trans (hb2.mono HB1.out.size)); have r2 := (hb2.block W.heap.size (Nat.lt_of_lt_of_le Z0.out Z1.out)).trans R1.out; have c0 := (hp_cell (i := 0) r2).trans rfl; have g0 := hp_free (i := 0) r2; have c1 := (hp_cell (i := 1) r2).trans rfl; have g1 := hp_free (i := 1) r2; have c2 := (hp_cell (i := 2) r2).trans rfl; have g2 := hp_free (i := 2) r2; have c3 := (hp_cell (i := 3) r2).trans rfl; have g3 := hp_free (i := 3) r2; have c4 := (hp_cell (i := 4) r2).trans rfl; have g4 := hp_free (i := 4) r2; have Z2 := Lib.hid (hp_lt r2); have x0 := hcc 0 (by omega); have x1 := hcc 1 (by omega); have x2 := hcc 2 (by omega); have x3 := hcc 3 (by omega); have x4 := hcc 4 (by omega); simp only [rowF, if_true, Bool.false_eq_true, if_false] at x0 x1 x2 x3 x4; clear hb2 r2 hcc hgl)
      | (go_at_call 39; refine HK.out.mono ?_; rintro e w1 ⟨rfl, hb1⟩; have HB1 := Lib.hid (HB0.out.trans (hb1.mono HB0.out.size)); have R1 := Lib.hid ((hb1.block W.heap.size Z0.out).trans R0.out); have Z1 := Lib.hid hb1.size; clear hb1))
    go_still_tail 18, (by kernel_rfl)
    go_wp2
  · refine bodyPost_ret (v := .agg #[.bool false, .int .i64 vn, .int .i64 vx, .int .i64 va, .bool false]) (by simp [results, Tryz.results26, go_sem, c0, c1, c2, c3, c4]) rfl ⟨rfl, ?_⟩
    exact ((((((HB2.out.setCell (Nat.le_refl _) _).setCell (Nat.le_refl _) _).setCell (Nat.le_refl _) _).setCell (Nat.le_refl _) _).setCell (Nat.le_refl _) _)).drew
  · refine bodyPost_ret (v := .agg #[.bool false, .int .i64 vn, .int .i64 vx, .int .i64 va, .bool true]) (by simp [results, Tryz.results26, go_sem, c0, c1, c2, c3, c4]) rfl ⟨rfl, ?_⟩
    exact ((((((HB2.out.setCell (Nat.le_refl _) _).setCell (Nat.le_refl _) _).setCell (Nat.le_refl _) _).setCell (Nat.le_refl _) _).setCell (Nat.le_refl _) _)).drew
  · refine bodyPost_ret (v := .agg #[.bool true, .int .i64 vn, .int .i64 vx, .int .i64 va, .bool false]) (by simp [results, Tryz.results26, go_sem, c0, c1, c2, c3, c4]) rfl ⟨rfl, ?_⟩
    exact ((((((HB2.out.setCell (Nat.le_refl _) _).setCell (Nat.le_refl _) _).setCell (Nat.le_refl _) _).setCell (Nat.le_refl _) _).setCell (Nat.le_refl _) _)).drew
  · refine bodyPost_ret (v := .agg #[.bool true, .int .i64 vn, .int .i64 vx, .int .i64 va, .bool true]) (by simp [results, Tryz.results26, go_sem, c0, c1, c2, c3, c4]) rfl ⟨rfl, ?_⟩
    exact ((((((HB2.out.setCell (Nat.le_refl _) _).setCell (Nat.le_refl _) _).setCell (Nat.le_refl _) _).setCell (Nat.le_refl _) _).setCell (Nat.le_refl _) _)).drew
theorem dget_at {w W : World} {b : Nat} {F : List Nat} {L : SL} {q : Nat} {qs : List Value} (hs : SNew w W b F L q qs) (t : Int) (A : Option Addr) (n c : Nat) (f : Nat → Int) (K : ByteArray) (hK : keyStr t f n = K) (hn : n ≤ 100) (hk : K.size ≤ maxLen) (v : DV) (hv : v.ok) (he : DAt L K v) (hl : Il W A n f) :
    Calls Tryz.prog 26 #[.pointer (some ⟨b, 0, Option.none⟩), .int .i64 t, .slice A n c] W fun e W' => e = .returned v.val ∧ Below W.heap.size W W' := by
  rcases he with ⟨h1, h2⟩ | h1
  · subst h2
    exact dget_no hs t A n c f K hK hn hk h1 hl
  · exact dget_yes hs t A n c f K hK hn hk v hv h1 hl
end Go.Proofs.YtoaepgiajooecaaGreat

namespace Go.Proofs.YtoaepgiajooecaaGreat
open Go.RowKit Go.Maps

theorem deqV (h : Bool) (n x a : Int) (m h' : Bool) (n' x' a' : Int) (m' : Bool) (w : World) : (Op.equalIn 10000 59 (.agg #[.bool h, .int .i64 n, .int .i64 x, .int .i64 a, .bool m]) (.agg #[.bool h', .int .i64 n', .int .i64 x', .int .i64 a', .bool m'])).run Tryz.prog w =
   .ok (h == h' && n == n' && x == x' && a == a' && m == m') w := by
  have u1 := Tryz.underlying3
  have u2 := Tryz.underlying4
  have i1 := Tryz.isAgg3
  have i2 := Tryz.isAgg4
  have z1 := Tryz.sizeOf3
  have z2 := Tryz.sizeOf4
  rw [show (10000 : Nat) = 9999 + 1 from rfl, Op.equalIn]
  simp only [Sem.run_bind, run_underlying Tryz.underlying59, Result.andThen_ok]
  go_simp
  by_cases h1 : h = h' <;> by_cases h2 : n = n' <;> by_cases h3 : x = x' <;> by_cases h4 : a = a' <;> by_cases h5 : m = m' <;> simp [h1, h2, h3, h4, h5]
theorem dwithin_any (x : Int) (w : World) : Calls Tryz.prog 45 #[.int .i64 x] w fun e w' => e = .returned (.bool (decide (0 ≤ x ∧ x ≤ 1099511627776))) ∧ w = w' := by
  by_cases h1 : 0 ≤ x
  · by_cases h2 : x ≤ 1099511627776
    · rw [decide_eq_true ⟨h1, h2⟩]; exact dwithin_ok x w h1 h2
    · rw [decide_eq_false (fun h => h2 h.2)]
      go_enter Tryz.func45, Tryz.ntmps45
      go_wp2
      go_ret
      exact ⟨rfl, rfl⟩
  · rw [decide_eq_false (fun h => h1 h.1)]
    have p1 : x < 0 := by omega
    go_enter Tryz.func45, Tryz.ntmps45
    go_wp2
    go_ret
    exact ⟨rfl, rfl⟩
def dIn (x : Int) : Bool := decide (0 ≤ x ∧ x ≤ 1099511627776)
set_option maxRecDepth 100000 in
set_option maxHeartbeats 1000000 in
/-- what may not be: nothing is done -/
theorem dset_bad {w W : World} {b : Nat} {F : List Nat} {L : SL} {q : Nat} {qs : List Value} (hs : SNew w W b F L q qs) (t : Int) (A : Option Addr) (n c : Nat) (f : Nat → Int) (K : ByteArray) (hK : keyStr t f n = K) (hn : n ≤ 100) (hl : Il W A n f) (hK0 : K ≠ ⟨#[]⟩) (x blk wait : Int)
    (h : dIn x = false ∨ dIn x = true ∧ dIn blk = false ∨ dIn x = true ∧ dIn blk = true ∧ dIn wait = false) :
    Calls Tryz.prog 21 #[.pointer (some ⟨b, 0, none⟩), .int .i64 t, .slice A n c, .int .i64 x, .int .i64 blk, .int .i64 wait] W fun e W' => e = .returned (.int .i64 2) ∧ LiveTo w W W' b F L q := by
  have HM := Lib.hid (made_live b F L q qs W hs.s)
  have HK := Lib.hid (key_is t A n c f K hK W hl hn)
  have HS := Lib.hid (fun (W1 : World) (hb : Below W.heap.size W W1) => hs.same hb)
  have HKne := ba_nil hK0
  have HW := Lib.hid dwithin_any
  clear hs hK hn hl hK0
  rcases h with h1 | ⟨h1, h2⟩ | ⟨h1, h2, h3⟩
  · have H1 := Lib.hid (fun w => show Calls Tryz.prog 45 #[.int .i64 x] w fun e w' => e = .returned (.bool false) ∧ w = w' from by have := HW.out x w; unfold dIn at h1; rwa [h1] at this)
    clear h1
    go_enter Tryz.func21, Tryz.ntmps21
    go_wp2_with (first
      | (go_at_call 45; with_reducible refine (H1.out _).mono ?_; rintro e w5 ⟨rfl, rfl⟩)
      | (go_at_call 39; with_reducible refine HK.out.mono ?_; rintro e w6 ⟨rfl, hb6⟩; have HB6 := Lib.hid hb6; clear hb6)
      | (go_at_call 18; with_reducible refine HM.out.mono ?_; rintro e w1 ⟨rfl, rfl⟩))
    go_ret
    exact ⟨rfl, HS.out _ HB6.out⟩
  · have H1 := Lib.hid (fun w => show Calls Tryz.prog 45 #[.int .i64 x] w fun e w' => e = .returned (.bool true) ∧ w = w' from by have := HW.out x w; unfold dIn at h1; rwa [h1] at this)
    have H2 := Lib.hid (fun w => show Calls Tryz.prog 45 #[.int .i64 blk] w fun e w' => e = .returned (.bool false) ∧ w = w' from by have := HW.out blk w; unfold dIn at h2; rwa [h2] at this)
    clear h1 h2
    go_enter Tryz.func21, Tryz.ntmps21
    go_wp2_with (first
      | (go_at_call 45; with_reducible refine (H1.out _).mono ?_; rintro e w5 ⟨rfl, rfl⟩)
      | (go_at_call 45; with_reducible refine (H2.out _).mono ?_; rintro e w5 ⟨rfl, rfl⟩)
      | (go_at_call 39; with_reducible refine HK.out.mono ?_; rintro e w6 ⟨rfl, hb6⟩; have HB6 := Lib.hid hb6; clear hb6)
      | (go_at_call 18; with_reducible refine HM.out.mono ?_; rintro e w1 ⟨rfl, rfl⟩))
    go_ret
    exact ⟨rfl, HS.out _ HB6.out⟩
  · have H1 := Lib.hid (fun w => show Calls Tryz.prog 45 #[.int .i64 x] w fun e w' => e = .returned (.bool true) ∧ w = w' from by have := HW.out x w; unfold dIn at h1; rwa [h1] at this)
    have H2 := Lib.hid (fun w => show Calls Tryz.prog 45 #[.int .i64 blk] w fun e w' => e = .returned (.bool true) ∧ w = w' from by have := HW.out blk w; unfold dIn at h2; rwa [h2] at this)
    have H3 := Lib.hid (fun w => show Calls Tryz.prog 45 #[.int .i64 wait] w fun e w' => e = .returned (.bool false) ∧ w = w' from by have := HW.out wait w; unfold dIn at h3; rwa [h3] at this)
    clear h1 h2 h3
    go_enter Tryz.func21, Tryz.ntmps21
    go_wp2_with (first
      | (go_at_call 45; with_reducible refine (H1.out _).mono ?_; rintro e w5 ⟨rfl, rfl⟩)
      | (go_at_call 45; with_reducible refine (H2.out _).mono ?_; rintro e w5 ⟨rfl, rfl⟩)
      | (go_at_call 45; with_reducible refine (H3.out _).mono ?_; rintro e w5 ⟨rfl, rfl⟩)
      | (go_at_call 39; with_reducible refine HK.out.mono ?_; rintro e w6 ⟨rfl, hb6⟩; have HB6 := Lib.hid hb6; clear hb6)
      | (go_at_call 18; with_reducible refine HM.out.mono ?_; rintro e w1 ⟨rfl, rfl⟩))
    go_ret
    exact ⟨rfl, HS.out _ HB6.out⟩
set_option maxRecDepth 100000 in
set_option maxHeartbeats 4000000 in
/-- the walk, its plain values given: v0 was there, v1 it is at the block, v2 what comes of it -/
theorem dset_core {w W : World} {b : Nat} {F : List Nat} {L : SL} {q : Nat} {qs : List Value} (hs : SNew w W b F L q qs) (t : Int) (A : Option Addr) (n c : Nat) (f : Nat → Int) (K : ByteArray) (hK : keyStr t f n = K) (hn : n ≤ 100) (hk : K.size ≤ maxLen) (hl : Il W A n f) (hK0 : K ≠ ⟨#[]⟩) (x blk wait y : Int)
    (hx : 0 ≤ x ∧ x ≤ 1099511627776) (hb : 0 ≤ blk ∧ blk ≤ 1099511627776) (hw : 0 ≤ wait ∧ wait ≤ 1099511627776) (hy : blk + wait = y) (hN : L.length < 1000000) (hq : q < 1000000)
    (h0 : Bool) (n0 x0 a0 : Int) (m0 : Bool) (h1 : Bool) (n1 x1 a1 : Int) (m1 : Bool) (h2 : Bool) (n2 x2 a2 : Int) (m2 : Bool) (hv0 : DV.ok ⟨h0, n0, x0, a0, m0⟩) (he : DAt L K ⟨h0, n0, x0, a0, m0⟩) (hv2 : DV.ok ⟨h2, n2, x2, a2, m2⟩)
    (hS1 : ∀ w, Calls Tryz.prog 46 #[dval h0 n0 x0 a0 m0, .int .i64 blk] w fun e w' => e = .returned (dval h1 n1 x1 a1 m1) ∧ Below w.heap.size w w')
    (hS2 : ∀ w, Calls Tryz.prog 46 #[dval h1 n1 x y true, .int .i64 blk] w fun e w' => e = .returned (dval h2 n2 x2 a2 m2) ∧ Below w.heap.size w w')
    (B : Bool) (hB : (h2 == h0 && n2 == n0 && x2 == x0 && a2 == a0 && m2 == m0) = B) :
    Calls Tryz.prog 21 #[.pointer (some ⟨b, 0, none⟩), .int .i64 t, .slice A n c, .int .i64 x, .int .i64 blk, .int .i64 wait] W fun e W' => e = .returned (.int .i64 0) ∧ LiveTo w W W' b F (if B then L else setL L K (rowV (rowF h2 n2 x2 a2 m2) 5)) (q + 1) := by
  have HM := Lib.hid (made_live b F L q qs W hs.s)
  have HK := Lib.hid (key_is t A n c f K hK W hl hn)
  have HG := Lib.hid (fun (W1 : World) (hb : Below W.heap.size W W1) => dget_at (hs.below hb) t A n c f K hK hn hk ⟨h0, n0, x0, a0, m0⟩ hv0 he (hl.below hb))
  have HP := Lib.hid (fun (W1 : World) (hb : Below W.heap.size W W1) => (dput_walk (hs.below hb) K h2 n2 x2 a2 m2 hv2.n hv2.x hv2.a hk hK0 hN hq).mono fun e W' hp => (⟨hp.1, hp.2.pre hb⟩ : e = .returned (.tuple #[]) ∧ LiveTo w W W' b F (setL L K (rowV (rowF h2 n2 x2 a2 m2) 5)) (q + 1)))
  have HS := Lib.hid (fun (W1 : World) (hb : Below W.heap.size W W1) => (show LiveTo w W W1 b F L (q + 1) from by
    obtain ⟨F1, q1, qs1, g1, g2, g3⟩ := hs.same hb
    exact ⟨F1, q1, qs1, g1, by omega, g3⟩))
  have HW := Lib.hid dwithin_ok
  have heq : ∀ w, (Op.equalIn 10000 59 (.agg #[.bool h2, .int .i64 n2, .int .i64 x2, .int .i64 a2, .bool m2]) (.agg #[.bool h0, .int .i64 n0, .int .i64 x0, .int .i64 a0, .bool m0])).run Tryz.prog w = .ok B w := fun w => by rw [deqV, hB]
  have HKne := ba_nil hK0
  have HS1 := Lib.hid hS1
  have HS2 := Lib.hid hS2
  have HX := Lib.hid (And.intro hx (And.intro hb hw))
  have y0 : 0 ≤ blk := hb.1
  have y1 : blk ≤ 1099511627776 := hb.2
  have y2 : 0 ≤ wait := hw.1
  have y3 : wait ≤ 1099511627776 := hw.2
  obtain ⟨LL, hLL⟩ : ∃ z, z = setL L K (rowV (rowF h2 n2 x2 a2 m2) 5) := ⟨_, rfl⟩
  rw [← hLL] at HP ⊢
  clear hs hK hn hk hl hK0 hx hb hw hN hq hv0 he hv2 hS1 hS2 hB hLL
  subst hy
  unfold DV.val at HG
  unfold dval at HG HP HS1 HS2
  cases B
  · have n1' : True := trivial
    go_enter Tryz.func21, Tryz.ntmps21
    go_wp2_with (first
      | (go_at_call 47; refine (HP.out _ (((((HB9.out.setCell HB8.out.size _).setCell HB8.out.size _).setCell HB8.out.size _).setCell HB8.out.size _).setCell HB8.out.size _)).mono ?_; rintro e w10 ⟨rfl, h10⟩; have H10 := Lib.hid h10; clear h10)
      | (go_at_call 46; have g8 := HB8; clear g8; with_reducible refine (HS2.out _).mono ?_; rintro e w9 ⟨rfl, hb9⟩; have ra := (hb9.block w7.heap.size (by simp; have := Z8.out; omega)).trans ((heap_alloc_old w8 (.cells #[.bool h1, .int .i64 n1, .int .i64 x, .int .i64 (blk + wait), .bool true] 59) Z8.out).trans R8.out); have rb := (hb9.block w8.heap.size (by simp)).trans (heap_alloc_new w8 (.cells #[.bool h1, .int .i64 n1, .int .i64 x, .int .i64 (blk + wait), .bool true] 59)); have a0 := (hp_cell (i := 0) ra).trans rfl; have b0 := (hp_cell (i := 0) rb).trans rfl; have g0 := hp_free (i := 0) rb; have a1 := (hp_cell (i := 1) ra).trans rfl; have b1 := (hp_cell (i := 1) rb).trans rfl; have g1 := hp_free (i := 1) rb; have a2 := (hp_cell (i := 2) ra).trans rfl; have b2 := (hp_cell (i := 2) rb).trans rfl; have g2 := hp_free (i := 2) rb; have a3 := (hp_cell (i := 3) ra).trans rfl; have b3 := (hp_cell (i := 3) rb).trans rfl; have g3 := hp_free (i := 3) rb; have a4 := (hp_cell (i := 4) ra).trans rfl; have b4 := (hp_cell (i := 4) rb).trans rfl; have g4 := hp_free (i := 4) rb; have hbg := HB8.out.alloc HB8.out.size (.cells #[.bool h1, .int .i64 n1, .int .i64 x, .int .i64 (blk + wait), .bool true] 59); have HB9 := Lib.hid (hbg.trans (hb9.mono hbg.size)); have Z9 := hp_lt ra; have Y9 := hp_lt rb; have Z8' := Z8.out; clear hb9 hbg ra rb)
      | (go_at_call 46; with_reducible refine (HS1.out _).mono ?_; rintro e w8 ⟨rfl, hb8⟩; have hbg := HB7.out.alloc HB7.out.size (.cells #[.bool h0, .int .i64 n0, .int .i64 x0, .int .i64 a0, .bool m0] 59); have HB8 := Lib.hid (hbg.trans (hb8.mono hbg.size)); have R8 := Lib.hid ((hb8.block w7.heap.size (by simp)).trans (heap_alloc_new w7 (.cells #[.bool h0, .int .i64 n0, .int .i64 x0, .int .i64 a0, .bool m0] 59))); have Z8 := Lib.hid (hp_lt R8.out); clear hb8 hbg)
      | (go_at_call 26; refine (HG.out w6 HB6.out).mono ?_; rintro e w7 ⟨rfl, hb7⟩; have HB7 := Lib.hid (HB6.out.trans (hb7.mono HB6.out.size)); clear hb7)
      | (go_at_call 45; refine (HW.out _ _ (by first | exact HX.out.1.1 | exact HX.out.2.1.1 | exact HX.out.2.2.1) (by first | exact HX.out.1.2 | exact HX.out.2.1.2 | exact HX.out.2.2.2)).mono ?_; rintro e w5 ⟨rfl, rfl⟩)
      | (go_at_call 39; refine HK.out.mono ?_; rintro e w6 ⟨rfl, hb6⟩; have HB6 := Lib.hid hb6; clear hb6)
      | (go_at_call 18; refine HM.out.mono ?_; rintro e w1 ⟨rfl, rfl⟩))
    go_ret
    exact ⟨rfl, H10.out⟩
  · have n1' : True := trivial
    go_enter Tryz.func21, Tryz.ntmps21
    go_wp2_with (first
      | (go_at_call 47; refine (HP.out _ (((((HB9.out.setCell HB8.out.size _).setCell HB8.out.size _).setCell HB8.out.size _).setCell HB8.out.size _).setCell HB8.out.size _)).mono ?_; rintro e w10 ⟨rfl, h10⟩; have H10 := Lib.hid h10; clear h10)
      | (go_at_call 46; have g8 := HB8; clear g8; with_reducible refine (HS2.out _).mono ?_; rintro e w9 ⟨rfl, hb9⟩; have ra := (hb9.block w7.heap.size (by simp; have := Z8.out; omega)).trans ((heap_alloc_old w8 (.cells #[.bool h1, .int .i64 n1, .int .i64 x, .int .i64 (blk + wait), .bool true] 59) Z8.out).trans R8.out); have rb := (hb9.block w8.heap.size (by simp)).trans (heap_alloc_new w8 (.cells #[.bool h1, .int .i64 n1, .int .i64 x, .int .i64 (blk + wait), .bool true] 59)); have a0 := (hp_cell (i := 0) ra).trans rfl; have b0 := (hp_cell (i := 0) rb).trans rfl; have g0 := hp_free (i := 0) rb; have a1 := (hp_cell (i := 1) ra).trans rfl; have b1 := (hp_cell (i := 1) rb).trans rfl; have g1 := hp_free (i := 1) rb; have a2 := (hp_cell (i := 2) ra).trans rfl; have b2 := (hp_cell (i := 2) rb).trans rfl; have g2 := hp_free (i := 2) rb; have a3 := (hp_cell (i := 3) ra).trans rfl; have b3 := (hp_cell (i := 3) rb).trans rfl; have g3 := hp_free (i := 3) rb; have a4 := (hp_cell (i := 4) ra).trans rfl; have b4 := (hp_cell (i := 4) rb).trans rfl; have g4 := hp_free (i := 4) rb; have hbg := HB8.out.alloc HB8.out.size (.cells #[.bool h1, .int .i64 n1, .int .i64 x, .int .i64 (blk + wait), .bool true] 59); have HB9 := Lib.hid (hbg.trans (hb9.mono hbg.size)); have Z9 := hp_lt ra; have Y9 := hp_lt rb; have Z8' := Z8.out; clear hb9 hbg ra rb)
      | (go_at_call 46; with_reducible refine (HS1.out _).mono ?_; rintro e w8 ⟨rfl, hb8⟩; have hbg := HB7.out.alloc HB7.out.size (.cells #[.bool h0, .int .i64 n0, .int .i64 x0, .int .i64 a0, .bool m0] 59); have HB8 := Lib.hid (hbg.trans (hb8.mono hbg.size)); have R8 := Lib.hid ((hb8.block w7.heap.size (by simp)).trans (heap_alloc_new w7 (.cells #[.bool h0, .int .i64 n0, .int .i64 x0, .int .i64 a0, .bool m0] 59))); have Z8 := Lib.hid (hp_lt R8.out); clear hb8 hbg)
      | (go_at_call 26; refine (HG.out w6 HB6.out).mono ?_; rintro e w7 ⟨rfl, hb7⟩; have HB7 := Lib.hid (HB6.out.trans (hb7.mono HB6.out.size)); clear hb7)
      | (go_at_call 45; refine (HW.out _ _ (by first | exact HX.out.1.1 | exact HX.out.2.1.1 | exact HX.out.2.2.1) (by first | exact HX.out.1.2 | exact HX.out.2.1.2 | exact HX.out.2.2.2)).mono ?_; rintro e w5 ⟨rfl, rfl⟩)
      | (go_at_call 39; refine HK.out.mono ?_; rintro e w6 ⟨rfl, hb6⟩; have HB6 := Lib.hid hb6; clear hb6)
      | (go_at_call 18; refine HM.out.mono ?_; rintro e w1 ⟨rfl, rfl⟩))
    go_ret
    exact ⟨rfl, HS.out _ (((((HB9.out.setCell HB8.out.size _).setCell HB8.out.size _).setCell HB8.out.size _).setCell HB8.out.size _).setCell HB8.out.size _)⟩
def DV.eqb (u v : DV) : Bool := u.h == v.h && u.n == v.n && u.x == v.x && u.a == v.a && u.m == v.m
theorem DV.of_eqb {u v : DV} (h : u.eqb v = true) : u = v := by
  obtain ⟨a, b, c, d, e⟩ := u
  obtain ⟨a', b', c', d', e'⟩ := v
  unfold DV.eqb at h
  simp only [Bool.and_eq_true, beq_iff_eq] at h
  obtain ⟨⟨⟨⟨rfl, rfl⟩, rfl⟩, rfl⟩, rfl⟩ := h
  rfl
/-- what may be: the value at the key is the next one -/
theorem dset_go {w W : World} {b : Nat} {F : List Nat} {L : SL} {q : Nat} {qs : List Value} (hs : SNew w W b F L q qs) (t : Int) (A : Option Addr) (n c : Nat) (f : Nat → Int) (K : ByteArray) (hK : keyStr t f n = K) (hn : n ≤ 100) (hk : K.size ≤ maxLen) (hl : Il W A n f) (hK0 : K ≠ ⟨#[]⟩) (x blk wait : Int)
    (hx : 0 ≤ x ∧ x ≤ 1099511627776) (hb : 0 ≤ blk ∧ blk ≤ 1099511627776) (hw : 0 ≤ wait ∧ wait ≤ 1099511627776) (hN : L.length < 1000000) (hq : q < 1000000) (v : DV) (hv : v.ok) (he : DAt L K v) :
    Calls Tryz.prog 21 #[.pointer (some ⟨b, 0, none⟩), .int .i64 t, .slice A n c, .int .i64 x, .int .i64 blk, .int .i64 wait] W fun e W' => e = .returned (.int .i64 0) ∧ LiveTo w W W' b F (if (stepD v x blk wait).eqb v then L else setL L K (stepD v x blk wait).row) (q + 1) :=
  dset_core hs t A n c f K hK hn hk hl hK0 x blk wait _ hx hb hw rfl hN hq v.h v.n v.x v.a v.m (settleD v blk).h (settleD v blk).n (settleD v blk).x (settleD v blk).a (settleD v blk).m (stepD v x blk wait).h (stepD v x blk wait).n (stepD v x blk wait).x (stepD v x blk wait).a (stepD v x blk wait).m hv he (stepD_ok hv hx hb hw)
    (fun w => settle_any v blk w) (fun w => settle_any (putD v x blk wait) blk w) _ rfl
end Go.Proofs.YtoaepgiajooecaaGreat
