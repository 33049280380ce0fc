/- tallageref09.Num, Key, walked. -/
import Derived.Test.YtedkhpnlhkjjgaaG22
import Derived.Test.YtedkhpnlhkjjgaaG21
namespace Go.Proofs.Ytedkhpnlhkjjgaa
open Go.RowKit Go.Sort

/-- the bytes of a number, k of them -/
def k8v (n : Nat) (k : Nat) : List Value := (List.range k).map fun i => Value.int .u8 (kbyte n (7 - i) : Nat)
theorem k8v_succ (n k : Nat) : k8v n (k + 1) = k8v n k ++ [.int .u8 (kbyte n (7 - k) : Nat)] := by simp [k8v, List.range_succ]
theorem k8v_get (n : Nat) {k i : Nat} (h : i < k) : (k8v n k)[i]? = some (.int .u8 (kbyte n (7 - i) : Nat)) := by simp [k8v, h]
theorem kb8_get (n i : Nat) (h : i < 8) : (ints (kb8 n)).getD i 0 = ((kbyte n (7 - i) : Nat) : Int) := by
  rcases (by omega : i = 0 ∨ i = 1 ∨ i = 2 ∨ i = 3 ∨ i = 4 ∨ i = 5 ∨ i = 6 ∨ i = 7) with rfl | rfl | rfl | rfl | rfl | rfl | rfl | rfl <;> rfl
def RnRel (n : Nat) (w : World) (x y : Value) (wr : World) : Prop :=
  ∃ k : Nat, k ≤ 8 ∧ y = .int .i64 (7 - (k : Int)) ∧ wr.ownsRow w.heap.size 5 1 x k (k8v n k) ∧ Below w.heap.size w wr
set_option maxRecDepth 100000 in
set_option maxHeartbeats 2000000 in
theorem rnum9_walk (x : Int) (w : World) (hx : x < 2 ^ 63) : Calls Try.prog 125 #[.int .i64 x] w fun e w' => e = .returned (.string (numStr x)) ∧ Below w.heap.size w w' := by
  obtain ⟨i0, hi, hz0, hz1, hz2⟩ := info_parts kinfoU8
  obtain ⟨n, hn⟩ : ∃ n : Nat, (n : Int) = max x 0 := ⟨(max x 0).toNat, by omega⟩
  have start : x < 0 ∧ n = 0 ∨ ¬ x < 0 ∧ x = (n : Int) := by omega
  have hn63 : n < 2 ^ 63 := by omega
  have hfin : numStr x = strOfNums (ints (kb8 n)) := by unfold numStr; rw [← hn, Int.toNat_natCast]
  have Hfin := Lib.hid hfin
  have uw : IntKind.u64.wrap (n : Int) = (n : Int) := IntWalk.u64_in _ (by omega)
  clear hn hfin hx
  go_enter Try.func125, Try.ntmps125
  rcases start with ⟨h0, hz⟩ | ⟨h0, rfl⟩
  · have hk0 : ∀ j, kbyte n j = 0 := fun j => by rw [hz]; unfold kbyte; rw [Nat.zero_div, Nat.zero_mod]
    have Hk0 := Lib.hid hk0
    clear hz hk0
    go_wp2
    go_loopw [3, 4] (RnRel n w) (fun _ y _ => (intOf y + 1).toNat)
    case atStart => exact ⟨0, by omega, rfl, World.ownsRow_nil _ _ _ _, Below.refl _ _⟩
    case round =>
      obtain ⟨k, hk, rfl, hown, hbel⟩ := hrel
      by_cases hlt : k < 8
      · obtain ⟨q, hq⟩ : ∃ q, q = 7 - k := ⟨_, rfl⟩
        have hsz := hbel.size
        have e0 : (0 : Int) ≤ 7 - (k : Int) := by omega
        have e1 : (7 : Int) - (k : Int) = (q : Int) := by omega
        have e2 : (0 : Int) ≤ (q : Int) := by omega
        have i4 : IntKind.i64.wrap (8 * (q : Int)) = 8 * (q : Int) := IntWalk.i64_in _ (by omega)
        have i5 : IntKind.u64.wrap (8 * (q : Int)) = 8 * (q : Int) := IntWalk.u64_in _ (by omega)
        have i6 : (8 * (q : Int)).toNat = 8 * q := by omega
        have i7 : IntKind.i64.wrap ((q : Int) - 1) = (q : Int) - 1 := IntWalk.i64_in _ (by omega)
        have i8 : (8 * (q : Int)) < 64 := by omega
        have Hq := Lib.hid hq
        clear hq
        go_wp2_with (at_builtin; refine wpList_append_own _ rfl _ _ _ rfl w.heap.size 5 i0 _ 1 1 Try.underlying56 hi hz0 hz1 hz2 rfl (by omega) _ k (k8v n k) rfl (hown.alloc _) ⟨wr.heap.size, 0, none⟩ 1 1 [.int .u8 0] rfl rfl (World.news_of_block (cs := #[.int .u8 0]) (t := 5) (fr := (0, 0)) (heap_alloc_new wr _)) (by simp [Value.oneCell']) (by unfold maxLen; omega) (by omega) (by simp; omega) ?_)
        intro v1 w1 hown1 hgrow _
        go_wp2
        refine ⟨⟨k + 1, by omega, by congr 1; have := Hq.out; omega, ?_, ?_⟩, by simp [intOf]; omega⟩
        · rw [k8v_succ, ← Hq.out, Hk0.out]; exact hown1
        · exact (hbel.alloc hbel.size _).grown hgrow (by simp only [World.size_alloc]; have := hbel.size; omega) (fun j hj => own_ge hown j hj)
      · obtain rfl : k = 8 := by omega
        rcases hown.2 with ⟨rfl, h8⟩ | ⟨b, cap, cur, rfl, hb, hh, r⟩
        · cases h8
        · have hcv := run_convert_bytes_arg (P := Try.prog) wr 56 5 Try.underlying56 Try.underlying5 b 0 8 cap (ints (kb8 n)) (by simp [ints, kb8])
            (fun i hi => by rw [Nat.zero_add, hown.cellAt i (by omega), k8v_get n hi, kb8_get n i hi]) 9 Try.underlying9
          go_wp2
          go_ret
          exact ⟨by rw [Hfin.out]; rfl, hbel⟩
  · go_wp2
    go_loopw [3, 4] (RnRel n w) (fun _ y _ => (intOf y + 1).toNat)
    case atStart => exact ⟨0, by omega, rfl, World.ownsRow_nil _ _ _ _, Below.refl _ _⟩
    case round =>
      obtain ⟨k, hk, rfl, hown, hbel⟩ := hrel
      by_cases hlt : k < 8
      · obtain ⟨q, hq⟩ : ∃ q, q = 7 - k := ⟨_, rfl⟩
        have hsz := hbel.size
        have e0 : (0 : Int) ≤ 7 - (k : Int) := by omega
        have e1 : (7 : Int) - (k : Int) = (q : Int) := by omega
        have e2 : (0 : Int) ≤ (q : Int) := by omega
        have i4 : IntKind.i64.wrap (8 * (q : Int)) = 8 * (q : Int) := IntWalk.i64_in _ (by omega)
        have i5 : IntKind.u64.wrap (8 * (q : Int)) = 8 * (q : Int) := IntWalk.u64_in _ (by omega)
        have i6 : (8 * (q : Int)).toNat = 8 * q := by omega
        have i7 : IntKind.i64.wrap ((q : Int) - 1) = (q : Int) - 1 := IntWalk.i64_in _ (by omega)
        have i8 : (8 * (q : Int)) < 64 := by omega
        have b1 := kbyte_run n q
        have Hq := Lib.hid hq
        clear hq
        go_wp2_with (at_builtin; refine wpList_append_own _ rfl _ _ _ rfl w.heap.size 5 i0 _ 1 1 Try.underlying56 hi hz0 hz1 hz2 rfl (by omega) _ k (k8v n k) rfl (hown.alloc _) ⟨wr.heap.size, 0, none⟩ 1 1 [.int .u8 (kbyte n q : Nat)] rfl rfl (World.news_of_block (cs := #[.int .u8 (kbyte n q : Nat)]) (t := 5) (fr := (0, 0)) (heap_alloc_new wr _)) (by simp [Value.oneCell']) (by unfold maxLen; omega) (by omega) (by simp; omega) ?_)
        intro v1 w1 hown1 hgrow _
        go_wp2
        refine ⟨⟨k + 1, by omega, by congr 1; have := Hq.out; omega, ?_, ?_⟩, by simp [intOf]; omega⟩
        · rw [k8v_succ, ← Hq.out]; exact hown1
        · exact (hbel.alloc hbel.size _).grown hgrow (by simp only [World.size_alloc]; have := hbel.size; omega) (fun j hj => own_ge hown j hj)
      · obtain rfl : k = 8 := by omega
        rcases hown.2 with ⟨rfl, h8⟩ | ⟨b, cap, cur, rfl, hb, hh, r⟩
        · cases h8
        · have hcv := run_convert_bytes_arg (P := Try.prog) wr 56 5 Try.underlying56 Try.underlying5 b 0 8 cap (ints (kb8 n)) (by simp [ints, kb8])
            (fun i hi => by rw [Nat.zero_add, hown.cellAt i (by omega), k8v_get n hi, kb8_get n i hi]) 9 Try.underlying9
          go_wp2
          go_ret
          exact ⟨by rw [Hfin.out]; rfl, hbel⟩
theorem strOfNums_app9 (a b : List Int) : strOfNums a ++ strOfNums b = strOfNums (a ++ b) := by
  apply ByteArray.ext
  apply Array.ext'
  rw [ByteArray.data_append, Array.toList_append, strOfNums_data, strOfNums_data, strOfNums_data, List.map_append]
theorem keyPre_succ {t : Nat} {f : Nat → Int} {j : Nat} (h : 0 ≤ f j) : strOfNums (ints (t :: tl f 0 j)) ++ numStr (f j) = strOfNums (ints (t :: tl f 0 (j + 1))) := by
  unfold numStr
  rw [strOfNums_app9, tl_snoc, Nat.zero_add, Int.max_eq_left h]
  simp [ints]
theorem numStr_size9 (x : Int) : (numStr x).size = 8 := by unfold numStr; rw [strOfNums_size]; simp [ints, kb8]
theorem keyPre_size (t : Nat) (f : Nat → Int) (j : Nat) : (strOfNums (ints (t :: tl f 0 j))).size = 8 * j + 1 := by rw [strOfNums_size]; simp [ints, tl_length]
theorem keyStr_no {t : Int} {f : Nat → Int} {n k : Nat} (hk : k < n) (h : f k < 0) : keyStr t f n = ⟨#[]⟩ := by
  unfold keyStr; rw [if_neg (fun hh => absurd (hh.2.2 k hk) (by omega))]
set_option maxRecDepth 100000 in
set_option maxHeartbeats 2000000 in
theorem rkey9_walk (t : Int) (A : Option Addr) (n c : Nat) (f : Nat → Int) (w : World) (hl : Il w A n f) (hn : n ≤ 100) : Calls Try.prog 83 #[.int .i64 t, .slice A n c] w (KeyPost t f n w) := by
  by_cases ht : 1 ≤ t ∧ t ≤ 255
  · obtain ⟨tn, rfl⟩ : ∃ tn : Nat, t = (tn : Int) := ⟨t.toNat, by omega⟩
    have n1 : ¬ ((tn : Int) < 1) := by omega
    have n2 : ¬ ((255 : Int) < tn) := by omega
    have w8 : IntKind.u8.wrap (tn : Int) = (tn : Int) := IntWalk.u8_in _ (by omega)
    have nI : (n : Int) ≤ 100 := by omega
    have t1 : 1 ≤ tn := by omega
    have t2 : tn ≤ 255 := by omega
    have hcv := run_convert_bytes_arg (P := Try.prog) (w.alloc (.cells #[.int .u8 (tn : Nat)] 5)) 56 5 Try.underlying56 Try.underlying5 w.heap.size 0 1 1 [(tn : Int)] rfl
      (fun i hi => by obtain rfl : i = 0 := (by simp at hi; omega); simp) 9 Try.underlying9
    clear ht
    go_enter Try.func83, Try.ntmps83
    go_wp2
    go_loopw [5, 20] (fun s i wr => ∃ k : Nat, k ≤ n ∧ i = .int .i64 (k : Nat) ∧ s = .string (strOfNums (ints (tn :: tl f 0 k))) ∧ (∀ j, j < k → 0 ≤ f j) ∧ Below w.heap.size w wr) (fun _ i _ => n - (intOf i).toNat)
    case atStart => exact ⟨0, by omega, rfl, rfl, fun j h => absurd h (by omega), (Below.refl _ _).alloc (Nat.le_refl _) _⟩
    case round =>
      obtain ⟨k, hk, rfl, rfl, hpos, hbel⟩ := hrel
      have kI : (k : Int) ≤ n := by omega
      have Hpos := Lib.hid hpos
      clear hpos hcv
      by_cases hlt : k < n
      · obtain ⟨g, o, rfl, hg, hc⟩ := hl.at_ (by omega)
        have hm := hl.most k
        have hck : wr.cell? ⟨g, o + k, none⟩ = some (.int .i64 (f k)) := by rw [hbel.cell (p := ⟨g, o + k, none⟩) hg]; exact hc k hlt
        have q3 : (k : Int) < n := by omega
        have q4 : IntKind.i64.wrap ((k : Int) + 1) = (k : Int) + 1 := IntWalk.i64_in _ (by omega)
        clear hc hl
        by_cases hf : f k < 0
        · go_wp2
          refine bodyPost_ret (v := .string ⟨#[]⟩) (by simp [results, Try.results83, go_sem]) rfl ⟨?_, hbel⟩
          rw [keyStr_no hlt hf]
        · have z1 : ¬ 9223372036854775807 < (strOfNums (ints (tn :: tl f 0 k))).size + (numStr (f k)).size := by rw [keyPre_size, numStr_size9]; omega
          have hvs := Lib.hid (keyPre_succ (t := tn) (show 0 ≤ f k by omega))
          go_wp2_with (go_at_call 125; refine (rnum9_walk (f k) _ hm).mono ?_; rintro e w3 ⟨rfl, hb3⟩)
          go_roundw
          case rel =>
            refine ⟨k + 1, by omega, by go_num, by rw [hvs.out], fun j hj => ?_, hbel.trans (hb3.mono hbel.size)⟩
            rcases Nat.lt_or_ge j k with h | h
            · exact Hpos.out j h
            · rw [show j = k by omega]; omega
          case measure => simp [intOf]; omega
      · obtain rfl : k = n := by omega
        have q3 : ¬ (k : Int) < k := by omega
        go_wp2
        go_ret
        exact ⟨by rw [keyStr_yes t1 t2 Hpos.out]; rfl, hbel⟩
  · go_enter Try.func83, Try.ntmps83
    have part : t < 1 ∨ ¬ t < 1 ∧ 255 < t := by omega
    rcases part with h | ⟨h, h2⟩
    all_goals
      go_wp2
      refine bodyPost_ret (v := .string ⟨#[]⟩) (by simp [results, Try.results83, go_sem]) rfl ⟨?_, Below.refl _ _⟩
      unfold keyStr; rw [if_neg (fun h => ht ⟨h.1, h.2.1⟩)]
end Go.Proofs.Ytedkhpnlhkjjgaa

namespace Go.Proofs.Ytedkhpnlhkjjgaa
open Go.RowKit Go.Maps Go.Sort

theorem rkey_is (t : Int) (A : Option Addr) (n c : Nat) (f : Nat → Int) (K : ByteArray) (hK : keyStr t f n = K) (w : World) (hl : Il w A n f) (hn : n ≤ 100) :
    Calls Try.prog 83 #[.int .i64 t, .slice A n c] w fun e w' => e = .returned (.string K) ∧ Below w.heap.size w w' := by
  refine (rkey9_walk t A n c f w hl hn).mono ?_
  rintro e w' ⟨he, hb⟩
  rw [hK] at he
  exact ⟨he, hb⟩
set_option maxRecDepth 100000 in
theorem stock_is (t a : Int) (K : ByteArray) (hK : keyStr 6 (two2 t a) 2 = K) (w : World) (ht : t < 2 ^ 63) (ha : a < 2 ^ 63) : Calls Try.prog 40 #[.int .i64 t, .int .i64 a] w fun e w' => e = .returned (.string K) ∧ Below w.heap.size w w' := by
  have HK := Lib.hid (key_is 6 (some ⟨w.heap.size, 0, none⟩) 2 2 (two2 t a) K hK _ (il2 t a w 3 ht ha) (by omega))
  have HB0 := Lib.hid ((Below.refl w.heap.size w).alloc (Nat.le_refl _) (.cells #[.int .i64 t, .int .i64 a] 3))
  clear hK ht ha
  go_enter Try.func40, Try.ntmps40
  go_wp2_with (go_at_call 60; refine HK.out.mono ?_; rintro e w1 ⟨rfl, hb1⟩; have HB1 := Lib.hid (HB0.out.trans (hb1.mono HB0.out.size)); clear hb1)
  go_ret
  exact ⟨rfl, HB1.out⟩
set_option maxRecDepth 100000 in
theorem raccount_is (t a : Int) (K : ByteArray) (hK : keyStr 1 (two2 t a) 2 = K) (w : World) (ht : t < 2 ^ 63) (ha : a < 2 ^ 63) : Calls Try.prog 33 #[.int .i64 t, .int .i64 a] w fun e w' => e = .returned (.string K) ∧ Below w.heap.size w w' := by
  have HK := Lib.hid (rkey_is 1 (some ⟨w.heap.size, 0, none⟩) 2 2 (two2 t a) K hK _ (il2 t a w 3 ht ha) (by omega))
  have HB0 := Lib.hid ((Below.refl w.heap.size w).alloc (Nat.le_refl _) (.cells #[.int .i64 t, .int .i64 a] 3))
  clear hK ht ha
  go_enter Try.func33, Try.ntmps33
  go_wp2_with (go_at_call 83; refine HK.out.mono ?_; rintro e w1 ⟨rfl, hb1⟩; have HB1 := Lib.hid (HB0.out.trans (hb1.mono HB0.out.size)); clear hb1)
  go_ret
  exact ⟨rfl, HB1.out⟩
set_option maxRecDepth 100000 in
theorem rstock_is (t a : Int) (K : ByteArray) (hK : keyStr 6 (two2 t a) 2 = K) (w : World) (ht : t < 2 ^ 63) (ha : a < 2 ^ 63) : Calls Try.prog 41 #[.int .i64 t, .int .i64 a] w fun e w' => e = .returned (.string K) ∧ Below w.heap.size w w' := by
  have HK := Lib.hid (rkey_is 6 (some ⟨w.heap.size, 0, none⟩) 2 2 (two2 t a) K hK _ (il2 t a w 3 ht ha) (by omega))
  have HB0 := Lib.hid ((Below.refl w.heap.size w).alloc (Nat.le_refl _) (.cells #[.int .i64 t, .int .i64 a] 3))
  clear hK ht ha
  go_enter Try.func41, Try.ntmps41
  go_wp2_with (go_at_call 83; refine HK.out.mono ?_; rintro e w1 ⟨rfl, hb1⟩; have HB1 := Lib.hid (HB0.out.trans (hb1.mono HB0.out.size)); clear hb1)
  go_ret
  exact ⟨rfl, HB1.out⟩
set_option maxRecDepth 100000 in
theorem rsupply_is (t : Int) (K : ByteArray) (hK : keyStr 2 (fun _ => t) 1 = K) (w : World) (ht : t < 2 ^ 63) : Calls Try.prog 35 #[.int .i64 t] w fun e w' => e = .returned (.string K) ∧ Below w.heap.size w w' := by
  have HK := Lib.hid (rkey_is 2 (some ⟨w.heap.size, 0, none⟩) 1 1 (fun _ => t) K hK _ (il1 t w 3 ht) (by omega))
  have HB0 := Lib.hid ((Below.refl w.heap.size w).alloc (Nat.le_refl _) (.cells #[.int .i64 t] 3))
  clear hK ht
  go_enter Try.func35, Try.ntmps35
  go_wp2_with (go_at_call 83; refine HK.out.mono ?_; rintro e w1 ⟨rfl, hb1⟩; have HB1 := Lib.hid (HB0.out.trans (hb1.mono HB0.out.size)); clear hb1)
  go_ret
  exact ⟨rfl, HB1.out⟩
set_option maxRecDepth 100000 in
theorem rsink_is (t : Int) (K : ByteArray) (hK : keyStr 3 (fun _ => t) 1 = K) (w : World) (ht : t < 2 ^ 63) : Calls Try.prog 37 #[.int .i64 t] w fun e w' => e = .returned (.string K) ∧ Below w.heap.size w w' := by
  have HK := Lib.hid (rkey_is 3 (some ⟨w.heap.size, 0, none⟩) 1 1 (fun _ => t) K hK _ (il1 t w 3 ht) (by omega))
  have HB0 := Lib.hid ((Below.refl w.heap.size w).alloc (Nat.le_refl _) (.cells #[.int .i64 t] 3))
  clear hK ht
  go_enter Try.func37, Try.ntmps37
  go_wp2_with (go_at_call 83; refine HK.out.mono ?_; rintro e w1 ⟨rfl, hb1⟩; have HB1 := Lib.hid (HB0.out.trans (hb1.mono HB0.out.size)); clear hb1)
  go_ret
  exact ⟨rfl, HB1.out⟩
set_option maxRecDepth 100000 in
theorem rpool_is (t : Int) (K : ByteArray) (hK : keyStr 4 (fun _ => t) 1 = K) (w : World) (ht : t < 2 ^ 63) : Calls Try.prog 39 #[.int .i64 t] w fun e w' => e = .returned (.string K) ∧ Below w.heap.size w w' := by
  have HK := Lib.hid (rkey_is 4 (some ⟨w.heap.size, 0, none⟩) 1 1 (fun _ => t) K hK _ (il1 t w 3 ht) (by omega))
  have HB0 := Lib.hid ((Below.refl w.heap.size w).alloc (Nat.le_refl _) (.cells #[.int .i64 t] 3))
  clear hK ht
  go_enter Try.func39, Try.ntmps39
  go_wp2_with (go_at_call 83; refine HK.out.mono ?_; rintro e w1 ⟨rfl, hb1⟩; have HB1 := Lib.hid (HB0.out.trans (hb1.mono HB0.out.size)); clear hb1)
  go_ret
  exact ⟨rfl, HB1.out⟩
end Go.Proofs.Ytedkhpnlhkjjgaa

namespace Go.Proofs.Ytedkhpnlhkjjgaa
open Go.RowKit Go.Maps Go.Sort

def amS (l : SL) : Nat := (l.map fun p => fbv p.2).sum
theorem amS_snoc (l : SL) (p : ByteArray × ByteArray) : amS (l ++ [p]) = amS l + fbv p.2 := by simp [amS]
def amT (R : Nat → SL) : Nat → Nat
  | 0 => 0
  | i + 1 => amT R i + amS (R i)
theorem amT_le (R : Nat → SL) {i m : Nat} (h : i ≤ m) : amT R i ≤ amT R m := by
  induction h with
  | refl => exact Nat.le_refl _
  | step _ ih => exact Nat.le_trans ih (Nat.le_add_right _ _)
theorem amS_take (l : SL) (j : Nat) (h : j < l.length) : amS (l.take (j + 1)) = amS (l.take j) + fbv l[j].2 := by
  rw [List.take_succ_eq_append_getElem h, amS_snoc]
theorem amS_take_le (l : SL) (j : Nat) : amS (l.take j) ≤ amS l := by
  have h := congrArg amS (List.take_append_drop j l)
  unfold amS at h ⊢
  rw [List.map_append, List.sum_append] at h
  omega
theorem pcs_at : ∀ (l : SL) (j : Nat) (h : j < l.length), (pcs l)[j * 2]? = some (.string l[j].1) ∧ (pcs l)[j * 2 + 1]? = some (.string l[j].2)
  | [], j, h => absurd h (Nat.not_lt_zero _)
  | p :: r, 0, _ => ⟨rfl, rfl⟩
  | p :: r, j + 1, h => by
    have ih := pcs_at r j (by simpa using h)
    have e : pcs (p :: r) = .string p.1 :: .string p.2 :: pcs r := rfl
    rw [e]
    refine ⟨?_, ?_⟩
    · rw [show (j + 1) * 2 = j * 2 + 1 + 1 by omega, List.getElem?_cons_succ, List.getElem?_cons_succ]
      simpa using ih.1
    · rw [show (j + 1) * 2 + 1 = j * 2 + 1 + 1 + 1 by omega, List.getElem?_cons_succ, List.getElem?_cons_succ]
      simpa using ih.2
/-- a row of pairs that was made: how it is read -/
theorem row_pairs {w : World} {B : Nat} {v : Value} {l : SL} (h : w.ownsRow B 184 2 v l.length (pcs l)) :
    ∃ A c, v = .slice A l.length c ∧ (0 < l.length → ∃ g, A = some ⟨g, 0, none⟩ ∧ B ≤ g ∧ g < w.heap.size ∧ ∀ j (h : j < l.length), w.cell? ⟨g, j * 2, none⟩ = some (.string l[j].1) ∧ w.cell? ⟨g, j * 2 + 1, none⟩ = some (.string l[j].2)) := by
  rcases h.2 with ⟨rfl, h0⟩ | ⟨g, cap, cur, rfl, hb, hg, r⟩
  · exact ⟨none, 0, by rw [h0], fun hp => by omega⟩
  · exact ⟨_, cap, rfl, fun _ => ⟨g, rfl, hb, hp_lt hg, fun j hj => ⟨ownsRow_cell h rfl (pcs_at l j hj).1, ownsRow_cell h rfl (pcs_at l j hj).2⟩⟩⟩
theorem cell_touch {F : List Nat} {w w' : World} {g o : Nat} {u : Value} (h : Touch F w w') (hg : g ∉ F) (hc : w.cell? ⟨g, o, none⟩ = some u) : w'.cell? ⟨g, o, none⟩ = some u := by
  have hl := World.block_lt_of_cell? _ _ hc
  rw [← hc]
  simp only [World.cell?, h.block g hl hg]
set_option maxRecDepth 100000 in
set_option maxHeartbeats 4000000 in
theorem each_walk (P : Option Addr) (bb m : Nat) (bs : Nat → ByteArray) (R : Nat → SL) (g6 g7 : Nat) (W : World) (hm : m ≤ 8) (hR : ∀ i, i < m → (R i).length ≤ 128)
    (hb : ∀ i, i < m → W.cell? ⟨bb, i, none⟩ = some (.string (bs i))) (hb6 : bb ≠ g6) (hb7 : bb ≠ g7) (hT : Tot W g6 g7 0) (hne : g6 ≠ g7) (hsum : amT R m < 2 ^ 256)
    (HU : ∀ i W', i < m → Touch [g6, g7] W W' → Calls Try.prog 124 #[.pointer P, .string (bs i)] W' fun e w' => (∃ v, e = .returned v ∧ w'.ownsRow W'.heap.size 184 2 v (R i).length (pcs (R i))) ∧ Below W'.heap.size W' w') :
    Calls Try.prog 95 #[.pointer P, .func (.func 96) #[] #[.pointer (some ⟨g7, 0, none⟩), .pointer (some ⟨g6, 0, none⟩)], .slice (some ⟨bb, 0, none⟩) m m] W fun e w' => e = .returned (.tuple #[]) ∧ Tot w' g6 g7 (amT R m) ∧ Touch [g6, g7] W w' := by
  have HUs := Lib.hid HU
  have HBs := Lib.hid hb
  have HSum := Lib.hid hsum
  have HRl := Lib.hid hR
  have HNE := Lib.hid hne
  have HBB := Lib.hid (show bb ∉ [g6, g7] by simp [hb6, hb7])
  have l6 := hp_lt hT.s
  have l7 := hp_lt hT.f
  have HT0 := Lib.hid hT
  have hM : (m : Int) ≤ 8 := by omega
  clear HU hb hsum hR hne hb6 hb7 hT
  go_enter Try.func95, Try.ntmps95
  go_wp2
  go_loopw [14] (fun x wr => ∃ i : Nat, i ≤ m ∧ x = .int .i64 (i : Nat) ∧ Tot wr g6 g7 (amT R i) ∧ Touch [g6, g7] W wr) (fun x _ => m - (intOf x).toNat)
  case atStart => exact ⟨0, Nat.zero_le _, rfl, HT0.out, Touch.refl _ _⟩
  case round =>
    obtain ⟨i, hi, rfl, htot, htch⟩ := hrel
    by_cases hlt : i < m
    · have p1 : (i : Int) < (m : Int) := by omega
      have cb := cell_touch htch HBB.out (HBs.out i hlt)
      have HU1 := Lib.hid (HUs.out i wr hlt htch)
      have HT1 := Lib.hid htot
      have HC1 := Lib.hid htch
      have hz := htch.size
      have HLT := Lib.hid hlt
      obtain ⟨bsi, ebs⟩ : ∃ x, x = bs i := ⟨_, rfl⟩
      rw [← ebs] at cb HU1
      have hrl := HRl.out i hlt
      have hsi : amT R i + amS (R i) < 2 ^ 256 := Nat.lt_of_le_of_lt (amT_le R (i := i + 1) (by omega)) HSum.out
      obtain ⟨l, el⟩ : ∃ l, l = R i := ⟨_, rfl⟩
      have EL := Lib.hid el
      rw [← el] at HU1 hrl hsi
      have HSI := Lib.hid hsi
      obtain ⟨n, en⟩ : ∃ n, n = l.length := ⟨_, rfl⟩
      have EN := Lib.hid en
      rw [← en] at hrl
      have hn8 : (n : Int) ≤ 128 := by omega
      clear htot htch hlt ebs el hsi en hi hrl
      go_upto_region 4 with (go_at_call 124; refine HU1.out.mono ?_; rintro e w2 ⟨⟨v, rfl, hv⟩, hb2⟩; obtain ⟨A, c, rfl, hcs⟩ := row_pairs hv; rw [← EN.out]; have HV := Lib.hid hcs; have H2 := Lib.hid hb2; clear hv hb2 hcs)
      go_loopw [22] (fun x wr2 => ∃ j : Nat, j ≤ n ∧ x = .int .i64 (j : Nat) ∧ Tot wr2 g6 g7 (amT R i + amS (l.take j)) ∧ Touch [g6, g7] w2 wr2) (fun x _ => n - (intOf x).toNat)
      case atStart => exact ⟨0, Nat.zero_le _, rfl, HT1.out.below H2.out, Touch.refl _ _⟩
      case round =>
        obtain ⟨j, hj, rfl, htot, htch⟩ := hrel
        by_cases hjn : j < n
        · have p2 : (j : Int) < (n : Int) := by omega
          have hjl : j < l.length := by have := EN.out; omega
          obtain ⟨g, rfl, hg1, hg2, hgc⟩ := HV.out (by omega)
          have hgn : g ∉ [g6, g7] := by simp; omega
          have ck := cell_touch htch hgn (hgc j hjl).1
          have cv := cell_touch htch hgn (hgc j hjl).2
          have hS : amT R i + amS (l.take j) + fbv l[j].2 < 2 ^ 256 := by
            have h1 := amS_take_le l (j + 1)
            rw [amS_take l j hjl] at h1
            have := HSI.out
            omega
          have hnx : amT R i + amS (l.take j) + fbv l[j].2 = amT R i + amS (l.take (j + 1)) := by rw [amS_take l j hjl, Nat.add_assoc]
          have HNX := Lib.hid hnx
          obtain ⟨ky, eky⟩ : ∃ x, x = l[j].1 := ⟨_, rfl⟩
          obtain ⟨vl, evl⟩ : ∃ x, x = l[j].2 := ⟨_, rfl⟩
          rw [← eky] at ck
          rw [← evl] at cv hS HNX
          obtain ⟨S, eS⟩ : ∃ S, S = amT R i + amS (l.take j) := ⟨_, rfl⟩
          rw [← eS] at hS htot HNX
          obtain ⟨a, ea⟩ : ∃ a, a = fbv vl := ⟨_, rfl⟩
          rw [← ea] at hS HNX
          obtain ⟨ok, eok⟩ : ∃ ok, ok = decide (vl.size = 32) := ⟨_, rfl⟩
          have hTA := fun W' => toAmount_walk vl a ok W' ea.symm eok.symm
          have hTl := fun W' (ht : Tot W' g6 g7 S) => tell_walk S a g6 g7 W' (by omega) hS ht HNE.out
          unfold U at hTA hTl
          have HTA := Lib.hid hTA
          have HTl := Lib.hid hTl
          have HTt := Lib.hid htot
          have HCt := Lib.hid htch
          clear hTA hTl htot htch eok ea eS evl eky hS hnx hgc hgn hjl hj
          go_wp2_with (first
            | (go_at_call 96; with_reducible refine (HTl.out _ (HTt.out.below (H4.out.alloc H4.out.size _))).mono ?_; rintro e w6 ⟨rfl, ht6, hc6⟩; have H6 := Lib.hid (And.intro ht6 ((HCt.out.trans (fun _ hk => .inl hk) (Touch.of_below (H4.out.alloc H4.out.size _))).trans (fun _ hk => .inl hk) hc6)); clear ht6 hc6)
            | (go_at_call 114; with_reducible refine (HTA.out _).mono ?_; rintro e w4 ⟨rfl, hb4⟩; have hbx := (Below.refl wr.heap.size wr).alloc (Nat.le_refl _) (.cells #[.string ky, .string vl] 184); have H4 := Lib.hid (hbx.trans (hb4.mono hbx.size)); clear hb4 hbx))
          refine ⟨⟨j + 1, by omega, by simp, ?_, H6.out.2⟩, by simp [intOf]; omega⟩
          rw [← HNX.out]
          exact H6.out.1
        · obtain rfl : j = n := by omega
          have p2 : ¬ (j : Int) < (j : Int) := by omega
          have e1 : amT R i + amS (l.take j) = amT R (i + 1) := by rw [EN.out, List.take_length, EL.out]; rfl
          rw [e1] at htot
          have H9 := Lib.hid (And.intro htot ((HC1.out.trans (fun _ hk => .inl hk) (Touch.of_below H2.out)).trans (fun _ hk => .inl hk) htch))
          clear htot htch e1
          go_wp2
          exact ⟨⟨i + 1, HLT.out, by simp, H9.out⟩, by simp [intOf]; omega⟩
    · obtain rfl : i = m := by omega
      have p1 : ¬ (i : Int) < (i : Int) := by omega
      have H9 := Lib.hid (And.intro htot htch)
      clear htot htch
      go_wp2
      go_end0
      exact ⟨rfl, H9.out⟩
/-- what Total is told: the four prefixes -/
def bgs (k1 k3 k4 k6 : ByteArray) : Nat → ByteArray
  | 0 => k1
  | 1 => k3
  | 2 => k4
  | _ => k6
set_option maxRecDepth 100000 in
set_option maxHeartbeats 4000000 in
theorem total_no (P : Option Addr) (t : Int) (w : World) (h : ¬ (1 ≤ t ∧ t ≤ 1000)) : Calls Try.prog 46 #[.pointer P, .int .i64 t] w fun e w' => e = .returned (.tuple #[U 0, .bool false]) ∧ Below w.heap.size w w' := by
  have hT := fun W => istok_any t W
  rw [decide_eq_false h] at hT
  have HT := Lib.hid hT
  have hb0 := (Below.refl w.heap.size w).alloc (Nat.le_refl _) (.cells #[.int .u64 0, .int .u64 0, .int .u64 0, .int .u64 0] 29)
  have r0 := heap_alloc_new w (.cells #[.int .u64 0, .int .u64 0, .int .u64 0, .int .u64 0] 29)
  have H0 := Lib.hid (And.intro hb0 r0)
  clear hb0 r0 hT h
  go_enter Try.func46, Try.ntmps46
  go_wp2_with (go_at_call 94; refine (HT.out _).mono ?_; rintro e w1 ⟨rfl, rfl⟩)
  obtain ⟨e0, e1, e2, e3⟩ := (arr_zero H0.out.2).cells4
  refine bodyPost_ret (v := .tuple #[.agg #[.int .u64 0, .int .u64 0, .int .u64 0, .int .u64 0], .bool false]) (by simp [results, Try.results46, go_sem, e0, e1, e2, e3]) rfl ⟨rfl, H0.out.1⟩
set_option maxRecDepth 100000 in
set_option maxHeartbeats 4000000 in
theorem total_yes (P : Option Addr) (t : Int) (w : World) (k1 k3 k4 k6 : ByteArray) (R : Nat → SL) (ht : 1 ≤ t ∧ t ≤ 1000) (h1 : keyStr 1 (fun _ => t) 1 = k1) (h3 : keyStr 3 (fun _ => t) 1 = k3) (h4 : keyStr 4 (fun _ => t) 1 = k4) (h6 : keyStr 6 (fun _ => t) 1 = k6) (hR : ∀ i, i < 4 → (R i).length ≤ 128) (hsum : amT R 4 < 2 ^ 256)
    (HU : ∀ (i : Nat) (W W' : World) (G : List Nat), i < 4 → Below w.heap.size w W → (∀ g ∈ G, w.heap.size ≤ g) → Touch G W W' → Calls Try.prog 124 #[.pointer P, .string (bgs k1 k3 k4 k6 i)] W' fun e w' => (∃ v, e = .returned v ∧ w'.ownsRow W'.heap.size 184 2 v (R i).length (pcs (R i))) ∧ Below W'.heap.size W' w') :
    Calls Try.prog 46 #[.pointer P, .int .i64 t] w fun e w' => e = .returned (.tuple #[U (amT R 4), .bool true]) ∧ Below w.heap.size w w' := by
  have hT := fun W => istok_any t W
  rw [decide_eq_true ht] at hT
  have HT := Lib.hid hT
  obtain ⟨W3, hW3⟩ : ∃ W3, W3 = ((w.alloc (.cells #[.int .u64 0, .int .u64 0, .int .u64 0, .int .u64 0] 29)).alloc (.cells #[.int .u64 0, .int .u64 0, .int .u64 0, .int .u64 0] 29)).alloc (.cells #[.bool true] 4) := ⟨_, rfl⟩
  have hb3 : Below w.heap.size w W3 := by rw [hW3]; exact (((Below.refl _ _).alloc (Nat.le_refl _) _).alloc (by simp) _).alloc (by simp; omega) _
  have hs3 : W3.heap.size = w.heap.size + 3 := by rw [hW3]; simp
  have r4 : W3.heap[w.heap.size]? = some (.cells #[.int .u64 0, .int .u64 0, .int .u64 0, .int .u64 0] 29 (0, 0)) := by
    rw [hW3]; exact (heap_alloc_old _ _ (by simp only [World.size_alloc]; omega)).trans ((heap_alloc_old _ _ (by simp only [World.size_alloc]; omega)).trans (heap_alloc_new _ _))
  have hTot : Tot W3 (w.heap.size + 1) (w.heap.size + 1 + 1) 0 := by
    have r6 := heap_alloc_new (w.alloc (.cells #[.int .u64 0, .int .u64 0, .int .u64 0, .int .u64 0] 29)) (.cells #[.int .u64 0, .int .u64 0, .int .u64 0, .int .u64 0] 29)
    rw [World.size_alloc] at r6
    have r7 := heap_alloc_new ((w.alloc (.cells #[.int .u64 0, .int .u64 0, .int .u64 0, .int .u64 0] 29)).alloc (.cells #[.int .u64 0, .int .u64 0, .int .u64 0, .int .u64 0] 29)) (.cells #[.bool true] 4)
    rw [World.size_alloc, World.size_alloc] at r7
    rw [hW3]
    exact ⟨(heap_alloc_old _ _ (by simp only [World.size_alloc]; omega)).trans r6, r7⟩
  have HEa := Lib.hid (fun (w8 : World) (hB8 : Below W3.heap.size W3 w8) => by
    have hsz := hB8.size
    have hb8 := hb3.trans (hB8.mono hb3.size)
    have hbx := hb8.alloc hb8.size (.cells #[.string k1, .string k3, .string k4, .string k6] 9)
    exact each_walk P w8.heap.size 4 (bgs k1 k3 k4 k6) R (w.heap.size + 1) (w.heap.size + 1 + 1) (w8.alloc (.cells #[.string k1, .string k3, .string k4, .string k6] 9)) (by omega) hR
      (fun i hi => by rcases (by omega : i = 0 ∨ i = 1 ∨ i = 2 ∨ i = 3) with rfl | rfl | rfl | rfl <;> exact (World.cell?_alloc_at _ _ _ _ rfl).trans rfl) (by omega) (by omega) (hTot.below (hB8.alloc hB8.size _)) (by omega) hsum
      (fun i W' hi ht => HU i _ W' _ hi hbx (by simp; omega) ht))
  have HK1 := Lib.hid (fun (W1 : World) => key_is 1 (some ⟨W1.heap.size, 0, none⟩) 1 1 (fun _ => t) k1 h1 _ (il1 t W1 3 (by omega)) (by omega))
  have HK6 := Lib.hid (fun (W1 : World) => key_is 6 (some ⟨W1.heap.size, 0, none⟩) 1 1 (fun _ => t) k6 h6 _ (il1 t W1 3 (by omega)) (by omega))
  have HK3 := Lib.hid (fun (W1 : World) => sink_is t k3 h3 W1 (by omega))
  have HK4 := Lib.hid (fun (W1 : World) => pool_is t k4 h4 W1 (by omega))
  have H3 := Lib.hid (And.intro hb3 (And.intro r4 hs3))
  have HW := Lib.hid hW3
  obtain ⟨N, hN⟩ : ∃ N, N = amT R 4 := ⟨_, rfl⟩
  rw [← hN] at HEa ⊢
  clear hT ht h1 h3 h4 h6 hR hsum HU hW3 hb3 hs3 r4 hTot hN
  go_enter Try.func46, Try.ntmps46
  go_upto_region 5 with (go_at_call 94; refine (HT.out _).mono ?_; rintro e w1 ⟨rfl, rfl⟩)
  rw [← HW.out]
  clear HW
  go_upto_region 6 with (first
    | (go_at_call 95; with_reducible refine (HEa.out _ B7.out).mono ?_; rintro e w8 ⟨rfl, ht8, hc8⟩; have H8 := Lib.hid (And.intro ht8 ((Touch.of_below (F := [w.heap.size + 1, w.heap.size + 1 + 1]) (B7.out.alloc B7.out.size (.cells #[.string k1, .string k3, .string k4, .string k6] 9))).trans (fun _ hk => .inl hk) hc8)); clear ht8 hc8)
    | (go_at_call 60; have g5 := B6; clear g5; with_reducible refine (HK6.out _).mono ?_; rintro e w7 ⟨rfl, hb7⟩; have hbx := B6.out.alloc B6.out.size (.cells #[.int .i64 t] 3); have B7 := Lib.hid (hbx.trans (hb7.mono hbx.size)); clear hb7 hbx)
    | (go_at_call 38; with_reducible refine (HK4.out _).mono ?_; rintro e w6 ⟨rfl, hb6⟩; have B6 := Lib.hid (B5.out.trans (hb6.mono B5.out.size)); clear hb6)
    | (go_at_call 36; with_reducible refine (HK3.out _).mono ?_; rintro e w5 ⟨rfl, hb5⟩; have B5 := Lib.hid (B4.out.trans (hb5.mono B4.out.size)); clear hb5)
    | (go_at_call 60; with_reducible refine (HK1.out _).mono ?_; rintro e w4 ⟨rfl, hb4⟩; have hbx := (Below.refl W3.heap.size W3).alloc (Nat.le_refl _) (.cells #[.int .i64 t] 3); have B4 := Lib.hid (hbx.trans (hb4.mono hbx.size)); clear hb4 hbx))
  have hb8 : Below w.heap.size w w8 := by
    have hsz := H3.out.2.2
    have hx := H8.out.2.below (n := w.heap.size) (fun k hk => by rcases List.mem_cons.1 hk with rfl | hk; omega; rcases List.mem_cons.1 hk with rfl | hk; omega; cases hk) H3.out.1.size
    exact H3.out.1.trans hx
  have hr4 : w8.heap[w.heap.size]? = some (.cells #[.int .u64 0, .int .u64 0, .int .u64 0, .int .u64 0] 29 (0, 0)) :=
    (H8.out.2.block _ (hp_lt H3.out.2.1) (by simp; omega)).trans H3.out.2.1
  have H9 := Lib.hid (And.intro hr4 hb8)
  have hT8 := H8.out.1
  have c0 := (hp_cell (i := 0) hT8.s).trans rfl
  have c1 := (hp_cell (i := 1) hT8.s).trans rfl
  have c2 := (hp_cell (i := 2) hT8.s).trans rfl
  have c3 := (hp_cell (i := 3) hT8.s).trans rfl
  have c7 := (hp_cell (i := 0) hT8.f).trans rfl
  have d0 := (hp_cell (i := 0) hr4).trans rfl
  have d1 := (hp_cell (i := 1) hr4).trans rfl
  have d2 := (hp_cell (i := 2) hr4).trans rfl
  have d3 := (hp_cell (i := 3) hr4).trans rfl
  have f0 := hp_free (i := 0) hr4
  have f1 := hp_free (i := 1) hr4
  have f2 := hp_free (i := 2) hr4
  have f3 := hp_free (i := 3) hr4
  clear hT8 hr4 hb8
  go_region
  all_goals go_wp2
  all_goals obtain ⟨e0, e1, e2, e3⟩ := (((arr_zero H9.out.1).put4 (n := N)).drew).cells4
  all_goals exact bodyPost_ret (v := .tuple #[.agg #[.int .u64 (limb N 0 : Nat), .int .u64 (limb N 1 : Nat), .int .u64 (limb N 2 : Nat), .int .u64 (limb N 3 : Nat)], .bool true]) (by simp [results, Try.results46, go_sem, e0, e1, e2, e3]) rfl ⟨rfl, (below_set4 H9.out.2 (Nat.le_refl _)).drew⟩
end Go.Proofs.Ytedkhpnlhkjjgaa
