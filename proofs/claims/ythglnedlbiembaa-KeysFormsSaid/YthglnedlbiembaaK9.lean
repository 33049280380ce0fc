/- tallageref09.Num, Key, walked. -/
import Derived.Test.YthglnedlbiembaaK8
import Derived.Test.YthglnedlbiembaaR2
namespace Go.Proofs.Ythglnedlbiembaa
open Go.RowKit Go.Sort

/-- the bytes of a number, k of them -/
def k8v (n : Nat) (k : Nat) : List Value := (List.range k).map fun i => Value.int .u8 (kbyte n (7 - i) : Nat)
theorem k8v_succ (n k : Nat) : k8v n (k + 1) = k8v n k ++ [.int .u8 (kbyte n (7 - k) : Nat)] := by simp [k8v, List.range_succ]
theorem k8v_get (n : Nat) {k i : Nat} (h : i < k) : (k8v n k)[i]? = some (.int .u8 (kbyte n (7 - i) : Nat)) := by simp [k8v, h]
theorem kb8_get (n i : Nat) (h : i < 8) : (ints (kb8 n)).getD i 0 = ((kbyte n (7 - i) : Nat) : Int) := by
  rcases (by omega : i = 0 ∨ i = 1 ∨ i = 2 ∨ i = 3 ∨ i = 4 ∨ i = 5 ∨ i = 6 ∨ i = 7) with rfl | rfl | rfl | rfl | rfl | rfl | rfl | rfl <;> rfl
def RnRel (n : Nat) (w : World) (x y : Value) (wr : World) : Prop :=
  ∃ k : Nat, k ≤ 8 ∧ y = .int .i64 (7 - (k : Int)) ∧ wr.ownsRow w.heap.size 5 1 x k (k8v n k) ∧ Below w.heap.size w wr
set_option maxRecDepth 100000 in
set_option maxHeartbeats 2000000 in
theorem rnum9_walk (x : Int) (w : World) (hx : x < 2 ^ 63) : Calls Try.prog 92 #[.int .i64 x] w fun e w' => e = .returned (.string (numStr x)) ∧ Below w.heap.size w w' := by
  obtain ⟨i0, hi, hz0, hz1, hz2⟩ := info_parts kinfoU8
  obtain ⟨n, hn⟩ : ∃ n : Nat, (n : Int) = max x 0 := ⟨(max x 0).toNat, by omega⟩
  have start : x < 0 ∧ n = 0 ∨ ¬ x < 0 ∧ x = (n : Int) := by omega
  have hn63 : n < 2 ^ 63 := by omega
  have hfin : numStr x = strOfNums (ints (kb8 n)) := by unfold numStr; rw [← hn, Int.toNat_natCast]
  have Hfin := Lib.hid hfin
  have uw : IntKind.u64.wrap (n : Int) = (n : Int) := IntWalk.u64_in _ (by omega)
  clear hn hfin hx
  go_enter Try.func92, Try.ntmps92
  rcases start with ⟨h0, hz⟩ | ⟨h0, rfl⟩
  · have hk0 : ∀ j, kbyte n j = 0 := fun j => by rw [hz]; unfold kbyte; rw [Nat.zero_div, Nat.zero_mod]
    have Hk0 := Lib.hid hk0
    clear hz hk0
    go_wp2
    go_loopw [3, 4] (RnRel n w) (fun _ y _ => (intOf y + 1).toNat)
    case atStart => exact ⟨0, by omega, rfl, World.ownsRow_nil _ _ _ _, Below.refl _ _⟩
    case round =>
      obtain ⟨k, hk, rfl, hown, hbel⟩ := hrel
      by_cases hlt : k < 8
      · obtain ⟨q, hq⟩ : ∃ q, q = 7 - k := ⟨_, rfl⟩
        have hsz := hbel.size
        have e0 : (0 : Int) ≤ 7 - (k : Int) := by omega
        have e1 : (7 : Int) - (k : Int) = (q : Int) := by omega
        have e2 : (0 : Int) ≤ (q : Int) := by omega
        have i4 : IntKind.i64.wrap (8 * (q : Int)) = 8 * (q : Int) := IntWalk.i64_in _ (by omega)
        have i5 : IntKind.u64.wrap (8 * (q : Int)) = 8 * (q : Int) := IntWalk.u64_in _ (by omega)
        have i6 : (8 * (q : Int)).toNat = 8 * q := by omega
        have i7 : IntKind.i64.wrap ((q : Int) - 1) = (q : Int) - 1 := IntWalk.i64_in _ (by omega)
        have i8 : (8 * (q : Int)) < 64 := by omega
        have Hq := Lib.hid hq
        clear hq
        go_wp2_with (at_builtin; refine wpList_append_own _ rfl _ _ _ rfl w.heap.size 5 i0 _ 1 1 Try.underlying33 hi hz0 hz1 hz2 rfl (by omega) _ k (k8v n k) rfl (hown.alloc _) ⟨wr.heap.size, 0, none⟩ 1 1 [.int .u8 0] rfl rfl (World.news_of_block (cs := #[.int .u8 0]) (t := 5) (fr := (0, 0)) (heap_alloc_new wr _)) (by simp [Value.oneCell']) (by unfold maxLen; omega) (by omega) (by simp; omega) ?_)
        intro v1 w1 hown1 hgrow _
        go_wp2
        refine ⟨⟨k + 1, by omega, by congr 1; have := Hq.out; omega, ?_, ?_⟩, by simp [intOf]; omega⟩
        · rw [k8v_succ, ← Hq.out, Hk0.out]; exact hown1
        · exact (hbel.alloc hbel.size _).grown hgrow (by simp only [World.size_alloc]; have := hbel.size; omega) (fun j hj => own_ge hown j hj)
      · obtain rfl : k = 8 := by omega
        rcases hown.2 with ⟨rfl, h8⟩ | ⟨b, cap, cur, rfl, hb, hh, r⟩
        · cases h8
        · have hcv := run_convert_bytes_arg (P := Try.prog) wr 33 5 Try.underlying33 Try.underlying5 b 0 8 cap (ints (kb8 n)) (by simp [ints, kb8])
            (fun i hi => by rw [Nat.zero_add, hown.cellAt i (by omega), k8v_get n hi, kb8_get n i hi]) 9 Try.underlying9
          go_wp2
          go_ret
          exact ⟨by rw [Hfin.out]; rfl, hbel⟩
  · go_wp2
    go_loopw [3, 4] (RnRel n w) (fun _ y _ => (intOf y + 1).toNat)
    case atStart => exact ⟨0, by omega, rfl, World.ownsRow_nil _ _ _ _, Below.refl _ _⟩
    case round =>
      obtain ⟨k, hk, rfl, hown, hbel⟩ := hrel
      by_cases hlt : k < 8
      · obtain ⟨q, hq⟩ : ∃ q, q = 7 - k := ⟨_, rfl⟩
        have hsz := hbel.size
        have e0 : (0 : Int) ≤ 7 - (k : Int) := by omega
        have e1 : (7 : Int) - (k : Int) = (q : Int) := by omega
        have e2 : (0 : Int) ≤ (q : Int) := by omega
        have i4 : IntKind.i64.wrap (8 * (q : Int)) = 8 * (q : Int) := IntWalk.i64_in _ (by omega)
        have i5 : IntKind.u64.wrap (8 * (q : Int)) = 8 * (q : Int) := IntWalk.u64_in _ (by omega)
        have i6 : (8 * (q : Int)).toNat = 8 * q := by omega
        have i7 : IntKind.i64.wrap ((q : Int) - 1) = (q : Int) - 1 := IntWalk.i64_in _ (by omega)
        have i8 : (8 * (q : Int)) < 64 := by omega
        have b1 := kbyte_run n q
        have Hq := Lib.hid hq
        clear hq
        go_wp2_with (at_builtin; refine wpList_append_own _ rfl _ _ _ rfl w.heap.size 5 i0 _ 1 1 Try.underlying33 hi hz0 hz1 hz2 rfl (by omega) _ k (k8v n k) rfl (hown.alloc _) ⟨wr.heap.size, 0, none⟩ 1 1 [.int .u8 (kbyte n q : Nat)] rfl rfl (World.news_of_block (cs := #[.int .u8 (kbyte n q : Nat)]) (t := 5) (fr := (0, 0)) (heap_alloc_new wr _)) (by simp [Value.oneCell']) (by unfold maxLen; omega) (by omega) (by simp; omega) ?_)
        intro v1 w1 hown1 hgrow _
        go_wp2
        refine ⟨⟨k + 1, by omega, by congr 1; have := Hq.out; omega, ?_, ?_⟩, by simp [intOf]; omega⟩
        · rw [k8v_succ, ← Hq.out]; exact hown1
        · exact (hbel.alloc hbel.size _).grown hgrow (by simp only [World.size_alloc]; have := hbel.size; omega) (fun j hj => own_ge hown j hj)
      · obtain rfl : k = 8 := by omega
        rcases hown.2 with ⟨rfl, h8⟩ | ⟨b, cap, cur, rfl, hb, hh, r⟩
        · cases h8
        · have hcv := run_convert_bytes_arg (P := Try.prog) wr 33 5 Try.underlying33 Try.underlying5 b 0 8 cap (ints (kb8 n)) (by simp [ints, kb8])
            (fun i hi => by rw [Nat.zero_add, hown.cellAt i (by omega), k8v_get n hi, kb8_get n i hi]) 9 Try.underlying9
          go_wp2
          go_ret
          exact ⟨by rw [Hfin.out]; rfl, hbel⟩
theorem strOfNums_app9 (a b : List Int) : strOfNums a ++ strOfNums b = strOfNums (a ++ b) := by
  apply ByteArray.ext
  apply Array.ext'
  rw [ByteArray.data_append, Array.toList_append, strOfNums_data, strOfNums_data, strOfNums_data, List.map_append]
theorem keyPre_succ {t : Nat} {f : Nat → Int} {j : Nat} (h : 0 ≤ f j) : strOfNums (ints (t :: tl f 0 j)) ++ numStr (f j) = strOfNums (ints (t :: tl f 0 (j + 1))) := by
  unfold numStr
  rw [strOfNums_app9, tl_snoc, Nat.zero_add, Int.max_eq_left h]
  simp [ints]
theorem numStr_size9 (x : Int) : (numStr x).size = 8 := by unfold numStr; rw [strOfNums_size]; simp [ints, kb8]
theorem keyPre_size (t : Nat) (f : Nat → Int) (j : Nat) : (strOfNums (ints (t :: tl f 0 j))).size = 8 * j + 1 := by rw [strOfNums_size]; simp [ints, tl_length]
theorem keyStr_no {t : Int} {f : Nat → Int} {n k : Nat} (hk : k < n) (h : f k < 0) : keyStr t f n = ⟨#[]⟩ := by
  unfold keyStr; rw [if_neg (fun hh => absurd (hh.2.2 k hk) (by omega))]
set_option maxRecDepth 100000 in
set_option maxHeartbeats 2000000 in
theorem rkey9_walk (t : Int) (A : Option Addr) (n c : Nat) (f : Nat → Int) (w : World) (hl : Il w A n f) (hn : n ≤ 100) : Calls Try.prog 90 #[.int .i64 t, .slice A n c] w (KeyPost t f n w) := by
  by_cases ht : 1 ≤ t ∧ t ≤ 255
  · obtain ⟨tn, rfl⟩ : ∃ tn : Nat, t = (tn : Int) := ⟨t.toNat, by omega⟩
    have n1 : ¬ ((tn : Int) < 1) := by omega
    have n2 : ¬ ((255 : Int) < tn) := by omega
    have w8 : IntKind.u8.wrap (tn : Int) = (tn : Int) := IntWalk.u8_in _ (by omega)
    have nI : (n : Int) ≤ 100 := by omega
    have t1 : 1 ≤ tn := by omega
    have t2 : tn ≤ 255 := by omega
    have hcv := run_convert_bytes_arg (P := Try.prog) (w.alloc (.cells #[.int .u8 (tn : Nat)] 5)) 33 5 Try.underlying33 Try.underlying5 w.heap.size 0 1 1 [(tn : Int)] rfl
      (fun i hi => by obtain rfl : i = 0 := (by simp at hi; omega); simp) 9 Try.underlying9
    clear ht
    go_enter Try.func90, Try.ntmps90
    go_wp2
    go_loopw [5, 20] (fun s i wr => ∃ k : Nat, k ≤ n ∧ i = .int .i64 (k : Nat) ∧ s = .string (strOfNums (ints (tn :: tl f 0 k))) ∧ (∀ j, j < k → 0 ≤ f j) ∧ Below w.heap.size w wr) (fun _ i _ => n - (intOf i).toNat)
    case atStart => exact ⟨0, by omega, rfl, rfl, fun j h => absurd h (by omega), (Below.refl _ _).alloc (Nat.le_refl _) _⟩
    case round =>
      obtain ⟨k, hk, rfl, rfl, hpos, hbel⟩ := hrel
      have kI : (k : Int) ≤ n := by omega
      have Hpos := Lib.hid hpos
      clear hpos hcv
      by_cases hlt : k < n
      · obtain ⟨g, o, rfl, hg, hc⟩ := hl.at_ (by omega)
        have hm := hl.most k
        have hck : wr.cell? ⟨g, o + k, none⟩ = some (.int .i64 (f k)) := by rw [hbel.cell (p := ⟨g, o + k, none⟩) hg]; exact hc k hlt
        have q3 : (k : Int) < n := by omega
        have q4 : IntKind.i64.wrap ((k : Int) + 1) = (k : Int) + 1 := IntWalk.i64_in _ (by omega)
        clear hc hl
        by_cases hf : f k < 0
        · go_wp2
          refine bodyPost_ret (v := .string ⟨#[]⟩) (by simp [results, Try.results90, go_sem]) rfl ⟨?_, hbel⟩
          rw [keyStr_no hlt hf]
        · have z1 : ¬ 9223372036854775807 < (strOfNums (ints (tn :: tl f 0 k))).size + (numStr (f k)).size := by rw [keyPre_size, numStr_size9]; omega
          have hvs := Lib.hid (keyPre_succ (t := tn) (show 0 ≤ f k by omega))
          go_wp2_with (go_at_call 92; refine (rnum9_walk (f k) _ hm).mono ?_; rintro e w3 ⟨rfl, hb3⟩)
          go_roundw
          case rel =>
            refine ⟨k + 1, by omega, by go_num, by rw [hvs.out], fun j hj => ?_, hbel.trans (hb3.mono hbel.size)⟩
            rcases Nat.lt_or_ge j k with h | h
            · exact Hpos.out j h
            · rw [show j = k by omega]; omega
          case measure => simp [intOf]; omega
      · obtain rfl : k = n := by omega
        have q3 : ¬ (k : Int) < k := by omega
        go_wp2
        go_ret
        exact ⟨by rw [keyStr_yes t1 t2 Hpos.out]; rfl, hbel⟩
  · go_enter Try.func90, Try.ntmps90
    have part : t < 1 ∨ ¬ t < 1 ∧ 255 < t := by omega
    rcases part with h | ⟨h, h2⟩
    all_goals
      go_wp2
      refine bodyPost_ret (v := .string ⟨#[]⟩) (by simp [results, Try.results90, go_sem]) rfl ⟨?_, Below.refl _ _⟩
      unfold keyStr; rw [if_neg (fun h => ht ⟨h.1, h.2.1⟩)]
end Go.Proofs.Ythglnedlbiembaa
