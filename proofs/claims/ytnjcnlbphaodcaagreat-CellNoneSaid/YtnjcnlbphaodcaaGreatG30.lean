/- tallageref09.Num, Key, walked. -/
import Derived.Test.YtnjcnlbphaodcaaGreatG29
namespace Go.Proofs.YtnjcnlbphaodcaaGreat
open Go.RowKit Go.Sort

/-- the bytes of a number, k of them -/
def k8v (n : Nat) (k : Nat) : List Value := (List.range k).map fun i => Value.int .u8 (kbyte n (7 - i) : Nat)
theorem k8v_succ (n k : Nat) : k8v n (k + 1) = k8v n k ++ [.int .u8 (kbyte n (7 - k) : Nat)] := by simp [k8v, List.range_succ]
theorem k8v_get (n : Nat) {k i : Nat} (h : i < k) : (k8v n k)[i]? = some (.int .u8 (kbyte n (7 - i) : Nat)) := by simp [k8v, h]
theorem kb8_get (n i : Nat) (h : i < 8) : (ints (kb8 n)).getD i 0 = ((kbyte n (7 - i) : Nat) : Int) := by
  rcases (by omega : i = 0 ∨ i = 1 ∨ i = 2 ∨ i = 3 ∨ i = 4 ∨ i = 5 ∨ i = 6 ∨ i = 7) with rfl | rfl | rfl | rfl | rfl | rfl | rfl | rfl <;> rfl
def RnRel (n : Nat) (w : World) (x y : Value) (wr : World) : Prop :=
  ∃ k : Nat, k ≤ 8 ∧ y = .int .i64 (7 - (k : Int)) ∧ wr.ownsRow w.heap.size 5 1 x k (k8v n k) ∧ Below w.heap.size w wr
set_option maxRecDepth 100000 in
set_option maxHeartbeats 2000000 in
theorem rnum9_walk (x : Int) (w : World) (hx : x < 2 ^ 63) : Calls Tryz.prog 40 #[.int .i64 x] w fun e w' => e = .returned (.string (numStr x)) ∧ Below w.heap.size w w' := by
  obtain ⟨i0, hi, hz0, hz1, hz2⟩ := info_parts kinfoU8
  obtain ⟨n, hn⟩ : ∃ n : Nat, (n : Int) = max x 0 := ⟨(max x 0).toNat, by omega⟩
  have start : x < 0 ∧ n = 0 ∨ ¬ x < 0 ∧ x = (n : Int) := by omega
  have hn63 : n < 2 ^ 63 := by omega
  have hfin : numStr x = strOfNums (ints (kb8 n)) := by unfold numStr; rw [← hn, Int.toNat_natCast]
  have Hfin := Lib.hid hfin
  have uw : IntKind.u64.wrap (n : Int) = (n : Int) := IntWalk.u64_in _ (by omega)
  clear hn hfin hx
  go_enter Tryz.func40, Tryz.ntmps40
  rcases start with ⟨h0, hz⟩ | ⟨h0, rfl⟩
  · have hk0 : ∀ j, kbyte n j = 0 := fun j => by rw [hz]; unfold kbyte; rw [Nat.zero_div, Nat.zero_mod]
    have Hk0 := Lib.hid hk0
    clear hz hk0
    go_wp2
    go_loopw [3, 4] (RnRel n w) (fun _ y _ => (intOf y + 1).toNat)
    case atStart => exact ⟨0, by omega, rfl, World.ownsRow_nil _ _ _ _, Below.refl _ _⟩
    case round =>
      obtain ⟨k, hk, rfl, hown, hbel⟩ := hrel
      by_cases hlt : k < 8
      · obtain ⟨q, hq⟩ : ∃ q, q = 7 - k := ⟨_, rfl⟩
        have hsz := hbel.size
        have e0 : (0 : Int) ≤ 7 - (k : Int) := by omega
        have e1 : (7 : Int) - (k : Int) = (q : Int) := by omega
        have e2 : (0 : Int) ≤ (q : Int) := by omega
        have i4 : IntKind.i64.wrap (8 * (q : Int)) = 8 * (q : Int) := IntWalk.i64_in _ (by omega)
        have i5 : IntKind.u64.wrap (8 * (q : Int)) = 8 * (q : Int) := IntWalk.u64_in _ (by omega)
        have i6 : (8 * (q : Int)).toNat = 8 * q := by omega
        have i7 : IntKind.i64.wrap ((q : Int) - 1) = (q : Int) - 1 := IntWalk.i64_in _ (by omega)
        have i8 : (8 * (q : Int)) < 64 := by omega
        have Hq := Lib.hid hq
        clear hq
        go_wp2_with (at_builtin; refine wpList_append_own _ rfl _ _ _ rfl w.heap.size 5 i0 _ 1 1 Tryz.underlying82 hi hz0 hz1 hz2 rfl (by omega) _ k (k8v n k) rfl (hown.alloc _) ⟨wr.heap.size, 0, none⟩ 1 1 [.int .u8 0] rfl rfl (World.news_of_block (cs := #[.int .u8 0]) (t := 5) (fr := (0, 0)) (heap_alloc_new wr _)) (by simp [Value.oneCell']) (by unfold maxLen; omega) (by omega) (by simp; omega) ?_)
        intro v1 w1 hown1 hgrow _
        go_wp2
        refine ⟨⟨k + 1, by omega, by congr 1; have := Hq.out; omega, ?_, ?_⟩, by simp [intOf]; omega⟩
        · rw [k8v_succ, ← Hq.out, Hk0.out]; exact hown1
        · exact (hbel.alloc hbel.size _).grown hgrow (by simp only [World.size_alloc]; have := hbel.size; omega) (fun j hj => own_ge hown j hj)
      · obtain rfl : k = 8 := by omega
        rcases hown.2 with ⟨rfl, h8⟩ | ⟨b, cap, cur, rfl, hb, hh, r⟩
        · cases h8
        · have hcv := run_convert_bytes_arg (P := Tryz.prog) wr 82 5 Tryz.underlying82 Tryz.underlying5 b 0 8 cap (ints (kb8 n)) (by simp [ints, kb8])
            (fun i hi => by rw [Nat.zero_add, hown.cellAt i (by omega), k8v_get n hi, kb8_get n i hi]) 9 Tryz.underlying9
          go_wp2
          go_ret
          exact ⟨by rw [Hfin.out]; rfl, hbel⟩
  · go_wp2
    go_loopw [3, 4] (RnRel n w) (fun _ y _ => (intOf y + 1).toNat)
    case atStart => exact ⟨0, by omega, rfl, World.ownsRow_nil _ _ _ _, Below.refl _ _⟩
    case round =>
      obtain ⟨k, hk, rfl, hown, hbel⟩ := hrel
      by_cases hlt : k < 8
      · obtain ⟨q, hq⟩ : ∃ q, q = 7 - k := ⟨_, rfl⟩
        have hsz := hbel.size
        have e0 : (0 : Int) ≤ 7 - (k : Int) := by omega
        have e1 : (7 : Int) - (k : Int) = (q : Int) := by omega
        have e2 : (0 : Int) ≤ (q : Int) := by omega
        have i4 : IntKind.i64.wrap (8 * (q : Int)) = 8 * (q : Int) := IntWalk.i64_in _ (by omega)
        have i5 : IntKind.u64.wrap (8 * (q : Int)) = 8 * (q : Int) := IntWalk.u64_in _ (by omega)
        have i6 : (8 * (q : Int)).toNat = 8 * q := by omega
        have i7 : IntKind.i64.wrap ((q : Int) - 1) = (q : Int) - 1 := IntWalk.i64_in _ (by omega)
        have i8 : (8 * (q : Int)) < 64 := by omega
        have b1 := kbyte_run n q
        have Hq := Lib.hid hq
        clear hq
        go_wp2_with (at_builtin; refine wpList_append_own _ rfl _ _ _ rfl w.heap.size 5 i0 _ 1 1 Tryz.underlying82 hi hz0 hz1 hz2 rfl (by omega) _ k (k8v n k) rfl (hown.alloc _) ⟨wr.heap.size, 0, none⟩ 1 1 [.int .u8 (kbyte n q : Nat)] rfl rfl (World.news_of_block (cs := #[.int .u8 (kbyte n q : Nat)]) (t := 5) (fr := (0, 0)) (heap_alloc_new wr _)) (by simp [Value.oneCell']) (by unfold maxLen; omega) (by omega) (by simp; omega) ?_)
        intro v1 w1 hown1 hgrow _
        go_wp2
        refine ⟨⟨k + 1, by omega, by congr 1; have := Hq.out; omega, ?_, ?_⟩, by simp [intOf]; omega⟩
        · rw [k8v_succ, ← Hq.out]; exact hown1
        · exact (hbel.alloc hbel.size _).grown hgrow (by simp only [World.size_alloc]; have := hbel.size; omega) (fun j hj => own_ge hown j hj)
      · obtain rfl : k = 8 := by omega
        rcases hown.2 with ⟨rfl, h8⟩ | ⟨b, cap, cur, rfl, hb, hh, r⟩
        · cases h8
        · have hcv := run_convert_bytes_arg (P := Tryz.prog) wr 82 5 Tryz.underlying82 Tryz.underlying5 b 0 8 cap (ints (kb8 n)) (by simp [ints, kb8])
            (fun i hi => by rw [Nat.zero_add, hown.cellAt i (by omega), k8v_get n hi, kb8_get n i hi]) 9 Tryz.underlying9
          go_wp2
          go_ret
          exact ⟨by rw [Hfin.out]; rfl, hbel⟩
theorem strOfNums_app9 (a b : List Int) : strOfNums a ++ strOfNums b = strOfNums (a ++ b) := by
  apply ByteArray.ext
  apply Array.ext'
  rw [ByteArray.data_append, Array.toList_append, strOfNums_data, strOfNums_data, strOfNums_data, List.map_append]
theorem keyPre_succ {t : Nat} {f : Nat → Int} {j : Nat} (h : 0 ≤ f j) : strOfNums (ints (t :: tl f 0 j)) ++ numStr (f j) = strOfNums (ints (t :: tl f 0 (j + 1))) := by
  unfold numStr
  rw [strOfNums_app9, tl_snoc, Nat.zero_add, Int.max_eq_left h]
  simp [ints]
theorem numStr_size9 (x : Int) : (numStr x).size = 8 := by unfold numStr; rw [strOfNums_size]; simp [ints, kb8]
theorem keyPre_size (t : Nat) (f : Nat → Int) (j : Nat) : (strOfNums (ints (t :: tl f 0 j))).size = 8 * j + 1 := by rw [strOfNums_size]; simp [ints, tl_length]
theorem keyStr_no {t : Int} {f : Nat → Int} {n k : Nat} (hk : k < n) (h : f k < 0) : keyStr t f n = ⟨#[]⟩ := by
  unfold keyStr; rw [if_neg (fun hh => absurd (hh.2.2 k hk) (by omega))]
set_option maxRecDepth 100000 in
set_option maxHeartbeats 2000000 in
theorem rkey9_walk (t : Int) (A : Option Addr) (n c : Nat) (f : Nat → Int) (w : World) (hl : Il w A n f) (hn : n ≤ 100) : Calls Tryz.prog 41 #[.int .i64 t, .slice A n c] w (KeyPost t f n w) := by
  by_cases ht : 1 ≤ t ∧ t ≤ 255
  · obtain ⟨tn, rfl⟩ : ∃ tn : Nat, t = (tn : Int) := ⟨t.toNat, by omega⟩
    have n1 : ¬ ((tn : Int) < 1) := by omega
    have n2 : ¬ ((255 : Int) < tn) := by omega
    have w8 : IntKind.u8.wrap (tn : Int) = (tn : Int) := IntWalk.u8_in _ (by omega)
    have nI : (n : Int) ≤ 100 := by omega
    have t1 : 1 ≤ tn := by omega
    have t2 : tn ≤ 255 := by omega
    have hcv := run_convert_bytes_arg (P := Tryz.prog) (w.alloc (.cells #[.int .u8 (tn : Nat)] 5)) 82 5 Tryz.underlying82 Tryz.underlying5 w.heap.size 0 1 1 [(tn : Int)] rfl
      (fun i hi => by obtain rfl : i = 0 := (by simp at hi; omega); simp) 9 Tryz.underlying9
    clear ht
    go_enter Tryz.func41, Tryz.ntmps41
    go_wp2
    go_loopw [5, 20] (fun s i wr => ∃ k : Nat, k ≤ n ∧ i = .int .i64 (k : Nat) ∧ s = .string (strOfNums (ints (tn :: tl f 0 k))) ∧ (∀ j, j < k → 0 ≤ f j) ∧ Below w.heap.size w wr) (fun _ i _ => n - (intOf i).toNat)
    case atStart => exact ⟨0, by omega, rfl, rfl, fun j h => absurd h (by omega), (Below.refl _ _).alloc (Nat.le_refl _) _⟩
    case round =>
      obtain ⟨k, hk, rfl, rfl, hpos, hbel⟩ := hrel
      have kI : (k : Int) ≤ n := by omega
      have Hpos := Lib.hid hpos
      clear hpos hcv
      by_cases hlt : k < n
      · obtain ⟨g, o, rfl, hg, hc⟩ := hl.at_ (by omega)
        have hm := hl.most k
        have hck : wr.cell? ⟨g, o + k, none⟩ = some (.int .i64 (f k)) := by rw [hbel.cell (p := ⟨g, o + k, none⟩) hg]; exact hc k hlt
        have q3 : (k : Int) < n := by omega
        have q4 : IntKind.i64.wrap ((k : Int) + 1) = (k : Int) + 1 := IntWalk.i64_in _ (by omega)
        clear hc hl
        by_cases hf : f k < 0
        · go_wp2
          refine bodyPost_ret (v := .string ⟨#[]⟩) (by simp [results, Tryz.results41, go_sem]) rfl ⟨?_, hbel⟩
          rw [keyStr_no hlt hf]
        · have z1 : ¬ 9223372036854775807 < (strOfNums (ints (tn :: tl f 0 k))).size + (numStr (f k)).size := by rw [keyPre_size, numStr_size9]; omega
          have hvs := Lib.hid (keyPre_succ (t := tn) (show 0 ≤ f k by omega))
          go_wp2_with (go_at_call 40; refine (rnum9_walk (f k) _ hm).mono ?_; rintro e w3 ⟨rfl, hb3⟩)
          go_roundw
          case rel =>
            refine ⟨k + 1, by omega, by go_num, by rw [hvs.out], fun j hj => ?_, hbel.trans (hb3.mono hbel.size)⟩
            rcases Nat.lt_or_ge j k with h | h
            · exact Hpos.out j h
            · rw [show j = k by omega]; omega
          case measure => simp [intOf]; omega
      · obtain rfl : k = n := by omega
        have q3 : ¬ (k : Int) < k := by omega
        go_wp2
        go_ret
        exact ⟨by rw [keyStr_yes t1 t2 Hpos.out]; rfl, hbel⟩
  · go_enter Tryz.func41, Tryz.ntmps41
    have part : t < 1 ∨ ¬ t < 1 ∧ 255 < t := by omega
    rcases part with h | ⟨h, h2⟩
    all_goals
      go_wp2
      refine bodyPost_ret (v := .string ⟨#[]⟩) (by simp [results, Tryz.results41, go_sem]) rfl ⟨?_, Below.refl _ _⟩
      unfold keyStr; rw [if_neg (fun h => ht ⟨h.1, h.2.1⟩)]
end Go.Proofs.YtnjcnlbphaodcaaGreat

namespace Go.Proofs.YtnjcnlbphaodcaaGreat
open Go.RowKit Go.Sort

def okN (v : ByteArray) : Prop := v.size % 8 = 0 ∧ ∀ i, i < v.size / 8 → chunk v i < 2 ^ 63
def chv (v : ByteArray) (i : Nat) : Int := if i < v.size / 8 ∧ chunk v i < 2 ^ 63 then (chunk v i : Int) else 0
theorem chv_lt (v : ByteArray) (i : Nat) : chv v i < 2 ^ 63 := by
  unfold chv
  split
  · omega
  · decide
theorem chv_ok {v : ByteArray} (h : okN v) {i : Nat} (hi : i < v.size / 8) : ((chunk v i : Nat) : Int) = chv v i := by
  unfold chv; rw [if_pos ⟨hi, h.2 i hi⟩]
def NumsAny (v : ByteArray) (w : World) (e : Ending) (w' : World) : Prop :=
  ((okN v ∧ ∃ A c, e = .returned (.tuple #[.slice A (v.size / 8) c, .bool true]) ∧ Il w' A (v.size / 8) (chv v)) ∨ (¬ okN v ∧ e = .returned (.tuple #[.slice none 0 0, .bool false]))) ∧ Below w.heap.size w w'
set_option maxRecDepth 100000 in
set_option maxHeartbeats 1000000 in
theorem numsAny_walk (v : ByteArray) (w : World) (hv : v.size ≤ 800) : Calls Tryz.prog 51 #[.string v] w (NumsAny v w) := by
  by_cases h8 : v.size % 8 = 0
  · refine (nums_walk v (v.size / 8) w (by omega) (by omega)).mono fun e w' ⟨h, hw⟩ => ⟨?_, hw⟩
    rcases h with ⟨h1, he, ho⟩ | ⟨⟨i, hi, hno⟩, he⟩
    · have ok : okN v := ⟨h8, h1⟩
      obtain ⟨A, c, e1, il⟩ := ownN_Il (f := chv v) (chv_lt v) (fun i hi => chv_ok ok hi) ho
      exact .inl ⟨ok, A, c, by rw [he, e1], il⟩
    · exact .inr ⟨fun h => hno (h.2 i hi), he⟩
  · have hno : ¬ okN v := fun h => h8 h.1
    have q1 : ((v.size : Int) % 8 != 0) = true := by rw [bne_iff_ne]; omega
    have q2 : ((v.size : Int).tmod 8 != 0) = true := by rw [Int.tmod_eq_emod_of_nonneg (by omega)]; exact q1
    clear h8
    go_enter Tryz.func51, Tryz.ntmps51
    go_wp2
    refine bodyPost_ret (v := .tuple #[.slice none 0 0, .bool false]) (by simp [results, Tryz.results51, go_sem]) rfl ⟨.inr ⟨hno, rfl⟩, Below.refl _ _⟩
theorem drop_getD (v : ByteArray) (j k : Nat) (h : 8 * j + k < v.size) : ((v.data.toList.drop (8 * j)).getD k 0) = v[8 * j + k] := by
  have hl : v.data.toList.length = v.size := rfl
  simp only [List.getD, List.getElem?_drop]
  rw [List.getElem?_eq_getElem (by omega), Option.getD_some]
  rfl
theorem numl_lt (l : List UInt8) : ∀ k, numl l k < 2 ^ (8 * k)
  | 0 => by simp [numl]
  | k + 1 => by
    have h := numl_lt l k
    have h2 := (l.getD k 0).toNat_lt
    rw [numl, show 8 * (k + 1) = 8 * k + 8 by omega, Nat.pow_add]
    omega
def RnsRel (v : ByteArray) (w : World) (x y : Value) (wr : World) : Prop :=
  ∃ j p : Nat, p = 8 * j ∧ j ≤ v.size / 8 ∧ y = .int .i64 (p : Nat) ∧ (∀ i, i < j → chunk v i < 2 ^ 63) ∧ wr.ownsRow w.heap.size 3 1 x j (i64n (chunk v) j) ∧ Below w.heap.size w wr
set_option maxRecDepth 100000 in
set_option maxHeartbeats 2000000 in
theorem rnums_walk (v : ByteArray) (w : World) (hv : v.size ≤ 800) : Calls Tryz.prog 87 #[.string v] w (NumsAny v w) := by
  obtain ⟨i0, hi, hz0, hz1, hz2⟩ := info_parts infoI64
  by_cases h8 : v.size % 8 = 0
  · have q1 : ((v.size : Int) % 8 != 0) = false := by rw [bne_eq_false_iff_eq]; omega
    have q2 : ((v.size : Int).tmod 8 != 0) = false := by rw [Int.tmod_eq_emod_of_nonneg (by omega)]; exact q1
    have vI : (v.size : Int) ≤ 800 := by omega
    have H8 := Lib.hid h8
    clear h8
    go_enter Tryz.func87, Tryz.ntmps87
    go_wp2
    go_loopw [4, 5] (RnsRel v w) (fun _ y _ => v.size - (intOf y).toNat)
    case atStart => exact ⟨0, 0, rfl, by omega, rfl, fun i h => absurd h (by omega), World.ownsRow_nil _ _ _ _, Below.refl _ _⟩
    case round =>
      obtain ⟨j, p, hp, hj, rfl, hpos, hown, hbel⟩ := hrel
      have Hp := Lib.hid hp
      have Hpos := Lib.hid hpos
      have hsz := hbel.size
      by_cases hlt : j < v.size / 8
      · have q3 : (p : Int) < v.size := by have := H8.out; omega
        have Hlt := Lib.hid hlt
        have p8 := Lib.hid (show p + 8 ≤ v.size by have := H8.out; omega)
        have q4 : IntKind.i64.wrap ((p : Int) + 8) = (p : Int) + 8 := IntWalk.i64_in _ (by omega)
        clear hp hpos hlt hj
        go_wp2
        go_loopw [6, 7] (fun x y wq => ∃ k : Nat, k ≤ 8 ∧ y = .int .i64 (k : Nat) ∧ x = .int .u64 (numl (v.data.toList.drop (8 * j)) k : Nat) ∧ wq = wr) (fun _ y _ => 8 - (intOf y).toNat)
        case atStart => exact ⟨0, by omega, rfl, rfl, rfl⟩
        case round =>
          obtain ⟨k, hk, rfl, rfl, rfl⟩ := hrel
          obtain ⟨n, hn⟩ : ∃ n, n = numl (v.data.toList.drop (8 * j)) k := ⟨_, rfl⟩
          rw [← hn]
          have Hn := Lib.hid hn
          clear hn
          by_cases hlt : k < 8
          · have r1 : (p : Int) + (k : Int) < v.size := by have := p8.out; omega
            have r2 : IntKind.i64.wrap ((p : Int) + (k : Int)) = (p : Int) + (k : Int) := IntWalk.i64_in _ (by omega)
            have r3 : (0 : Int) ≤ (p : Int) + (k : Int) := by omega
            have r4 : ((p : Int) + (k : Int)).toNat = p + k := by omega
            go_wp2
            go_roundw
            case rel =>
              have h1 : n < 2 ^ 56 := by
                rw [Hn.out]
                exact Nat.lt_of_lt_of_le (numl_lt _ k) (Nat.pow_le_pow_right (by decide) (by omega))
              refine ⟨k + 1, by omega, by go_num, ?_, trivial⟩
              rw [or_byte h1 (UInt8.toNat_lt _), numl, ← Hn.out]
              congr 4
              have e := drop_getD v j k (by have := Hp.out; have := p8.out; omega)
              rw [e]
              congr 1
              have := Hp.out
              congr 1
            case measure => simp [intOf]; omega
          · obtain rfl : k = 8 := by omega
            have r1 : ¬ ((8 : Nat) : Int) < 8 := by omega
            have hch : n = chunk v j := Hn.out
            have Hch := Lib.hid hch
            by_cases hbig : n < 2 ^ 63
            · have r5 : ¬ (9223372036854775807 : Int) < (n : Int) := by omega
              have r6 : IntKind.i64.wrap (n : Int) = (n : Int) := IntWalk.i64_in _ (by omega)
              have Hbig := Lib.hid hbig
              clear hch hbig
              have jI : j ≤ 100 := by have := Hlt.out; omega
              go_wp2_with (at_builtin; refine wpList_append_own _ rfl _ _ _ rfl w.heap.size 3 i0 _ 1 8 Tryz.underlying25 hi hz0 hz1 hz2 rfl (by omega) _ j (i64n (chunk v) j) rfl (hown.alloc _) ⟨wr.heap.size, 0, none⟩ 1 1 [.int .i64 (n : Nat)] rfl rfl (World.news_of_block (cs := #[.int .i64 (n : Nat)]) (t := 3) (fr := (0, 0)) (heap_alloc_new wr _)) (by simp [Value.oneCell']) (by unfold maxLen; omega) (by omega) (by simp; omega) ?_)
              intro v1 w1 hown1 hgrow _
              go_wp2
              refine ⟨⟨j + 1, p + 8, by have := Hp.out; omega, by have := Hlt.out; omega, by go_num, fun i hi' => ?_, ?_, ?_⟩, by have := p8.out; simp [intOf]; omega⟩
              · rcases Nat.lt_or_ge i j with h | h
                · exact Hpos.out i h
                · rw [show i = j by omega, ← Hch.out]; exact Hbig.out
              · rw [i64n_succ, ← Hch.out]; exact hown1
              · exact (hbel.alloc hbel.size _).grown hgrow (by simp only [World.size_alloc]; omega) (fun q hq => own_ge hown q hq)
            · have r5 : (9223372036854775807 : Int) < (n : Int) := by omega
              have Hbig := Lib.hid hbig
              clear hch hbig
              go_wp2
              refine bodyPost_ret (v := .tuple #[.slice none 0 0, .bool false]) (by simp [results, Tryz.results87, go_sem]) rfl ⟨.inr ⟨fun h => Hbig.out (by rw [Hch.out]; exact h.2 j Hlt.out), rfl⟩, hbel⟩
      · have hj2 : j = v.size / 8 := by omega
        have q3 : ¬ (p : Int) < v.size := by have := H8.out; omega
        have ok : okN v := ⟨H8.out, by rw [← hj2]; exact Hpos.out⟩
        obtain ⟨A, c, rfl, il⟩ := ownN_Il (f := chv v) (chv_lt v) (fun i hi => chv_ok ok (by omega)) hown
        have Hj2 := Lib.hid hj2
        clear hj2 hp hpos hj
        go_wp2
        refine bodyPost_ret (v := .tuple #[.slice A j c, .bool true]) (by simp [results, Tryz.results87, go_sem]) rfl ⟨.inl ⟨ok, A, c, by rw [← Hj2.out], by rw [← Hj2.out]; exact il⟩, hbel⟩
  · have hno : ¬ okN v := fun h => h8 h.1
    have q1 : ((v.size : Int) % 8 != 0) = true := by rw [bne_iff_ne]; omega
    have q2 : ((v.size : Int).tmod 8 != 0) = true := by rw [Int.tmod_eq_emod_of_nonneg (by omega)]; exact q1
    clear h8
    go_enter Tryz.func87, Tryz.ntmps87
    go_wp2
    refine bodyPost_ret (v := .tuple #[.slice none 0 0, .bool false]) (by simp [results, Tryz.results87, go_sem]) rfl ⟨.inr ⟨hno, rfl⟩, Below.refl _ _⟩
end Go.Proofs.YtnjcnlbphaodcaaGreat

namespace Go.Proofs.YtnjcnlbphaodcaaGreat
open Go.RowKit Go.Sort

theorem one32 (w : World) (x : Int) (t : TypeId) : ∀ j u, ([.int .u32 x] : List Value)[j]? = some u → (w.alloc (.cells #[.int .u32 x] t)).cell? ((⟨w.heap.size, 0, none⟩ : Addr).add j) = some u := by
  intro j u h
  match j, h with
  | 0, h => simp at h; subst h; simp [Addr.add]
theorem one32' (x : Int) : ∀ u ∈ ([.int .u32 x] : List Value), u.oneCell' = true := fun u hu => by simp at hu; subst hu; rfl
theorem Ws.open_ {w : World} {v : Value} {n : Nat} {f : Nat → Nat} (h : Ws w v n f) : ∃ A c, v = .slice A n c ∧ (0 < n → ∃ g o, A = some ⟨g, o, none⟩ ∧ g < w.heap.size ∧ ∀ i, i < n → w.cell? ⟨g, o + i, none⟩ = some (.int .u32 (f i : Nat))) := by
  rcases h.at_ with ⟨rfl, rfl⟩ | ⟨g, o, c, rfl, hc, hg, hx⟩
  · exact ⟨none, 0, rfl, fun h => absurd h (by omega)⟩
  · exact ⟨_, c, rfl, fun _ => ⟨g, o, rfl, hg, hx⟩⟩
/-- a word, or nought behind the end -/
def padw (f : Nat → Nat) (n : Nat) : Nat → Nat := fun i => if i < n then f i else 0
theorem padw_lt {f : Nat → Nat} (hf : ∀ i, f i < 2 ^ 32) (n : Nat) : ∀ i, padw f n i < 2 ^ 32 := fun i => by unfold padw; split; exact hf i; decide
theorem nval_pad (f : Nat → Nat) {n k : Nat} (h : n ≤ k) : nval (padw f n) k = nval f n := by
  rw [nval_top (f := padw f n) h (fun i h1 _ => by unfold padw; rw [if_neg (by omega)])]
  exact nval_congr n fun i hi => by unfold padw; rw [if_pos hi]
theorem nval_upd (h : Nat → Nat) (k v : Nat) : nval (upd h k v) (k + 1) = nval h k + v * 2 ^ (32 * k) := by
  simp only [nval]; rw [upd_same]; congr 1; exact nval_congr k fun i hi => upd_ne h (by omega)
theorem u32s_upd (h : Nat → Nat) (k v : Nat) : u32s (upd h k v) (k + 1) = u32s h k ++ [.int .u32 (v : Nat)] := by
  rw [u32s_succ, upd_same]; congr 1; exact u32s_congr fun i hi => upd_ne h (by omega)

def PlusRel (n m : Nat) (f g : Nat → Nat) (w : World) (x y z : Value) (wr : World) : Prop :=
  ∃ (k c : Nat) (h : Nat → Nat), z = .int .i64 (k : Nat) ∧ y = .int .u64 (c : Nat) ∧ c ≤ 1 ∧ k ≤ max n m + 1 ∧ (k = max n m + 1 → c = 0) ∧ (∀ i, h i < 2 ^ 32) ∧
    nval h k + c * 2 ^ (32 * k) = nval (padw f n) k + nval (padw g m) k ∧ wr.ownsRow w.heap.size 126 1 x k (u32s h k) ∧ Below w.heap.size w wr
theorem plus_next {n m k c lo hi X : Nat} {f g h : Nat → Nat} {w wr : World} {x : Value} (hf : ∀ i, f i < 2 ^ 32) (hg : ∀ i, g i < 2 ^ 32) (hc : c ≤ 1) (hk : k ≤ max n m) (hlast : k = max n m → padw f n k = 0 ∧ padw g m k = 0)
    (hh : ∀ i, h i < 2 ^ 32) (hv : nval h k + c * 2 ^ (32 * k) = nval (padw f n) k + nval (padw g m) k) (hX : X = c + padw f n k + padw g m k) (hlo : lo = X % 4294967296) (hhi : hi = X / 4294967296)
    (hown : wr.ownsRow w.heap.size 126 1 x (k + 1) (u32s h k ++ [.int .u32 (lo : Nat)])) (hbel : Below w.heap.size w wr) : PlusRel n m f g w x (.int .u64 (hi : Nat)) (.int .i64 ((k + 1 : Nat) : Int)) wr := by
  have h1 := padw_lt hf n k
  have h2 := padw_lt hg m k
  refine ⟨k + 1, hi, upd h k lo, rfl, rfl, by omega, by omega, fun e => ?_, upd_lt hh (by omega), ?_, ?_, hbel⟩
  · have := hlast (by omega)
    omega
  · rw [nval_upd, pow_succ32]
    simp only [nval]
    have e : lo + hi * 2 ^ 32 = c + padw f n k + padw g m k := by omega
    have e2 := congrArg (· * 2 ^ (32 * k)) e
    simp only [Nat.add_mul, Nat.mul_assoc] at e2
    omega
  · rw [u32s_upd]; exact hown

set_option maxRecDepth 100000 in
set_option maxHeartbeats 4000000 in
theorem plus_walk (va vb : Value) (n m : Nat) (f g : Nat → Nat) (w : World) (ha : Ws w va n f) (hb : Ws w vb m g) (hn : n ≤ 50) (hm : m ≤ 50) :
    Calls Tryz.prog 66 #[va, vb] w (NatPost (nval f n + nval g m) (max n m + 1) w) := by
  obtain ⟨i0, hi, hz0, hz1, hz2⟩ := info_parts infoU32
  obtain ⟨A, ca, rfl, oa⟩ := ha.open_
  obtain ⟨B, cb, rfl, ob⟩ := hb.open_
  have Hf := Lib.hid ha.small
  have Hg := Lib.hid hb.small
  have Oa := Lib.hid oa
  have Ob := Lib.hid ob
  clear ha hb oa ob
  go_enter Tryz.func66, Tryz.ntmps66
  go_wp2
  go_loopw [5, 6, 7] (PlusRel n m f g w) (fun _ y z _ => 2 * (51 - (intOf z).toNat) + (intOf y).toNat)
  case atStart =>
    exact ⟨0, 0, fun _ => 0, rfl, rfl, by omega, by omega, fun _ => rfl, by simp, by simp [nval], World.ownsRow_nil _ _ _ _, Below.refl _ _⟩
  case round =>
    obtain ⟨k, c, h, rfl, rfl, hc, hkm, hlast, hh, hv, hown, hbel⟩ := hrel
    have Hh := Lib.hid hh
    have Hv := Lib.hid hv
    have Hlast := Lib.hid hlast
    have hsz := hbel.size
    clear hh hv hlast
    obtain ⟨X, hX⟩ : ∃ X, X = c + padw f n k + padw g m k := ⟨_, rfl⟩
    obtain ⟨lo, hlo⟩ : ∃ X', X' = X % 4294967296 := ⟨_, rfl⟩
    obtain ⟨hi', hhi⟩ : ∃ X', X' = X / 4294967296 := ⟨_, rfl⟩
    have hXl : X < 2 ^ 33 := by have := padw_lt Hf.out n k; have := padw_lt Hg.out m k; omega
    have s3 : IntKind.u32.wrap (X : Int) = (lo : Int) := by rw [IntKind.wrap_u32]; omega
    have s4 : (X : Int) / 4294967296 = (hi' : Int) := by omega
    have HX := Lib.hid hX
    have Hlo := Lib.hid hlo
    have Hhi := Lib.hid hhi
    have HXl := Lib.hid hXl
    have Hms := Lib.hid (show (2 * (51 - (k + 1)) + hi' < 2 * (51 - k) + c ∨ 51 ≤ k) by omega) 
    clear hX hlo hhi hXl
    by_cases h1 : k < n
    · have q1 : (k : Int) < (n : Int) := by omega
      obtain ⟨ga, ofa, rfl, hga, hxa⟩ := Oa.out (by omega)
      have ca1 : wr.cell? ⟨ga, ofa + k, none⟩ = some (.int .u32 (f k : Nat)) := by rw [hbel.cell (p := ⟨ga, ofa + k, none⟩) hga]; exact hxa k h1
      have pa : padw f n k = f k := by unfold padw; rw [if_pos h1]
      have fk := Hf.out k
      have s0 : IntKind.u64.wrap ((f k : Nat) : Int) = ((f k : Nat) : Int) := wrap_u64 (by omega)
      obtain ⟨x1, hx1⟩ : ∃ x, x = c + f k := ⟨_, rfl⟩
      have s1 : IntKind.u64.wrap ((c : Int) + (f k : Nat)) = (x1 : Int) := by rw [← Int.natCast_add, ← hx1, wrap_u64 (by omega)]
      have Hx1 := Lib.hid hx1
      have Hpa := Lib.hid pa
      clear hxa hx1 pa fk
      by_cases h2 : k < m
      · have q2 : (k : Int) < (m : Int) := by omega
        obtain ⟨gb, ofb, rfl, hgb, hxb⟩ := Ob.out (by omega)
        have cb1 : wr.cell? ⟨gb, ofb + k, none⟩ = some (.int .u32 (g k : Nat)) := by rw [hbel.cell (p := ⟨gb, ofb + k, none⟩) hgb]; exact hxb k h2
        have s0' : IntKind.u64.wrap ((g k : Nat) : Int) = ((g k : Nat) : Int) := wrap_u64 (by have := Hg.out k; omega)
        have pb : X = x1 + g k := by rw [HX.out, Hpa.out, Hx1.out]; unfold padw; rw [if_pos h2]
        have s2 : IntKind.u64.wrap ((x1 : Int) + (g k : Nat)) = (X : Int) := by rw [← Int.natCast_add, ← pb, wrap_u64 (by have := HXl.out; omega)]
        clear hxb pb
        go_wp2_with (at_builtin; refine wpList_append_own _ rfl (.tmp 48) (.tmp 51) _ rfl w.heap.size 126 i0 (.int .u32 0) 1 4 Tryz.underlying106 hi hz0 hz1 hz2 rfl (by omega) _ k (u32s h k) rfl (hown.alloc _) ⟨wr.heap.size, 0, none⟩ 1 1 [.int .u32 (lo : Nat)] rfl rfl (one32 _ _ _) (one32' _) (by unfold maxLen; omega) (by omega) (by simp only [World.size_alloc]; omega) ?_; intro v3 w3 hown3 hg3 _)
        go_roundw
        case rel =>
          exact plus_next Hf.out Hg.out hc (by omega) (fun e => by omega) Hh.out Hv.out HX.out Hlo.out Hhi.out hown3 ((hbel.alloc hsz _).grown hg3 (by simp only [World.size_alloc]; omega) (own_ge hown))
        case measure => have hms := Hms.out; simp [intOf]; omega
      · have q2 : ¬ (k : Int) < (m : Int) := by omega
        have pb : X = x1 := by rw [HX.out, Hpa.out, Hx1.out]; unfold padw; rw [if_neg h2]; rfl
        have Hpb := Lib.hid pb
        rw [pb] at s3 s4
        clear pb
        go_wp2_with (at_builtin; refine wpList_append_own _ rfl (.tmp 48) (.tmp 51) _ rfl w.heap.size 126 i0 (.int .u32 0) 1 4 Tryz.underlying106 hi hz0 hz1 hz2 rfl (by omega) _ k (u32s h k) rfl (hown.alloc _) ⟨wr.heap.size, 0, none⟩ 1 1 [.int .u32 (lo : Nat)] rfl rfl (one32 _ _ _) (one32' _) (by unfold maxLen; omega) (by omega) (by simp only [World.size_alloc]; omega) ?_; intro v3 w3 hown3 hg3 _)
        go_roundw
        case rel =>
          exact plus_next Hf.out Hg.out hc (by omega) (fun e => by omega) Hh.out Hv.out HX.out Hlo.out Hhi.out hown3 ((hbel.alloc hsz _).grown hg3 (by simp only [World.size_alloc]; omega) (own_ge hown))
        case measure => have hms := Hms.out; simp [intOf]; omega
    · have q1 : ¬ (k : Int) < (n : Int) := by omega
      have pa : padw f n k = 0 := by unfold padw; rw [if_neg h1]
      by_cases h2 : k < m
      · have q2 : (k : Int) < (m : Int) := by omega
        obtain ⟨gb, ofb, rfl, hgb, hxb⟩ := Ob.out (by omega)
        have cb1 : wr.cell? ⟨gb, ofb + k, none⟩ = some (.int .u32 (g k : Nat)) := by rw [hbel.cell (p := ⟨gb, ofb + k, none⟩) hgb]; exact hxb k h2
        have s0' : IntKind.u64.wrap ((g k : Nat) : Int) = ((g k : Nat) : Int) := wrap_u64 (by have := Hg.out k; omega)
        have pb : X = c + g k := by rw [HX.out, pa]; unfold padw; rw [if_pos h2]; omega
        have s2 : IntKind.u64.wrap ((c : Int) + (g k : Nat)) = (X : Int) := by rw [← Int.natCast_add, ← pb, wrap_u64 (by have := HXl.out; omega)]
        clear hxb pb
        have Hpa := Lib.hid pa
        clear pa
        go_wp2_with (at_builtin; refine wpList_append_own _ rfl (.tmp 48) (.tmp 51) _ rfl w.heap.size 126 i0 (.int .u32 0) 1 4 Tryz.underlying106 hi hz0 hz1 hz2 rfl (by omega) _ k (u32s h k) rfl (hown.alloc _) ⟨wr.heap.size, 0, none⟩ 1 1 [.int .u32 (lo : Nat)] rfl rfl (one32 _ _ _) (one32' _) (by unfold maxLen; omega) (by omega) (by simp only [World.size_alloc]; omega) ?_; intro v3 w3 hown3 hg3 _)
        go_roundw
        case rel =>
          exact plus_next Hf.out Hg.out hc (by omega) (fun e => by omega) Hh.out Hv.out HX.out Hlo.out Hhi.out hown3 ((hbel.alloc hsz _).grown hg3 (by simp only [World.size_alloc]; omega) (own_ge hown))
        case measure => have hms := Hms.out; simp [intOf]; omega
      · have q2 : ¬ (k : Int) < (m : Int) := by omega
        have pb : padw g m k = 0 := by unfold padw; rw [if_neg h2]
        have pX : X = c := by rw [HX.out, pa, pb]; omega
        have Hpa := Lib.hid pa
        have Hpb := Lib.hid pb
        have HpX := Lib.hid pX
        by_cases hc0 : c = 0
        · have q3 : ¬ (0 : Int) < (c : Int) := by omega
          have Hc0 := Lib.hid hc0
          clear pa pb pX hc0 s3 s4
          have hws := own_Ws Hh.out hown
          have hval : nval h k = nval f n + nval g m := by
            have := Hv.out
            rw [Hc0.out, nval_pad f (by omega), nval_pad g (by omega)] at this
            omega
          have Hval := Lib.hid hval
          clear hval
          go_wp2_with (go_at_call 83; refine (trim_walk _ _ _ _ hws (by omega)).mono ?_; rintro e w' ⟨v, n', rfl, hn', hw, hnv, htr, rfl⟩)
          go_ret
          exact ⟨⟨v, rfl, n', h, by omega, hw, by rw [hnv]; exact Hval.out, htr⟩, hbel⟩
        · have q3 : (0 : Int) < (c : Int) := by omega
          have hk2 : k ≠ max n m + 1 := fun e => hc0 (Hlast.out e)
          rw [pX] at s3 s4
          clear pa pb pX
          go_wp2_with (at_builtin; refine wpList_append_own _ rfl (.tmp 48) (.tmp 51) _ rfl w.heap.size 126 i0 (.int .u32 0) 1 4 Tryz.underlying106 hi hz0 hz1 hz2 rfl (by omega) _ k (u32s h k) rfl (hown.alloc _) ⟨wr.heap.size, 0, none⟩ 1 1 [.int .u32 (lo : Nat)] rfl rfl (one32 _ _ _) (one32' _) (by unfold maxLen; omega) (by omega) (by simp only [World.size_alloc]; omega) ?_; intro v3 w3 hown3 hg3 _)
          go_roundw
          case rel =>
            exact plus_next Hf.out Hg.out hc (by omega) (fun e => ⟨Hpa.out, Hpb.out⟩) Hh.out Hv.out HX.out Hlo.out Hhi.out hown3 ((hbel.alloc hsz _).grown hg3 (by simp only [World.size_alloc]; omega) (own_ge hown))
          case measure => have hms := Hms.out; simp [intOf]; omega
end Go.Proofs.YtnjcnlbphaodcaaGreat
