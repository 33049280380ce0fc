/- tallageref01.Of, walked. -/
import Derived.Test.YtoaepgiajooecaaGreatG25
import Derived.Test.YtoaepgiajooecaaGreatG22
import Derived.Deep.RegionHeld3
import Derived.Deep.AppendLies
namespace Go.Proofs.YtoaepgiajooecaaGreat
open Go.RowKit Go.Sort

theorem infoU32 : (Tryz.prog.info? 179).map (fun i => (i.zero, i.size, i.bytes)) = some (some (.int .u32 0), 1, 4) := by kernel_rfl
theorem own_below {B : Nat} {e : TypeId} {k : Nat} {v : Value} {n : Nat} {xs : List Value} {w w' : World} (h : w.ownsRow B e k v n xs) (hb : Below w.heap.size w w') : w'.ownsRow B e k v n xs :=
  h.kept (row := none) ⟨hb.os, hb.tape, hb.output, hb.size, fun j hj _ => hb.block j hj⟩ (by cases hv : v.ownBlock <;> simp)
/-- the values of k words -/
def u32s (f : Nat → Nat) (k : Nat) : List Value := (List.range k).map fun i => Value.int .u32 (f i : Nat)
theorem u32s_succ (f : Nat → Nat) (k : Nat) : u32s f (k + 1) = u32s f k ++ [.int .u32 (f k : Nat)] := by simp [u32s, List.range_succ]
theorem u32s_get {f : Nat → Nat} {k i : Nat} (h : i < k) : (u32s f k)[i]? = some (.int .u32 (f i : Nat)) := by simp [u32s, h]
theorem u32s_congr {f g : Nat → Nat} {k : Nat} (h : ∀ i, i < k → f i = g i) : u32s f k = u32s g k := by
  unfold u32s; refine List.map_congr_left fun i hi => ?_; rw [h i (List.mem_range.1 hi)]
theorem own_Ws {w : World} {B e : Nat} {v : Value} {n : Nat} {f : Nat → Nat} (hf : ∀ i, f i < 2 ^ 32) (h : w.ownsRow B e 1 v n (u32s f n)) : Ws w v n f := by
  refine ⟨hf, ?_⟩
  rcases h.2 with ⟨rfl, rfl⟩ | ⟨g, cap, cur, rfl, hb, hg, r⟩
  · exact .inl ⟨rfl, rfl⟩
  · refine .inr ⟨g, 0, cap, rfl, ?_, lt_of_block hg, fun i hi => ?_⟩
    · exact r.1
    · rw [Nat.zero_add, h.cellAt i (by omega), u32s_get hi]
theorem own_ne {w : World} {B e k n : Nat} {v : Value} {xs : List Value} (h : w.ownsRow B e k v n xs) {b : Nat} (hb : b < B) : v.ownBlock ≠ some b := by
  rcases h.2 with ⟨rfl, rfl⟩ | ⟨g, cap, cur, rfl, hB, hg, r⟩
  · simp [Value.ownBlock]
  · simp [Value.ownBlock]; omega
/-- v is a number of at most m words, without noughts above -/
def NatV (w : World) (v : Value) (N m : Nat) : Prop := ∃ n f, n ≤ m ∧ Ws w v n f ∧ nval f n = N ∧ Trimmed n f
theorem NatV.below {w w' : World} {v : Value} {N m : Nat} (h : NatV w v N m) (hb : Below w.heap.size w w') : NatV w' v N m := by
  obtain ⟨n, f, h1, h2, h3, h4⟩ := h
  exact ⟨n, f, h1, h2.below hb, h3, h4⟩
theorem w32_lo (a k : Nat) : IntKind.u32.wrap ((limb a k : Nat) : Int) = ((w32 a (2 * k) : Nat) : Int) := by
  rw [IntKind.wrap_u32]
  unfold limb w32
  rw [show 32 * (2 * k) = 64 * k by omega]
  omega
theorem w32_hi (a k : Nat) : IntKind.u32.wrap ((limb a k : Nat) / 4294967296 : Int) = ((w32 a (2 * k + 1) : Nat) : Int) := by
  rw [IntKind.wrap_u32]
  have e : w32 a (2 * k + 1) = a / 2 ^ (64 * k) / 2 ^ 32 % 2 ^ 32 := by unfold w32; rw [Nat.div_div_eq_div_mul, ← Nat.pow_add]; congr 3; omega
  rw [e]
  unfold limb
  omega
theorem own_ge {w : World} {B e k n : Nat} {v : Value} {xs : List Value} (h : w.ownsRow B e k v n xs) : ∀ j, v.ownBlock = some j → B ≤ j := by
  intro j hj
  rcases h.2 with ⟨rfl, rfl⟩ | ⟨g, cap, cur, rfl, hB, hg, r⟩
  · simp [Value.ownBlock] at hj
  · simp [Value.ownBlock] at hj; omega
theorem Arr.grown {κ : IntKind} {w w' : World} {b n : Nat} {f : Nat → Nat} {row : Option Nat} (h : Arr κ w b n f) (hg : w.grownBy w' row) (hb : b < w.heap.size) (hne : row ≠ some b) : Arr κ w' b n f :=
  ⟨fun i hi => by rw [hg.cell_far ⟨b, i, none⟩ hb (Ne.symm hne)]; exact h.cell i hi, fun i hi => by rw [hg.frozen_far ⟨b, i, none⟩ hb (Ne.symm hne)]; exact h.free i hi⟩
def OfRel (a : Nat) (w : World) (x y : Value) (wr : World) : Prop :=
  ∃ k : Nat, k ≤ 4 ∧ y = .int .i64 (k : Nat) ∧ wr.ownsRow (w.heap.size + 1) 179 1 x (2 * k) (u32s (w32 a) (2 * k)) ∧ Arr .u64 wr w.heap.size 4 (limb a) ∧ Below w.heap.size w wr ∧ w.heap.size < wr.heap.size
def NatPost (N m : Nat) (w : World) (e : Ending) (w' : World) : Prop := (∃ v, e = .returned v ∧ NatV w' v N m) ∧ Below w.heap.size w w'

end Go.Proofs.YtoaepgiajooecaaGreat

namespace Go.Proofs.YtoaepgiajooecaaGreat
open Go.RowKit Go.Sort

/-- the bytes of a number, k of them -/
def k8v (n : Nat) (k : Nat) : List Value := (List.range k).map fun i => Value.int .u8 (kbyte n (7 - i) : Nat)
theorem k8v_succ (n k : Nat) : k8v n (k + 1) = k8v n k ++ [.int .u8 (kbyte n (7 - k) : Nat)] := by simp [k8v, List.range_succ]
theorem k8v_get (n : Nat) {k i : Nat} (h : i < k) : (k8v n k)[i]? = some (.int .u8 (kbyte n (7 - i) : Nat)) := by simp [k8v, h]
theorem kb8_get (n i : Nat) (h : i < 8) : (ints (kb8 n)).getD i 0 = ((kbyte n (7 - i) : Nat) : Int) := by
  rcases (by omega : i = 0 ∨ i = 1 ∨ i = 2 ∨ i = 3 ∨ i = 4 ∨ i = 5 ∨ i = 6 ∨ i = 7) with rfl | rfl | rfl | rfl | rfl | rfl | rfl | rfl <;> rfl
def RnRel (n : Nat) (w : World) (x y : Value) (wr : World) : Prop :=
  ∃ k : Nat, k ≤ 8 ∧ y = .int .i64 (7 - (k : Int)) ∧ wr.ownsRow w.heap.size 5 1 x k (k8v n k) ∧ Below w.heap.size w wr
set_option maxRecDepth 100000 in
set_option maxHeartbeats 2000000 in
theorem rnum9_walk (x : Int) (w : World) (hx : x < 2 ^ 63) : Calls Tryz.prog 69 #[.int .i64 x] w fun e w' => e = .returned (.string (numStr x)) ∧ Below w.heap.size w w' := by
  obtain ⟨i0, hi, hz0, hz1, hz2⟩ := info_parts kinfoU8
  obtain ⟨n, hn⟩ : ∃ n : Nat, (n : Int) = max x 0 := ⟨(max x 0).toNat, by omega⟩
  have start : x < 0 ∧ n = 0 ∨ ¬ x < 0 ∧ x = (n : Int) := by omega
  have hn63 : n < 2 ^ 63 := by omega
  have hfin : numStr x = strOfNums (ints (kb8 n)) := by unfold numStr; rw [← hn, Int.toNat_natCast]
  have Hfin := Lib.hid hfin
  have uw : IntKind.u64.wrap (n : Int) = (n : Int) := IntWalk.u64_in _ (by omega)
  clear hn hfin hx
  go_enter Tryz.func69, Tryz.ntmps69
  rcases start with ⟨h0, hz⟩ | ⟨h0, rfl⟩
  · have hk0 : ∀ j, kbyte n j = 0 := fun j => by rw [hz]; unfold kbyte; rw [Nat.zero_div, Nat.zero_mod]
    have Hk0 := Lib.hid hk0
    clear hz hk0
    go_wp2
    go_loopw [3, 4] (RnRel n w) (fun _ y _ => (intOf y + 1).toNat)
    case atStart => exact ⟨0, by omega, rfl, World.ownsRow_nil _ _ _ _, Below.refl _ _⟩
    case round =>
      obtain ⟨k, hk, rfl, hown, hbel⟩ := hrel
      by_cases hlt : k < 8
      · obtain ⟨q, hq⟩ : ∃ q, q = 7 - k := ⟨_, rfl⟩
        have hsz := hbel.size
        have e0 : (0 : Int) ≤ 7 - (k : Int) := by omega
        have e1 : (7 : Int) - (k : Int) = (q : Int) := by omega
        have e2 : (0 : Int) ≤ (q : Int) := by omega
        have i4 : IntKind.i64.wrap (8 * (q : Int)) = 8 * (q : Int) := IntWalk.i64_in _ (by omega)
        have i5 : IntKind.u64.wrap (8 * (q : Int)) = 8 * (q : Int) := IntWalk.u64_in _ (by omega)
        have i6 : (8 * (q : Int)).toNat = 8 * q := by omega
        have i7 : IntKind.i64.wrap ((q : Int) - 1) = (q : Int) - 1 := IntWalk.i64_in _ (by omega)
        have i8 : (8 * (q : Int)) < 64 := by omega
        have Hq := Lib.hid hq
        clear hq
        go_wp2_with (at_builtin; refine wpList_append_own _ rfl _ _ _ rfl w.heap.size 5 i0 _ 1 1 Tryz.underlying112 hi hz0 hz1 hz2 rfl (by omega) _ k (k8v n k) rfl (hown.alloc _) ⟨wr.heap.size, 0, none⟩ 1 1 [.int .u8 0] rfl rfl (World.news_of_block (cs := #[.int .u8 0]) (t := 5) (fr := (0, 0)) (heap_alloc_new wr _)) (by simp [Value.oneCell']) (by unfold maxLen; omega) (by omega) (by simp; omega) ?_)
        intro v1 w1 hown1 hgrow _
        go_wp2
        refine ⟨⟨k + 1, by omega, by congr 1; have := Hq.out; omega, ?_, ?_⟩, by simp [intOf]; omega⟩
        · rw [k8v_succ, ← Hq.out, Hk0.out]; exact hown1
        · exact (hbel.alloc hbel.size _).grown hgrow (by simp only [World.size_alloc]; have := hbel.size; omega) (fun j hj => own_ge hown j hj)
      · obtain rfl : k = 8 := by omega
        rcases hown.2 with ⟨rfl, h8⟩ | ⟨b, cap, cur, rfl, hb, hh, r⟩
        · cases h8
        · have hcv := run_convert_bytes_arg (P := Tryz.prog) wr 112 5 Tryz.underlying112 Tryz.underlying5 b 0 8 cap (ints (kb8 n)) (by simp [ints, kb8])
            (fun i hi => by rw [Nat.zero_add, hown.cellAt i (by omega), k8v_get n hi, kb8_get n i hi]) 9 Tryz.underlying9
          go_wp2
          go_ret
          exact ⟨by rw [Hfin.out]; rfl, hbel⟩
  · go_wp2
    go_loopw [3, 4] (RnRel n w) (fun _ y _ => (intOf y + 1).toNat)
    case atStart => exact ⟨0, by omega, rfl, World.ownsRow_nil _ _ _ _, Below.refl _ _⟩
    case round =>
      obtain ⟨k, hk, rfl, hown, hbel⟩ := hrel
      by_cases hlt : k < 8
      · obtain ⟨q, hq⟩ : ∃ q, q = 7 - k := ⟨_, rfl⟩
        have hsz := hbel.size
        have e0 : (0 : Int) ≤ 7 - (k : Int) := by omega
        have e1 : (7 : Int) - (k : Int) = (q : Int) := by omega
        have e2 : (0 : Int) ≤ (q : Int) := by omega
        have i4 : IntKind.i64.wrap (8 * (q : Int)) = 8 * (q : Int) := IntWalk.i64_in _ (by omega)
        have i5 : IntKind.u64.wrap (8 * (q : Int)) = 8 * (q : Int) := IntWalk.u64_in _ (by omega)
        have i6 : (8 * (q : Int)).toNat = 8 * q := by omega
        have i7 : IntKind.i64.wrap ((q : Int) - 1) = (q : Int) - 1 := IntWalk.i64_in _ (by omega)
        have i8 : (8 * (q : Int)) < 64 := by omega
        have b1 := kbyte_run n q
        have Hq := Lib.hid hq
        clear hq
        go_wp2_with (at_builtin; refine wpList_append_own _ rfl _ _ _ rfl w.heap.size 5 i0 _ 1 1 Tryz.underlying112 hi hz0 hz1 hz2 rfl (by omega) _ k (k8v n k) rfl (hown.alloc _) ⟨wr.heap.size, 0, none⟩ 1 1 [.int .u8 (kbyte n q : Nat)] rfl rfl (World.news_of_block (cs := #[.int .u8 (kbyte n q : Nat)]) (t := 5) (fr := (0, 0)) (heap_alloc_new wr _)) (by simp [Value.oneCell']) (by unfold maxLen; omega) (by omega) (by simp; omega) ?_)
        intro v1 w1 hown1 hgrow _
        go_wp2
        refine ⟨⟨k + 1, by omega, by congr 1; have := Hq.out; omega, ?_, ?_⟩, by simp [intOf]; omega⟩
        · rw [k8v_succ, ← Hq.out]; exact hown1
        · exact (hbel.alloc hbel.size _).grown hgrow (by simp only [World.size_alloc]; have := hbel.size; omega) (fun j hj => own_ge hown j hj)
      · obtain rfl : k = 8 := by omega
        rcases hown.2 with ⟨rfl, h8⟩ | ⟨b, cap, cur, rfl, hb, hh, r⟩
        · cases h8
        · have hcv := run_convert_bytes_arg (P := Tryz.prog) wr 112 5 Tryz.underlying112 Tryz.underlying5 b 0 8 cap (ints (kb8 n)) (by simp [ints, kb8])
            (fun i hi => by rw [Nat.zero_add, hown.cellAt i (by omega), k8v_get n hi, kb8_get n i hi]) 9 Tryz.underlying9
          go_wp2
          go_ret
          exact ⟨by rw [Hfin.out]; rfl, hbel⟩
theorem strOfNums_app9 (a b : List Int) : strOfNums a ++ strOfNums b = strOfNums (a ++ b) := by
  apply ByteArray.ext
  apply Array.ext'
  rw [ByteArray.data_append, Array.toList_append, strOfNums_data, strOfNums_data, strOfNums_data, List.map_append]
theorem keyPre_succ {t : Nat} {f : Nat → Int} {j : Nat} (h : 0 ≤ f j) : strOfNums (ints (t :: tl f 0 j)) ++ numStr (f j) = strOfNums (ints (t :: tl f 0 (j + 1))) := by
  unfold numStr
  rw [strOfNums_app9, tl_snoc, Nat.zero_add, Int.max_eq_left h]
  simp [ints]
theorem numStr_size9 (x : Int) : (numStr x).size = 8 := by unfold numStr; rw [strOfNums_size]; simp [ints, kb8]
theorem keyPre_size (t : Nat) (f : Nat → Int) (j : Nat) : (strOfNums (ints (t :: tl f 0 j))).size = 8 * j + 1 := by rw [strOfNums_size]; simp [ints, tl_length]
theorem keyStr_no {t : Int} {f : Nat → Int} {n k : Nat} (hk : k < n) (h : f k < 0) : keyStr t f n = ⟨#[]⟩ := by
  unfold keyStr; rw [if_neg (fun hh => absurd (hh.2.2 k hk) (by omega))]
set_option maxRecDepth 100000 in
set_option maxHeartbeats 2000000 in
theorem rkey9_walk (t : Int) (A : Option Addr) (n c : Nat) (f : Nat → Int) (w : World) (hl : Il w A n f) (hn : n ≤ 100) : Calls Tryz.prog 43 #[.int .i64 t, .slice A n c] w (KeyPost t f n w) := by
  by_cases ht : 1 ≤ t ∧ t ≤ 255
  · obtain ⟨tn, rfl⟩ : ∃ tn : Nat, t = (tn : Int) := ⟨t.toNat, by omega⟩
    have n1 : ¬ ((tn : Int) < 1) := by omega
    have n2 : ¬ ((255 : Int) < tn) := by omega
    have w8 : IntKind.u8.wrap (tn : Int) = (tn : Int) := IntWalk.u8_in _ (by omega)
    have nI : (n : Int) ≤ 100 := by omega
    have t1 : 1 ≤ tn := by omega
    have t2 : tn ≤ 255 := by omega
    have hcv := run_convert_bytes_arg (P := Tryz.prog) (w.alloc (.cells #[.int .u8 (tn : Nat)] 5)) 112 5 Tryz.underlying112 Tryz.underlying5 w.heap.size 0 1 1 [(tn : Int)] rfl
      (fun i hi => by obtain rfl : i = 0 := (by simp at hi; omega); simp) 9 Tryz.underlying9
    clear ht
    go_enter Tryz.func43, Tryz.ntmps43
    go_wp2
    go_loopw [5, 20] (fun s i wr => ∃ k : Nat, k ≤ n ∧ i = .int .i64 (k : Nat) ∧ s = .string (strOfNums (ints (tn :: tl f 0 k))) ∧ (∀ j, j < k → 0 ≤ f j) ∧ Below w.heap.size w wr) (fun _ i _ => n - (intOf i).toNat)
    case atStart => exact ⟨0, by omega, rfl, rfl, fun j h => absurd h (by omega), (Below.refl _ _).alloc (Nat.le_refl _) _⟩
    case round =>
      obtain ⟨k, hk, rfl, rfl, hpos, hbel⟩ := hrel
      have kI : (k : Int) ≤ n := by omega
      have Hpos := Lib.hid hpos
      clear hpos hcv
      by_cases hlt : k < n
      · obtain ⟨g, o, rfl, hg, hc⟩ := hl.at_ (by omega)
        have hm := hl.most k
        have hck : wr.cell? ⟨g, o + k, none⟩ = some (.int .i64 (f k)) := by rw [hbel.cell (p := ⟨g, o + k, none⟩) hg]; exact hc k hlt
        have q3 : (k : Int) < n := by omega
        have q4 : IntKind.i64.wrap ((k : Int) + 1) = (k : Int) + 1 := IntWalk.i64_in _ (by omega)
        clear hc hl
        by_cases hf : f k < 0
        · go_wp2
          refine bodyPost_ret (v := .string ⟨#[]⟩) (by simp [results, Tryz.results43, go_sem]) rfl ⟨?_, hbel⟩
          rw [keyStr_no hlt hf]
        · have z1 : ¬ 9223372036854775807 < (strOfNums (ints (tn :: tl f 0 k))).size + (numStr (f k)).size := by rw [keyPre_size, numStr_size9]; omega
          have hvs := Lib.hid (keyPre_succ (t := tn) (show 0 ≤ f k by omega))
          go_wp2_with (go_at_call 69; refine (rnum9_walk (f k) _ hm).mono ?_; rintro e w3 ⟨rfl, hb3⟩)
          go_roundw
          case rel =>
            refine ⟨k + 1, by omega, by go_num, by rw [hvs.out], fun j hj => ?_, hbel.trans (hb3.mono hbel.size)⟩
            rcases Nat.lt_or_ge j k with h | h
            · exact Hpos.out j h
            · rw [show j = k by omega]; omega
          case measure => simp [intOf]; omega
      · obtain rfl : k = n := by omega
        have q3 : ¬ (k : Int) < k := by omega
        go_wp2
        go_ret
        exact ⟨by rw [keyStr_yes t1 t2 Hpos.out]; rfl, hbel⟩
  · go_enter Tryz.func43, Tryz.ntmps43
    have part : t < 1 ∨ ¬ t < 1 ∧ 255 < t := by omega
    rcases part with h | ⟨h, h2⟩
    all_goals
      go_wp2
      refine bodyPost_ret (v := .string ⟨#[]⟩) (by simp [results, Tryz.results43, go_sem]) rfl ⟨?_, Below.refl _ _⟩
      unfold keyStr; rw [if_neg (fun h => ht ⟨h.1, h.2.1⟩)]
end Go.Proofs.YtoaepgiajooecaaGreat

namespace Go.Proofs.YtoaepgiajooecaaGreat
open Go.RowKit Go.Sort

def okN (v : ByteArray) : Prop := v.size % 8 = 0 ∧ ∀ i, i < v.size / 8 → chunk v i < 2 ^ 63
def chv (v : ByteArray) (i : Nat) : Int := if i < v.size / 8 ∧ chunk v i < 2 ^ 63 then (chunk v i : Int) else 0
theorem chv_lt (v : ByteArray) (i : Nat) : chv v i < 2 ^ 63 := by
  unfold chv
  split
  · omega
  · decide
theorem chv_ok {v : ByteArray} (h : okN v) {i : Nat} (hi : i < v.size / 8) : ((chunk v i : Nat) : Int) = chv v i := by
  unfold chv; rw [if_pos ⟨hi, h.2 i hi⟩]
def NumsAny (v : ByteArray) (w : World) (e : Ending) (w' : World) : Prop :=
  ((okN v ∧ ∃ A c, e = .returned (.tuple #[.slice A (v.size / 8) c, .bool true]) ∧ Il w' A (v.size / 8) (chv v)) ∨ (¬ okN v ∧ e = .returned (.tuple #[.slice none 0 0, .bool false]))) ∧ Below w.heap.size w w'
set_option maxRecDepth 100000 in
set_option maxHeartbeats 1000000 in
theorem numsAny_walk (v : ByteArray) (w : World) (hv : v.size ≤ 800) : Calls Tryz.prog 92 #[.string v] w (NumsAny v w) := by
  by_cases h8 : v.size % 8 = 0
  · refine (nums_walk v (v.size / 8) w (by omega) (by omega)).mono fun e w' ⟨h, hw⟩ => ⟨?_, hw⟩
    rcases h with ⟨h1, he, ho⟩ | ⟨⟨i, hi, hno⟩, he⟩
    · have ok : okN v := ⟨h8, h1⟩
      obtain ⟨A, c, e1, il⟩ := ownN_Il (f := chv v) (chv_lt v) (fun i hi => chv_ok ok hi) ho
      exact .inl ⟨ok, A, c, by rw [he, e1], il⟩
    · exact .inr ⟨fun h => hno (h.2 i hi), he⟩
  · have hno : ¬ okN v := fun h => h8 h.1
    have q1 : ((v.size : Int) % 8 != 0) = true := by rw [bne_iff_ne]; omega
    have q2 : ((v.size : Int).tmod 8 != 0) = true := by rw [Int.tmod_eq_emod_of_nonneg (by omega)]; exact q1
    clear h8
    go_enter Tryz.func92, Tryz.ntmps92
    go_wp2
    refine bodyPost_ret (v := .tuple #[.slice none 0 0, .bool false]) (by simp [results, Tryz.results92, go_sem]) rfl ⟨.inr ⟨hno, rfl⟩, Below.refl _ _⟩
theorem drop_getD (v : ByteArray) (j k : Nat) (h : 8 * j + k < v.size) : ((v.data.toList.drop (8 * j)).getD k 0) = v[8 * j + k] := by
  have hl : v.data.toList.length = v.size := rfl
  simp only [List.getD, List.getElem?_drop]
  rw [List.getElem?_eq_getElem (by omega), Option.getD_some]
  rfl
theorem numl_lt (l : List UInt8) : ∀ k, numl l k < 2 ^ (8 * k)
  | 0 => by simp [numl]
  | k + 1 => by
    have h := numl_lt l k
    have h2 := (l.getD k 0).toNat_lt
    rw [numl, show 8 * (k + 1) = 8 * k + 8 by omega, Nat.pow_add]
    omega
def RnsRel (v : ByteArray) (w : World) (x y : Value) (wr : World) : Prop :=
  ∃ j p : Nat, p = 8 * j ∧ j ≤ v.size / 8 ∧ y = .int .i64 (p : Nat) ∧ (∀ i, i < j → chunk v i < 2 ^ 63) ∧ wr.ownsRow w.heap.size 3 1 x j (i64n (chunk v) j) ∧ Below w.heap.size w wr
set_option maxRecDepth 100000 in
set_option maxHeartbeats 2000000 in
theorem rnums_walk (v : ByteArray) (w : World) (hv : v.size ≤ 800) : Calls Tryz.prog 75 #[.string v] w (NumsAny v w) := by
  obtain ⟨i0, hi, hz0, hz1, hz2⟩ := info_parts infoI64
  by_cases h8 : v.size % 8 = 0
  · have q1 : ((v.size : Int) % 8 != 0) = false := by rw [bne_eq_false_iff_eq]; omega
    have q2 : ((v.size : Int).tmod 8 != 0) = false := by rw [Int.tmod_eq_emod_of_nonneg (by omega)]; exact q1
    have vI : (v.size : Int) ≤ 800 := by omega
    have H8 := Lib.hid h8
    clear h8
    go_enter Tryz.func75, Tryz.ntmps75
    go_wp2
    go_loopw [4, 5] (RnsRel v w) (fun _ y _ => v.size - (intOf y).toNat)
    case atStart => exact ⟨0, 0, rfl, by omega, rfl, fun i h => absurd h (by omega), World.ownsRow_nil _ _ _ _, Below.refl _ _⟩
    case round =>
      obtain ⟨j, p, hp, hj, rfl, hpos, hown, hbel⟩ := hrel
      have Hp := Lib.hid hp
      have Hpos := Lib.hid hpos
      have hsz := hbel.size
      by_cases hlt : j < v.size / 8
      · have q3 : (p : Int) < v.size := by have := H8.out; omega
        have Hlt := Lib.hid hlt
        have p8 := Lib.hid (show p + 8 ≤ v.size by have := H8.out; omega)
        have q4 : IntKind.i64.wrap ((p : Int) + 8) = (p : Int) + 8 := IntWalk.i64_in _ (by omega)
        clear hp hpos hlt hj
        go_wp2
        go_loopw [6, 7] (fun x y wq => ∃ k : Nat, k ≤ 8 ∧ y = .int .i64 (k : Nat) ∧ x = .int .u64 (numl (v.data.toList.drop (8 * j)) k : Nat) ∧ wq = wr) (fun _ y _ => 8 - (intOf y).toNat)
        case atStart => exact ⟨0, by omega, rfl, rfl, rfl⟩
        case round =>
          obtain ⟨k, hk, rfl, rfl, rfl⟩ := hrel
          obtain ⟨n, hn⟩ : ∃ n, n = numl (v.data.toList.drop (8 * j)) k := ⟨_, rfl⟩
          rw [← hn]
          have Hn := Lib.hid hn
          clear hn
          by_cases hlt : k < 8
          · have r1 : (p : Int) + (k : Int) < v.size := by have := p8.out; omega
            have r2 : IntKind.i64.wrap ((p : Int) + (k : Int)) = (p : Int) + (k : Int) := IntWalk.i64_in _ (by omega)
            have r3 : (0 : Int) ≤ (p : Int) + (k : Int) := by omega
            have r4 : ((p : Int) + (k : Int)).toNat = p + k := by omega
            go_wp2
            go_roundw
            case rel =>
              have h1 : n < 2 ^ 56 := by
                rw [Hn.out]
                exact Nat.lt_of_lt_of_le (numl_lt _ k) (Nat.pow_le_pow_right (by decide) (by omega))
              refine ⟨k + 1, by omega, by go_num, ?_, trivial⟩
              rw [or_byte h1 (UInt8.toNat_lt _), numl, ← Hn.out]
              congr 4
              have e := drop_getD v j k (by have := Hp.out; have := p8.out; omega)
              rw [e]
              congr 1
              have := Hp.out
              congr 1
            case measure => simp [intOf]; omega
          · obtain rfl : k = 8 := by omega
            have r1 : ¬ ((8 : Nat) : Int) < 8 := by omega
            have hch : n = chunk v j := Hn.out
            have Hch := Lib.hid hch
            by_cases hbig : n < 2 ^ 63
            · have r5 : ¬ (9223372036854775807 : Int) < (n : Int) := by omega
              have r6 : IntKind.i64.wrap (n : Int) = (n : Int) := IntWalk.i64_in _ (by omega)
              have Hbig := Lib.hid hbig
              clear hch hbig
              have jI : j ≤ 100 := by have := Hlt.out; omega
              go_wp2_with (at_builtin; refine wpList_append_own _ rfl _ _ _ rfl w.heap.size 3 i0 _ 1 8 Tryz.underlying53 hi hz0 hz1 hz2 rfl (by omega) _ j (i64n (chunk v) j) rfl (hown.alloc _) ⟨wr.heap.size, 0, none⟩ 1 1 [.int .i64 (n : Nat)] rfl rfl (World.news_of_block (cs := #[.int .i64 (n : Nat)]) (t := 3) (fr := (0, 0)) (heap_alloc_new wr _)) (by simp [Value.oneCell']) (by unfold maxLen; omega) (by omega) (by simp; omega) ?_)
              intro v1 w1 hown1 hgrow _
              go_wp2
              refine ⟨⟨j + 1, p + 8, by have := Hp.out; omega, by have := Hlt.out; omega, by go_num, fun i hi' => ?_, ?_, ?_⟩, by have := p8.out; simp [intOf]; omega⟩
              · rcases Nat.lt_or_ge i j with h | h
                · exact Hpos.out i h
                · rw [show i = j by omega, ← Hch.out]; exact Hbig.out
              · rw [i64n_succ, ← Hch.out]; exact hown1
              · exact (hbel.alloc hbel.size _).grown hgrow (by simp only [World.size_alloc]; omega) (fun q hq => own_ge hown q hq)
            · have r5 : (9223372036854775807 : Int) < (n : Int) := by omega
              have Hbig := Lib.hid hbig
              clear hch hbig
              go_wp2
              refine bodyPost_ret (v := .tuple #[.slice none 0 0, .bool false]) (by simp [results, Tryz.results75, go_sem]) rfl ⟨.inr ⟨fun h => Hbig.out (by rw [Hch.out]; exact h.2 j Hlt.out), rfl⟩, hbel⟩
      · have hj2 : j = v.size / 8 := by omega
        have q3 : ¬ (p : Int) < v.size := by have := H8.out; omega
        have ok : okN v := ⟨H8.out, by rw [← hj2]; exact Hpos.out⟩
        obtain ⟨A, c, rfl, il⟩ := ownN_Il (f := chv v) (chv_lt v) (fun i hi => chv_ok ok (by omega)) hown
        have Hj2 := Lib.hid hj2
        clear hj2 hp hpos hj
        go_wp2
        refine bodyPost_ret (v := .tuple #[.slice A j c, .bool true]) (by simp [results, Tryz.results75, go_sem]) rfl ⟨.inl ⟨ok, A, c, by rw [← Hj2.out], by rw [← Hj2.out]; exact il⟩, hbel⟩
  · have hno : ¬ okN v := fun h => h8 h.1
    have q1 : ((v.size : Int) % 8 != 0) = true := by rw [bne_iff_ne]; omega
    have q2 : ((v.size : Int).tmod 8 != 0) = true := by rw [Int.tmod_eq_emod_of_nonneg (by omega)]; exact q1
    clear h8
    go_enter Tryz.func75, Tryz.ntmps75
    go_wp2
    refine bodyPost_ret (v := .tuple #[.slice none 0 0, .bool false]) (by simp [results, Tryz.results75, go_sem]) rfl ⟨.inr ⟨hno, rfl⟩, Below.refl _ _⟩
end Go.Proofs.YtoaepgiajooecaaGreat
