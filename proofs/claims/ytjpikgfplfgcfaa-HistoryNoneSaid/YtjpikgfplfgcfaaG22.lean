/- tallageref09.Num, Key, walked. -/
import Derived.Test.YtjpikgfplfgcfaaG18
import Derived.Test.YtjpikgfplfgcfaaG21
import Derived.Test.YtjpikgfplfgcfaaG17
import Derived.Test.YtjpikgfplfgcfaaG00
import Derived.OpenShut
import Derived.ChangeOld
import Derived.ChangeSlices
import Derived.Carry
import Derived.Deep.Slices
import Derived.ChangeSame
import Derived.Laws.IdiomArrays
namespace Go.Proofs.Ytjpikgfplfgcfaa
open Go.RowKit Go.Sort

/-- the bytes of a number, k of them -/
def k8v (n : Nat) (k : Nat) : List Value := (List.range k).map fun i => Value.int .u8 (kbyte n (7 - i) : Nat)
theorem k8v_succ (n k : Nat) : k8v n (k + 1) = k8v n k ++ [.int .u8 (kbyte n (7 - k) : Nat)] := by simp [k8v, List.range_succ]
theorem k8v_get (n : Nat) {k i : Nat} (h : i < k) : (k8v n k)[i]? = some (.int .u8 (kbyte n (7 - i) : Nat)) := by simp [k8v, h]
theorem kb8_get (n i : Nat) (h : i < 8) : (ints (kb8 n)).getD i 0 = ((kbyte n (7 - i) : Nat) : Int) := by
  rcases (by omega : i = 0 ∨ i = 1 ∨ i = 2 ∨ i = 3 ∨ i = 4 ∨ i = 5 ∨ i = 6 ∨ i = 7) with rfl | rfl | rfl | rfl | rfl | rfl | rfl | rfl <;> rfl
def RnRel (n : Nat) (w : World) (x y : Value) (wr : World) : Prop :=
  ∃ k : Nat, k ≤ 8 ∧ y = .int .i64 (7 - (k : Int)) ∧ wr.ownsRow w.heap.size 5 1 x k (k8v n k) ∧ Below w.heap.size w wr
set_option maxRecDepth 100000 in
set_option maxHeartbeats 2000000 in
theorem rnum9_walk (x : Int) (w : World) (hx : x < 2 ^ 63) : Calls Try.prog 105 #[.int .i64 x] w fun e w' => e = .returned (.string (numStr x)) ∧ Below w.heap.size w w' := by
  obtain ⟨i0, hi, hz0, hz1, hz2⟩ := info_parts kinfoU8
  obtain ⟨n, hn⟩ : ∃ n : Nat, (n : Int) = max x 0 := ⟨(max x 0).toNat, by omega⟩
  have start : x < 0 ∧ n = 0 ∨ ¬ x < 0 ∧ x = (n : Int) := by omega
  have hn63 : n < 2 ^ 63 := by omega
  have hfin : numStr x = strOfNums (ints (kb8 n)) := by unfold numStr; rw [← hn, Int.toNat_natCast]
  have Hfin := Lib.hid hfin
  have uw : IntKind.u64.wrap (n : Int) = (n : Int) := IntWalk.u64_in _ (by omega)
  clear hn hfin hx
  go_enter Try.func105, Try.ntmps105
  rcases start with ⟨h0, hz⟩ | ⟨h0, rfl⟩
  · have hk0 : ∀ j, kbyte n j = 0 := fun j => by rw [hz]; unfold kbyte; rw [Nat.zero_div, Nat.zero_mod]
    have Hk0 := Lib.hid hk0
    clear hz hk0
    go_wp2
    go_loopw [3, 4] (RnRel n w) (fun _ y _ => (intOf y + 1).toNat)
    case atStart => exact ⟨0, by omega, rfl, World.ownsRow_nil _ _ _ _, Below.refl _ _⟩
    case round =>
      obtain ⟨k, hk, rfl, hown, hbel⟩ := hrel
      by_cases hlt : k < 8
      · obtain ⟨q, hq⟩ : ∃ q, q = 7 - k := ⟨_, rfl⟩
        have hsz := hbel.size
        have e0 : (0 : Int) ≤ 7 - (k : Int) := by omega
        have e1 : (7 : Int) - (k : Int) = (q : Int) := by omega
        have e2 : (0 : Int) ≤ (q : Int) := by omega
        have i4 : IntKind.i64.wrap (8 * (q : Int)) = 8 * (q : Int) := IntWalk.i64_in _ (by omega)
        have i5 : IntKind.u64.wrap (8 * (q : Int)) = 8 * (q : Int) := IntWalk.u64_in _ (by omega)
        have i6 : (8 * (q : Int)).toNat = 8 * q := by omega
        have i7 : IntKind.i64.wrap ((q : Int) - 1) = (q : Int) - 1 := IntWalk.i64_in _ (by omega)
        have i8 : (8 * (q : Int)) < 64 := by omega
        have Hq := Lib.hid hq
        clear hq
        go_wp2_with (at_builtin; refine wpList_append_own _ rfl _ _ _ rfl w.heap.size 5 i0 _ 1 1 Try.underlying161 hi hz0 hz1 hz2 rfl (by omega) _ k (k8v n k) rfl (hown.alloc _) ⟨wr.heap.size, 0, none⟩ 1 1 [.int .u8 0] rfl rfl (World.news_of_block (cs := #[.int .u8 0]) (t := 5) (fr := (0, 0)) (heap_alloc_new wr _)) (by simp [Value.oneCell']) (by unfold maxLen; omega) (by omega) (by simp; omega) ?_)
        intro v1 w1 hown1 hgrow _
        go_wp2
        refine ⟨⟨k + 1, by omega, by congr 1; have := Hq.out; omega, ?_, ?_⟩, by simp [intOf]; omega⟩
        · rw [k8v_succ, ← Hq.out, Hk0.out]; exact hown1
        · exact (hbel.alloc hbel.size _).grown hgrow (by simp only [World.size_alloc]; have := hbel.size; omega) (fun j hj => own_ge hown j hj)
      · obtain rfl : k = 8 := by omega
        rcases hown.2 with ⟨rfl, h8⟩ | ⟨b, cap, cur, rfl, hb, hh, r⟩
        · cases h8
        · have hcv := run_convert_bytes_arg (P := Try.prog) wr 161 5 Try.underlying161 Try.underlying5 b 0 8 cap (ints (kb8 n)) (by simp [ints, kb8])
            (fun i hi => by rw [Nat.zero_add, hown.cellAt i (by omega), k8v_get n hi, kb8_get n i hi]) 9 Try.underlying9
          go_wp2
          go_ret
          exact ⟨by rw [Hfin.out]; rfl, hbel⟩
  · go_wp2
    go_loopw [3, 4] (RnRel n w) (fun _ y _ => (intOf y + 1).toNat)
    case atStart => exact ⟨0, by omega, rfl, World.ownsRow_nil _ _ _ _, Below.refl _ _⟩
    case round =>
      obtain ⟨k, hk, rfl, hown, hbel⟩ := hrel
      by_cases hlt : k < 8
      · obtain ⟨q, hq⟩ : ∃ q, q = 7 - k := ⟨_, rfl⟩
        have hsz := hbel.size
        have e0 : (0 : Int) ≤ 7 - (k : Int) := by omega
        have e1 : (7 : Int) - (k : Int) = (q : Int) := by omega
        have e2 : (0 : Int) ≤ (q : Int) := by omega
        have i4 : IntKind.i64.wrap (8 * (q : Int)) = 8 * (q : Int) := IntWalk.i64_in _ (by omega)
        have i5 : IntKind.u64.wrap (8 * (q : Int)) = 8 * (q : Int) := IntWalk.u64_in _ (by omega)
        have i6 : (8 * (q : Int)).toNat = 8 * q := by omega
        have i7 : IntKind.i64.wrap ((q : Int) - 1) = (q : Int) - 1 := IntWalk.i64_in _ (by omega)
        have i8 : (8 * (q : Int)) < 64 := by omega
        have b1 := kbyte_run n q
        have Hq := Lib.hid hq
        clear hq
        go_wp2_with (at_builtin; refine wpList_append_own _ rfl _ _ _ rfl w.heap.size 5 i0 _ 1 1 Try.underlying161 hi hz0 hz1 hz2 rfl (by omega) _ k (k8v n k) rfl (hown.alloc _) ⟨wr.heap.size, 0, none⟩ 1 1 [.int .u8 (kbyte n q : Nat)] rfl rfl (World.news_of_block (cs := #[.int .u8 (kbyte n q : Nat)]) (t := 5) (fr := (0, 0)) (heap_alloc_new wr _)) (by simp [Value.oneCell']) (by unfold maxLen; omega) (by omega) (by simp; omega) ?_)
        intro v1 w1 hown1 hgrow _
        go_wp2
        refine ⟨⟨k + 1, by omega, by congr 1; have := Hq.out; omega, ?_, ?_⟩, by simp [intOf]; omega⟩
        · rw [k8v_succ, ← Hq.out]; exact hown1
        · exact (hbel.alloc hbel.size _).grown hgrow (by simp only [World.size_alloc]; have := hbel.size; omega) (fun j hj => own_ge hown j hj)
      · obtain rfl : k = 8 := by omega
        rcases hown.2 with ⟨rfl, h8⟩ | ⟨b, cap, cur, rfl, hb, hh, r⟩
        · cases h8
        · have hcv := run_convert_bytes_arg (P := Try.prog) wr 161 5 Try.underlying161 Try.underlying5 b 0 8 cap (ints (kb8 n)) (by simp [ints, kb8])
            (fun i hi => by rw [Nat.zero_add, hown.cellAt i (by omega), k8v_get n hi, kb8_get n i hi]) 9 Try.underlying9
          go_wp2
          go_ret
          exact ⟨by rw [Hfin.out]; rfl, hbel⟩
theorem strOfNums_app9 (a b : List Int) : strOfNums a ++ strOfNums b = strOfNums (a ++ b) := by
  apply ByteArray.ext
  apply Array.ext'
  rw [ByteArray.data_append, Array.toList_append, strOfNums_data, strOfNums_data, strOfNums_data, List.map_append]
theorem keyPre_succ {t : Nat} {f : Nat → Int} {j : Nat} (h : 0 ≤ f j) : strOfNums (ints (t :: tl f 0 j)) ++ numStr (f j) = strOfNums (ints (t :: tl f 0 (j + 1))) := by
  unfold numStr
  rw [strOfNums_app9, tl_snoc, Nat.zero_add, Int.max_eq_left h]
  simp [ints]
theorem numStr_size9 (x : Int) : (numStr x).size = 8 := by unfold numStr; rw [strOfNums_size]; simp [ints, kb8]
theorem keyPre_size (t : Nat) (f : Nat → Int) (j : Nat) : (strOfNums (ints (t :: tl f 0 j))).size = 8 * j + 1 := by rw [strOfNums_size]; simp [ints, tl_length]
theorem keyStr_no {t : Int} {f : Nat → Int} {n k : Nat} (hk : k < n) (h : f k < 0) : keyStr t f n = ⟨#[]⟩ := by
  unfold keyStr; rw [if_neg (fun hh => absurd (hh.2.2 k hk) (by omega))]
set_option maxRecDepth 100000 in
set_option maxHeartbeats 2000000 in
theorem rkey9_walk (t : Int) (A : Option Addr) (n c : Nat) (f : Nat → Int) (w : World) (hl : Il w A n f) (hn : n ≤ 100) : Calls Try.prog 53 #[.int .i64 t, .slice A n c] w (KeyPost t f n w) := by
  by_cases ht : 1 ≤ t ∧ t ≤ 255
  · obtain ⟨tn, rfl⟩ : ∃ tn : Nat, t = (tn : Int) := ⟨t.toNat, by omega⟩
    have n1 : ¬ ((tn : Int) < 1) := by omega
    have n2 : ¬ ((255 : Int) < tn) := by omega
    have w8 : IntKind.u8.wrap (tn : Int) = (tn : Int) := IntWalk.u8_in _ (by omega)
    have nI : (n : Int) ≤ 100 := by omega
    have t1 : 1 ≤ tn := by omega
    have t2 : tn ≤ 255 := by omega
    have hcv := run_convert_bytes_arg (P := Try.prog) (w.alloc (.cells #[.int .u8 (tn : Nat)] 5)) 161 5 Try.underlying161 Try.underlying5 w.heap.size 0 1 1 [(tn : Int)] rfl
      (fun i hi => by obtain rfl : i = 0 := (by simp at hi; omega); simp) 9 Try.underlying9
    clear ht
    go_enter Try.func53, Try.ntmps53
    go_wp2
    go_loopw [5, 20] (fun s i wr => ∃ k : Nat, k ≤ n ∧ i = .int .i64 (k : Nat) ∧ s = .string (strOfNums (ints (tn :: tl f 0 k))) ∧ (∀ j, j < k → 0 ≤ f j) ∧ Below w.heap.size w wr) (fun _ i _ => n - (intOf i).toNat)
    case atStart => exact ⟨0, by omega, rfl, rfl, fun j h => absurd h (by omega), (Below.refl _ _).alloc (Nat.le_refl _) _⟩
    case round =>
      obtain ⟨k, hk, rfl, rfl, hpos, hbel⟩ := hrel
      have kI : (k : Int) ≤ n := by omega
      have Hpos := Lib.hid hpos
      clear hpos hcv
      by_cases hlt : k < n
      · obtain ⟨g, o, rfl, hg, hc⟩ := hl.at_ (by omega)
        have hm := hl.most k
        have hck : wr.cell? ⟨g, o + k, none⟩ = some (.int .i64 (f k)) := by rw [hbel.cell (p := ⟨g, o + k, none⟩) hg]; exact hc k hlt
        have q3 : (k : Int) < n := by omega
        have q4 : IntKind.i64.wrap ((k : Int) + 1) = (k : Int) + 1 := IntWalk.i64_in _ (by omega)
        clear hc hl
        by_cases hf : f k < 0
        · go_wp2
          refine bodyPost_ret (v := .string ⟨#[]⟩) (by simp [results, Try.results53, go_sem]) rfl ⟨?_, hbel⟩
          rw [keyStr_no hlt hf]
        · have z1 : ¬ 9223372036854775807 < (strOfNums (ints (tn :: tl f 0 k))).size + (numStr (f k)).size := by rw [keyPre_size, numStr_size9]; omega
          have hvs := Lib.hid (keyPre_succ (t := tn) (show 0 ≤ f k by omega))
          go_wp2_with (go_at_call 105; refine (rnum9_walk (f k) _ hm).mono ?_; rintro e w3 ⟨rfl, hb3⟩)
          go_roundw
          case rel =>
            refine ⟨k + 1, by omega, by go_num, by rw [hvs.out], fun j hj => ?_, hbel.trans (hb3.mono hbel.size)⟩
            rcases Nat.lt_or_ge j k with h | h
            · exact Hpos.out j h
            · rw [show j = k by omega]; omega
          case measure => simp [intOf]; omega
      · obtain rfl : k = n := by omega
        have q3 : ¬ (k : Int) < k := by omega
        go_wp2
        go_ret
        exact ⟨by rw [keyStr_yes t1 t2 Hpos.out]; rfl, hbel⟩
  · go_enter Try.func53, Try.ntmps53
    have part : t < 1 ∨ ¬ t < 1 ∧ 255 < t := by omega
    rcases part with h | ⟨h, h2⟩
    all_goals
      go_wp2
      refine bodyPost_ret (v := .string ⟨#[]⟩) (by simp [results, Try.results53, go_sem]) rfl ⟨?_, Below.refl _ _⟩
      unfold keyStr; rw [if_neg (fun h => ht ⟨h.1, h.2.1⟩)]
end Go.Proofs.Ytjpikgfplfgcfaa

namespace Go.Proofs.Ytjpikgfplfgcfaa
open Go.RowKit Go.Maps Go.Sort

abbrev hnC (A : Option Addr) (n c : Nat) (x : Int) (a : Nat) : Array Value := #[.slice A n c, .int .i64 x, .int .u64 (limb a 0 : Nat), .int .u64 (limb a 1 : Nat), .int .u64 (limb a 2 : Nat), .int .u64 (limb a 3 : Nat)]
theorem hsidx0 (a b : Value) (w : World) : (Instr.index 55 (.agg #[a, b]) (.int .i64 0)).run Try.prog w = .ok a w := by kernel_rfl
theorem hsidx1 (a b : Value) (w : World) : (Instr.index 55 (.agg #[a, b]) (.int .i64 1)).run Try.prog w = .ok b w := by kernel_rfl
set_option maxRecDepth 100000 in
set_option maxHeartbeats 1000000 in
theorem light11_walk (g : Nat) (A : Option Addr) (n c : Nat) (x : Int) (a : Nat) (w : World) (hr : w.heap[g]? = some (.cells #[.slice A n c, .int .i64 x, .int .u64 (limb a 0 : Nat), .int .u64 (limb a 1 : Nat), .int .u64 (limb a 2 : Nat), .int .u64 (limb a 3 : Nat)] 81 (0, 0))) (hn : (n : Int) ≤ 9223372036854775807) :
    Calls Try.prog 46 #[.slice (some ⟨g, 0, none⟩) 1 1] w fun e w' => e = .returned (.bool (decide (n ≤ 5))) ∧ Below w.heap.size w w' := by
  obtain ⟨B, hB⟩ : ∃ B, B = decide (n ≤ 5) := ⟨_, rfl⟩
  rw [← hB]
  have HBe := Lib.hid hB
  have HR := Lib.hid hr
  clear hB hr
  go_enter Try.func46, Try.ntmps46
  go_wp2
  go_loopw [10] (fun i wr => ∃ j : Nat, j ≤ 1 ∧ i = .int .i64 (j : Nat) ∧ Below w.heap.size w wr ∧ (j = 1 → n ≤ 5)) (fun i _ => 1 - (intOf i).toNat)
  case atStart => exact ⟨0, by omega, rfl, Below.refl _ _, fun h => by omega⟩
  case round =>
    obtain ⟨j, hj, rfl, hb, h5⟩ := hrel
    have HB := Lib.hid hb
    have H5 := Lib.hid h5
    have rr := (hb.block g (hp_lt HR.out)).trans HR.out
    have c0 := (hp_cell (i := 0) rr).trans rfl
    have c1 := (hp_cell (i := 1) rr).trans rfl
    have c2 := (hp_cell (i := 2) rr).trans rfl
    have c3 := (hp_cell (i := 3) rr).trans rfl
    have c4 := (hp_cell (i := 4) rr).trans rfl
    have c5 := (hp_cell (i := 5) rr).trans rfl
    clear hb h5 rr
    rcases (by omega : j = 0 ∨ j = 1) with rfl | rfl
    · by_cases hn5 : n ≤ 5
      · have p1 : ¬ (5 : Int) < (n : Int) := by omega
        go_wp2
        exact ⟨⟨1, by omega, rfl, HB.out.alloc HB.out.size _, fun _ => hn5⟩, by simp [intOf]⟩
      · have p1 : (5 : Int) < (n : Int) := by omega
        have e0 : B = false := by rw [HBe.out]; exact decide_eq_false hn5
        subst e0
        go_wp2
        go_ret
        exact ⟨rfl, HB.out.alloc HB.out.size _⟩
    · have e0 : B = true := by rw [HBe.out]; exact decide_eq_true (H5.out rfl)
      subst e0
      go_wp2
      go_ret
      exact ⟨rfl, HB.out⟩
/-- the law's world: its box, the store, the id -/
structure HNAt (W w : World) (s : Value) (A : Option Addr) (n c : Nat) (f : Nat → Int) (x : Int) (a : Nat) : Prop where
  bl : Below W.heap.size W w
  r : w.heap[W.heap.size]? = some (.cells #[.slice A n c, .int .i64 x, .int .u64 (limb a 0 : Nat), .int .u64 (limb a 1 : Nat), .int .u64 (limb a 2 : Nat), .int .u64 (limb a 3 : Nat)] 81 (0, 0))
  l : Il w A n f
  d : SDead w s
theorem HNAt.step {W w w' : World} {s : Value} {A : Option Addr} {n c : Nat} {f : Nat → Int} {x : Int} {a : Nat} (h : HNAt W w s A n c f x a) (hb : Below w.heap.size w w') : HNAt W w' s A n c f x a :=
  ⟨h.bl.trans (hb.mono h.bl.size), (hb.block _ (hp_lt h.r)).trans h.r, h.l.below hb, h.d.below hb⟩
theorem HNAt.al {W w : World} {s : Value} {A : Option Addr} {n c : Nat} {f : Nat → Int} {x : Int} {a : Nat} (h : HNAt W w s A n c f x a) (o : Obj) : HNAt W (w.alloc o) s A n c f x a := h.step ((Below.refl _ _).alloc (Nat.le_refl _) o)
theorem rkey9n (w : World) : Calls Try.prog 53 #[.int .i64 9, .slice none 0 0] w fun e w' => e = .returned (.string ⟨#[9]⟩) ∧ Below w.heap.size w w' := by
  refine (rkey9_walk 9 none 0 0 (fun _ => 0) w ⟨fun _ => by decide, fun h => absurd h (by omega)⟩ (by omega)).mono ?_
  rintro e w' ⟨he, hb⟩
  exact ⟨by rw [he, show keyStr 9 (fun _ => 0) 0 = ⟨#[9]⟩ by decide +kernel], hb⟩
set_option maxRecDepth 100000 in
set_option maxHeartbeats 4000000 in
theorem historyNone_walk (A : Option Addr) (n c : Nat) (f : Nat → Int) (x : Int) (a : Nat) (w : World) (hl : Il w A n f) (hz : A = none → n = 0 ∧ c = 0) (hn : (n : Int) ≤ 9223372036854775807) : Calls Try.prog 9 #[.agg #[.slice A n c, .int .i64 x, .int .u64 (limb a 0 : Nat), .int .u64 (limb a 1 : Nat), .int .u64 (limb a 2 : Nat), .int .u64 (limb a 3 : Nat)]] w fun e w' => e = .returned (.bool true) ∧ Below w.heap.size w w' := by
  have hx0 := hsidx0
  have hx1 := hsidx1
  have h0 : HNAt w ((w.alloc (.cells #[.slice A n c, .int .i64 x, .int .u64 (limb a 0 : Nat), .int .u64 (limb a 1 : Nat), .int .u64 (limb a 2 : Nat), .int .u64 (limb a 3 : Nat)] 81)).alloc (.cells #[.slice A n c, .int .i64 x, .int .u64 (limb a 0 : Nat), .int .u64 (limb a 1 : Nat), .int .u64 (limb a 2 : Nat), .int .u64 (limb a 3 : Nat)] 81)) (.pointer none) A n c f x a := by
    have hb := ((Below.refl w.heap.size w).alloc (Nat.le_refl _) (.cells #[.slice A n c, .int .i64 x, .int .u64 (limb a 0 : Nat), .int .u64 (limb a 1 : Nat), .int .u64 (limb a 2 : Nat), .int .u64 (limb a 3 : Nat)] 81)).alloc (by simp) (.cells #[.slice A n c, .int .i64 x, .int .u64 (limb a 0 : Nat), .int .u64 (limb a 1 : Nat), .int .u64 (limb a 2 : Nat), .int .u64 (limb a 3 : Nat)] 81)
    exact ⟨hb, (heap_alloc_old _ _ (by simp)).trans (heap_alloc_new _ _), hl.below hb, .inl rfl⟩
  have HLt := Lib.hid (light11_walk (w.heap.size + 1) A n c x a ((w.alloc (.cells #[.slice A n c, .int .i64 x, .int .u64 (limb a 0 : Nat), .int .u64 (limb a 1 : Nat), .int .u64 (limb a 2 : Nat), .int .u64 (limb a 3 : Nat)] 81)).alloc (.cells #[.slice A n c, .int .i64 x, .int .u64 (limb a 0 : Nat), .int .u64 (limb a 1 : Nat), .int .u64 (limb a 2 : Nat), .int .u64 (limb a 3 : Nat)] 81)) (by have := heap_alloc_new (w.alloc (.cells #[.slice A n c, .int .i64 x, .int .u64 (limb a 0 : Nat), .int .u64 (limb a 1 : Nat), .int .u64 (limb a 2 : Nat), .int .u64 (limb a 3 : Nat)] 81)) (.cells #[.slice A n c, .int .i64 x, .int .u64 (limb a 0 : Nat), .int .u64 (limb a 1 : Nat), .int .u64 (limb a 2 : Nat), .int .u64 (limb a 3 : Nat)] 81); simpa using this) hn)
  have H0 := Lib.hid h0
  have HZ0 := Lib.hid hz
  clear h0 hl hn hz
  by_cases hn5 : n ≤ 5
  · rw [decide_eq_true hn5] at HLt
    have HN5 := Lib.hid (show n ≤ 20 by omega)
    clear hn5
    go_enter Try.func9, Try.ntmps9
    go_wp2_with (go_at_call 46; refine HLt.out.mono ?_; rintro e w2 ⟨rfl, hb2⟩; have H2 := Lib.hid (H0.out.step hb2); clear hb2)
    have H3 := Lib.hid (H2.out.al (.cells #[.map none, .slice none 0 0, .slice none 0 0] 54))
    have hz : SDead (w2.alloc (.cells #[.map none, .slice none 0 0, .slice none 0 0] 54)) (.pointer (some ⟨w2.heap.size, 0, none⟩)) := .inr ⟨_, rfl, by simp, by simp⟩
    have HZ := Lib.hid hz
    clear hz
    go_loopw [18] (fun i wr => ∃ j : Nat, j ≤ 2 ∧ i = .int .i64 (j : Nat) ∧ HNAt w wr (.pointer none) A n c f x a ∧ SDead wr (.pointer (some ⟨w2.heap.size, 0, none⟩))) (fun i _ => 2 - (intOf i).toNat)
    case atStart => exact ⟨0, by omega, rfl, H3.out, HZ.out⟩
    case round =>
      obtain ⟨j, hj, rfl, hd, hz⟩ := hrel
      have HN := Lib.hid hd
      have HZ2 := Lib.hid hz
      clear hd hz
      by_cases h2 : j < 2
      · have p1 : (j : Int) < 2 := by omega
        have r := HN.out.r
        have c0 := (hp_cell (i := 0) r).trans rfl
        have c1 := (hp_cell (i := 1) r).trans rfl
        have c2 := (hp_cell (i := 2) r).trans rfl
        have c3 := (hp_cell (i := 3) r).trans rfl
        have c4 := (hp_cell (i := 4) r).trans rfl
        have c5 := (hp_cell (i := 5) r).trans rfl
        clear r
        rcases (by omega : j = 0 ∨ j = 1) with rfl | rfl
        · have N0 := Lib.hid (And.intro HN.out (And.intro (show SDead wr (.pointer none) from .inl rfl) HZ2.out))
          go_wp2_with (first
            | (go_at_call 52; have g5 := N4; clear g5; refine (hlen_dead _ 9 A n c f _ N4.out.2.1 N4.out.1.l HN5.out).mono ?_; rintro e w9 ⟨rfl, hb9⟩; have N5 := Lib.hid (And.intro (N4.out.1.step hb9) (And.intro (N4.out.2.1.below hb9) (N4.out.2.2.below hb9))); clear hb9)
            | (go_at_call 51; have g5 := N3; clear g5; have hp := hpush_dead none 9 A n c x a _ N3.out.2.1; unfold U at hp; refine hp.mono ?_; clear hp; rintro e w8 ⟨rfl, hb8⟩; have N4 := Lib.hid (And.intro (N3.out.1.step hb8) (And.intro (N3.out.2.1.below hb8) (N3.out.2.2.below hb8))); have r := N4.out.1.r; have c0 := (hp_cell (i := 0) r).trans rfl; have c1 := (hp_cell (i := 1) r).trans rfl; have c2 := (hp_cell (i := 2) r).trans rfl; have c3 := (hp_cell (i := 3) r).trans rfl; have c4 := (hp_cell (i := 4) r).trans rfl; have c5 := (hp_cell (i := 5) r).trans rfl; clear hb8 r)
            | (go_at_call 50; have g5 := N2; clear g5; refine (hlist_dead _ 9 A n c f _ N2.out.2.1 N2.out.1.l HN5.out).mono ?_; rintro e w7 ⟨rfl, hb7⟩; have N3 := Lib.hid (And.intro (N2.out.1.step hb7) (And.intro (N2.out.2.1.below hb7) (N2.out.2.2.below hb7))); have r := N3.out.1.r; have c0 := (hp_cell (i := 0) r).trans rfl; have c1 := (hp_cell (i := 1) r).trans rfl; have c2 := (hp_cell (i := 2) r).trans rfl; have c3 := (hp_cell (i := 3) r).trans rfl; have c4 := (hp_cell (i := 4) r).trans rfl; have c5 := (hp_cell (i := 5) r).trans rfl; clear hb7 r)
            | (go_at_call 49; have g5 := N1; clear g5; have hp := hlast_dead none 9 A n c f _ N1.out.2.1 N1.out.1.l HZ0.out HN5.out; rw [U_zero] at hp; refine hp.mono ?_; clear hp; rintro e w6 ⟨rfl, hb6⟩; have hb6a := hb6.alloc hb6.size (.cells #[.int .u64 0, .int .u64 0, .int .u64 0, .int .u64 0] 62); have N2 := Lib.hid (And.intro (N1.out.1.step hb6a) (And.intro (N1.out.2.1.below hb6a) (N1.out.2.2.below hb6a))); have r := N2.out.1.r; have c0 := (hp_cell (i := 0) r).trans rfl; have c1 := (hp_cell (i := 1) r).trans rfl; have c2 := (hp_cell (i := 2) r).trans rfl; have c3 := (hp_cell (i := 3) r).trans rfl; have c4 := (hp_cell (i := 4) r).trans rfl; have c5 := (hp_cell (i := 5) r).trans rfl; clear hb6 hb6a r)
            | (go_at_call 48; have hp := hat_dead none 9 A n c f x _ N0.out.2.1 N0.out.1.l HZ0.out HN5.out; rw [U_zero] at hp; refine hp.mono ?_; clear hp; rintro e w5 ⟨rfl, hb5⟩; have hb5a := hb5.alloc hb5.size (.cells #[.int .u64 0, .int .u64 0, .int .u64 0, .int .u64 0] 62); have N1 := Lib.hid (And.intro (N0.out.1.step hb5a) (And.intro (N0.out.2.1.below hb5a) (N0.out.2.2.below hb5a))); have r := N1.out.1.r; have c0 := (hp_cell (i := 0) r).trans rfl; have c1 := (hp_cell (i := 1) r).trans rfl; have c2 := (hp_cell (i := 2) r).trans rfl; have c3 := (hp_cell (i := 3) r).trans rfl; have c4 := (hp_cell (i := 4) r).trans rfl; have c5 := (hp_cell (i := 5) r).trans rfl; clear hb5 hb5a r))
          exact ⟨⟨1, by omega, rfl, N5.out.1, N5.out.2.2⟩, by simp [intOf]⟩
        · have N0 := Lib.hid (And.intro HN.out (And.intro HZ2.out HZ2.out))
          go_wp2_with (first
            | (go_at_call 52; have g5 := N4; clear g5; refine (hlen_dead _ 9 A n c f _ N4.out.2.1 N4.out.1.l HN5.out).mono ?_; rintro e w9 ⟨rfl, hb9⟩; have N5 := Lib.hid (And.intro (N4.out.1.step hb9) (And.intro (N4.out.2.1.below hb9) (N4.out.2.2.below hb9))); clear hb9)
            | (go_at_call 51; have g5 := N3; clear g5; have hp := hpush_dead (some ⟨w2.heap.size, 0, none⟩) 9 A n c x a _ N3.out.2.1; unfold U at hp; refine hp.mono ?_; clear hp; rintro e w8 ⟨rfl, hb8⟩; have N4 := Lib.hid (And.intro (N3.out.1.step hb8) (And.intro (N3.out.2.1.below hb8) (N3.out.2.2.below hb8))); have r := N4.out.1.r; have c0 := (hp_cell (i := 0) r).trans rfl; have c1 := (hp_cell (i := 1) r).trans rfl; have c2 := (hp_cell (i := 2) r).trans rfl; have c3 := (hp_cell (i := 3) r).trans rfl; have c4 := (hp_cell (i := 4) r).trans rfl; have c5 := (hp_cell (i := 5) r).trans rfl; clear hb8 r)
            | (go_at_call 50; have g5 := N2; clear g5; refine (hlist_dead _ 9 A n c f _ N2.out.2.1 N2.out.1.l HN5.out).mono ?_; rintro e w7 ⟨rfl, hb7⟩; have N3 := Lib.hid (And.intro (N2.out.1.step hb7) (And.intro (N2.out.2.1.below hb7) (N2.out.2.2.below hb7))); have r := N3.out.1.r; have c0 := (hp_cell (i := 0) r).trans rfl; have c1 := (hp_cell (i := 1) r).trans rfl; have c2 := (hp_cell (i := 2) r).trans rfl; have c3 := (hp_cell (i := 3) r).trans rfl; have c4 := (hp_cell (i := 4) r).trans rfl; have c5 := (hp_cell (i := 5) r).trans rfl; clear hb7 r)
            | (go_at_call 49; have g5 := N1; clear g5; have hp := hlast_dead (some ⟨w2.heap.size, 0, none⟩) 9 A n c f _ N1.out.2.1 N1.out.1.l HZ0.out HN5.out; rw [U_zero] at hp; refine hp.mono ?_; clear hp; rintro e w6 ⟨rfl, hb6⟩; have hb6a := hb6.alloc hb6.size (.cells #[.int .u64 0, .int .u64 0, .int .u64 0, .int .u64 0] 62); have N2 := Lib.hid (And.intro (N1.out.1.step hb6a) (And.intro (N1.out.2.1.below hb6a) (N1.out.2.2.below hb6a))); have r := N2.out.1.r; have c0 := (hp_cell (i := 0) r).trans rfl; have c1 := (hp_cell (i := 1) r).trans rfl; have c2 := (hp_cell (i := 2) r).trans rfl; have c3 := (hp_cell (i := 3) r).trans rfl; have c4 := (hp_cell (i := 4) r).trans rfl; have c5 := (hp_cell (i := 5) r).trans rfl; clear hb6 hb6a r)
            | (go_at_call 48; have hp := hat_dead (some ⟨w2.heap.size, 0, none⟩) 9 A n c f x _ N0.out.2.1 N0.out.1.l HZ0.out HN5.out; rw [U_zero] at hp; refine hp.mono ?_; clear hp; rintro e w5 ⟨rfl, hb5⟩; have hb5a := hb5.alloc hb5.size (.cells #[.int .u64 0, .int .u64 0, .int .u64 0, .int .u64 0] 62); have N1 := Lib.hid (And.intro (N0.out.1.step hb5a) (And.intro (N0.out.2.1.below hb5a) (N0.out.2.2.below hb5a))); have r := N1.out.1.r; have c0 := (hp_cell (i := 0) r).trans rfl; have c1 := (hp_cell (i := 1) r).trans rfl; have c2 := (hp_cell (i := 2) r).trans rfl; have c3 := (hp_cell (i := 3) r).trans rfl; have c4 := (hp_cell (i := 4) r).trans rfl; have c5 := (hp_cell (i := 5) r).trans rfl; clear hb5 hb5a r))
          exact ⟨⟨2, by omega, rfl, N5.out.1, N5.out.2.2⟩, by simp [intOf]⟩
      · have p1 : ¬ (j : Int) < 2 := by omega
        go_wp2_with (first
          | (go_at_call 47; refine (lives11_walk _).mono ?_; rintro e w9 ⟨rfl, hb9⟩; have HB9 := Lib.hid (HB8.out.trans (hb9.mono HB8.out.size)); clear hb9)
          | (go_at_call 53; refine (rkey9n _).mono ?_; rintro e w8 ⟨rfl, hb8⟩; have HB8 := Lib.hid hb8; clear hb8))
        go_ret
        exact ⟨rfl, HN.out.bl.trans (HB9.out.mono HN.out.bl.size)⟩
  · rw [decide_eq_false hn5] at HLt
    go_enter Try.func9, Try.ntmps9
    go_wp2_with (first
      | (go_at_call 47; refine (lives11_walk _).mono ?_; rintro e w9 ⟨rfl, hb9⟩; have HB9 := Lib.hid hb9; clear hb9)
      | (go_at_call 46; refine HLt.out.mono ?_; rintro e w2 ⟨rfl, hb2⟩; have H2 := Lib.hid (H0.out.step hb2); clear hb2))
    go_ret
    exact ⟨rfl, H2.out.bl.trans (HB9.out.mono H2.out.bl.size)⟩
end Go.Proofs.Ytjpikgfplfgcfaa

namespace Go.Proofs.Ytjpikgfplfgcfaa
open Go.ChangeShapes Go.WideShapes Go.ChangeAt Go.RowKit

theorem cells_push11 : Try.prog.cellsOf 81 = 6 := by kernel_rfl
theorem cells_push11_U : Try.prog.cellsOf 62 = 4 := by kernel_rfl
theorem cells_push11_il : Try.prog.cellsOf 67 = 1 := by kernel_rfl
theorem cells_push11_int : Try.prog.cellsOf 3 = 1 := by kernel_rfl
theorem list_push11 {α : Type} (l : List α) (h : l.length = 6) : ∃ b0 b1 b2 b3 b4 b5, l = [b0, b1, b2, b3, b4, b5] := by
  match l, h with
  | [b0, b1, b2, b3, b4, b5], _ => exact ⟨b0, b1, b2, b3, b4, b5, rfl⟩
theorem listy_push11 {α : Type} (l : List α) (h : l.length = 3) : ∃ y0 y1 y2, l = [y0, y1, y2] := by
  match l, h with
  | [y0, y1, y2], _ => exact ⟨y0, y1, y2, rfl⟩
section
variable {H : Type} {enc : TypeId × Value → H} {W : World} {base : Nat}
set_option maxRecDepth 100000 in
theorem open_il_push11 {b : Value} {m : Nat} {y : DataW H × List MemPlace} (hf : DataW.trod enc Try.prog W 0 (fun _ => true) true m 67 [b] = some y) :
    ∃ A n c f, b = .slice A n c ∧ (n : Int) ≤ 9223372036854775807 ∧ Il W A n f ∧ (A = none → n = 0 ∧ c = 0) := by
  rcases open_ints Try.underlying67 Try.underlying3 (show Try.prog.cellsOf 3 = 1 by kernel_rfl) hf with ⟨hcs, hx⟩ | ⟨a, n, c, zs, hcs, _, hl, hm, hz, hx, hcell, hwz⟩
  · simp only [List.cons.injEq, and_true] at hcs
    subst hcs
    exact ⟨none, 0, 0, fun _ => 0, rfl, by decide, ⟨fun _ => by show (0 : Int) < 2 ^ 63; decide, fun h => absurd h (by omega)⟩, fun _ => ⟨rfl, rfl⟩⟩
  · simp only [List.cons.injEq, and_true] at hcs
    subst hcs
    simp only [if_true] at hz
    refine ⟨some a, n, c, fun i => zs.getD i 0, rfl, ?_, ⟨fun i => ?_, fun hn => ?_⟩, fun h => by cases h⟩
    · have hh := hm
      simp [maxLen] at hh
      omega
    · rcases Nat.lt_or_ge i zs.length with hi | hi
      · have := bounds_i64 (hwz (zs.getD i 0) (by simp [List.getD, List.getElem?_eq_getElem hi]))
        show zs.getD i 0 < 2 ^ 63
        omega
      · simp only [List.getD, List.getElem?_eq_none hi, Option.getD_none]; decide
    · have hc0 := hcell 0 (by omega)
      have hlt := World.block_lt_of_cell? W _ hc0
      obtain ⟨g, o, sp⟩ := a
      have hspot : sp = none := by simpa [Addr.add] using World.cell?_spot hc0
      subst hspot
      exact ⟨g, o, rfl, hlt, fun i hi => by rw [← add_plain]; exact hcell i (by omega)⟩
set_option maxRecDepth 100000 in
theorem open_u_push11 {m : Nat} {c0 c1 c2 c3 : Value} {x : DataW H × List MemPlace} (hf : DataW.trod enc Try.prog W 0 (fun _ => true) true m 62 [c0, c1, c2, c3] = some x) :
    ∃ a, a < 2 ^ 256 ∧ c0 = .int .u64 (limb a 0 : Nat) ∧ c1 = .int .u64 (limb a 1 : Nat) ∧ c2 = .int .u64 (limb a 2 : Nat) ∧ c3 = .int .u64 (limb a 3 : Nat) := by
  obtain ⟨y0, y1, y2, y3, m, hx, hy0, hy1, hy2, hy3⟩ := trod_array4 Try.underlying62 (show Try.prog.cellsOf 60 = 1 by kernel_rfl) hf
  obtain ⟨x0, e0, rfl, w0⟩ := DataW.trod_int Try.underlying60 hy0
  obtain ⟨x1, e1, rfl, w1⟩ := DataW.trod_int Try.underlying60 hy1
  obtain ⟨x2, e2, rfl, w2⟩ := DataW.trod_int Try.underlying60 hy2
  obtain ⟨x3, e3, rfl, w3⟩ := DataW.trod_int Try.underlying60 hy3
  simp at e0 e1 e2 e3
  have hb0 := bounds_u64 w0
  have hb1 := bounds_u64 w1
  have hb2 := bounds_u64 w2
  have hb3 := bounds_u64 w3
  obtain ⟨n0, rfl⟩ : ∃ n : Nat, x0 = (n : Int) := ⟨x0.toNat, by omega⟩
  obtain ⟨n1, rfl⟩ : ∃ n : Nat, x1 = (n : Int) := ⟨x1.toNat, by omega⟩
  obtain ⟨n2, rfl⟩ : ∃ n : Nat, x2 = (n : Int) := ⟨x2.toNat, by omega⟩
  obtain ⟨n3, rfl⟩ : ∃ n : Nat, x3 = (n : Int) := ⟨x3.toNat, by omega⟩
  have hl : ∀ i, i < 4 → (fun i => match i with | 0 => n0 | 1 => n1 | 2 => n2 | _ => n3 : Nat → Nat) i < 2 ^ 64 := fun i hi => by
    rcases (by omega : i = 0 ∨ i = 1 ∨ i = 2 ∨ i = 3) with rfl | rfl | rfl | rfl
    · show n0 < 2 ^ 64; omega
    · show n1 < 2 ^ 64; omega
    · show n2 < 2 ^ 64; omega
    · show n3 < 2 ^ 64; omega
  refine ⟨val (fun i => match i with | 0 => n0 | 1 => n1 | 2 => n2 | _ => n3 : Nat → Nat) 4, val_lt 4 hl, ?_, ?_, ?_, ?_⟩
  · rw [e0, limb_val 4 hl 0 (by omega)]; rfl
  · rw [e1, limb_val 4 hl 1 (by omega)]; rfl
  · rw [e2, limb_val 4 hl 2 (by omega)]; rfl
  · rw [e3, limb_val 4 hl 3 (by omega)]; rfl
set_option maxRecDepth 100000 in
theorem open_push11 {v : Value} {d : DataW H} {p : List MemPlace} (hv : Value.okWide Try.prog W .any base 81 v) (h : DataW.Trod enc Try.prog W 0 (fun _ => true) true 81 v d p) :
    ∃ A0 k0 c0 f50 x1 a2, v = .agg #[.slice A0 k0 c0, .int .i64 x1, .int .u64 (limb a2 0 : Nat), .int .u64 (limb a2 1 : Nat), .int .u64 (limb a2 2 : Nat), .int .u64 (limb a2 3 : Nat)] ∧ ((k0 : Int) ≤ 9223372036854775807) ∧ (Il W A0 k0 f50) ∧ (A0 = none → k0 = 0 ∧ c0 = 0) ∧ (-9223372036854775808 ≤ x1 ∧ x1 < 2 ^ 63) ∧ (a2 < 2 ^ 256) := by
  obtain ⟨cs, rfl, hsz, _⟩ : ∃ cs, v = .agg cs ∧ cs.size = Try.prog.cellsOf 81 ∧ Row.okWide Try.prog W .any base 81 cs := by
    simpa [Value.okWide, Try.underlying81] using hv
  rw [cells_push11] at hsz
  obtain ⟨l⟩ := cs
  obtain ⟨b0, b1, b2, b3, b4, b5, rfl⟩ := list_push11 l hsz
  obtain ⟨fuel, hf⟩ := h
  obtain ⟨ys, n2, _, _, _, hyl, hf⟩ := DataW.trod_struct Try.underlying81 hf
  obtain ⟨y0, y1, y2, rfl⟩ := listy_push11 ys hyl
  have f0 : DataW.trod enc Try.prog W 0 (fun _ => true) true n2 67 (([b0, b1, b2, b3, b4, b5].drop 0).take (Try.prog.cellsOf 67)) = some y0 := hf 0 _ rfl
  rw [cells_push11_il] at f0
  replace f0 : DataW.trod enc Try.prog W 0 (fun _ => true) true n2 67 [b0] = some y0 := f0
  have f1 : DataW.trod enc Try.prog W 0 (fun _ => true) true n2 3 (([b0, b1, b2, b3, b4, b5].drop 1).take (Try.prog.cellsOf 3)) = some y1 := hf 1 _ rfl
  rw [cells_push11_int] at f1
  replace f1 : DataW.trod enc Try.prog W 0 (fun _ => true) true n2 3 [b1] = some y1 := f1
  have f2 : DataW.trod enc Try.prog W 0 (fun _ => true) true n2 62 (([b0, b1, b2, b3, b4, b5].drop 2).take (Try.prog.cellsOf 62)) = some y2 := hf 2 _ rfl
  rw [cells_push11_U] at f2
  replace f2 : DataW.trod enc Try.prog W 0 (fun _ => true) true n2 62 [b2, b3, b4, b5] = some y2 := f2
  obtain ⟨A0, k0, c0, f50, rfl, hn0, hl0, hz0⟩ := open_il_push11 f0
  obtain ⟨x1, e1, _, w1⟩ := DataW.trod_int Try.underlying3 f1
  simp at e1
  subst e1
  have h1 := bounds_i64 w1
  obtain ⟨a2, ha2, rfl, rfl, rfl, rfl⟩ := open_u_push11 f2
  exact ⟨A0, k0, c0, f50, x1, a2, rfl, hn0, hl0, hz0, ⟨by omega, by omega⟩, ha2⟩
end
end Go.Proofs.Ytjpikgfplfgcfaa
