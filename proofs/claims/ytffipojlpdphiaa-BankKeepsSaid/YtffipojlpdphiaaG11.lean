/- delay on a live store: a value's row, put, Get, Set of the document's example; lives of layer 28. -/
import Derived.Test.YtffipojlpdphiaaG10
import Derived.Test.YtffipojlpdphiaaG09
namespace Go.Proofs.Ytffipojlpdphiaa
open Go.RowKit Go.Maps

/-- the numbers of a value's row -/
def rowF (h : Bool) (n x a : Int) (m : Bool) : Nat → Int
  | 0 => if h then 1 else 0
  | 1 => n
  | 2 => if m then 1 else 0
  | 3 => x
  | _ => a
set_option maxRecDepth 100000 in
set_option maxHeartbeats 2000000 in
theorem drow_walk (h : Bool) (n x a : Int) (m : Bool) (w : World) (hn : n < 2 ^ 63) (hx : x < 2 ^ 63) (ha : a < 2 ^ 63) : Calls Try.prog 123 #[dval h n x a m] w fun e w' => (∃ g, e = .returned (.slice (some ⟨g, 0, none⟩) 5 5) ∧ Il w' (some ⟨g, 0, none⟩) 5 (rowF h n x a m)) ∧ Below w.heap.size w w' := by
  obtain ⟨i1, e1⟩ : ∃ i : Int, i = if h then 1 else 0 := ⟨_, rfl⟩
  obtain ⟨i2, e2⟩ : ∃ i : Int, i = if m then 1 else 0 := ⟨_, rfl⟩
  have hb1 := (Below.refl w.heap.size w).alloc (Nat.le_refl _) (.cells #[.bool h, .int .i64 n, .int .i64 x, .int .i64 a, .bool m] 101)
  have HB1 := Lib.hid hb1
  have HF1 := Lib.hid (fun w => show Calls Try.prog 169 #[.bool h] w fun e w' => e = .returned (.int .i64 i1) ∧ w = w' from by rw [e1]; exact flag_walk h w)
  have HF2 := Lib.hid (fun w => show Calls Try.prog 169 #[.bool m] w fun e w' => e = .returned (.int .i64 i2) ∧ w = w' from by rw [e2]; exact flag_walk m w)
  have HE := Lib.hid (And.intro e1 (And.intro e2 (And.intro hn (And.intro hx ha))))
  clear hb1 e1 e2 hn hx ha
  unfold dval
  go_enter Try.func123, Try.ntmps123
  go_upto_region 1 with fail
  go_region_held3 (fun w' => w'.cell? ⟨w.heap.size, 0, none⟩ = some (.bool h) ∧ w'.cell? ⟨w.heap.size, 1, none⟩ = some (.int .i64 n) ∧ w'.cell? ⟨w.heap.size, 2, none⟩ = some (.int .i64 x) ∧ w'.cell? ⟨w.heap.size, 3, none⟩ = some (.int .i64 a) ∧ w'.cell? ⟨w.heap.size, 4, none⟩ = some (.bool m))
    ((simp [go_sem, World.cell?_alloc_past]))
    ((first
      | (go_at_call 169; with_reducible refine (HF1.out _).mono ?_; rintro e w1 ⟨rfl, rfl⟩)
      | (go_at_call 169; with_reducible refine (HF2.out _).mono ?_; rintro e w1 ⟨rfl, rfl⟩)))
  all_goals
    go_wp2
    go_ret
    refine ⟨⟨_, rfl, fun i => ?_, fun _ => ⟨w.heap.size + 1, 0, rfl, ?_, fun i hi => ?_⟩⟩, ?_⟩
    · obtain ⟨e1, e2, hn, hx, ha⟩ := HE.out
      rcases i with _ | _ | _ | _ | i
      · show (if h then (1 : Int) else 0) < 2 ^ 63
        split <;> decide
      · exact hn
      · show (if m then (1 : Int) else 0) < 2 ^ 63
        split <;> decide
      · exact hx
      · exact ha
    · show w.heap.size + 1 < ((w.alloc _).alloc _).heap.size
      simp only [World.size_alloc]
      omega
    · obtain ⟨e1, e2, hn, hx, ha⟩ := HE.out
      refine (World.cell?_alloc_at _ _ _ _ (by simp)).trans ?_
      rcases (by omega : i = 0 ∨ i = 1 ∨ i = 2 ∨ i = 3 ∨ i = 4) with rfl | rfl | rfl | rfl | rfl
      · rw [e1]; rfl
      · rfl
      · rw [e2]; rfl
      · rfl
      · rfl
    · exact (HB1.out.alloc HB1.out.size _).drew
theorem rowF_nonneg {h : Bool} {n x a : Int} {m : Bool} (hn : 0 ≤ n) (hx : 0 ≤ x) (ha : 0 ≤ a) : ∀ i, i < 5 → 0 ≤ rowF h n x a m i := by
  intro i hi
  rcases (by omega : i = 0 ∨ i = 1 ∨ i = 2 ∨ i = 3 ∨ i = 4) with rfl | rfl | rfl | rfl | rfl
  · show (0 : Int) ≤ if h then 1 else 0
    split <;> decide
  · exact hn
  · show (0 : Int) ≤ if m then 1 else 0
    split <;> decide
  · exact hx
  · exact ha
set_option maxRecDepth 100000 in
set_option maxHeartbeats 1000000 in
theorem dput_walk {w W : World} {b : Nat} {F : List Nat} {L : SL} {q : Nat} {qs : List Value} (hs : SNew w W b F L q qs) (k : ByteArray) (h : Bool) (n x a : Int) (m : Bool) (hn : 0 ≤ n ∧ n < 2 ^ 63) (hx : 0 ≤ x ∧ x < 2 ^ 63) (ha : 0 ≤ a ∧ a < 2 ^ 63)
    (hk : k.size ≤ maxLen) (hk0 : k ≠ ⟨#[]⟩) (hN : L.length < 1000000) (hq : q < 1000000) :
    Calls Try.prog 122 #[.pointer (some ⟨b, 0, none⟩), .string k, .func (Fn.func 123) #[dval h n x a m] #[]] W fun e W' => e = .returned (.tuple #[]) ∧ LiveTo w W W' b F (setL L k (rowV (rowF h n x a m) 5)) (q + 1) := by
  have HR := Lib.hid (drow_walk h n x a m W hn.2 hx.2 ha.2)
  have HS := Lib.hid (fun (W1 : World) (hb : Below W.heap.size W W1) (g : Nat) (hl : Il W1 (some ⟨g, 0, none⟩) 5 (rowF h n x a m)) => (csetRow_set (hs.below hb) k (some ⟨g, 0, none⟩) 5 5 (rowF h n x a m) hl (by omega) (by omega) (rowF_nonneg hn.1 hx.1 ha.1) hk hk0 hN hq).mono fun e W' hp => (⟨hp.1, hp.2.pre hb⟩ : e = .returned (.tuple #[]) ∧ LiveTo w W W' b F (setL L k (rowV (rowF h n x a m) 5)) (q + 1)))
  obtain ⟨V, hV⟩ : ∃ y, y = dval h n x a m := ⟨_, rfl⟩
  obtain ⟨L', hL'⟩ : ∃ y, y = setL L k (rowV (rowF h n x a m) 5) := ⟨_, rfl⟩
  rw [← hL'] at HS ⊢
  rw [← hV] at HR ⊢
  clear hs hn hx ha hk hk0 hN hq hV hL'
  go_enter Try.func122, Try.ntmps122
  go_wp2_with (first
    | (go_at_call 73; refine (HS.out w1 HB1.out g HI.out).mono ?_; rintro e w2 ⟨rfl, h2⟩; have H2 := Lib.hid h2; clear h2)
    | (go_at_call 123; refine HR.out.mono ?_; rintro e w1 ⟨⟨g, rfl, hi⟩, hb1⟩; have HI := Lib.hid hi; have HB1 := Lib.hid hb1; clear hb1 hi))
  go_end0
  exact ⟨rfl, H2.out⟩
/-- the example's key -/
def K25 : ByteArray := ⟨#[25, 0, 0, 0, 0, 0, 0, 0, 7]⟩
theorem key25 : keyStr 25 (fun _ => 7) 1 = K25 := by decide +kernel
/-- the example's value, and its row -/
def V25 : Value := dval false 0 5 13 true
abbrev f25 : Nat → Int := rowF false 0 5 13 true
set_option maxRecDepth 100000 in
set_option maxHeartbeats 1000000 in
theorem dget_none {w W : World} {b : Nat} {F : List Nat} {L : SL} {q : Nat} {qs : List Value} (hs : SNew w W b F L q qs) (he : sget L K25 = none) (A : Option Addr) (c : Nat) (hl : Il W A 1 (fun _ => 7)) :
    Calls Try.prog 55 #[.pointer (some ⟨b, 0, none⟩), .int .i64 25, .slice A 1 c] W fun e W' => e = .returned dv0 ∧ Below W.heap.size W W' := by
  have hb0 := (Below.refl W.heap.size W).alloc (Nat.le_refl _) (.cells #[.bool false, .int .i64 0, .int .i64 0, .int .i64 0, .bool false] 101)
  have HB0 := Lib.hid hb0
  have HK := Lib.hid (key_walk 25 A 1 c (fun _ => 7) _ (hl.below hb0) (by omega))
  rw [show KeyPost 25 (fun _ => 7) 1 = fun w e w' => e = .returned (.string K25) ∧ Below w.heap.size w w' from by funext w e w'; unfold KeyPost; rw [key25]] at HK
  have HRw := Lib.hid (fun (W1 : World) (hb : Below W.heap.size W W1) => crow_none (hs.below hb) K25 (by decide) he)
  obtain ⟨kk, hkk⟩ : ∃ x, x = K25 := ⟨_, rfl⟩
  rw [← hkk] at HK HRw
  have r0 : (W.alloc (.cells #[.bool false, .int .i64 0, .int .i64 0, .int .i64 0, .bool false] 101)).heap[W.heap.size]? = some (.cells #[.bool false, .int .i64 0, .int .i64 0, .int .i64 0, .bool false] 101 (0, 0)) := heap_alloc_new _ _
  have R0 := Lib.hid r0
  have Z0 := Lib.hid (hp_lt r0)
  clear hs hl hb0 r0 he hkk
  unfold dv0
  go_enter Try.func55, Try.ntmps55
  go_wp2_with (first
    | (go_at_call 125; refine (HRw.out w1 HB1.out).mono ?_; rintro e w2 ⟨⟨g, rfl⟩, hb2⟩; have HB2 := Lib.hid (HB1.out.trans (hb2.mono HB1.out.size)); have r2 := (hb2.block W.heap.size (Nat.lt_of_lt_of_le Z0.out Z1.out)).trans R1.out; have c0 := (hp_cell (i := 0) r2).trans rfl; have g0 := hp_free (i := 0) r2; have c1 := (hp_cell (i := 1) r2).trans rfl; have g1 := hp_free (i := 1) r2; have c2 := (hp_cell (i := 2) r2).trans rfl; have g2 := hp_free (i := 2) r2; have c3 := (hp_cell (i := 3) r2).trans rfl; have g3 := hp_free (i := 3) r2; have c4 := (hp_cell (i := 4) r2).trans rfl; have g4 := hp_free (i := 4) r2; have Z2 := Lib.hid (hp_lt r2); clear hb2 r2)
    | (go_at_call 72; refine HK.out.mono ?_; rintro e w1 ⟨rfl, hb1⟩; have HB1 := Lib.hid (HB0.out.trans (hb1.mono HB0.out.size)); have R1 := Lib.hid ((hb1.block W.heap.size Z0.out).trans R0.out); have Z1 := Lib.hid hb1.size; clear hb1))
  refine bodyPost_ret (v := .agg #[.bool false, .int .i64 0, .int .i64 0, .int .i64 0, .bool false]) (by simp [results, Try.results55, go_sem, c0, c1, c2, c3, c4]) rfl ⟨rfl, ?_⟩
  exact ((((HB2.out.setCell (Nat.le_refl _) _).setCell (Nat.le_refl _) _).setCell (Nat.le_refl _) _).setCell (Nat.le_refl _) _).setCell (Nat.le_refl _) _
set_option maxRecDepth 100000 in
set_option maxHeartbeats 1000000 in
theorem dget_some {w W : World} {b : Nat} {F : List Nat} {L : SL} {q : Nat} {qs : List Value} (hs : SNew w W b F L q qs) (he : sget L K25 = some (rowV f25 5)) (A : Option Addr) (c : Nat) (hl : Il W A 1 (fun _ => 7)) :
    Calls Try.prog 55 #[.pointer (some ⟨b, 0, none⟩), .int .i64 25, .slice A 1 c] W fun e W' => e = .returned V25 ∧ Below W.heap.size W W' := by
  have hb0 := (Below.refl W.heap.size W).alloc (Nat.le_refl _) (.cells #[.bool false, .int .i64 0, .int .i64 0, .int .i64 0, .bool false] 101)
  have HB0 := Lib.hid hb0
  have HK := Lib.hid (key_walk 25 A 1 c (fun _ => 7) _ (hl.below hb0) (by omega))
  rw [show KeyPost 25 (fun _ => 7) 1 = fun w e w' => e = .returned (.string K25) ∧ Below w.heap.size w w' from by funext w e w'; unfold KeyPost; rw [key25]] at HK
  have hf5 : ∀ i, i < 5 → 0 ≤ f25 i ∧ f25 i < 2 ^ 63 := by
    intro i hi
    rcases (by omega : i = 0 ∨ i = 1 ∨ i = 2 ∨ i = 3 ∨ i = 4) with rfl | rfl | rfl | rfl | rfl <;> decide
  have HRw := Lib.hid (fun (W1 : World) (hb : Below W.heap.size W W1) => crow_some (hs.below hb) K25 f25 5 (by omega) (by omega) hf5 (by decide) he)
  obtain ⟨kk, hkk⟩ : ∃ x, x = K25 := ⟨_, rfl⟩
  rw [← hkk] at HK HRw
  have r0 : (W.alloc (.cells #[.bool false, .int .i64 0, .int .i64 0, .int .i64 0, .bool false] 101)).heap[W.heap.size]? = some (.cells #[.bool false, .int .i64 0, .int .i64 0, .int .i64 0, .bool false] 101 (0, 0)) := heap_alloc_new _ _
  have R0 := Lib.hid r0
  have Z0 := Lib.hid (hp_lt r0)
  clear hs hl hb0 r0 he hkk hf5
  unfold V25 dval
  go_enter Try.func55, Try.ntmps55
  go_upto_region 4 with (first
    | (go_at_call 125; refine (HRw.out w1 HB1.out).mono ?_; rintro e w2 ⟨⟨g, rfl, hcc, hgl⟩, hb2⟩; have HB2 := Lib.hid (HB1.out.trans (hb2.mono HB1.out.size)); have r2 := (hb2.block W.heap.size (Nat.lt_of_lt_of_le Z0.out Z1.out)).trans R1.out; have c0 := (hp_cell (i := 0) r2).trans rfl; have g0 := hp_free (i := 0) r2; have c1 := (hp_cell (i := 1) r2).trans rfl; have g1 := hp_free (i := 1) r2; have c2 := (hp_cell (i := 2) r2).trans rfl; have g2 := hp_free (i := 2) r2; have c3 := (hp_cell (i := 3) r2).trans rfl; have g3 := hp_free (i := 3) r2; have c4 := (hp_cell (i := 4) r2).trans rfl; have g4 := hp_free (i := 4) r2; have Z2 := Lib.hid (hp_lt r2); have x0 : w2.cell? ⟨g, 0, none⟩ = some (.int .i64 0) := hcc 0 (by omega); have x1 : w2.cell? ⟨g, 1, none⟩ = some (.int .i64 0) := hcc 1 (by omega); have x2 : w2.cell? ⟨g, 2, none⟩ = some (.int .i64 1) := hcc 2 (by omega); have x3 : w2.cell? ⟨g, 3, none⟩ = some (.int .i64 5) := hcc 3 (by omega); have x4 : w2.cell? ⟨g, 4, none⟩ = some (.int .i64 13) := hcc 4 (by omega); clear hb2 r2 hcc hgl)
    | (go_at_call 72; refine HK.out.mono ?_; rintro e w1 ⟨rfl, hb1⟩; have HB1 := Lib.hid (HB0.out.trans (hb1.mono HB0.out.size)); have R1 := Lib.hid ((hb1.block W.heap.size Z0.out).trans R0.out); have Z1 := Lib.hid hb1.size; clear hb1))
  go_still_tail 18, (by kernel_rfl)
  go_wp2
  refine bodyPost_ret (v := .agg #[.bool false, .int .i64 0, .int .i64 5, .int .i64 13, .bool true]) (by simp [results, Try.results55, go_sem, c0, c1, c2, c3, c4]) rfl ⟨rfl, ?_⟩
  exact ((((((HB2.out.setCell (Nat.le_refl _) _).setCell (Nat.le_refl _) _).setCell (Nat.le_refl _) _).setCell (Nat.le_refl _) _).setCell (Nat.le_refl _) _)).drew
end Go.Proofs.Ytffipojlpdphiaa

namespace Go.Proofs.Ytffipojlpdphiaa
open Go.RowKit Go.Maps

set_option maxRecDepth 100000 in
theorem dwithin_ok (x : Int) (w : World) (h1 : 0 ≤ x) (h2 : x ≤ 1099511627776) : Calls Try.prog 121 #[.int .i64 x] w fun e w' => e = .returned (.bool true) ∧ w = w' := by
  go_enter Try.func121, Try.ntmps121
  go_wp2
  go_ret
  exact ⟨rfl, rfl⟩
def L25 : SL := [(K25, rowV f25 5)]
theorem L25_get : sget L25 K25 = some (rowV f25 5) := by simp [L25, sget, keq_self]
theorem L25_set : setL [] K25 (rowV f25 5) = L25 := by
  unfold setL
  rw [if_neg (by simp [sget])]
  rfl
set_option maxRecDepth 100000 in
set_option maxHeartbeats 4000000 in
theorem dset_walk {w W : World} {b : Nat} {F : List Nat} {q : Nat} {qs : List Value} (hs : SNew w W b F [] q qs) (hq : q < 1000000) (A : Option Addr) (c : Nat) (hl : Il W A 1 (fun _ => 7)) :
    Calls Try.prog 53 #[.pointer (some ⟨b, 0, none⟩), .int .i64 25, .slice A 1 c, .int .i64 5, .int .i64 10, .int .i64 3] W fun e W' => e = .returned (.int .i64 0) ∧ LiveTo w W W' b F L25 (q + 1) := by
  have HM := Lib.hid (made_live b F [] q qs W hs.s)
  have HK := Lib.hid (key_walk 25 A 1 c (fun _ => 7) W hl (by omega))
  rw [show KeyPost 25 (fun _ => 7) 1 = fun w e w' => e = .returned (.string K25) ∧ Below w.heap.size w w' from by funext w e w'; unfold KeyPost; rw [key25]] at HK
  have HG := Lib.hid (fun (W1 : World) (hb : Below W.heap.size W W1) => dget_none (hs.below hb) rfl A c (hl.below hb))
  have HP := Lib.hid (fun (W1 : World) (hb : Below W.heap.size W W1) => (dput_walk (hs.below hb) K25 false 0 5 13 true (by decide) (by decide) (by decide) (by decide) (by decide) (by decide) hq).mono fun e W' hp => (⟨hp.1, by rw [← L25_set]; exact hp.2.pre hb⟩ : e = .returned (.tuple #[]) ∧ LiveTo w W W' b F L25 (q + 1)))
  have HS0 := Lib.hid (settle0 10)
  have HS1 := Lib.hid (fun w => settle_stays false 0 5 13 10 w (by decide))
  have HKne := ba_nil (k := K25) (by decide)
  obtain ⟨kk, hkk⟩ : ∃ x, x = K25 := ⟨_, rfl⟩
  rw [← hkk] at HK HP HKne
  obtain ⟨LL, hLL⟩ : ∃ x, x = L25 := ⟨_, rfl⟩
  rw [← hLL] at HP ⊢
  clear hs hq hl hkk hLL
  unfold dv0 at HG HS0
  unfold dval at HP HS1
  go_enter Try.func53, Try.ntmps53
  go_wp2_with (first
    | (go_at_call 122; refine (HP.out _ (((((HB9.out.setCell HB8.out.size _).setCell HB8.out.size _).setCell HB8.out.size _).setCell HB8.out.size _).setCell HB8.out.size _)).mono ?_; rintro e w10 ⟨rfl, h10⟩; have H10 := Lib.hid h10; clear h10)
    | (go_at_call 59; have g8 := HB8; clear g8; with_reducible refine (HS1.out _).mono ?_; rintro e w9 ⟨rfl, hb9⟩; have ra := (hb9.block w7.heap.size (by simp; have := Z8.out; omega)).trans ((heap_alloc_old w8 (.cells #[.bool false, .int .i64 0, .int .i64 5, .int .i64 13, .bool true] 101) Z8.out).trans R8.out); have rb := (hb9.block w8.heap.size (by simp)).trans (heap_alloc_new w8 (.cells #[.bool false, .int .i64 0, .int .i64 5, .int .i64 13, .bool true] 101)); have a0 := (hp_cell (i := 0) ra).trans rfl; have b0 := (hp_cell (i := 0) rb).trans rfl; have g0 := hp_free (i := 0) rb; have a1 := (hp_cell (i := 1) ra).trans rfl; have b1 := (hp_cell (i := 1) rb).trans rfl; have g1 := hp_free (i := 1) rb; have a2 := (hp_cell (i := 2) ra).trans rfl; have b2 := (hp_cell (i := 2) rb).trans rfl; have g2 := hp_free (i := 2) rb; have a3 := (hp_cell (i := 3) ra).trans rfl; have b3 := (hp_cell (i := 3) rb).trans rfl; have g3 := hp_free (i := 3) rb; have a4 := (hp_cell (i := 4) ra).trans rfl; have b4 := (hp_cell (i := 4) rb).trans rfl; have g4 := hp_free (i := 4) rb; have hbg := HB8.out.alloc HB8.out.size (.cells #[.bool false, .int .i64 0, .int .i64 5, .int .i64 13, .bool true] 101); have HB9 := Lib.hid (hbg.trans (hb9.mono hbg.size)); have Z9 := hp_lt ra; have Y9 := hp_lt rb; have Z8' := Z8.out; clear hb9 hbg ra rb)
    | (go_at_call 59; with_reducible refine (HS0.out _).mono ?_; rintro e w8 ⟨rfl, hb8⟩; have hbg := HB7.out.alloc HB7.out.size (.cells #[.bool false, .int .i64 0, .int .i64 0, .int .i64 0, .bool false] 101); have HB8 := Lib.hid (hbg.trans (hb8.mono hbg.size)); have R8 := Lib.hid ((hb8.block w7.heap.size (by simp)).trans (heap_alloc_new w7 (.cells #[.bool false, .int .i64 0, .int .i64 0, .int .i64 0, .bool false] 101))); have Z8 := Lib.hid (hp_lt R8.out); clear hb8 hbg)
    | (go_at_call 55; refine (HG.out w6 HB6.out).mono ?_; rintro e w7 ⟨rfl, hb7⟩; have HB7 := Lib.hid (HB6.out.trans (hb7.mono HB6.out.size)); clear hb7)
    | (go_at_call 121; refine (dwithin_ok _ _ (by decide) (by decide)).mono ?_; rintro e w5 ⟨rfl, rfl⟩)
    | (go_at_call 72; refine HK.out.mono ?_; rintro e w6 ⟨rfl, hb6⟩; have HB6 := Lib.hid hb6; clear hb6)
    | (go_at_call 70; refine HM.out.mono ?_; rintro e w1 ⟨rfl, rfl⟩))
  go_ret
  exact ⟨rfl, H10.out⟩
theorem il7 (w : World) : Il (w.alloc (.cells #[.int .i64 7] 3)) (some ⟨w.heap.size, 0, none⟩) 1 (fun _ => 7) :=
  ⟨fun _ => by decide, fun _ => ⟨w.heap.size, 0, rfl, by simp, fun i hi => by obtain rfl : i = 0 := (by omega); exact (World.cell?_alloc_at _ _ _ _ rfl).trans rfl⟩⟩
theorem SNew.al {w W : World} {b : Nat} {F : List Nat} {L : SL} {q : Nat} {qs : List Value} (h : SNew w W b F L q qs) (o : Obj) : SNew w (W.alloc o) b F L q qs := h.below ((Below.refl _ _).alloc (Nat.le_refl _) o)
set_option maxRecDepth 100000 in
set_option maxHeartbeats 4000000 in
theorem lives28_walk (w : World) : Calls Try.prog 52 #[] w fun e w' => e = .returned (.bool true) ∧ Below w.heap.size w w' := by
  have H12 := Lib.hid (fun w => show Calls Try.prog 57 #[V25, .int .i64 12] w fun e w' => e = .returned (.tuple #[.int .i64 0, .bool false]) ∧ Below w.heap.size w w' from of_of false 0 5 13 true false 0 5 13 true 12 w fun w => settle_stays false 0 5 13 12 w (by decide))
  have H13 := Lib.hid (fun w => show Calls Try.prog 57 #[V25, .int .i64 13] w fun e w' => e = .returned (.tuple #[.int .i64 5, .bool true]) ∧ Below w.heap.size w w' from of_of false 0 5 13 true true 5 0 0 false 13 w fun w => settle_turns false 0 5 13 13 w (by decide))
  go_enter Try.func52, Try.ntmps52
  go_wp2_with (first
    | (go_at_call 57; have g5 := h5; clear g5; refine (H13.out _).mono ?_; rintro e w6 ⟨rfl, hb6⟩; have h6 := Lib.hid (h5.out.below hb6); clear hb6)
    | (go_at_call 55; have g5 := h4; clear g5; refine (dget_some (h4.out.al _) L25_get _ _ (il7 w4)).mono ?_; rintro e w5 ⟨rfl, hb5⟩; have h5 := Lib.hid ((h4.out.al _).below hb5); clear hb5)
    | (go_at_call 57; have g5 := h3; clear g5; refine (H12.out _).mono ?_; rintro e w4 ⟨rfl, hb4⟩; have h4 := Lib.hid (h3.out.below hb4); clear hb4)
    | (go_at_call 55; have g5 := h2; clear g5; refine (dget_some (h2.out.al _) L25_get _ _ (il7 w2)).mono ?_; rintro e w3 ⟨rfl, hb3⟩; have h3 := Lib.hid ((h2.out.al _).below hb3); clear hb3)
    | (go_at_call 53; refine (dset_walk (h1.out.al _) (by decide) _ _ (il7 w1)).mono ?_; rintro e w2 ⟨rfl, F2, q2, qs2, hs2, _, _, _⟩; have h2 := Lib.hid hs2; clear hs2)
    | (go_at_call 11; refine (SNew.new w _ (Below.refl _ _)).mono ?_; rintro e w1 ⟨b, F1, rfl, hs1, _, _⟩; have h1 := Lib.hid hs1; clear hs1))
  go_ret
  exact ⟨rfl, h6.out.l⟩
end Go.Proofs.Ytffipojlpdphiaa

namespace Go.Proofs.Ytffipojlpdphiaa
open Go.RowKit Go.Maps

/-- a key that is known -/
theorem key_is (t : Int) (A : Option Addr) (n c : Nat) (f : Nat → Int) (K : ByteArray) (hK : keyStr t f n = K) (w : World) (hl : Il w A n f) (hn : n ≤ 100) :
    Calls Try.prog 72 #[.int .i64 t, .slice A n c] w fun e w' => e = .returned (.string K) ∧ Below w.heap.size w w' := by
  refine (key_walk t A n c f w hl hn).mono ?_
  rintro e w' ⟨he, hb⟩
  rw [hK] at he
  exact ⟨he, hb⟩
theorem keyStr_size (t : Int) (f : Nat → Int) (n : Nat) : (keyStr t f n).size ≤ 1 + 8 * n := by
  unfold keyStr
  split
  · rw [strOfNums_size]
    simp [ints, kbs_length]
  · exact Nat.zero_le _
/-- some key -/
theorem key_some (t : Int) (A : Option Addr) (n c : Nat) (f : Nat → Int) (w : World) (hl : Il w A n f) (hn : n ≤ 100) :
    Calls Try.prog 72 #[.int .i64 t, .slice A n c] w fun e w' => (∃ K : ByteArray, e = .returned (.string K) ∧ K.size ≤ 801) ∧ Below w.heap.size w w' := by
  refine (key_walk t A n c f w hl hn).mono ?_
  rintro e w' ⟨he, hb⟩
  exact ⟨⟨_, he, Nat.le_trans (keyStr_size t f n) (by omega)⟩, hb⟩
set_option maxRecDepth 100000 in
theorem tbl_is (t : Int) (K : ByteArray) (hK : keyStr t (fun _ => 0) 0 = K) (w : World) : Calls Try.prog 63 #[.int .i64 t] w fun e w' => e = .returned (.string K) ∧ Below w.heap.size w w' := by
  have hk := Lib.hid (fun w => key_is t none 0 0 (fun _ => 0) K hK w ⟨fun _ => by decide, fun h => absurd h (by omega)⟩ (by omega))
  go_enter Try.func63, Try.ntmps63
  go_wp2_with (go_at_call 72; refine (hk.out _).mono ?_; rintro e w1 ⟨rfl, hb1⟩)
  go_ret
  exact ⟨rfl, hb1⟩
theorem tbl_some (t : Int) (w : World) : Calls Try.prog 63 #[.int .i64 t] w fun e w' => (∃ K : ByteArray, e = .returned (.string K) ∧ K.size ≤ 801) ∧ Below w.heap.size w w' := by
  refine (tbl_is t _ rfl w).mono ?_
  rintro e w' ⟨he, hb⟩
  exact ⟨⟨_, he, Nat.le_trans (keyStr_size _ _ _) (by omega)⟩, hb⟩
theorem il1 (a : Int) (w : World) (t : TypeId) (ha : a < 2 ^ 63) : Il (w.alloc (.cells #[.int .i64 a] t)) (some ⟨w.heap.size, 0, none⟩) 1 (fun _ => a) :=
  ⟨fun _ => ha, fun _ => ⟨w.heap.size, 0, rfl, by simp, fun i hi => by obtain rfl : i = 0 := (by omega); exact (World.cell?_alloc_at _ _ _ _ rfl).trans rfl⟩⟩
/-! ### steps one behind the other -/
theorem SNew.start {w W : World} {b : Nat} {F : List Nat} {L : SL} {q : Nat} {qs : List Value} (h : SNew w W b F L q qs) : LiveTo w W W b F L q := h.same (Below.refl _ _)
theorem LiveTo.l {w W W' : World} {b : Nat} {F : List Nat} {L : SL} {q : Nat} (h : LiveTo w W W' b F L q) : Below w.heap.size w W' := by
  obtain ⟨_, _, _, hs, _⟩ := h
  exact hs.l
theorem LiveTo.grows {w W W' : World} {b : Nat} {F : List Nat} {L : SL} {q : Nat} (h : LiveTo w W W' b F L q) : W.heap.size ≤ W'.heap.size := by
  obtain ⟨_, _, _, _, _, ht, _⟩ := h
  exact ht.size
theorem LiveTo.al {w W W' : World} {b : Nat} {F : List Nat} {L : SL} {q : Nat} (h : LiveTo w W W' b F L q) (o : Obj) : LiveTo w W (W'.alloc o) b F L q := h.post ((Below.refl _ _).alloc (Nat.le_refl _) o)
/-- a call that changes the store, behind others -/
theorem LiveTo.seq {w W W1 : World} {b : Nat} {F : List Nat} {L1 : SL} {q1 : Nat} (h1 : LiveTo w W W1 b F L1 q1) (d : Nat) {f : FuncId} {args : Array Value} {E : Ending → Prop} {L2 : SL}
    (hc : ∀ F1 qa qsa, SNew w W1 b F1 L1 qa qsa → qa ≤ q1 → Calls Try.prog f args W1 fun e W2 => E e ∧ LiveTo w W1 W2 b F1 L2 (qa + d)) :
    Calls Try.prog f args W1 fun e W2 => E e ∧ LiveTo w W W2 b F L2 (q1 + d) := by
  have hz := h1.grows
  obtain ⟨F1, qa, qsa, hs, hq, ht, hf⟩ := h1
  refine (hc F1 qa qsa hs hq).mono ?_
  rintro e W2 ⟨he, F2, q2, qs2, hs2, hq2, ht2, hf2⟩
  refine ⟨he, F2, q2, qs2, hs2, by omega, ht.trans hf ht2, fun k hk => ?_⟩
  rcases hf2 k hk with h | h
  · exact hf k h
  · right; omega
/-- a call that looks at the store, behind others -/
theorem LiveTo.read {w W W1 : World} {b : Nat} {F : List Nat} {L1 : SL} {q1 : Nat} (h1 : LiveTo w W W1 b F L1 q1) {f : FuncId} {args : Array Value} {E : Ending → World → Prop}
    (hc : ∀ F1 qa qsa, SNew w W1 b F1 L1 qa qsa → qa ≤ q1 → Calls Try.prog f args W1 fun e W2 => E e W2 ∧ Below W1.heap.size W1 W2) :
    Calls Try.prog f args W1 fun e W2 => E e W2 ∧ LiveTo w W W2 b F L1 q1 ∧ Below W1.heap.size W1 W2 := by
  have h2 := h1
  obtain ⟨F1, qa, qsa, hs, hq, _⟩ := h2
  refine (hc F1 qa qsa hs hq).mono ?_
  rintro e W2 ⟨he, hb⟩
  exact ⟨he, h1.post hb, hb⟩
/-- blocks of one's own may be written beside -/
theorem LiveTo.own {w W W1 W' W'' : World} {b : Nat} {F : List Nat} {L : SL} {q : Nat} (h : LiveTo w W1 W' b F L q) (hwW : w.heap.size ≤ W.heap.size) (hF : ∀ k ∈ F, k < W.heap.size) (hb : Below W.heap.size W W1) (G : List Nat) (hG : ∀ g ∈ G, W.heap.size ≤ g ∧ g < W1.heap.size) (ht : Touch G W' W'') : LiveTo w W W'' b F L q := by
  obtain ⟨F', q', qs', hs, hq, ht1, hf⟩ := h
  have hd : ∀ k ∈ F', k ∉ G := fun k hk hg => by
    have := hG k hg
    rcases hf k hk with h | h
    · have := hF k h; omega
    · omega
  refine ⟨F', q', qs', ⟨hs.s.touch ht hd, hs.f, hs.l.trans (ht.below (fun k hk => by have := hG k hk; omega) hs.l.size)⟩, hq, ?_, fun k hk => ?_⟩
  · refine ((Touch.of_below hb).trans (fun _ hk => .inl hk) ht1).trans (F' := G) (fun g hg => .inr (hG g hg).1) ht
  · rcases hf k hk with h | h
    · exact .inl h
    · right; have := hb.size; omega
theorem touch_set4 {G : List Nat} {w : World} {b : Nat} {x0 x1 x2 x3 : Value} (h : b ∈ G) : Touch G w ((((w.setCell ⟨b, 0, none⟩ x0).setCell ⟨b, 1, none⟩ x1).setCell ⟨b, 2, none⟩ x2).setCell ⟨b, 3, none⟩ x3) :=
  (((Touch.setCell w ⟨b, 0, none⟩ x0 h).trans (fun _ hk => .inl hk) (Touch.setCell _ ⟨b, 1, none⟩ x1 h)).trans (fun _ hk => .inl hk) (Touch.setCell _ ⟨b, 2, none⟩ x2 h)).trans (fun _ hk => .inl hk) (Touch.setCell _ ⟨b, 3, none⟩ x3 h)
/-- what a step on an empty key makes of the list -/
theorem setL_nil (k v : ByteArray) : setL [] k v = [(k, v)] := by
  unfold setL
  rw [if_neg (by simp [sget])]
  rfl
end Go.Proofs.Ytffipojlpdphiaa
