/- delay on a live store: a value's row, put, Get, Set of the document's example; lives of layer 28. -/
import Derived.Test.YtedkhpnlhkjjgaaTE
namespace Go.Proofs.Ytedkhpnlhkjjgaa
open Go.RowKit Go.Maps

/-- the numbers of a value's row -/
def rowF (h : Bool) (n x a : Int) (m : Bool) : Nat → Int
  | 0 => if h then 1 else 0
  | 1 => n
  | 2 => if m then 1 else 0
  | 3 => x
  | _ => a
set_option maxRecDepth 100000 in
set_option maxHeartbeats 2000000 in
theorem drow_walk (h : Bool) (n x a : Int) (m : Bool) (w : World) (hn : n < 2 ^ 63) (hx : x < 2 ^ 63) (ha : a < 2 ^ 63) : Calls Try.prog 109 #[dval h n x a m] w fun e w' => (∃ g, e = .returned (.slice (some ⟨g, 0, none⟩) 5 5) ∧ Il w' (some ⟨g, 0, none⟩) 5 (rowF h n x a m)) ∧ Below w.heap.size w w' := by
  obtain ⟨i1, e1⟩ : ∃ i : Int, i = if h then 1 else 0 := ⟨_, rfl⟩
  obtain ⟨i2, e2⟩ : ∃ i : Int, i = if m then 1 else 0 := ⟨_, rfl⟩
  have hb1 := (Below.refl w.heap.size w).alloc (Nat.le_refl _) (.cells #[.bool h, .int .i64 n, .int .i64 x, .int .i64 a, .bool m] 100)
  have HB1 := Lib.hid hb1
  have HF1 := Lib.hid (fun w => show Calls Try.prog 139 #[.bool h] w fun e w' => e = .returned (.int .i64 i1) ∧ w = w' from by rw [e1]; exact flag_walk h w)
  have HF2 := Lib.hid (fun w => show Calls Try.prog 139 #[.bool m] w fun e w' => e = .returned (.int .i64 i2) ∧ w = w' from by rw [e2]; exact flag_walk m w)
  have HE := Lib.hid (And.intro e1 (And.intro e2 (And.intro hn (And.intro hx ha))))
  clear hb1 e1 e2 hn hx ha
  unfold dval
  go_enter Try.func109, Try.ntmps109
  go_upto_region 1 with fail
  go_region_held3 (fun w' => w'.cell? ⟨w.heap.size, 0, none⟩ = some (.bool h) ∧ w'.cell? ⟨w.heap.size, 1, none⟩ = some (.int .i64 n) ∧ w'.cell? ⟨w.heap.size, 2, none⟩ = some (.int .i64 x) ∧ w'.cell? ⟨w.heap.size, 3, none⟩ = some (.int .i64 a) ∧ w'.cell? ⟨w.heap.size, 4, none⟩ = some (.bool m))
    ((simp [go_sem, World.cell?_alloc_past]))
    ((first
      | (go_at_call 139; with_reducible refine (HF1.out _).mono ?_; rintro e w1 ⟨rfl, rfl⟩)
      | (go_at_call 139; with_reducible refine (HF2.out _).mono ?_; rintro e w1 ⟨rfl, rfl⟩)))
  all_goals
    go_wp2
    go_ret
    refine ⟨⟨_, rfl, fun i => ?_, fun _ => ⟨w.heap.size + 1, 0, rfl, ?_, fun i hi => ?_⟩⟩, ?_⟩
    · obtain ⟨e1, e2, hn, hx, ha⟩ := HE.out
      rcases i with _ | _ | _ | _ | i
      · show (if h then (1 : Int) else 0) < 2 ^ 63
        split <;> decide
      · exact hn
      · show (if m then (1 : Int) else 0) < 2 ^ 63
        split <;> decide
      · exact hx
      · exact ha
    · show w.heap.size + 1 < ((w.alloc _).alloc _).heap.size
      simp only [World.size_alloc]
      omega
    · obtain ⟨e1, e2, hn, hx, ha⟩ := HE.out
      refine (World.cell?_alloc_at _ _ _ _ (by simp)).trans ?_
      rcases (by omega : i = 0 ∨ i = 1 ∨ i = 2 ∨ i = 3 ∨ i = 4) with rfl | rfl | rfl | rfl | rfl
      · rw [e1]; rfl
      · rfl
      · rw [e2]; rfl
      · rfl
      · rfl
    · exact (HB1.out.alloc HB1.out.size _).drew
theorem rowF_nonneg {h : Bool} {n x a : Int} {m : Bool} (hn : 0 ≤ n) (hx : 0 ≤ x) (ha : 0 ≤ a) : ∀ i, i < 5 → 0 ≤ rowF h n x a m i := by
  intro i hi
  rcases (by omega : i = 0 ∨ i = 1 ∨ i = 2 ∨ i = 3 ∨ i = 4) with rfl | rfl | rfl | rfl | rfl
  · show (0 : Int) ≤ if h then 1 else 0
    split <;> decide
  · exact hn
  · show (0 : Int) ≤ if m then 1 else 0
    split <;> decide
  · exact hx
  · exact ha
set_option maxRecDepth 100000 in
set_option maxHeartbeats 1000000 in
theorem dput_walk {w W : World} {b : Nat} {F : List Nat} {L : SL} {q : Nat} {qs : List Value} (hs : SNew w W b F L q qs) (k : ByteArray) (h : Bool) (n x a : Int) (m : Bool) (hn : 0 ≤ n ∧ n < 2 ^ 63) (hx : 0 ≤ x ∧ x < 2 ^ 63) (ha : 0 ≤ a ∧ a < 2 ^ 63)
    (hk : k.size ≤ maxLen) (hk0 : k ≠ ⟨#[]⟩) (hN : L.length < 128) (hq : q < 1000000) :
    Calls Try.prog 108 #[.pointer (some ⟨b, 0, none⟩), .string k, .func (Fn.func 109) #[dval h n x a m] #[]] W fun e W' => e = .returned (.tuple #[]) ∧ LiveTo w W W' b F (setL L k (rowV (rowF h n x a m) 5)) (q + 1) := by
  have HR := Lib.hid (drow_walk h n x a m W hn.2 hx.2 ha.2)
  have HS := Lib.hid (fun (W1 : World) (hb : Below W.heap.size W W1) (g : Nat) (hl : Il W1 (some ⟨g, 0, none⟩) 5 (rowF h n x a m)) => (csetRow_set (hs.below hb) k (some ⟨g, 0, none⟩) 5 5 (rowF h n x a m) hl (by omega) (by omega) (rowF_nonneg hn.1 hx.1 ha.1) hk hk0 hN hq).mono fun e W' hp => (⟨hp.1, hp.2.pre hb⟩ : e = .returned (.tuple #[]) ∧ LiveTo w W W' b F (setL L k (rowV (rowF h n x a m) 5)) (q + 1)))
  obtain ⟨V, hV⟩ : ∃ y, y = dval h n x a m := ⟨_, rfl⟩
  obtain ⟨L', hL'⟩ : ∃ y, y = setL L k (rowV (rowF h n x a m) 5) := ⟨_, rfl⟩
  rw [← hL'] at HS ⊢
  rw [← hV] at HR ⊢
  clear hs hn hx ha hk hk0 hN hq hV hL'
  go_enter Try.func108, Try.ntmps108
  go_wp2_with (first
    | (go_at_call 71; refine (HS.out w1 HB1.out g HI.out).mono ?_; rintro e w2 ⟨rfl, h2⟩; have H2 := Lib.hid h2; clear h2)
    | (go_at_call 109; refine HR.out.mono ?_; rintro e w1 ⟨⟨g, rfl, hi⟩, hb1⟩; have HI := Lib.hid hi; have HB1 := Lib.hid hb1; clear hb1 hi))
  go_end0
  exact ⟨rfl, H2.out⟩
/-- the example's key -/
def K25 : ByteArray := ⟨#[25, 0, 0, 0, 0, 0, 0, 0, 7]⟩
theorem key25 : keyStr 25 (fun _ => 7) 1 = K25 := by decide +kernel
/-- the example's value, and its row -/
def V25 : Value := dval false 0 5 13 true
abbrev f25 : Nat → Int := rowF false 0 5 13 true
set_option maxRecDepth 100000 in
set_option maxHeartbeats 1000000 in
theorem dget_none {w W : World} {b : Nat} {F : List Nat} {L : SL} {q : Nat} {qs : List Value} (hs : SNew w W b F L q qs) (he : sget L K25 = none) (A : Option Addr) (c : Nat) (hl : Il W A 1 (fun _ => 7)) :
    Calls Try.prog 59 #[.pointer (some ⟨b, 0, none⟩), .int .i64 25, .slice A 1 c] W fun e W' => e = .returned dv0 ∧ Below W.heap.size W W' := by
  have hb0 := (Below.refl W.heap.size W).alloc (Nat.le_refl _) (.cells #[.bool false, .int .i64 0, .int .i64 0, .int .i64 0, .bool false] 100)
  have HB0 := Lib.hid hb0
  have HK := Lib.hid (key_walk 25 A 1 c (fun _ => 7) _ (hl.below hb0) (by omega))
  rw [show KeyPost 25 (fun _ => 7) 1 = fun w e w' => e = .returned (.string K25) ∧ Below w.heap.size w w' from by funext w e w'; unfold KeyPost; rw [key25]] at HK
  have HRw := Lib.hid (fun (W1 : World) (hb : Below W.heap.size W W1) => crow_none (hs.below hb) K25 (by decide) he)
  obtain ⟨kk, hkk⟩ : ∃ x, x = K25 := ⟨_, rfl⟩
  rw [← hkk] at HK HRw
  have r0 : (W.alloc (.cells #[.bool false, .int .i64 0, .int .i64 0, .int .i64 0, .bool false] 100)).heap[W.heap.size]? = some (.cells #[.bool false, .int .i64 0, .int .i64 0, .int .i64 0, .bool false] 100 (0, 0)) := heap_alloc_new _ _
  have R0 := Lib.hid r0
  have Z0 := Lib.hid (hp_lt r0)
  clear hs hl hb0 r0 he hkk
  unfold dv0
  go_enter Try.func59, Try.ntmps59
  go_wp2_with (first
    | (go_at_call 77; refine (HRw.out w1 HB1.out).mono ?_; rintro e w2 ⟨⟨g, rfl⟩, hb2⟩; have HB2 := Lib.hid (HB1.out.trans (hb2.mono HB1.out.size)); have r2 := (hb2.block W.heap.size (Nat.lt_of_lt_of_le Z0.out Z1.out)).trans R1.out; have c0 := (hp_cell (i := 0) r2).trans rfl; have g0 := hp_free (i := 0) r2; have c1 := (hp_cell (i := 1) r2).trans rfl; have g1 := hp_free (i := 1) r2; have c2 := (hp_cell (i := 2) r2).trans rfl; have g2 := hp_free (i := 2) r2; have c3 := (hp_cell (i := 3) r2).trans rfl; have g3 := hp_free (i := 3) r2; have c4 := (hp_cell (i := 4) r2).trans rfl; have g4 := hp_free (i := 4) r2; have Z2 := Lib.hid (hp_lt r2); clear hb2 r2)
    | (go_at_call 60; refine HK.out.mono ?_; rintro e w1 ⟨rfl, hb1⟩; have HB1 := Lib.hid (HB0.out.trans (hb1.mono HB0.out.size)); have R1 := Lib.hid ((hb1.block W.heap.size Z0.out).trans R0.out); have Z1 := Lib.hid hb1.size; clear hb1))
  refine bodyPost_ret (v := .agg #[.bool false, .int .i64 0, .int .i64 0, .int .i64 0, .bool false]) (by simp [results, Try.results59, go_sem, c0, c1, c2, c3, c4]) rfl ⟨rfl, ?_⟩
  exact ((((HB2.out.setCell (Nat.le_refl _) _).setCell (Nat.le_refl _) _).setCell (Nat.le_refl _) _).setCell (Nat.le_refl _) _).setCell (Nat.le_refl _) _
set_option maxRecDepth 100000 in
set_option maxHeartbeats 1000000 in
theorem dget_some {w W : World} {b : Nat} {F : List Nat} {L : SL} {q : Nat} {qs : List Value} (hs : SNew w W b F L q qs) (he : sget L K25 = some (rowV f25 5)) (A : Option Addr) (c : Nat) (hl : Il W A 1 (fun _ => 7)) :
    Calls Try.prog 59 #[.pointer (some ⟨b, 0, none⟩), .int .i64 25, .slice A 1 c] W fun e W' => e = .returned V25 ∧ Below W.heap.size W W' := by
  have hb0 := (Below.refl W.heap.size W).alloc (Nat.le_refl _) (.cells #[.bool false, .int .i64 0, .int .i64 0, .int .i64 0, .bool false] 100)
  have HB0 := Lib.hid hb0
  have HK := Lib.hid (key_walk 25 A 1 c (fun _ => 7) _ (hl.below hb0) (by omega))
  rw [show KeyPost 25 (fun _ => 7) 1 = fun w e w' => e = .returned (.string K25) ∧ Below w.heap.size w w' from by funext w e w'; unfold KeyPost; rw [key25]] at HK
  have hf5 : ∀ i, i < 5 → 0 ≤ f25 i ∧ f25 i < 2 ^ 63 := by
    intro i hi
    rcases (by omega : i = 0 ∨ i = 1 ∨ i = 2 ∨ i = 3 ∨ i = 4) with rfl | rfl | rfl | rfl | rfl <;> decide
  have HRw := Lib.hid (fun (W1 : World) (hb : Below W.heap.size W W1) => crow_some (hs.below hb) K25 f25 5 (by omega) (by omega) hf5 (by decide) he)
  obtain ⟨kk, hkk⟩ : ∃ x, x = K25 := ⟨_, rfl⟩
  rw [← hkk] at HK HRw
  have r0 : (W.alloc (.cells #[.bool false, .int .i64 0, .int .i64 0, .int .i64 0, .bool false] 100)).heap[W.heap.size]? = some (.cells #[.bool false, .int .i64 0, .int .i64 0, .int .i64 0, .bool false] 100 (0, 0)) := heap_alloc_new _ _
  have R0 := Lib.hid r0
  have Z0 := Lib.hid (hp_lt r0)
  clear hs hl hb0 r0 he hkk hf5
  unfold V25 dval
  go_enter Try.func59, Try.ntmps59
  go_upto_region 4 with (first
    | (go_at_call 77; refine (HRw.out w1 HB1.out).mono ?_; rintro e w2 ⟨⟨g, rfl, hcc, hgl⟩, hb2⟩; have HB2 := Lib.hid (HB1.out.trans (hb2.mono HB1.out.size)); have r2 := (hb2.block W.heap.size (Nat.lt_of_lt_of_le Z0.out Z1.out)).trans R1.out; have c0 := (hp_cell (i := 0) r2).trans rfl; have g0 := hp_free (i := 0) r2; have c1 := (hp_cell (i := 1) r2).trans rfl; have g1 := hp_free (i := 1) r2; have c2 := (hp_cell (i := 2) r2).trans rfl; have g2 := hp_free (i := 2) r2; have c3 := (hp_cell (i := 3) r2).trans rfl; have g3 := hp_free (i := 3) r2; have c4 := (hp_cell (i := 4) r2).trans rfl; have g4 := hp_free (i := 4) r2; have Z2 := Lib.hid (hp_lt r2); have x0 : w2.cell? ⟨g, 0, none⟩ = some (.int .i64 0) := hcc 0 (by omega); have x1 : w2.cell? ⟨g, 1, none⟩ = some (.int .i64 0) := hcc 1 (by omega); have x2 : w2.cell? ⟨g, 2, none⟩ = some (.int .i64 1) := hcc 2 (by omega); have x3 : w2.cell? ⟨g, 3, none⟩ = some (.int .i64 5) := hcc 3 (by omega); have x4 : w2.cell? ⟨g, 4, none⟩ = some (.int .i64 13) := hcc 4 (by omega); clear hb2 r2 hcc hgl)
    | (go_at_call 60; refine HK.out.mono ?_; rintro e w1 ⟨rfl, hb1⟩; have HB1 := Lib.hid (HB0.out.trans (hb1.mono HB0.out.size)); have R1 := Lib.hid ((hb1.block W.heap.size Z0.out).trans R0.out); have Z1 := Lib.hid hb1.size; clear hb1))
  go_still_tail 18, (by kernel_rfl)
  go_wp2
  refine bodyPost_ret (v := .agg #[.bool false, .int .i64 0, .int .i64 5, .int .i64 13, .bool true]) (by simp [results, Try.results59, go_sem, c0, c1, c2, c3, c4]) rfl ⟨rfl, ?_⟩
  exact ((((((HB2.out.setCell (Nat.le_refl _) _).setCell (Nat.le_refl _) _).setCell (Nat.le_refl _) _).setCell (Nat.le_refl _) _).setCell (Nat.le_refl _) _)).drew
end Go.Proofs.Ytedkhpnlhkjjgaa
