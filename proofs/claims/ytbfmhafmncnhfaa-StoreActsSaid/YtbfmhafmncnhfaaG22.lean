/- How a slice of tallage/tallagelaw08.Act that comes in is opened. -/
import Derived.Test.YtbfmhafmncnhfaaG18
import Derived.Test.YtbfmhafmncnhfaaG21
import Derived.Test.YtbfmhafmncnhfaaG01
import Derived.Test.YtbfmhafmncnhfaaG00
import Derived.Test.YtbfmhafmncnhfaaG20
import Derived.OpenShut
import Derived.ChangeOld
import Derived.ChangeSlices
import Derived.Carry
import Derived.Deep.Slices
import Derived.ChangeSame
import Derived.Laws.IdiomArrays
namespace Go.Proofs.Ytbfmhafmncnhfaa
open Go.ChangeShapes Go.WideShapes Go.ChangeAt Go.RowKit

theorem cells_act08 : Try.prog.cellsOf 33 = 4 := by kernel_rfl
theorem cells_act08_int : Try.prog.cellsOf 3 = 1 := by kernel_rfl
theorem cells_act08_str : Try.prog.cellsOf 9 = 1 := by kernel_rfl
theorem list_act08 {α : Type} (l : List α) (h : l.length = 4) : ∃ b0 b1 b2 b3, l = [b0, b1, b2, b3] := by
  match l, h with
  | [b0, b1, b2, b3], _ => exact ⟨b0, b1, b2, b3, rfl⟩
/-- N rows at A, their fields -/
structure act08sAt (W : World) (A : Option Addr) (N : Nat) (x0 : Nat → Int) (x1 : Nat → ByteArray) (x2 : Nat → ByteArray) (x3 : Nat → Int) : Prop where
  rows : RowsV W A N 4 (fun i => [.int .i64 (x0 i), .string (x1 i), .string (x2 i), .int .i64 (x3 i)])
  f0 : ∀ i, i < N → (-9223372036854775808 ≤ (x0 i) ∧ (x0 i) < 2 ^ 63)
  f1 : ∀ i, i < N → ((x1 i).size ≤ maxLen)
  f2 : ∀ i, i < N → ((x2 i).size ≤ maxLen)
  f3 : ∀ i, i < N → (-9223372036854775808 ≤ (x3 i) ∧ (x3 i) < 2 ^ 63)
theorem act08sAt.below {W W' : World} {A : Option Addr} {N : Nat} {x0 : Nat → Int} {x1 : Nat → ByteArray} {x2 : Nat → ByteArray} {x3 : Nat → Int} (h : act08sAt W A N x0 x1 x2 x3) (hb : Below W.heap.size W W') : act08sAt W' A N x0 x1 x2 x3 :=
  ⟨h.rows.below hb, fun i hi => (h.f0 i hi), fun i hi => (h.f1 i hi), fun i hi => (h.f2 i hi), fun i hi => (h.f3 i hi)⟩
section
variable {H : Type} {enc : TypeId × Value → H} {W : World} {base : Nat}
set_option maxRecDepth 100000 in
theorem open_act08_row {fuel : Nat} {cs : List Value} {x : DataW H × List MemPlace} (hf : DataW.trod enc Try.prog W 0 (fun _ => true) true fuel 33 cs = some x) (hsz : cs.length = 4) :
    ∃ x0 x1 x2 x3, cs = [.int .i64 x0, .string x1, .string x2, .int .i64 x3] ∧ (-9223372036854775808 ≤ x0 ∧ x0 < 2 ^ 63) ∧ (x1.size ≤ maxLen) ∧ (x2.size ≤ maxLen) ∧ (-9223372036854775808 ≤ x3 ∧ x3 < 2 ^ 63) := by
  obtain ⟨b0, b1, b2, b3, rfl⟩ := list_act08 cs hsz
  obtain ⟨ys, n2, _, _, _, hyl, hf⟩ := DataW.trod_struct Try.underlying33 hf
  obtain ⟨y0, y1, y2, y3, rfl⟩ := list_act08 ys hyl
  have f0 : DataW.trod enc Try.prog W 0 (fun _ => true) true n2 3 (([b0, b1, b2, b3].drop 0).take (Try.prog.cellsOf 3)) = some y0 := hf 0 _ rfl
  rw [cells_act08_int] at f0
  replace f0 : DataW.trod enc Try.prog W 0 (fun _ => true) true n2 3 [b0] = some y0 := f0
  have f1 : DataW.trod enc Try.prog W 0 (fun _ => true) true n2 9 (([b0, b1, b2, b3].drop 1).take (Try.prog.cellsOf 9)) = some y1 := hf 1 _ rfl
  rw [cells_act08_str] at f1
  replace f1 : DataW.trod enc Try.prog W 0 (fun _ => true) true n2 9 [b1] = some y1 := f1
  have f2 : DataW.trod enc Try.prog W 0 (fun _ => true) true n2 9 (([b0, b1, b2, b3].drop 2).take (Try.prog.cellsOf 9)) = some y2 := hf 2 _ rfl
  rw [cells_act08_str] at f2
  replace f2 : DataW.trod enc Try.prog W 0 (fun _ => true) true n2 9 [b2] = some y2 := f2
  have f3 : DataW.trod enc Try.prog W 0 (fun _ => true) true n2 3 (([b0, b1, b2, b3].drop 3).take (Try.prog.cellsOf 3)) = some y3 := hf 3 _ rfl
  rw [cells_act08_int] at f3
  replace f3 : DataW.trod enc Try.prog W 0 (fun _ => true) true n2 3 [b3] = some y3 := f3
  obtain ⟨x0, e0, _, w0⟩ := DataW.trod_int Try.underlying3 f0
  simp at e0
  subst e0
  have h0 := bounds_i64 w0
  obtain ⟨x1, e1, _, w1⟩ := DataW.trod_string Try.underlying9 f1
  simp at e1
  subst e1
  obtain ⟨x2, e2, _, w2⟩ := DataW.trod_string Try.underlying9 f2
  simp at e2
  subst e2
  obtain ⟨x3, e3, _, w3⟩ := DataW.trod_int Try.underlying3 f3
  simp at e3
  subst e3
  have h3 := bounds_i64 w3
  exact ⟨x0, x1, x2, x3, rfl, ⟨by omega, by omega⟩, w1, w2, ⟨by omega, by omega⟩⟩
set_option maxRecDepth 100000 in
theorem open_act08s {v : Value} {d : DataW H} {p : List MemPlace} (hv : Value.okWide Try.prog W .any base 22 v) (h : DataW.Trod enc Try.prog W 0 (fun _ => true) true 22 v d p) :
    ∃ A N C x0 x1 x2 x3, v = .slice A N C ∧ (A = none → N = 0 ∧ C = 0) ∧ N ≤ C ∧ C ≤ 9223372036854775807 ∧ act08sAt W A N x0 x1 x2 x3 := by
  obtain ⟨a0, N, C, rfl⟩ := okWide_slice Try.underlying22 hv
  obtain ⟨fuel, hf⟩ := h
  rcases Go.Deep.open_slice Try.underlying22 hf with ⟨hcs, hx⟩ | ⟨a, len, cap, m, n, D, Pl, hcs, hb, hl, hm, hmm, _, hx⟩
  · simp [Value.cells] at hcs
    obtain ⟨rfl, rfl, rfl⟩ := hcs
    exact ⟨none, 0, 0, fun _ => 0, fun _ => ByteArray.empty, fun _ => ByteArray.empty, fun _ => 0, rfl, fun _ => ⟨rfl, rfl⟩, Nat.le_refl _, by decide, ⟨RowsV.nil _ _ _ _, fun i h => absurd h (by omega), fun i h => absurd h (by omega), fun i h => absurd h (by omega), fun i h => absurd h (by omega)⟩⟩
  · simp only [Value.cells, List.cons.injEq, Value.slice.injEq, and_true] at hcs
    obtain ⟨rfl, rfl, rfl⟩ := hcs
    simp only [if_true] at hmm
    subst hmm
    rw [cells_act08] at hx
    obtain ⟨y, hy⟩ := Go.Deep.choose_lt (α := (Int) × (ByteArray) × (ByteArray) × (Int)) (n := m) (p := fun i y => W.cells? 0 (a.add (i * 4)) 4 = some [.int .i64 y.1, .string y.2.1, .string y.2.2.1, .int .i64 y.2.2.2] ∧ (-9223372036854775808 ≤ y.1 ∧ y.1 < 2 ^ 63) ∧ (y.2.1.size ≤ maxLen) ∧ (y.2.2.1.size ≤ maxLen) ∧ (-9223372036854775808 ≤ y.2.2.2 ∧ y.2.2.2 < 2 ^ 63)) (fun i hi => by
      obtain ⟨cs, h1, h2⟩ := hx i hi
      obtain ⟨x0, x1, x2, x3, rfl, g0, g1, g2, g3⟩ := open_act08_row h2 (World.cells?_some h1).2.1
      exact ⟨(x0, x1, x2, x3), h1, g0, g1, g2, g3⟩)
    unfold maxLen at hm
    refine ⟨some a, N, m, fun i => (y i).1, fun i => (y i).2.1, fun i => (y i).2.2.1, fun i => (y i).2.2.2, rfl, (fun h => by cases h), hl, by omega, ⟨RowsV.of_cells (by decide) fun i hi => (hy i (by omega)).1, fun i hi => (hy i (by omega)).2.1, fun i hi => (hy i (by omega)).2.2.1, fun i hi => (hy i (by omega)).2.2.2.1, fun i hi => (hy i (by omega)).2.2.2.2⟩⟩
end
end Go.Proofs.Ytbfmhafmncnhfaa

namespace Go.Proofs.Ytbfmhafmncnhfaa
open Go.ChangeShapes Go.WideShapes Go.ChangeAt Go.RowKit Go.Maps Go.Sort

set_option maxRecDepth 100000 in
theorem open_str {H : Type} {enc : TypeId × Value → H} {W : World} {base : Nat} {v : Value} {d : DataW H} {p : List MemPlace} (hv : Value.okWide Try.prog W .any base 9 v) (h : DataW.Trod enc Try.prog W 0 (fun _ => true) true 9 v d p) :
    ∃ s, v = .string s ∧ s.size ≤ maxLen := by
  obtain ⟨s, rfl⟩ := okWide_string Try.underlying9 hv
  obtain ⟨fuel, hf⟩ := h
  obtain ⟨x, e, _, hw⟩ := DataW.trod_string Try.underlying9 hf
  simp [Value.cells] at e
  subst e
  exact ⟨_, rfl, hw⟩
set_option maxRecDepth 100000 in
set_option maxHeartbeats 4000000 in
theorem storeLast_walk (A : Option Addr) (N C : Nat) (x0 : Nat → Int) (x1 x2 : Nat → ByteArray) (x3 : Nat → Int) (key beg : ByteArray) (w : World) (hr : RowsV w A N 4 (fun i => [.int .i64 (x0 i), .string (x1 i), .string (x2 i), .int .i64 (x3 i)]))
    (hN : (N : Int) ≤ 9223372036854775807) (hk1 : ∀ i, i < N → (x1 i).size ≤ maxLen) (hk2 : ∀ i, i < N → (x2 i).size ≤ maxLen) (hk : key.size ≤ maxLen) (hbg : beg.size ≤ maxLen) :
    Calls Try.prog 5 #[.slice A N C, .string key, .string beg] w fun e w' => e = .returned (.bool true) ∧ Below w.heap.size w w' := by
  by_cases hg : N ≤ 300 ∧ ∀ j, j < N → lacc x1 x2 (j + 1) ≤ 20000
  · exact storeLast_go A N C x0 x1 x2 x3 key beg w hr hg.1 hg.2 hk1 hk2 hk hbg
  · have HL1 := Lib.hid (light08_rows A N C x0 x1 x2 x3 w hr hN false ⟨(fun h => by cases h), fun h => absurd h hg⟩)
    clear hr hN hk1 hk2 hk hbg hg
    go_enter Try.func5, Try.ntmps5
    go_wp2_with (first
      | (go_at_call 9; with_reducible refine (lives08_walk _).mono ?_; rintro e w10 ⟨rfl, hb10⟩; have HBl := Lib.hid hb10; clear hb10)
      | (go_at_call 8; with_reducible refine HL1.out.mono ?_; rintro e w1 ⟨rfl, hb1⟩; have H1 := Lib.hid hb1; clear hb1))
    go_ret
    exact ⟨rfl, H1.out.trans (HBl.out.mono H1.out.size)⟩
end Go.Proofs.Ytbfmhafmncnhfaa

namespace Go.Proofs.Ytbfmhafmncnhfaa
open Go.RowKit Go.Maps Go.Sort

abbrev ARows (w : World) (A : Option Addr) (N : Nat) (x0 : Nat → Int) (x1 x2 : Nat → ByteArray) (x3 : Nat → Int) : Prop := RowsV w A N 4 (fun i => [.int .i64 (x0 i), .string (x1 i), .string (x2 i), .int .i64 (x3 i)])
set_option maxRecDepth 100000 in
set_option maxHeartbeats 16000000 in
theorem storeUndone_go (A : Option Addr) (N C : Nat) (x0 : Nat → Int) (x1 x2 : Nat → ByteArray) (x3 : Nat → Int) (A' : Option Addr) (N' C' : Nat) (y0 : Nat → Int) (y1 y2 : Nat → ByteArray) (y3 : Nat → Int) (w : World)
    (hr : ARows w A N x0 x1 x2 x3) (hr' : ARows w A' N' y0 y1 y2 y3) (hN : N ≤ 300) (hacc : ∀ j, j < N → lacc x1 x2 (j + 1) ≤ 20000) (hN' : N' ≤ 300) (hacc' : ∀ j, j < N' → lacc y1 y2 (j + 1) ≤ 20000)
    (hk : ∀ i, i < N → (x1 i).size ≤ maxLen ∧ (x2 i).size ≤ maxLen ∧ -9223372036854775808 ≤ x3 i ∧ x3 i < 2 ^ 63) (hk' : ∀ i, i < N' → (y1 i).size ≤ maxLen ∧ (y2 i).size ≤ maxLen ∧ -9223372036854775808 ≤ y3 i ∧ y3 i < 2 ^ 63) :
    Calls Try.prog 4 #[.slice A N C, .slice A' N' C'] w fun e w' => e = .returned (.bool true) ∧ Below w.heap.size w w' := by
  have HL1 := Lib.hid (light08_rows A N C x0 x1 x2 x3 w hr (by omega) true ⟨fun _ => ⟨hN, hacc⟩, fun _ => rfl⟩)
  have HL2 : Hid (∀ w1, Below w.heap.size w w1 → _) := Lib.hid fun w1 hb => light08_rows A' N' C' y0 y1 y2 y3 w1 (RowsV.below hr' hb) (by omega) true ⟨fun _ => ⟨hN', hacc'⟩, fun _ => rfl⟩
  have HR := Lib.hid (And.intro hr hr')
  have HS := Lib.hid (And.intro hk hk')
  have hNI : (N : Int) ≤ 300 := by omega
  have hNI' : (N' : Int) ≤ 300 := by omega
  clear hr hr' hk hk' hacc hacc' hN hN'
  go_enter Try.func4, Try.ntmps4
  go_wp2_with (first
    | (go_at_call 10; with_reducible refine (SH.new w _ H2.out).mono ?_; rintro e w3 ⟨b, F1, rfl, hs1, _⟩; have H3 := Lib.hid hs1; clear hs1)
    | (go_at_call 8; with_reducible refine (HL2.out _ H1.out).mono ?_; rintro e w2 ⟨rfl, hb2⟩; have H2 := Lib.hid (H1.out.trans (hb2.mono H1.out.size)); clear hb2)
    | (go_at_call 8; with_reducible refine HL1.out.mono ?_; rintro e w1 ⟨rfl, hb1⟩; have H1 := Lib.hid hb1; clear hb1))
  go_loopw [29] (fun i wr => ∃ (j : Nat) (F : List Nat) (L : SL) (R : List Ch), j ≤ N ∧ i = .int .i64 (j : Nat) ∧ SH w wr b F L R ∧ L.length + R.length ≤ 2 * j) (fun i _ => N - (intOf i).toNat)
  case atStart => exact ⟨0, F1, [], [], by omega, rfl, H3.out, by simp⟩
  case round =>
    obtain ⟨j, F, L, R, hj, rfl, hs, hlen⟩ := hrel
    by_cases hlt : j < N
    · have p2 : (j : Int) < (N : Int) := by omega
      obtain ⟨g, o, rfl, hg, hc⟩ := (RowsV.below HR.out.1 hs.l) (by omega)
      have d0 := hc j hlt 0 _ rfl
      have d1 := hc j hlt 1 _ rfl
      have d2 := hc j hlt 2 _ rfl
      have d3 := hc j hlt 3 _ rfl
      simp only [Nat.add_zero] at d0
      have hsz := HS.out.1 j hlt
      obtain ⟨k, ek⟩ : ∃ y, y = x1 j := ⟨_, rfl⟩
      obtain ⟨v, ev⟩ : ∃ y, y = x2 j := ⟨_, rfl⟩
      obtain ⟨kd, ekd⟩ : ∃ y, y = x0 j := ⟨_, rfl⟩
      obtain ⟨n, en⟩ : ∃ y, y = x3 j := ⟨_, rfl⟩
      rw [← ek] at d1 hsz
      rw [← ev] at d2 hsz
      rw [← ekd] at d0
      rw [← en] at d3 hsz
      have HH := Lib.hid (And.intro hs (And.intro hlen hsz))
      clear hc ek ev ekd en hs hlen hsz
      go_upto_region 7 with fail
      have hb1 := (Below.refl wr.heap.size wr).alloc (Nat.le_refl _) (.cells #[.int .i64 kd, .string k, .string v, .int .i64 n] 33)
      have hx1 := heap_alloc_new wr (.cells #[.int .i64 kd, .string k, .string v, .int .i64 n] 33)
      generalize wr.alloc (.cells #[.int .i64 kd, .string k, .string v, .int .i64 n] 33) = W1 at hb1 hx1 ⊢
      have hb2 := (Below.refl W1.heap.size W1).alloc (Nat.le_refl _) (.cells #[.slice none 0 0, .slice none 0 0] 31)
      have hx2 := (hb2.block wr.heap.size (hp_lt hx1)).trans hx1
      have z0 := (hp_cell (i := 0) hx2).trans rfl
      have z1 := (hp_cell (i := 1) hx2).trans rfl
      have z2 := (hp_cell (i := 2) hx2).trans rfl
      have z3 := (hp_cell (i := 3) hx2).trans rfl
      have hs1 := HH.out.1.below hb1
      have hAct := act_any w _ b W1.heap.size F L [] R [] kd k v n (hs1.below hb2) (DS.new w W1 hs1.l (.bool true) (.bool true) _ rfl) List.Pairwise.nil HH.out.2.2.1 HH.out.2.2.2.1 HH.out.2.2.2.2 (by have := HH.out.2.1; omega) (by simp)
      have HAct := Lib.hid hAct
      clear hAct hs1 hx2 hb2 hx1 hb1
      go_wp2_with (go_at_call 11; refine HAct.out.mono ?_; rintro e W3 ⟨r, rfl, _, hp⟩; have H5 := Lib.hid hp; clear hp)
      obtain ⟨F5, hs5⟩ := H5.out.1
      exact ⟨⟨j + 1, F5, _, _, by omega, by go_num, hs5, by have := aL_len kd L R k v n; have := HH.out.2.1; omega⟩, by simp [intOf]; omega⟩
    · obtain rfl : j = N := by omega
      have p2 : ¬ (j : Int) < (j : Int) := by omega
      have hAl := SH.all hs (by omega)
      have HAl := Lib.hid hAl
      have H0 := Lib.hid (And.intro hs hlen)
      clear hs hlen hAl
      obtain ⟨M, hM⟩ : ∃ M, M = R.length := ⟨_, rfl⟩
      have HM := Lib.hid hM
      clear hM
      go_wp2_with (first
        | (go_at_call 14; refine (SH.mark H4.out.1).mono ?_; rintro e w5 ⟨he, rfl⟩; rw [← HM.out] at he; subst he)
        | (go_at_call 20; refine HAl.out.mono ?_; rintro e w4 ⟨⟨v4, rfl, ho4⟩, hb4⟩; obtain ⟨A8, C8, rfl⟩ := row_any ho4; have H4 := Lib.hid (And.intro (H0.out.1.below hb4) (iown_base' ho4 (H0.out.1.l.size))); clear ho4 hb4))
      go_loopw [45] (fun i wr => ∃ (t : Nat) (F2 : List Nat) (L2 : SL) (R2 : List Ch), t ≤ N' ∧ i = .int .i64 (t : Nat) ∧ SH w wr b F2 L2 (R2 ++ R) ∧ und L2 (R2 ++ R) R2.length = L ∧ L2.length + (R2 ++ R).length ≤ 2 * j + 2 * t ∧ wr.ownsRow w.heap.size 43 2 (.slice A8 L.length C8) L.length (pcs L)) (fun i _ => N' - (intOf i).toNat)
      case atStart => exact ⟨0, F, L, [], by omega, rfl, H4.out.1, rfl, by have := H0.out.2; simp; omega, H4.out.2⟩
      case round =>
        obtain ⟨t, F2, L2, R2, ht, rfl, hs, hun, hlen, hrow⟩ := hrel
        by_cases hlt : t < N'
        · have p3 : (t : Int) < (N' : Int) := by omega
          obtain ⟨g, o, rfl, hg, hc⟩ := (RowsV.below HR.out.2 hs.l) (by omega)
          have d0 := hc t hlt 0 _ rfl
          have d1 := hc t hlt 1 _ rfl
          have d2 := hc t hlt 2 _ rfl
          have d3 := hc t hlt 3 _ rfl
          simp only [Nat.add_zero] at d0
          have hsz := HS.out.2 t hlt
          obtain ⟨k, ek⟩ : ∃ y, y = y1 t := ⟨_, rfl⟩
          obtain ⟨v, ev⟩ : ∃ y, y = y2 t := ⟨_, rfl⟩
          obtain ⟨kd, ekd⟩ : ∃ y, y = y0 t := ⟨_, rfl⟩
          obtain ⟨n, en⟩ : ∃ y, y = y3 t := ⟨_, rfl⟩
          rw [← ek] at d1 hsz
          rw [← ev] at d2 hsz
          rw [← ekd] at d0
          rw [← en] at d3 hsz
          have HH := Lib.hid (And.intro hs (And.intro hun (And.intro hlen (And.intro hsz hrow))))
          clear hc ek ev ekd en hs hun hlen hsz hrow
          by_cases hk0 : kd = 0
          · subst hk0
            go_upto_region 14 with fail
            have hb1 := (Below.refl wr.heap.size wr).alloc (Nat.le_refl _) (.cells #[.int .i64 0, .string k, .string v, .int .i64 n] 33)
            have hx1 := heap_alloc_new wr (.cells #[.int .i64 0, .string k, .string v, .int .i64 n] 33)
            generalize wr.alloc (.cells #[.int .i64 0, .string k, .string v, .int .i64 n] 33) = W1 at hb1 hx1 ⊢
            have hb2 := (Below.refl W1.heap.size W1).alloc (Nat.le_refl _) (.cells #[.slice none 0 0, .slice none 0 0] 31)
            have hx2 := (hb2.block wr.heap.size (hp_lt hx1)).trans hx1
            have z0 := (hp_cell (i := 0) hx2).trans rfl
            have z1 := (hp_cell (i := 1) hx2).trans rfl
            have z2 := (hp_cell (i := 2) hx2).trans rfl
            have z3 := (hp_cell (i := 3) hx2).trans rfl
            have hs1 := HH.out.1.below hb1
            have hAct := act_any w _ b W1.heap.size F2 L2 [] (R2 ++ R) [] 0 k v n (hs1.below hb2) (DS.new w W1 hs1.l (.bool true) (.bool true) _ rfl) List.Pairwise.nil HH.out.2.2.2.1.1 HH.out.2.2.2.1.2.1 HH.out.2.2.2.1.2.2 (by have := HH.out.2.2.1; omega) (by simp)
            have HAct := Lib.hid hAct
            have HBB := Lib.hid (And.intro hb1 hb2)
            clear hAct hs1 hx2 hb2 hx1 hb1
            go_wp2_with (go_at_call 11; refine HAct.out.mono ?_; rintro e W3 ⟨r, rfl, _, hp⟩; have H5 := Lib.hid hp; clear hp)
            obtain ⟨F5, hs5⟩ := H5.out.1
            obtain ⟨R3, hR3, hu3⟩ := keep_set HH.out.1.so HH.out.2.1 k v
            have hlen5 := aL_len 0 L2 (R2 ++ R) k v n
            have e1 : aL 0 L2 (R2 ++ R) k v n = setE L2 k v := rfl
            have e2 : aR 0 L2 (R2 ++ R) k v n = setR L2 (R2 ++ R) k v := rfl
            rw [e1, e2, hR3] at hs5 hlen5
            have hrow : W3.ownsRow w.heap.size 43 2 (.slice A8 L.length C8) L.length (pcs L) := ownsRow_keepT HH.out.2.2.2.2 (((KeepT.of_below HBB.out.1).trans (KeepT.of_below HBB.out.2)).trans (H5.out.2.2 _ (DocT.foreign (.inr (.inl rfl))) ⟨by decide, by decide⟩))
            exact ⟨⟨t + 1, F5, _, R3, by omega, by go_num, hs5, hu3, by have := HH.out.2.2.1; omega, hrow⟩, by simp [intOf]; omega⟩
          · by_cases hk1 : kd = 1
            · subst hk1
              go_upto_region 14 with fail
              have hb1 := (Below.refl wr.heap.size wr).alloc (Nat.le_refl _) (.cells #[.int .i64 1, .string k, .string v, .int .i64 n] 33)
              have hx1 := heap_alloc_new wr (.cells #[.int .i64 1, .string k, .string v, .int .i64 n] 33)
              generalize wr.alloc (.cells #[.int .i64 1, .string k, .string v, .int .i64 n] 33) = W1 at hb1 hx1 ⊢
              have hb2 := (Below.refl W1.heap.size W1).alloc (Nat.le_refl _) (.cells #[.slice none 0 0, .slice none 0 0] 31)
              have hx2 := (hb2.block wr.heap.size (hp_lt hx1)).trans hx1
              have z0 := (hp_cell (i := 0) hx2).trans rfl
              have z1 := (hp_cell (i := 1) hx2).trans rfl
              have z2 := (hp_cell (i := 2) hx2).trans rfl
              have z3 := (hp_cell (i := 3) hx2).trans rfl
              have hs1 := HH.out.1.below hb1
              have hAct := act_any w _ b W1.heap.size F2 L2 [] (R2 ++ R) [] 1 k v n (hs1.below hb2) (DS.new w W1 hs1.l (.bool true) (.bool true) _ rfl) List.Pairwise.nil HH.out.2.2.2.1.1 HH.out.2.2.2.1.2.1 HH.out.2.2.2.1.2.2 (by have := HH.out.2.2.1; omega) (by simp)
              have HAct := Lib.hid hAct
              have HBB := Lib.hid (And.intro hb1 hb2)
              clear hAct hs1 hx2 hb2 hx1 hb1
              go_wp2_with (go_at_call 11; refine HAct.out.mono ?_; rintro e W3 ⟨r, rfl, _, hp⟩; have H5 := Lib.hid hp; clear hp)
              obtain ⟨F5, hs5⟩ := H5.out.1
              obtain ⟨R3, hR3, hu3⟩ := keep_del HH.out.1.so HH.out.2.1 k
              have hlen5 := aL_len 1 L2 (R2 ++ R) k v n
              have e1 : aL 1 L2 (R2 ++ R) k v n = sdel L2 k := rfl
              have e2 : aR 1 L2 (R2 ++ R) k v n = delR L2 (R2 ++ R) k := rfl
              rw [e1, e2, hR3] at hs5 hlen5
              have hrow : W3.ownsRow w.heap.size 43 2 (.slice A8 L.length C8) L.length (pcs L) := ownsRow_keepT HH.out.2.2.2.2 (((KeepT.of_below HBB.out.1).trans (KeepT.of_below HBB.out.2)).trans (H5.out.2.2 _ (DocT.foreign (.inr (.inl rfl))) ⟨by decide, by decide⟩))
              exact ⟨⟨t + 1, F5, _, R3, by omega, by go_num, hs5, hu3, by have := HH.out.2.2.1; omega, hrow⟩, by simp [intOf]; omega⟩
            · have z0 : (kd == 0) = false := beq_eq_false_iff_ne.2 hk0
              have z1 : (kd == 1) = false := beq_eq_false_iff_ne.2 hk1
              have hb1 := (Below.refl wr.heap.size wr).alloc (Nat.le_refl _) (.cells #[.int .i64 kd, .string k, .string v, .int .i64 n] 33)
              have H6 := Lib.hid (And.intro (HH.out.1.below hb1) (HH.out.2.2.2.2.alloc (.cells #[.int .i64 kd, .string k, .string v, .int .i64 n] 33)))
              clear hb1 hk0 hk1
              go_wp2
              exact ⟨⟨t + 1, F2, L2, R2, by omega, by go_num, H6.out.1, HH.out.2.1, by have := HH.out.2.2.1; omega, H6.out.2⟩, by simp [intOf]; omega⟩
        · obtain rfl : t = N' := by omega
          have p3 : ¬ (t : Int) < (t : Int) := by omega
          have hAl := SH.all hs (by omega)
          have HAl := Lib.hid hAl
          have HH := Lib.hid (And.intro hs (And.intro hun (And.intro hlen hrow)))
          clear hs hun hlen hrow hAl
          go_wp2_with (go_at_call 20; refine HAl.out.mono ?_; rintro e w7 ⟨⟨v7, rfl, ho7⟩, hb7⟩; obtain ⟨A9, C9, rfl, hrow9⟩ := row_pairs ho7; have H7 := Lib.hid (And.intro (HH.out.1.below hb7) (And.intro (ownsRow_keepT HH.out.2.2.2 (KeepT.of_below hb7)) hrow9)); clear ho7 hrow9 hb7)
          have hLn := HH.out.2.2.1
          have hL2 : (L2.length : Int) ≤ 100000 := by omega
          go_loopw [67] (fun i wr => ∃ p : Nat, p ≤ L2.length ∧ i = .int .i64 (p : Nat) ∧ Below w7.heap.size w7 wr) (fun i _ => L2.length - (intOf i).toNat)
          case atStart => exact ⟨0, by omega, rfl, Below.refl _ _⟩
          case round =>
            obtain ⟨p, hp, rfl, hbb⟩ := hrel
            have HB := Lib.hid hbb
            by_cases hlt3 : p < L2.length
            · have p4 : (p : Int) < (L2.length : Int) := by omega
              obtain ⟨g9, rfl, _, hg9, hcc⟩ := H7.out.2.2 (by omega)
              have c0 := (hbb.cell (p := ⟨g9, p * 2, none⟩) hg9).trans (hcc p hlt3).1
              have c1 := (hbb.cell (p := ⟨g9, p * 2 + 1, none⟩) hg9).trans (hcc p hlt3).2
              have hget := sget_at L2 HH.out.1.so p hlt3
              have hks := HH.out.1.z L2[p] (List.getElem_mem hlt3)
              obtain ⟨pp, epp⟩ : ∃ y, y = L2[p] := ⟨_, rfl⟩
              have EPP := Lib.hid epp
              rw [← epp] at c0 c1 hget hks
              obtain ⟨k, v⟩ := pp
              simp only at c0 c1 hget hks
              have HG := Lib.hid (And.intro hget hks)
              clear hbb hcc epp hget hks
              go_upto_region 20 with fail
              have hb8 := HB.out.alloc HB.out.size (.cells #[.string k, .string v] 43)
              have hx8 := heap_alloc_new wr (.cells #[.string k, .string v] 43)
              generalize wr.alloc (.cells #[.string k, .string v] 43) = W8 at hb8 hx8 ⊢
              have y0 := (hp_cell (i := 0) hx8).trans rfl
              have hGt := SH.get (H7.out.1.below hb8) k HG.out.2.1
              rw [HG.out.1] at hGt
              have HGt := Lib.hid (And.intro hGt (And.intro hb8 hx8))
              clear hGt hb8 hx8
              go_upto_region 21 with (go_at_call 12; refine HGt.out.1.mono ?_; rintro e W9 ⟨he, hb9⟩; obtain rfl : e = .returned (.tuple #[.string v, .bool true]) := he; have hB9 := HGt.out.2.1.trans (hb9.mono HGt.out.2.1.size); have hx9 := (hb9.block wr.heap.size (hp_lt HGt.out.2.2)).trans HGt.out.2.2; have u0 := (hp_cell (i := 0) hx9).trans rfl; have u1 := (hp_cell (i := 1) hx9).trans rfl; have HB9 := Lib.hid hB9; clear hb9 hB9 hx9)
              have q1 : (v.toList == v.toList) = true := beq_self_eq_true _
              by_cases hp0 : p = 0
              · have p5 : decide ((0 : Int) < (p : Int)) = false := decide_eq_false (by omega)
                have p5n : decide (0 < p) = false := decide_eq_false (by omega)
                clear hp0
                go_quiet (fail)
                go_wp2
                exact ⟨⟨p + 1, by omega, by go_num, below_drewN HB9.out _⟩, by simp [intOf]; omega⟩
              · obtain ⟨q, hq⟩ : ∃ q, p = q + 1 := ⟨p - 1, by omega⟩
                have HQ := Lib.hid hq
                have p5 : decide ((0 : Int) < (p : Int)) = true := decide_eq_true (by omega)
                have p9 : (0 : Int) < (p : Int) := by omega
                have p5n : decide (0 < p) = true := decide_eq_true (by omega)
                have p9n : 0 < p := by omega
                have p6 : (p : Int) - 1 = (q : Int) := by omega
                have p7 : (q : Int) < (L2.length : Int) := by omega
                have p8 : wrap64 (q : Int) = (q : Int) := by unfold wrap64; omega
                have b0 := (HB9.out.cell (p := ⟨g9, q * 2, none⟩) hg9).trans ((H7.out.2.2 (by omega)).elim fun g h => by obtain ⟨e, _, _, h3⟩ := h; cases e; exact (h3 q (by omega)).1)
                have hks2 : (L2[q]'(by omega)).1.data.toList < k.data.toList := by
                  have h1 := List.pairwise_iff_getElem.1 HH.out.1.so q p (by unfold skeys; rw [List.length_map]; omega) (by unfold skeys; rw [List.length_map]; omega) (by omega)
                  unfold skeys at h1
                  rw [List.getElem_map, List.getElem_map, ← EPP.out] at h1
                  exact h1
                obtain ⟨kq, hkq⟩ : ∃ y, y = (L2[q]'(by omega)).1 := ⟨_, rfl⟩
                rw [← hkq] at b0 hks2
                have q2 : Op.bytesLess kq.toList k.toList = true := by rw [bytesLess_eq, Lib.toList_data, Lib.toList_data]; exact decide_eq_true hks2
                clear hkq hks2 hq
                go_quiet (fail)
                go_wp2
                exact ⟨⟨p + 1, by omega, by go_num, below_drewN HB9.out _⟩, by simp [intOf]; omega⟩
            · obtain rfl : p = L2.length := by omega
              have p4 : ¬ (L2.length : Int) < (L2.length : Int) := by omega
              have hM := HM.out
              have hs8 := H7.out.1.below hbb
              have hud := SH.undo hs8 (M : Int) (by rw [List.length_append] at hLn; omega) (by rw [List.length_append] at hLn ⊢; omega)
              have eD : undD (R2 ++ R) (M : Int) = R2.length := by
                unfold undD
                rw [if_pos ⟨by omega, by rw [List.length_append]; omega⟩, List.length_append]
                omega
              rw [eD, List.drop_left, HH.out.2.1, decide_eq_true (show 0 ≤ (M : Int) ∧ (M : Int) ≤ ((R2 ++ R).length : Int) from ⟨by omega, by rw [List.length_append]; omega⟩)] at hud
              have hrow8 := ownsRow_keepT H7.out.2.1 (KeepT.of_below hbb)
              have HU := Lib.hid (And.intro hs8 (And.intro hud hrow8))
              have hll := H0.out.2
              have q1 : ((M : Int) == (M : Int)) = true := beq_self_eq_true _
              have q2 : ((L.length : Int) == (L.length : Int)) = true := beq_self_eq_true _
              clear hs8 hud eD hrow8 hbb hM
              go_wp2_with (first
                | (go_at_call 9; refine (lives08_walk _).mono ?_; rintro e w20 ⟨rfl, hb20⟩; have H20 := Lib.hid hb20; clear hb20)
                | (go_at_call 15; refine (SH.len H13.out).mono ?_; rintro e w15 ⟨rfl, rfl⟩)
                | (go_at_call 14; refine (SH.mark H13.out).mono ?_; rintro e w14 ⟨he, rfl⟩; rw [← HM.out] at he; subst he)
                | (go_at_call 19; refine (same_walk A12 A8 C12 C8 L L _ H12.out.2.1 H12.out.2.2 (by omega) true ⟨fun _ => rfl, fun _ => rfl⟩).mono ?_; rintro e w13 ⟨rfl, hb13⟩; have H13 := Lib.hid (H12.out.1.below hb13); clear hb13)
                | (go_at_call 20; refine (SH.all H10.out.1 (by omega)).mono ?_; rintro e w12 ⟨⟨v12, rfl, ho12⟩, hb12⟩; obtain ⟨A12, C12, rfl, hp12⟩ := Pr.of ho12; have hr12 := Pr.of (ownsRow_keepT H10.out.2 (KeepT.of_below hb12)); obtain ⟨Az, Cz, ez, hz⟩ := hr12; cases ez; have H12 := Lib.hid (And.intro (H10.out.1.below hb12) (And.intro hp12 hz)); clear ho12 hp12 hz hb12)
                | (go_at_call 21; refine HU.out.2.1.mono ?_; rintro e w10 ⟨rfl, hto⟩; have hk10 := SHTo.keepT HU.out.1 hto (DocT.foreign (.inr (.inl rfl))); obtain ⟨F10, hs10, _⟩ := hto; have H10 := Lib.hid (And.intro hs10 (ownsRow_keepT HU.out.2.2 hk10)); clear hs10 hk10))
              go_ret
              exact ⟨rfl, H13.out.l.trans (H20.out.mono H13.out.l.size)⟩
  all_goals done
end Go.Proofs.Ytbfmhafmncnhfaa
