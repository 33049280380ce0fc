/- tallagelaw02.less, below, walked where the law comes to them. -/
import Derived.Test.YtiofphpdonlaoaaR7
import Derived.Test.YtiofphpdonlaoaaM6
namespace Go.Proofs.Ytiofphpdonlaoaa
open Go.RowKit Go.Sort

theorem rsubW_c (a b : Nat) (w : World) (ha : a < 2 ^ 256) (hb : b < 2 ^ 256) : Calls Try.prog 18 #[.agg #[.int .u64 (limb a 0 : Nat), .int .u64 (limb a 1 : Nat), .int .u64 (limb a 2 : Nat), .int .u64 (limb a 3 : Nat)], .agg #[.int .u64 (limb b 0 : Nat), .int .u64 (limb b 1 : Nat), .int .u64 (limb b 2 : Nat), .int .u64 (limb b 3 : Nat)]] w fun e w' => e = .returned (.tuple #[U (subv a b), .bool (subk a b)]) ∧ Below w.heap.size w w' := rsub_walk a b w ha hb
theorem rsub1_c (a : Nat) (w : World) (ha : a < 2 ^ 256) : Calls Try.prog 18 #[.agg #[.int .u64 (limb a 0 : Nat), .int .u64 (limb a 1 : Nat), .int .u64 (limb a 2 : Nat), .int .u64 (limb a 3 : Nat)], .agg #[.int .u64 1, .int .u64 0, .int .u64 0, .int .u64 0]] w fun e w' => e = .returned (.tuple #[U (subv a 1), .bool (subk a 1)]) ∧ Below w.heap.size w w' := by
  have h := rsub_walk a 1 w ha (by decide)
  rw [U_small (n := 1) (by decide)] at h
  exact h
theorem U_all : U (2 ^ 256 - 1) = .agg #[.int .u64 18446744073709551615, .int .u64 18446744073709551615, .int .u64 18446744073709551615, .int .u64 18446744073709551615] := by
  unfold U
  rw [show limb (2 ^ 256 - 1) 0 = 18446744073709551615 by decide, show limb (2 ^ 256 - 1) 1 = 18446744073709551615 by decide, show limb (2 ^ 256 - 1) 2 = 18446744073709551615 by decide, show limb (2 ^ 256 - 1) 3 = 18446744073709551615 by decide]; rfl
theorem rsubM_c (b : Nat) (w : World) (hb : b < 2 ^ 256) : Calls Try.prog 18 #[.agg #[.int .u64 18446744073709551615, .int .u64 18446744073709551615, .int .u64 18446744073709551615, .int .u64 18446744073709551615], .agg #[.int .u64 (limb b 0 : Nat), .int .u64 (limb b 1 : Nat), .int .u64 (limb b 2 : Nat), .int .u64 (limb b 3 : Nat)]] w fun e w' => e = .returned (.tuple #[U (2 ^ 256 - 1 - b), .bool true]) ∧ Below w.heap.size w w' := by
  have h := rsub_walk (2 ^ 256 - 1) b w (by decide) hb
  rw [U_all, show subv (2 ^ 256 - 1) b = 2 ^ 256 - 1 - b from if_pos (by omega), show subk (2 ^ 256 - 1) b = true from decide_eq_true (by omega)] at h
  exact h
theorem radd1_c (a : Nat) (w : World) (ha : a < 2 ^ 256) : Calls Try.prog 16 #[.agg #[.int .u64 (limb a 0 : Nat), .int .u64 (limb a 1 : Nat), .int .u64 (limb a 2 : Nat), .int .u64 (limb a 3 : Nat)], .agg #[.int .u64 1, .int .u64 0, .int .u64 0, .int .u64 0]] w fun e w' => e = .returned (.tuple #[U (addv a 1), .bool (addk a 1)]) ∧ Below w.heap.size w w' := by
  have h := radd_walk a 1 w ha (by decide)
  rw [U_small (n := 1) (by decide)] at h
  exact h
/-- two wide numbers in boxes -/
structure Two8 (w wr : World) (AH AL BH BL : Nat) : Prop where
  a : Arr .u64 wr w.heap.size 8 (wh AH AL)
  b : Arr .u64 wr (w.heap.size + 1) 8 (wh BH BL)
  l : Below w.heap.size w wr
  s : w.heap.size + 1 < wr.heap.size
theorem Two8.below {w wr w' : World} {AH AL BH BL : Nat} (h : Two8 w wr AH AL BH BL) (hb : Below wr.heap.size wr w') : Two8 w w' AH AL BH BL := by
  have := h.s; have := hb.size
  exact ⟨h.a.below hb (by omega), h.b.below hb (by omega), h.l.trans (hb.mono (by omega)), by omega⟩
theorem Two8.alloc {w wr : World} {AH AL BH BL : Nat} (h : Two8 w wr AH AL BH BL) (o : Obj) : Two8 w (wr.alloc o) AH AL BH BL := by
  have := h.s
  exact ⟨h.a.alloc o, h.b.alloc o, h.l.alloc (by omega) o, by rw [World.size_alloc]; omega⟩
theorem Two8.put4 {w wr : World} {AH AL BH BL L : Nat} {x0 x1 x2 x3 : Value} (h : Two8 w wr AH AL BH BL) (hL : w.heap.size + 1 < L) :
    Two8 w ((((wr.setCell ⟨L, 0, none⟩ x0).setCell ⟨L, 1, none⟩ x1).setCell ⟨L, 2, none⟩ x2).setCell ⟨L, 3, none⟩ x3) AH AL BH BL :=
  ⟨h.a.put4_far (by omega), h.b.put4_far (by omega), below_set4 h.l (by omega), by simp only [World.size_setCell]; exact h.s⟩
theorem two8_first {AH AL BH BL : Nat} {w : World} {t1 t2 : TypeId} :
    Two8 w ((w.alloc (.cells #[.int .u64 (limb AH 0 : Nat), .int .u64 (limb AH 1 : Nat), .int .u64 (limb AH 2 : Nat), .int .u64 (limb AH 3 : Nat), .int .u64 (limb AL 0 : Nat), .int .u64 (limb AL 1 : Nat), .int .u64 (limb AL 2 : Nat), .int .u64 (limb AL 3 : Nat)] t1)).alloc (.cells #[.int .u64 (limb BH 0 : Nat), .int .u64 (limb BH 1 : Nat), .int .u64 (limb BH 2 : Nat), .int .u64 (limb BH 3 : Nat), .int .u64 (limb BL 0 : Nat), .int .u64 (limb BL 1 : Nat), .int .u64 (limb BL 2 : Nat), .int .u64 (limb BL 3 : Nat)] t2)) AH AL BH BL :=
  ⟨(Arr.new8 (f := wh AH AL) rfl).alloc _, Arr.new8 (f := wh BH BL) (by simp), ((Below.refl _ _).alloc (Nat.le_refl _) _).alloc (by simp only [World.size_alloc]; omega) _, by simp⟩
/-- a wide number in a block made later -/
structure Wide8 (w : World) (L H Lo : Nat) : Prop where
  a : Arr .u64 w L 8 (wh H Lo)
  s : L < w.heap.size
def LessPost (RH RL : Nat) (w : World) (e : Ending) (w' : World) : Prop := (∃ L, e = .returned (.pointer (some ⟨L, 0, none⟩)) ∧ Wide8 w' L RH RL) ∧ Below w.heap.size w w'

set_option maxRecDepth 100000 in
set_option maxHeartbeats 4000000 in
theorem less_walk_a (AH AL BH BL : Nat) (w : World) (h1 : AH < 2 ^ 256) (h2 : AL < 2 ^ 256) (h3 : BH < 2 ^ 256) (h4 : BL < 2 ^ 256) (hH : BH ≤ AH) (hL : BL ≤ AL) :
    Calls Try.prog 49 #[WW AH AL, WW BH BL] w (LessPost (AH - BH) (AL - BL) w) := by
  obtain ⟨x, hx⟩ : ∃ x, x = AL - BL := ⟨_, rfl⟩
  obtain ⟨y, hy⟩ : ∃ x, x = AH - BH := ⟨_, rfl⟩
  have HX := Lib.hid (show subv AL BL = x ∧ subk AL BL = true from ⟨by rw [hx]; exact if_pos hL, decide_eq_true hL⟩)
  have HY := Lib.hid (show subv AH BH = y ∧ subk AH BH = true from ⟨by rw [hy]; exact if_pos hH, decide_eq_true hH⟩)
  rw [← hx, ← hy]
  have H1 := Lib.hid h1
  have H2 := Lib.hid h2
  have H3 := Lib.hid h3
  have H4 := Lib.hid h4
  clear h1 h2 h3 h4 hH hL hx hy
  have T0 := Lib.hid (two8_first (AH := AH) (AL := AL) (BH := BH) (BL := BL) (w := w) (t1 := 46) (t2 := 46))
  unfold WW
  go_enter Try.func49, Try.ntmps49
  go_wp2_with (first
    | (go_at_call 18; with_reducible refine (rsubW_c AH BH _ H1.out H3.out).mono ?_; rintro e w2 ⟨rfl, hb2⟩; rw [HY.out.1, HY.out.2]; have u2 := (u1.alloc _).below hb2; have bx2 := (Box.new (n := x) rfl).below hb2; have lx2 := bx2.s; obtain ⟨n0, n1, n2, n3⟩ := bx2.a.cells4; unfold U)
    | (go_at_call 18; with_reducible refine (rsubW_c AL BL _ H2.out H4.out).mono ?_; rintro e w1 ⟨rfl, hb1⟩; rw [HX.out.1, HX.out.2]; have u1 := T0.out.below hb1; have s1 := u1.s; have la1 : w.heap.size < w1.heap.size := (by omega); obtain ⟨a0, a1, a2, a3, a4, a5, a6, a7⟩ := wh_cells u1.a; obtain ⟨b0, b1, b2, b3, b4, b5, b6, b7⟩ := wh_cells u1.b; unfold U))
  go_ret
  exact ⟨⟨w2.heap.size + 1, rfl, ⟨Arr.new8 (f := wh y x) (by simp), by simp⟩⟩, ((u2.alloc _).alloc _).l⟩

theorem Box.put4_far {w : World} {L L' n : Nat} {x0 x1 x2 x3 : Value} (h : Box w L n) (hL : L' ≠ L) : Box ((((w.setCell ⟨L', 0, none⟩ x0).setCell ⟨L', 1, none⟩ x1).setCell ⟨L', 2, none⟩ x2).setCell ⟨L', 3, none⟩ x3) L n :=
  ⟨h.a.put4_far hL, by simp only [World.size_setCell]; exact h.s⟩
theorem Box.put4 {w : World} {L n m : Nat} (h : Box w L n) :
    Box ((((w.setCell ⟨L, 0, none⟩ (.int .u64 (limb m 0 : Nat))).setCell ⟨L, 1, none⟩ (.int .u64 (limb m 1 : Nat))).setCell ⟨L, 2, none⟩ (.int .u64 (limb m 2 : Nat))).setCell ⟨L, 3, none⟩ (.int .u64 (limb m 3 : Nat))) L m :=
  ⟨h.a.put4, by simp only [World.size_setCell]; exact h.s⟩
set_option maxRecDepth 100000 in
set_option maxHeartbeats 4000000 in
theorem less_walk_b (AH AL BH BL : Nat) (w : World) (h1 : AH < 2 ^ 256) (h2 : AL < 2 ^ 256) (h3 : BH < 2 ^ 256) (h4 : BL < 2 ^ 256) (hH : BH < AH) (hL : AL < BL) :
    Calls Try.prog 49 #[WW AH AL, WW BH BL] w (LessPost (AH - BH - 1) (2 ^ 256 + AL - BL) w) := by
  obtain ⟨y1, hy1⟩ : ∃ x, x = AH - BH := ⟨_, rfl⟩
  obtain ⟨y2, hy2⟩ : ∃ x, x = AH - BH - 1 := ⟨_, rfl⟩
  obtain ⟨up, hup⟩ : ∃ x, x = BL - AL := ⟨_, rfl⟩
  obtain ⟨m, hm⟩ : ∃ x, x = 2 ^ 256 - 1 - up := ⟨_, rfl⟩
  obtain ⟨x, hx⟩ : ∃ x, x = 2 ^ 256 + AL - BL := ⟨_, rfl⟩
  obtain ⟨z, hz⟩ : ∃ z : Nat, z = 0 := ⟨_, rfl⟩
  have HX := Lib.hid (show subv AL BL = z ∧ subk AL BL = false from ⟨by rw [hz]; exact if_neg (by omega), decide_eq_false (by omega)⟩)
  have HY1 := Lib.hid (show subv AH BH = y1 ∧ subk AH BH = true ∧ y1 < 2 ^ 256 from ⟨by rw [hy1]; exact if_pos (by omega), decide_eq_true (by omega), by omega⟩)
  have HY2 := Lib.hid (show subv y1 1 = y2 ∧ subk y1 1 = true from ⟨by rw [hy2, hy1]; exact if_pos (by omega), decide_eq_true (by omega)⟩)
  have HU := Lib.hid (show subv BL AL = up ∧ up < 2 ^ 256 from ⟨by rw [hup]; exact if_pos (by omega), by omega⟩)
  have HM := Lib.hid (show 2 ^ 256 - 1 - up = m ∧ m < 2 ^ 256 from ⟨hm.symm, by omega⟩)
  have HF := Lib.hid (show addv m 1 = x by rw [hx]; unfold addv; rw [if_pos (by omega)]; omega)
  rw [← hx, ← hy2]
  have H1 := Lib.hid h1
  have H2 := Lib.hid h2
  have H3 := Lib.hid h3
  have H4 := Lib.hid h4
  clear h1 h2 h3 h4 hH hL hx hy1 hy2 hup hm hz
  have T0 := Lib.hid (two8_first (AH := AH) (AL := AL) (BH := BH) (BL := BL) (w := w) (t1 := 46) (t2 := 46))
  unfold WW
  go_enter Try.func49, Try.ntmps49
  go_wp2_with (first
    | (go_at_call 16; with_reducible refine (radd1_c m _ HM.out.2).mono ?_; rintro e w6 ⟨rfl, hb6⟩; rw [HF.out]; have u6 := (u5.put4 (L := w1.heap.size) (by omega)).below hb6; have b56 := (b55.put4 (m := m)).below hb6; have b76 := (b75.put4_far (L' := w1.heap.size) (by omega)).below hb6; obtain ⟨_, _, _, _⟩ := b56.a.frees4; obtain ⟨_, _, _, _⟩ := b56.a.cells4; obtain ⟨_, _, _, _⟩ := b76.a.cells4; unfold U)
    | (go_at_call 18; with_reducible refine (rsubM_c up _ HU.out.2).mono ?_; rintro e w5 ⟨rfl, hb5⟩; rw [HM.out.1]; have u5 := (u4.alloc _).below hb5; have b55 := (b54.alloc _).below hb5; have b75 := (b74.alloc _).below hb5; have l55 := b55.s; obtain ⟨_, _, _, _⟩ := b55.a.frees4; obtain ⟨_, _, _, _⟩ := b55.a.cells4; unfold U)
    | (go_at_call 18; with_reducible refine (rsubW_c BL AL _ H4.out H2.out).mono ?_; rintro e w4 ⟨rfl, hb4⟩; rw [HU.out.1]; have u4 := (u3.put4 (L := w2.heap.size) (by omega)).below hb4; have b54 := (b53.put4_far (L' := w2.heap.size) (by omega)).below hb4; have b74 := (b73.put4 (m := y2)).below hb4; unfold U)
    | (go_at_call 18; with_reducible refine (rsub1_c y1 _ HY1.out.2.2).mono ?_; rintro e w3 ⟨rfl, hb3⟩; rw [HY2.out.1, HY2.out.2]; have u3 := (u2.alloc _).below hb3; have b53 := (b52.alloc _).below hb3; have b73 := (Box.new (n := y1) rfl).below hb3; have l53 := b53.s; have l73 := b73.s; obtain ⟨_, _, _, _⟩ := b73.a.frees4; obtain ⟨_, _, _, _⟩ := b73.a.cells4; obtain ⟨c0, c1, c2, c3, c4, c5, c6, c7⟩ := wh_cells u3.a; obtain ⟨d0, d1, d2, d3, d4, d5, d6, d7⟩ := wh_cells u3.b; have ne1 : w2.heap.size ≠ w.heap.size := (by omega); have ne2 : w2.heap.size ≠ w.heap.size + 1 := (by omega); have ne3 : w.heap.size ≠ w2.heap.size := (by omega); have ne4 : w.heap.size + 1 ≠ w2.heap.size := (by omega); unfold U)
    | (go_at_call 18; with_reducible refine (rsubW_c AH BH _ H1.out H3.out).mono ?_; rintro e w2 ⟨rfl, hb2⟩; rw [HY1.out.1, HY1.out.2.1]; have u2 := (u1.alloc _).below hb2; have b52 := (Box.new (n := z) rfl).below hb2; have l52 := b52.s; have s2 := u2.s; unfold U)
    | (go_at_call 18; with_reducible refine (rsubW_c AL BL _ H2.out H4.out).mono ?_; rintro e w1 ⟨rfl, hb1⟩; rw [HX.out.1, HX.out.2]; have u1 := T0.out.below hb1; have s1 := u1.s; have la1 : w.heap.size < w1.heap.size := (by omega); obtain ⟨a0, a1, a2, a3, a4, a5, a6, a7⟩ := wh_cells u1.a; obtain ⟨b0, b1, b2, b3, b4, b5, b6, b7⟩ := wh_cells u1.b; unfold U))
  go_ret
  exact ⟨⟨w6.heap.size, rfl, ⟨Arr.new8 (f := wh y2 x) (by simp), by simp⟩⟩, ((u6.put4 (L := w1.heap.size) (by omega)).alloc _).l⟩

theorem less_walk (AH AL BH BL RH RL : Nat) (w : World) (h1 : AH < 2 ^ 256) (h2 : AL < 2 ^ 256) (h3 : BH < 2 ^ 256) (h4 : BL < 2 ^ 256) (hR : BH * 2 ^ 256 + BL + (RH * 2 ^ 256 + RL) = AH * 2 ^ 256 + AL) (hRL : RL < 2 ^ 256) :
    Calls Try.prog 49 #[WW AH AL, WW BH BL] w (LessPost RH RL w) := by
  by_cases hL : BL ≤ AL
  · have e1 : RH = AH - BH := by omega
    have e2 : RL = AL - BL := by omega
    rw [e1, e2]
    exact less_walk_a AH AL BH BL w h1 h2 h3 h4 (by omega) hL
  · have e1 : RH = AH - BH - 1 := by omega
    have e2 : RL = 2 ^ 256 + AL - BL := by omega
    rw [e1, e2]
    exact less_walk_b AH AL BH BL w h1 h2 h3 h4 (by omega) (by omega)

/-- the wide number and the divisor, as below finds them -/
structure Bel (w wr : World) (L H Lo d : Nat) : Prop where
  a : Arr .u64 wr L 8 (wh H Lo)
  d : Arr .u64 wr w.heap.size 4 (limb d)
  l : Below w.heap.size w wr
  s : L < wr.heap.size ∧ w.heap.size < wr.heap.size
theorem Bel.below {w wr w' : World} {L H Lo d : Nat} (h : Bel w wr L H Lo d) (hb : Below wr.heap.size wr w') : Bel w w' L H Lo d := by
  have := h.s; have := hb.size
  exact ⟨h.a.below hb h.s.1, h.d.below hb h.s.2, h.l.trans (hb.mono (by omega)), by omega⟩
theorem Bel.drew {w wr : World} {L H Lo d : Nat} (h : Bel w wr L H Lo d) : Bel w wr.drew L H Lo d := ⟨h.a.drew, h.d.drew, below_drewN h.l 1, h.s⟩
theorem heldB {w w' : World} {L H Lo d : Nat} (h : Bel w w' L H Lo d) : w'.cell? ⟨L, 0, none⟩ = some (.int .u64 (limb H 0 : Nat)) ∧ w'.cell? ⟨L, 1, none⟩ = some (.int .u64 (limb H 1 : Nat)) ∧ w'.cell? ⟨L, 2, none⟩ = some (.int .u64 (limb H 2 : Nat)) ∧ w'.cell? ⟨L, 3, none⟩ = some (.int .u64 (limb H 3 : Nat)) ∧ w'.cell? ⟨L, 4, none⟩ = some (.int .u64 (limb Lo 0 : Nat)) ∧ w'.cell? ⟨L, 5, none⟩ = some (.int .u64 (limb Lo 1 : Nat)) ∧ w'.cell? ⟨L, 6, none⟩ = some (.int .u64 (limb Lo 2 : Nat)) ∧ w'.cell? ⟨L, 7, none⟩ = some (.int .u64 (limb Lo 3 : Nat)) ∧ w'.cell? ⟨w.heap.size, 0, none⟩ = some (.int .u64 (limb d 0 : Nat)) ∧ w'.cell? ⟨w.heap.size, 1, none⟩ = some (.int .u64 (limb d 1 : Nat)) ∧ w'.cell? ⟨w.heap.size, 2, none⟩ = some (.int .u64 (limb d 2 : Nat)) ∧ w'.cell? ⟨w.heap.size, 3, none⟩ = some (.int .u64 (limb d 3 : Nat)) ∧ Bel w w' L H Lo d := by
  obtain ⟨a0, a1, a2, a3, a4, a5, a6, a7⟩ := wh_cells h.a
  obtain ⟨d0, d1, d2, d3⟩ := h.d.cells4
  exact ⟨a0, a1, a2, a3, a4, a5, a6, a7, d0, d1, d2, d3, h⟩
theorem un_heldB {w w' : World} {L H Lo d : Nat} (h : w'.cell? ⟨L, 0, none⟩ = some (.int .u64 (limb H 0 : Nat)) ∧ w'.cell? ⟨L, 1, none⟩ = some (.int .u64 (limb H 1 : Nat)) ∧ w'.cell? ⟨L, 2, none⟩ = some (.int .u64 (limb H 2 : Nat)) ∧ w'.cell? ⟨L, 3, none⟩ = some (.int .u64 (limb H 3 : Nat)) ∧ w'.cell? ⟨L, 4, none⟩ = some (.int .u64 (limb Lo 0 : Nat)) ∧ w'.cell? ⟨L, 5, none⟩ = some (.int .u64 (limb Lo 1 : Nat)) ∧ w'.cell? ⟨L, 6, none⟩ = some (.int .u64 (limb Lo 2 : Nat)) ∧ w'.cell? ⟨L, 7, none⟩ = some (.int .u64 (limb Lo 3 : Nat)) ∧ w'.cell? ⟨w.heap.size, 0, none⟩ = some (.int .u64 (limb d 0 : Nat)) ∧ w'.cell? ⟨w.heap.size, 1, none⟩ = some (.int .u64 (limb d 1 : Nat)) ∧ w'.cell? ⟨w.heap.size, 2, none⟩ = some (.int .u64 (limb d 2 : Nat)) ∧ w'.cell? ⟨w.heap.size, 3, none⟩ = some (.int .u64 (limb d 3 : Nat)) ∧ Bel w w' L H Lo d) : Bel w w' L H Lo d := h.2.2.2.2.2.2.2.2.2.2.2.2
set_option maxRecDepth 100000 in
set_option maxHeartbeats 4000000 in
theorem below_walk (L H Lo d : Nat) (w : World) (hw : Wide8 w L H Lo) (hH : H < 2 ^ 256) (hLo : Lo < 2 ^ 256) (hd : d < 2 ^ 256) (h0 : H = 0) (hlt : Lo < d) :
    Calls Try.prog 50 #[.pointer (some ⟨L, 0, none⟩), U d] w fun e w' => e = .returned (.bool true) ∧ Below w.heap.size w w' := by
  have heq := fun w => eq0_run hH w
  have hdec : decide (H = 0) = true := decide_eq_true h0
  obtain ⟨c, hc⟩ : ∃ c, c = cmpU Lo d := ⟨_, rfl⟩
  have q1 : c < 0 := by rw [hc, cmpU_lt hlt]; decide
  have HLo := Lib.hid hLo
  have Hd := Lib.hid hd
  have Hc := Lib.hid hc
  have hLs := hw.s
  have T0 := Lib.hid (show Bel w (w.alloc (.cells #[.int .u64 (limb d 0 : Nat), .int .u64 (limb d 1 : Nat), .int .u64 (limb d 2 : Nat), .int .u64 (limb d 3 : Nat)] 24)) L H Lo d from
    ⟨hw.a.alloc _, Arr.new4 (f := limb d) rfl, (Below.refl _ _).alloc (Nat.le_refl _) _, by simp; omega⟩)
  clear hw hLo hd hc h0 hlt hH
  unfold U
  go_enter Try.func50, Try.ntmps50
  go_upto_region 1 with (fail)
  go_region_held3 (fun w' => w'.cell? ⟨L, 0, none⟩ = some (.int .u64 (limb H 0 : Nat)) ∧ w'.cell? ⟨L, 1, none⟩ = some (.int .u64 (limb H 1 : Nat)) ∧ w'.cell? ⟨L, 2, none⟩ = some (.int .u64 (limb H 2 : Nat)) ∧ w'.cell? ⟨L, 3, none⟩ = some (.int .u64 (limb H 3 : Nat)) ∧ w'.cell? ⟨L, 4, none⟩ = some (.int .u64 (limb Lo 0 : Nat)) ∧ w'.cell? ⟨L, 5, none⟩ = some (.int .u64 (limb Lo 1 : Nat)) ∧ w'.cell? ⟨L, 6, none⟩ = some (.int .u64 (limb Lo 2 : Nat)) ∧ w'.cell? ⟨L, 7, none⟩ = some (.int .u64 (limb Lo 3 : Nat)) ∧ w'.cell? ⟨w.heap.size, 0, none⟩ = some (.int .u64 (limb d 0 : Nat)) ∧ w'.cell? ⟨w.heap.size, 1, none⟩ = some (.int .u64 (limb d 1 : Nat)) ∧ w'.cell? ⟨w.heap.size, 2, none⟩ = some (.int .u64 (limb d 2 : Nat)) ∧ w'.cell? ⟨w.heap.size, 3, none⟩ = some (.int .u64 (limb d 3 : Nat)) ∧ Bel w w' L H Lo d)
    ((refine heldB ?_; repeat (first | with_reducible exact u1 | with_reducible exact T0.out | with_reducible refine Bel.drew ?_ | with_reducible exact un_heldB (by with_reducible assumption))))
    ((go_at_call 23; refine (rcmp_walk Lo d _ HLo.out Hd.out).mono ?_; rintro e w1 ⟨rfl, hb1⟩; rw [← Hc.out]; have u1 : Bel w w1 L H Lo d := Bel.below (un_heldB (by with_reducible assumption)) hb1))
  go_wp2
  go_ret
  exact ⟨rfl, u1.l⟩
theorem Wide8.below {w w' : World} {L H Lo : Nat} (h : Wide8 w L H Lo) (hb : Below w.heap.size w w') : Wide8 w' L H Lo := ⟨h.a.below hb h.s, Nat.lt_of_lt_of_le h.s hb.size⟩
theorem Wide8.alloc {w : World} {L H Lo : Nat} (h : Wide8 w L H Lo) (o : Obj) : Wide8 (w.alloc o) L H Lo := ⟨h.a.alloc o, by rw [World.size_alloc]; have := h.s; omega⟩
theorem Wide8.new {w : World} {t : TypeId} {H Lo : Nat} : Wide8 (w.alloc (.cells #[.int .u64 (limb H 0 : Nat), .int .u64 (limb H 1 : Nat), .int .u64 (limb H 2 : Nat), .int .u64 (limb H 3 : Nat), .int .u64 (limb Lo 0 : Nat), .int .u64 (limb Lo 1 : Nat), .int .u64 (limb Lo 2 : Nat), .int .u64 (limb Lo 3 : Nat)] t)) w.heap.size H Lo :=
  ⟨Arr.new8 (f := wh H Lo) rfl, by simp⟩
end Go.Proofs.Ytiofphpdonlaoaa
