/- muldiv.Quo, walked where it divides for long. -/
import Derived.Test.YtnjcnlbphaodcaaGreatG36
import Derived.Test.YtnjcnlbphaodcaaGreatG32
import Derived.Test.YtnjcnlbphaodcaaGreatG18
namespace Go.Proofs.YtnjcnlbphaodcaaGreat
open Go.RowKit

theorem wh_cells {w : World} {b H L : Nat} (h : Arr .u64 w b 8 (wh H L)) :
    w.cell? ⟨b, 0, none⟩ = some (.int .u64 (limb H 0 : Nat)) ∧ w.cell? ⟨b, 1, none⟩ = some (.int .u64 (limb H 1 : Nat)) ∧ w.cell? ⟨b, 2, none⟩ = some (.int .u64 (limb H 2 : Nat)) ∧ w.cell? ⟨b, 3, none⟩ = some (.int .u64 (limb H 3 : Nat)) ∧
    w.cell? ⟨b, 4, none⟩ = some (.int .u64 (limb L 0 : Nat)) ∧ w.cell? ⟨b, 5, none⟩ = some (.int .u64 (limb L 1 : Nat)) ∧ w.cell? ⟨b, 6, none⟩ = some (.int .u64 (limb L 2 : Nat)) ∧ w.cell? ⟨b, 7, none⟩ = some (.int .u64 (limb L 3 : Nat)) := h.cells8
theorem wl_low {A i : Nat} : wl A (4 + i) = limb A i := by unfold wl; rw [if_neg (by omega), Nat.add_sub_cancel_left]

end Go.Proofs.YtnjcnlbphaodcaaGreat

namespace Go.Proofs.YtnjcnlbphaodcaaGreat
open Go.RowKit Go.Sort

theorem rsubW_c (a b : Nat) (w : World) (ha : a < 2 ^ 256) (hb : b < 2 ^ 256) : Calls Tryz.prog 47 #[.agg #[.int .u64 (limb a 0 : Nat), .int .u64 (limb a 1 : Nat), .int .u64 (limb a 2 : Nat), .int .u64 (limb a 3 : Nat)], .agg #[.int .u64 (limb b 0 : Nat), .int .u64 (limb b 1 : Nat), .int .u64 (limb b 2 : Nat), .int .u64 (limb b 3 : Nat)]] w fun e w' => e = .returned (.tuple #[U (subv a b), .bool (subk a b)]) ∧ Below w.heap.size w w' := rsub_walk a b w ha hb
theorem rsub1_c (a : Nat) (w : World) (ha : a < 2 ^ 256) : Calls Tryz.prog 47 #[.agg #[.int .u64 (limb a 0 : Nat), .int .u64 (limb a 1 : Nat), .int .u64 (limb a 2 : Nat), .int .u64 (limb a 3 : Nat)], .agg #[.int .u64 1, .int .u64 0, .int .u64 0, .int .u64 0]] w fun e w' => e = .returned (.tuple #[U (subv a 1), .bool (subk a 1)]) ∧ Below w.heap.size w w' := by
  have h := rsub_walk a 1 w ha (by decide)
  rw [U_small (n := 1) (by decide)] at h
  exact h
theorem U_all : U (2 ^ 256 - 1) = .agg #[.int .u64 18446744073709551615, .int .u64 18446744073709551615, .int .u64 18446744073709551615, .int .u64 18446744073709551615] := by
  unfold U
  rw [show limb (2 ^ 256 - 1) 0 = 18446744073709551615 by decide, show limb (2 ^ 256 - 1) 1 = 18446744073709551615 by decide, show limb (2 ^ 256 - 1) 2 = 18446744073709551615 by decide, show limb (2 ^ 256 - 1) 3 = 18446744073709551615 by decide]; rfl
theorem rsubM_c (b : Nat) (w : World) (hb : b < 2 ^ 256) : Calls Tryz.prog 47 #[.agg #[.int .u64 18446744073709551615, .int .u64 18446744073709551615, .int .u64 18446744073709551615, .int .u64 18446744073709551615], .agg #[.int .u64 (limb b 0 : Nat), .int .u64 (limb b 1 : Nat), .int .u64 (limb b 2 : Nat), .int .u64 (limb b 3 : Nat)]] w fun e w' => e = .returned (.tuple #[U (2 ^ 256 - 1 - b), .bool true]) ∧ Below w.heap.size w w' := by
  have h := rsub_walk (2 ^ 256 - 1) b w (by decide) hb
  rw [U_all, show subv (2 ^ 256 - 1) b = 2 ^ 256 - 1 - b from if_pos (by omega), show subk (2 ^ 256 - 1) b = true from decide_eq_true (by omega)] at h
  exact h
theorem radd1_c (a : Nat) (w : World) (ha : a < 2 ^ 256) : Calls Tryz.prog 44 #[.agg #[.int .u64 (limb a 0 : Nat), .int .u64 (limb a 1 : Nat), .int .u64 (limb a 2 : Nat), .int .u64 (limb a 3 : Nat)], .agg #[.int .u64 1, .int .u64 0, .int .u64 0, .int .u64 0]] w fun e w' => e = .returned (.tuple #[U (addv a 1), .bool (addk a 1)]) ∧ Below w.heap.size w w' := by
  have h := radd_walk a 1 w ha (by decide)
  rw [U_small (n := 1) (by decide)] at h
  exact h
/-- two wide numbers in boxes -/
structure Two8 (w wr : World) (AH AL BH BL : Nat) : Prop where
  a : Arr .u64 wr w.heap.size 8 (wh AH AL)
  b : Arr .u64 wr (w.heap.size + 1) 8 (wh BH BL)
  l : Below w.heap.size w wr
  s : w.heap.size + 1 < wr.heap.size
theorem Two8.below {w wr w' : World} {AH AL BH BL : Nat} (h : Two8 w wr AH AL BH BL) (hb : Below wr.heap.size wr w') : Two8 w w' AH AL BH BL := by
  have := h.s; have := hb.size
  exact ⟨h.a.below hb (by omega), h.b.below hb (by omega), h.l.trans (hb.mono (by omega)), by omega⟩
theorem Two8.alloc {w wr : World} {AH AL BH BL : Nat} (h : Two8 w wr AH AL BH BL) (o : Obj) : Two8 w (wr.alloc o) AH AL BH BL := by
  have := h.s
  exact ⟨h.a.alloc o, h.b.alloc o, h.l.alloc (by omega) o, by rw [World.size_alloc]; omega⟩
theorem Two8.put4 {w wr : World} {AH AL BH BL L : Nat} {x0 x1 x2 x3 : Value} (h : Two8 w wr AH AL BH BL) (hL : w.heap.size + 1 < L) :
    Two8 w ((((wr.setCell ⟨L, 0, none⟩ x0).setCell ⟨L, 1, none⟩ x1).setCell ⟨L, 2, none⟩ x2).setCell ⟨L, 3, none⟩ x3) AH AL BH BL :=
  ⟨h.a.put4_far (by omega), h.b.put4_far (by omega), below_set4 h.l (by omega), by simp only [World.size_setCell]; exact h.s⟩
theorem two8_first {AH AL BH BL : Nat} {w : World} {t1 t2 : TypeId} :
    Two8 w ((w.alloc (.cells #[.int .u64 (limb AH 0 : Nat), .int .u64 (limb AH 1 : Nat), .int .u64 (limb AH 2 : Nat), .int .u64 (limb AH 3 : Nat), .int .u64 (limb AL 0 : Nat), .int .u64 (limb AL 1 : Nat), .int .u64 (limb AL 2 : Nat), .int .u64 (limb AL 3 : Nat)] t1)).alloc (.cells #[.int .u64 (limb BH 0 : Nat), .int .u64 (limb BH 1 : Nat), .int .u64 (limb BH 2 : Nat), .int .u64 (limb BH 3 : Nat), .int .u64 (limb BL 0 : Nat), .int .u64 (limb BL 1 : Nat), .int .u64 (limb BL 2 : Nat), .int .u64 (limb BL 3 : Nat)] t2)) AH AL BH BL :=
  ⟨(Arr.new8 (f := wh AH AL) rfl).alloc _, Arr.new8 (f := wh BH BL) (by simp), ((Below.refl _ _).alloc (Nat.le_refl _) _).alloc (by simp only [World.size_alloc]; omega) _, by simp⟩
/-- a wide number in a block made later -/
structure Wide8 (w : World) (L H Lo : Nat) : Prop where
  a : Arr .u64 w L 8 (wh H Lo)
  s : L < w.heap.size
def LessPost (RH RL : Nat) (w : World) (e : Ending) (w' : World) : Prop := (∃ L, e = .returned (.pointer (some ⟨L, 0, none⟩)) ∧ Wide8 w' L RH RL) ∧ Below w.heap.size w w'

theorem Box.put4_far {w : World} {L L' n : Nat} {x0 x1 x2 x3 : Value} (h : Box w L n) (hL : L' ≠ L) : Box ((((w.setCell ⟨L', 0, none⟩ x0).setCell ⟨L', 1, none⟩ x1).setCell ⟨L', 2, none⟩ x2).setCell ⟨L', 3, none⟩ x3) L n :=
  ⟨h.a.put4_far hL, by simp only [World.size_setCell]; exact h.s⟩
theorem Box.put4 {w : World} {L n m : Nat} (h : Box w L n) :
    Box ((((w.setCell ⟨L, 0, none⟩ (.int .u64 (limb m 0 : Nat))).setCell ⟨L, 1, none⟩ (.int .u64 (limb m 1 : Nat))).setCell ⟨L, 2, none⟩ (.int .u64 (limb m 2 : Nat))).setCell ⟨L, 3, none⟩ (.int .u64 (limb m 3 : Nat))) L m :=
  ⟨h.a.put4, by simp only [World.size_setCell]; exact h.s⟩
/-- the wide number and the divisor, as below finds them -/
structure Bel (w wr : World) (L H Lo d : Nat) : Prop where
  a : Arr .u64 wr L 8 (wh H Lo)
  d : Arr .u64 wr w.heap.size 4 (limb d)
  l : Below w.heap.size w wr
  s : L < wr.heap.size ∧ w.heap.size < wr.heap.size
theorem Bel.below {w wr w' : World} {L H Lo d : Nat} (h : Bel w wr L H Lo d) (hb : Below wr.heap.size wr w') : Bel w w' L H Lo d := by
  have := h.s; have := hb.size
  exact ⟨h.a.below hb h.s.1, h.d.below hb h.s.2, h.l.trans (hb.mono (by omega)), by omega⟩
theorem Bel.drew {w wr : World} {L H Lo d : Nat} (h : Bel w wr L H Lo d) : Bel w wr.drew L H Lo d := ⟨h.a.drew, h.d.drew, below_drewN h.l 1, h.s⟩
theorem heldB {w w' : World} {L H Lo d : Nat} (h : Bel w w' L H Lo d) : w'.cell? ⟨L, 0, none⟩ = some (.int .u64 (limb H 0 : Nat)) ∧ w'.cell? ⟨L, 1, none⟩ = some (.int .u64 (limb H 1 : Nat)) ∧ w'.cell? ⟨L, 2, none⟩ = some (.int .u64 (limb H 2 : Nat)) ∧ w'.cell? ⟨L, 3, none⟩ = some (.int .u64 (limb H 3 : Nat)) ∧ w'.cell? ⟨L, 4, none⟩ = some (.int .u64 (limb Lo 0 : Nat)) ∧ w'.cell? ⟨L, 5, none⟩ = some (.int .u64 (limb Lo 1 : Nat)) ∧ w'.cell? ⟨L, 6, none⟩ = some (.int .u64 (limb Lo 2 : Nat)) ∧ w'.cell? ⟨L, 7, none⟩ = some (.int .u64 (limb Lo 3 : Nat)) ∧ w'.cell? ⟨w.heap.size, 0, none⟩ = some (.int .u64 (limb d 0 : Nat)) ∧ w'.cell? ⟨w.heap.size, 1, none⟩ = some (.int .u64 (limb d 1 : Nat)) ∧ w'.cell? ⟨w.heap.size, 2, none⟩ = some (.int .u64 (limb d 2 : Nat)) ∧ w'.cell? ⟨w.heap.size, 3, none⟩ = some (.int .u64 (limb d 3 : Nat)) ∧ Bel w w' L H Lo d := by
  obtain ⟨a0, a1, a2, a3, a4, a5, a6, a7⟩ := wh_cells h.a
  obtain ⟨d0, d1, d2, d3⟩ := h.d.cells4
  exact ⟨a0, a1, a2, a3, a4, a5, a6, a7, d0, d1, d2, d3, h⟩
theorem un_heldB {w w' : World} {L H Lo d : Nat} (h : w'.cell? ⟨L, 0, none⟩ = some (.int .u64 (limb H 0 : Nat)) ∧ w'.cell? ⟨L, 1, none⟩ = some (.int .u64 (limb H 1 : Nat)) ∧ w'.cell? ⟨L, 2, none⟩ = some (.int .u64 (limb H 2 : Nat)) ∧ w'.cell? ⟨L, 3, none⟩ = some (.int .u64 (limb H 3 : Nat)) ∧ w'.cell? ⟨L, 4, none⟩ = some (.int .u64 (limb Lo 0 : Nat)) ∧ w'.cell? ⟨L, 5, none⟩ = some (.int .u64 (limb Lo 1 : Nat)) ∧ w'.cell? ⟨L, 6, none⟩ = some (.int .u64 (limb Lo 2 : Nat)) ∧ w'.cell? ⟨L, 7, none⟩ = some (.int .u64 (limb Lo 3 : Nat)) ∧ w'.cell? ⟨w.heap.size, 0, none⟩ = some (.int .u64 (limb d 0 : Nat)) ∧ w'.cell? ⟨w.heap.size, 1, none⟩ = some (.int .u64 (limb d 1 : Nat)) ∧ w'.cell? ⟨w.heap.size, 2, none⟩ = some (.int .u64 (limb d 2 : Nat)) ∧ w'.cell? ⟨w.heap.size, 3, none⟩ = some (.int .u64 (limb d 3 : Nat)) ∧ Bel w w' L H Lo d) : Bel w w' L H Lo d := h.2.2.2.2.2.2.2.2.2.2.2.2
theorem Wide8.below {w w' : World} {L H Lo : Nat} (h : Wide8 w L H Lo) (hb : Below w.heap.size w w') : Wide8 w' L H Lo := ⟨h.a.below hb h.s, Nat.lt_of_lt_of_le h.s hb.size⟩
theorem Wide8.alloc {w : World} {L H Lo : Nat} (h : Wide8 w L H Lo) (o : Obj) : Wide8 (w.alloc o) L H Lo := ⟨h.a.alloc o, by rw [World.size_alloc]; have := h.s; omega⟩
theorem Wide8.new {w : World} {t : TypeId} {H Lo : Nat} : Wide8 (w.alloc (.cells #[.int .u64 (limb H 0 : Nat), .int .u64 (limb H 1 : Nat), .int .u64 (limb H 2 : Nat), .int .u64 (limb H 3 : Nat), .int .u64 (limb Lo 0 : Nat), .int .u64 (limb Lo 1 : Nat), .int .u64 (limb Lo 2 : Nat), .int .u64 (limb Lo 3 : Nat)] t)) w.heap.size H Lo :=
  ⟨Arr.new8 (f := wh H Lo) rfl, by simp⟩
end Go.Proofs.YtnjcnlbphaodcaaGreat

namespace Go.Proofs.YtnjcnlbphaodcaaGreat
open Go.RowKit Go.Sort

theorem rmostA_walk (w : World) : Calls Tryz.prog 70 #[] w fun e w' => e = .returned (U MOST) ∧ Below w.heap.size w w' := by
  rw [U_MOST]
  go_enter Tryz.func70, Tryz.ntmps70
  go_wp2
  refine bodyPost_ret (v := .agg #[.int .u64 18446744073709551615, .int .u64 18446744073709551615, .int .u64 0, .int .u64 0]) (by simp [results, Tryz.results70, go_sem]) rfl ⟨rfl, (Below.refl _ _).alloc (Nat.le_refl _) _⟩
set_option maxRecDepth 100000 in
set_option maxHeartbeats 2000000 in
theorem ramountA_walk (a : Nat) (w : World) (ha : a < 2 ^ 256) : Calls Tryz.prog 46 #[U a] w fun e w' => e = .returned (.bool (decide (a ≤ MOST))) ∧ Below w.heap.size w w' := by
  have Ha := Lib.hid ha
  obtain ⟨c, hc⟩ : ∃ c, c = cmpU a MOST := ⟨_, rfl⟩
  obtain ⟨ok, hok⟩ : ∃ x, x = decide (a ≤ MOST) := ⟨_, rfl⟩
  rw [← hok]
  have hdec : decide (c ≤ 0) = ok := by rw [hok, hc]; exact decide_eq_decide.2 (cmpU_le a MOST)
  have Hc := Lib.hid hc
  have Hok := Lib.hid hok
  clear ha hc hok
  unfold U
  go_enter Tryz.func46, Tryz.ntmps46
  go_upto_region 1 with (fail)
  have T0 := Lib.hid (one_first (a := a) (w := w) (t := 24))
  go_region_held3 (fun w' => w'.cell? ⟨w.heap.size, 0, none⟩ = some (.int .u64 (limb a 0 : Nat)) ∧ w'.cell? ⟨w.heap.size, 1, none⟩ = some (.int .u64 (limb a 1 : Nat)) ∧ w'.cell? ⟨w.heap.size, 2, none⟩ = some (.int .u64 (limb a 2 : Nat)) ∧ w'.cell? ⟨w.heap.size, 3, none⟩ = some (.int .u64 (limb a 3 : Nat)) ∧ One' w w' a)
    ((refine held1 ?_; repeat (first | with_reducible exact u2 | with_reducible exact u1 | with_reducible exact T0.out | with_reducible refine One'.drew ?_ | with_reducible exact un_held1 (by with_reducible assumption))))
    (first
      | (go_at_call 69; refine (rcmp_walk a MOST _ Ha.out MOST_lt).mono ?_; rintro e w2 ⟨rfl, hb2⟩; have u2 := u1.below hb2; rw [← Hc.out])
      | (go_at_call 70; refine (rmostA_walk _).mono ?_; rintro e w1 ⟨rfl, hb1⟩; have u1 : One' w w1 a := One'.below (un_held1 (by with_reducible assumption)) hb1; unfold U))
  go_wp2
  refine bodyPost_ret (v := .bool ok) (by simp [results, Tryz.results46, go_sem]) rfl ⟨rfl, u2.l⟩
end Go.Proofs.YtnjcnlbphaodcaaGreat
