/- What the walks of laws share: numbers in boxes, contracts by value. -/
import Derived.Test.YtnjcnlbphaodcaaGreatG17
import Derived.Test.YtnjcnlbphaodcaaGreatG15
import Derived.Test.YtnjcnlbphaodcaaGreatG13
import Derived.Test.YtnjcnlbphaodcaaGreatG12
import Derived.Lib.QuietBelow
import Derived.Deep.DeepCutAuto
namespace Go.Proofs.YtnjcnlbphaodcaaGreat
open Go.RowKit Go.Sort

def addv (a b : Nat) : Nat := if a + b < 2 ^ 256 then a + b else 0
def addk (a b : Nat) : Bool := decide (a + b < 2 ^ 256)
def mulv (a b : Nat) : Nat := if a * b < 2 ^ 256 then a * b else 0
def mulk (a b : Nat) : Bool := decide (a * b < 2 ^ 256)
theorem addv_lt (a b : Nat) : addv a b < 2 ^ 256 := by unfold addv; split <;> omega
theorem mulv_lt (a b : Nat) : mulv a b < 2 ^ 256 := by unfold mulv; split <;> omega
theorem add_c (a b : Nat) (w : World) (ha : a < 2 ^ 256) (hb : b < 2 ^ 256) : Calls Tryz.prog 57 #[U a, U b] w fun e w' => e = .returned (.tuple #[U (addv a b), .bool (addk a b)]) ∧ Below w.heap.size w w' := add_walk a b w ha hb
theorem cmp_c (a b : Nat) (w : World) (ha : a < 2 ^ 256) (hb : b < 2 ^ 256) : Calls Tryz.prog 77 #[U a, U b] w fun e w' => e = .returned (.int .i64 (cmpU a b)) ∧ Below w.heap.size w w' := cmp_walk a b w ha hb
theorem blen_mono {a b : Nat} (h : a ≤ b) : blen a ≤ blen b := blen_le (Nat.lt_of_le_of_lt h (lt_blen b))
/-- three numbers in boxes -/
structure Three (w wr : World) (a b c : Nat) : Prop where
  a : Arr .u64 wr w.heap.size 4 (limb a)
  b : Arr .u64 wr (w.heap.size + 1) 4 (limb b)
  c : Arr .u64 wr (w.heap.size + 1 + 1) 4 (limb c)
  l : Below w.heap.size w wr
  s : w.heap.size + 1 + 1 < wr.heap.size
theorem Three.below {w wr w' : World} {a b c : Nat} (h : Three w wr a b c) (hb : Below wr.heap.size wr w') : Three w w' a b c := by
  have := h.s; have := hb.size
  exact ⟨h.a.below hb (by omega), h.b.below hb (by omega), h.c.below hb (by omega), h.l.trans (hb.mono (by omega)), by omega⟩
theorem Three.alloc {w wr : World} {a b c : Nat} (h : Three w wr a b c) (o : Obj) : Three w (wr.alloc o) a b c := by
  have := h.s
  exact ⟨h.a.alloc o, h.b.alloc o, h.c.alloc o, h.l.alloc (by omega) o, by rw [World.size_alloc]; omega⟩
/-- a number in a box made later -/
structure Box (wr : World) (L n : Nat) : Prop where
  a : Arr .u64 wr L 4 (limb n)
  s : L < wr.heap.size
theorem Box.below {wr w' : World} {L n : Nat} (h : Box wr L n) (hb : Below wr.heap.size wr w') : Box w' L n := ⟨h.a.below hb h.s, Nat.lt_of_lt_of_le h.s hb.size⟩
theorem Box.alloc {wr : World} {L n : Nat} (h : Box wr L n) (o : Obj) : Box (wr.alloc o) L n := ⟨h.a.alloc o, by rw [World.size_alloc]; have := h.s; omega⟩
theorem Box.new {wr : World} {L n : Nat} {t : TypeId} (h : L = wr.heap.size) : Box (wr.alloc (.cells #[.int .u64 (limb n 0 : Nat), .int .u64 (limb n 1 : Nat), .int .u64 (limb n 2 : Nat), .int .u64 (limb n 3 : Nat)] t)) L n :=
  ⟨Arr.new4 (f := limb n) h, by rw [World.size_alloc]; omega⟩
/-- .. and in every world of the class that a quiet region walks over -/
theorem Arr.grow4 {wr : World} {b : Nat} {f : Nat → Nat} (h : Arr .u64 wr b 4 f) :
    (∀ d os, (grow (redrawn wr d) os).cell? ⟨b, 0, none⟩ = some (.int .u64 (f 0 : Nat))) ∧ (∀ d os, (grow (redrawn wr d) os).cell? ⟨b, 1, none⟩ = some (.int .u64 (f 1 : Nat))) ∧
    (∀ d os, (grow (redrawn wr d) os).cell? ⟨b, 2, none⟩ = some (.int .u64 (f 2 : Nat))) ∧ (∀ d os, (grow (redrawn wr d) os).cell? ⟨b, 3, none⟩ = some (.int .u64 (f 3 : Nat))) :=
  ⟨fun d os => cell_regrown (h.cell 0 (by omega)) d os, fun d os => cell_regrown (h.cell 1 (by omega)) d os, fun d os => cell_regrown (h.cell 2 (by omega)) d os, fun d os => cell_regrown (h.cell 3 (by omega)) d os⟩

theorem Arr.lt4 {κ : IntKind} {w : World} {b : Nat} {f : Nat → Nat} (h : Arr κ w b 4 f) : b < w.heap.size := World.block_lt_of_cell? w _ (h.cell 0 (by omega))
/-- two numbers in boxes -/
structure Two' (w wr : World) (a b : Nat) : Prop where
  a : Arr .u64 wr w.heap.size 4 (limb a)
  b : Arr .u64 wr (w.heap.size + 1) 4 (limb b)
  l : Below w.heap.size w wr
  s : w.heap.size + 1 < wr.heap.size
theorem Two'.below {w wr w' : World} {a b : Nat} (h : Two' w wr a b) (hb : Below wr.heap.size wr w') : Two' w w' a b := by
  have := h.s; have := hb.size
  exact ⟨h.a.below hb (by omega), h.b.below hb (by omega), h.l.trans (hb.mono (by omega)), by omega⟩
theorem Two'.alloc {w wr : World} {a b : Nat} (h : Two' w wr a b) (o : Obj) : Two' w (wr.alloc o) a b := by
  have := h.s
  exact ⟨h.a.alloc o, h.b.alloc o, h.l.alloc (by omega) o, by rw [World.size_alloc]; omega⟩
theorem Two'.drew {w wr : World} {a b : Nat} (h : Two' w wr a b) : Two' w wr.drew a b := ⟨h.a.drew, h.b.drew, below_drewN h.l 1, h.s⟩
theorem Two'.put4 {w wr : World} {a b L : Nat} {x0 x1 x2 x3 : Value} (h : Two' w wr a b) (hL : w.heap.size + 1 < L) :
    Two' w ((((wr.setCell ⟨L, 0, none⟩ x0).setCell ⟨L, 1, none⟩ x1).setCell ⟨L, 2, none⟩ x2).setCell ⟨L, 3, none⟩ x3) a b :=
  ⟨h.a.put4_far (by omega), h.b.put4_far (by omega), below_set4 h.l (by omega), by simp only [World.size_setCell]; exact h.s⟩
theorem two_first {a b : Nat} {w : World} {t1 t2 : TypeId} :
    Two' w ((w.alloc (.cells #[.int .u64 (limb a 0 : Nat), .int .u64 (limb a 1 : Nat), .int .u64 (limb a 2 : Nat), .int .u64 (limb a 3 : Nat)] t1)).alloc (.cells #[.int .u64 (limb b 0 : Nat), .int .u64 (limb b 1 : Nat), .int .u64 (limb b 2 : Nat), .int .u64 (limb b 3 : Nat)] t2)) a b :=
  ⟨(Arr.new4 (f := limb a) rfl).alloc _, Arr.new4 (f := limb b) (by simp), ((Below.refl _ _).alloc (Nat.le_refl _) _).alloc (by simp only [World.size_alloc]; omega) _, by simp⟩
end Go.Proofs.YtnjcnlbphaodcaaGreat

namespace Go.Proofs.YtnjcnlbphaodcaaGreat
open Go.RowKit Go.Sort

def WAD : Nat := 1000000000000000000
def MOST : Nat := 340282366920938463463374607431768211455
theorem WAD_lt : WAD < 2 ^ 256 := by decide
theorem MOST_lt : MOST < 2 ^ 256 := by decide
theorem U_WAD : U WAD = .agg #[.int .u64 1000000000000000000, .int .u64 0, .int .u64 0, .int .u64 0] := U_small (n := 1000000000000000000) (by decide)
theorem U_MOST : U MOST = .agg #[.int .u64 18446744073709551615, .int .u64 18446744073709551615, .int .u64 0, .int .u64 0] := by
  unfold U
  rw [show limb MOST 0 = 18446744073709551615 by decide, show limb MOST 1 = 18446744073709551615 by decide, show limb MOST 2 = 0 by decide, show limb MOST 3 = 0 by decide]; rfl
set_option maxRecDepth 100000 in
theorem most_walk (w : World) : Calls Tryz.prog 78 #[] w fun e w' => e = .returned (U MOST) ∧ Below w.heap.size w w' := by
  rw [U_MOST]
  go_enter Tryz.func78, Tryz.ntmps78
  go_wp2
  refine bodyPost_ret (v := .agg #[.int .u64 18446744073709551615, .int .u64 18446744073709551615, .int .u64 0, .int .u64 0]) (by simp [results, Tryz.results78, go_sem]) rfl ⟨rfl, (Below.refl _ _).alloc (Nat.le_refl _) _⟩
end Go.Proofs.YtnjcnlbphaodcaaGreat

namespace Go.Proofs.YtnjcnlbphaodcaaGreat
open Go.RowKit Go.Sort

theorem cmpU_le (a b : Nat) : cmpU a b ≤ 0 ↔ a ≤ b := by
  unfold cmpU
  by_cases h : a = b
  · rw [if_pos h]; omega
  · rw [if_neg h]
    by_cases h2 : b ≤ a
    · rw [if_pos h2]; omega
    · rw [if_neg h2]; omega
/-- a number in a box -/
structure One' (w wr : World) (a : Nat) : Prop where
  a : Arr .u64 wr w.heap.size 4 (limb a)
  l : Below w.heap.size w wr
  s : w.heap.size < wr.heap.size
theorem One'.below {w wr w' : World} {a : Nat} (h : One' w wr a) (hb : Below wr.heap.size wr w') : One' w w' a := by
  have := h.s; have := hb.size
  exact ⟨h.a.below hb h.s, h.l.trans (hb.mono (by omega)), by omega⟩
theorem One'.drew {w wr : World} {a : Nat} (h : One' w wr a) : One' w wr.drew a := ⟨h.a.drew, below_drewN h.l 1, h.s⟩
theorem one_first {a : Nat} {w : World} {t : TypeId} : One' w (w.alloc (.cells #[.int .u64 (limb a 0 : Nat), .int .u64 (limb a 1 : Nat), .int .u64 (limb a 2 : Nat), .int .u64 (limb a 3 : Nat)] t)) a :=
  ⟨Arr.new4 (f := limb a) rfl, (Below.refl _ _).alloc (Nat.le_refl _) _, by simp⟩
theorem held1 {w w' : World} {a : Nat} (h : One' w w' a) : w'.cell? ⟨w.heap.size, 0, none⟩ = some (.int .u64 (limb a 0 : Nat)) ∧ w'.cell? ⟨w.heap.size, 1, none⟩ = some (.int .u64 (limb a 1 : Nat)) ∧ w'.cell? ⟨w.heap.size, 2, none⟩ = some (.int .u64 (limb a 2 : Nat)) ∧ w'.cell? ⟨w.heap.size, 3, none⟩ = some (.int .u64 (limb a 3 : Nat)) ∧ One' w w' a := by
  obtain ⟨a0, a1, a2, a3⟩ := h.a.cells4
  exact ⟨a0, a1, a2, a3, h⟩
theorem un_held1 {w w' : World} {a : Nat} (h : w'.cell? ⟨w.heap.size, 0, none⟩ = some (.int .u64 (limb a 0 : Nat)) ∧ w'.cell? ⟨w.heap.size, 1, none⟩ = some (.int .u64 (limb a 1 : Nat)) ∧ w'.cell? ⟨w.heap.size, 2, none⟩ = some (.int .u64 (limb a 2 : Nat)) ∧ w'.cell? ⟨w.heap.size, 3, none⟩ = some (.int .u64 (limb a 3 : Nat)) ∧ One' w w' a) : One' w w' a := h.2.2.2.2

set_option maxRecDepth 100000 in
set_option maxHeartbeats 2000000 in
theorem amount_walk (a : Nat) (w : World) (ha : a < 2 ^ 256) : Calls Tryz.prog 58 #[U a] w fun e w' => e = .returned (.bool (decide (a ≤ MOST))) ∧ Below w.heap.size w w' := by
  have Ha := Lib.hid ha
  obtain ⟨c, hc⟩ : ∃ c, c = cmpU a MOST := ⟨_, rfl⟩
  obtain ⟨ok, hok⟩ : ∃ x, x = decide (a ≤ MOST) := ⟨_, rfl⟩
  rw [← hok]
  have hdec : decide (c ≤ 0) = ok := by rw [hok, hc]; exact decide_eq_decide.2 (cmpU_le a MOST)
  have Hc := Lib.hid hc
  have Hok := Lib.hid hok
  clear ha hc hok
  unfold U
  go_enter Tryz.func58, Tryz.ntmps58
  go_upto_region 1 with (fail)
  have T0 := Lib.hid (one_first (a := a) (w := w) (t := 24))
  go_region_held3 (fun w' => w'.cell? ⟨w.heap.size, 0, none⟩ = some (.int .u64 (limb a 0 : Nat)) ∧ w'.cell? ⟨w.heap.size, 1, none⟩ = some (.int .u64 (limb a 1 : Nat)) ∧ w'.cell? ⟨w.heap.size, 2, none⟩ = some (.int .u64 (limb a 2 : Nat)) ∧ w'.cell? ⟨w.heap.size, 3, none⟩ = some (.int .u64 (limb a 3 : Nat)) ∧ One' w w' a)
    ((refine held1 ?_; repeat (first | with_reducible exact u2 | with_reducible exact u1 | with_reducible exact T0.out | with_reducible refine One'.drew ?_ | with_reducible exact un_held1 (by with_reducible assumption))))
    (first
      | (go_at_call 77; refine (cmp_walk a MOST _ Ha.out MOST_lt).mono ?_; rintro e w2 ⟨rfl, hb2⟩; have u2 := u1.below hb2; rw [← Hc.out])
      | (go_at_call 78; refine (most_walk _).mono ?_; rintro e w1 ⟨rfl, hb1⟩; have u1 : One' w w1 a := One'.below (un_held1 (by with_reducible assumption)) hb1; unfold U))
  go_wp2
  refine bodyPost_ret (v := .bool ok) (by simp [results, Tryz.results58, go_sem]) rfl ⟨rfl, u2.l⟩
end Go.Proofs.YtnjcnlbphaodcaaGreat
