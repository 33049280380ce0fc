/- tallagelaw01.lives, walked: the document's examples are as it says. -/
import Derived.Test.YtedkhpnlhkjjgaaG23
import Derived.Test.YtedkhpnlhkjjgaaG15
import Derived.Laws.BytesArg
import Derived.Deep.DeepCutAuto
import Derived.Deep.CutBlock
import Derived.Test.YtedkhpnlhkjjgaaG14
import Derived.Test.YtedkhpnlhkjjgaaG19
import Derived.Test.YtedkhpnlhkjjgaaG20
import Derived.Lib.QuietBelow
namespace Go.Proofs.Ytedkhpnlhkjjgaa
open Go.RowKit

def lit (n : Nat) : Value := .agg #[.int .u64 (n : Nat), .int .u64 0, .int .u64 0, .int .u64 0]
theorem U_small {n : Nat} (h : n < 2 ^ 64) : U n = lit n := by
  unfold U lit
  have h0 : limb n 0 = n := by unfold limb; simp; omega
  have h1 : ∀ i, 1 ≤ i → limb n i = 0 := fun i hi => by
    unfold limb
    rw [Nat.div_eq_of_lt (Nat.lt_of_lt_of_le h (Nat.pow_le_pow_right (by decide) (by omega)))]
  rw [h0, h1 1 (by omega), h1 2 (by omega), h1 3 (by omega)]; rfl
theorem sub12_c (w : World) : Calls Try.prog 103 #[.agg #[.int .u64 1, .int .u64 0, .int .u64 0, .int .u64 0], .agg #[.int .u64 2, .int .u64 0, .int .u64 0, .int .u64 0]] w
    fun e w' => e = .returned (.tuple #[.agg #[.int .u64 0, .int .u64 0, .int .u64 0, .int .u64 0], .bool false]) ∧ Below w.heap.size w w' := by
  have h := sub_walk 1 2 w (by decide) (by decide)
  rw [U_small (by decide), U_small (by decide)] at h
  exact h.mono fun e w' ⟨he, hw⟩ => ⟨by rw [he, if_neg (by decide), decide_eq_false (by decide), U_zero], hw⟩
theorem bytes258_c (w : World) : Calls Try.prog 117 #[.agg #[.int .u64 258, .int .u64 0, .int .u64 0, .int .u64 0]] w
    fun e w' => ∃ g, e = .returned (.slice (some ⟨g, 0, none⟩) 32 32) ∧ w'.cell? ⟨g, 30, none⟩ = some (.int .u8 1) ∧ w'.cell? ⟨g, 31, none⟩ = some (.int .u8 2) ∧ Below w.heap.size w w' := by
  have h := bytes_walk 258 w
  rw [U_small (by decide)] at h
  refine h.mono fun e w' ⟨g, he, _, _, ha, hw⟩ => ⟨g, he, ?_, ?_, hw⟩
  · rw [ha.cell 30 (by omega)]; rfl
  · rw [ha.cell 31 (by omega)]; rfl

end Go.Proofs.Ytedkhpnlhkjjgaa

namespace Go.Proofs.Ytedkhpnlhkjjgaa
open Go.RowKit

def OfPost (n : Nat) (w : World) (e : Ending) (w' : World) : Prop := e = .returned (.agg #[.int .u64 (n : Nat), .int .u64 0, .int .u64 0, .int .u64 0]) ∧ Below w.heap.size w w'
set_option maxRecDepth 100000 in
theorem of_walk (n : Nat) (w : World) : Calls Try.prog 105 #[.int .u64 (n : Nat)] w (OfPost n w) := by
  go_enter Try.func105, Try.ntmps105
  go_wp2
  refine bodyPost_ret (v := .agg #[.int .u64 (n : Nat), .int .u64 0, .int .u64 0, .int .u64 0]) (by simp [results, Try.results105, go_sem]) rfl ⟨rfl, ?_⟩
  exact (Below.refl _ _).alloc (Nat.le_refl _) _

/-- the decimal digit of a at place t of j digits, as a byte -/
def digAt (a j t : Nat) : Nat := 48 + a / 10 ^ (j - 1 - t) % 10
theorem digAt_lt (a j t : Nat) : digAt a j t < 256 := by unfold digAt; omega
/-- j digits of a -/
def digits (a j : Nat) : List Int := (List.range j).map fun t => ((digAt a j t : Nat) : Int)
theorem digits_length (a j : Nat) : (digits a j).length = j := by simp [digits]
theorem digits_getD {a j t : Nat} (h : t < j) : (digits a j).getD t 0 = (digAt a j t : Nat) := by
  simp [digits, List.getD, List.getElem?_map, List.getElem?_range h]

theorem pow_bound {a j : Nat} (ha : a < 2 ^ 256) (h : a / 10 ^ j ≠ 0) : j < 78 := by
  rcases Nat.lt_or_ge j 78 with h1 | h1
  · exact h1
  · refine absurd (Nat.div_eq_of_lt (Nat.lt_of_lt_of_le ha ?_)) h
    exact Nat.le_trans (by decide) (Nat.pow_le_pow_right (by decide) h1)
theorem of10_c (w : World) : Calls Try.prog 105 #[.int .u64 10] w
    fun e w' => e = .returned (.agg #[.int .u64 10, .int .u64 0, .int .u64 0, .int .u64 0]) ∧ Below w.heap.size w w' := of_walk 10 w

def TextPost (a : Nat) (w : World) (e : Ending) (w' : World) : Prop :=
  ∃ j, e = .returned (.string (strOfNums (digits a j))) ∧ 1 ≤ j ∧ j ≤ 78 ∧ a < 10 ^ j ∧ (j = 1 ∨ 10 ^ (j - 1) ≤ a) ∧ Below w.heap.size w w'
def TextRel (a : Nat) (w : World) (i : Value) (wr : World) : Prop :=
  ∃ (j : Nat) (f : Nat → Nat), j ≤ 78 ∧ i = .int .i64 ((78 - j : Nat) : Int) ∧ (j = 0 ∨ 10 ^ (j - 1) ≤ a) ∧ (∀ t, 78 - j ≤ t → t < 78 → f t = 48 + a / 10 ^ (77 - t) % 10) ∧
    Arr .u64 wr w.heap.size 4 (limb (a / 10 ^ j)) ∧ Arr .u8 wr (w.heap.size + 1) 78 f ∧ Below w.heap.size w wr ∧ w.heap.size + 1 < wr.heap.size

end Go.Proofs.Ytedkhpnlhkjjgaa

namespace Go.Proofs.Ytedkhpnlhkjjgaa
open Go.RowKit Go.Sort

def addv (a b : Nat) : Nat := if a + b < 2 ^ 256 then a + b else 0
def addk (a b : Nat) : Bool := decide (a + b < 2 ^ 256)
def mulv (a b : Nat) : Nat := if a * b < 2 ^ 256 then a * b else 0
def mulk (a b : Nat) : Bool := decide (a * b < 2 ^ 256)
theorem addv_lt (a b : Nat) : addv a b < 2 ^ 256 := by unfold addv; split <;> omega
theorem mulv_lt (a b : Nat) : mulv a b < 2 ^ 256 := by unfold mulv; split <;> omega
theorem add_c (a b : Nat) (w : World) (ha : a < 2 ^ 256) (hb : b < 2 ^ 256) : Calls Try.prog 97 #[U a, U b] w fun e w' => e = .returned (.tuple #[U (addv a b), .bool (addk a b)]) ∧ Below w.heap.size w w' := add_walk a b w ha hb
theorem cmp_c (a b : Nat) (w : World) (ha : a < 2 ^ 256) (hb : b < 2 ^ 256) : Calls Try.prog 127 #[U a, U b] w fun e w' => e = .returned (.int .i64 (cmpU a b)) ∧ Below w.heap.size w w' := cmp_walk a b w ha hb
theorem blen_mono {a b : Nat} (h : a ≤ b) : blen a ≤ blen b := blen_le (Nat.lt_of_le_of_lt h (lt_blen b))
/-- three numbers in boxes -/
structure Three (w wr : World) (a b c : Nat) : Prop where
  a : Arr .u64 wr w.heap.size 4 (limb a)
  b : Arr .u64 wr (w.heap.size + 1) 4 (limb b)
  c : Arr .u64 wr (w.heap.size + 1 + 1) 4 (limb c)
  l : Below w.heap.size w wr
  s : w.heap.size + 1 + 1 < wr.heap.size
theorem Three.below {w wr w' : World} {a b c : Nat} (h : Three w wr a b c) (hb : Below wr.heap.size wr w') : Three w w' a b c := by
  have := h.s; have := hb.size
  exact ⟨h.a.below hb (by omega), h.b.below hb (by omega), h.c.below hb (by omega), h.l.trans (hb.mono (by omega)), by omega⟩
theorem Three.alloc {w wr : World} {a b c : Nat} (h : Three w wr a b c) (o : Obj) : Three w (wr.alloc o) a b c := by
  have := h.s
  exact ⟨h.a.alloc o, h.b.alloc o, h.c.alloc o, h.l.alloc (by omega) o, by rw [World.size_alloc]; omega⟩
/-- a number in a box made later -/
structure Box (wr : World) (L n : Nat) : Prop where
  a : Arr .u64 wr L 4 (limb n)
  s : L < wr.heap.size
theorem Box.below {wr w' : World} {L n : Nat} (h : Box wr L n) (hb : Below wr.heap.size wr w') : Box w' L n := ⟨h.a.below hb h.s, Nat.lt_of_lt_of_le h.s hb.size⟩
theorem Box.alloc {wr : World} {L n : Nat} (h : Box wr L n) (o : Obj) : Box (wr.alloc o) L n := ⟨h.a.alloc o, by rw [World.size_alloc]; have := h.s; omega⟩
theorem Box.new {wr : World} {L n : Nat} {t : TypeId} (h : L = wr.heap.size) : Box (wr.alloc (.cells #[.int .u64 (limb n 0 : Nat), .int .u64 (limb n 1 : Nat), .int .u64 (limb n 2 : Nat), .int .u64 (limb n 3 : Nat)] t)) L n :=
  ⟨Arr.new4 (f := limb n) h, by rw [World.size_alloc]; omega⟩
/-- .. and in every world of the class that a quiet region walks over -/
theorem Arr.grow4 {wr : World} {b : Nat} {f : Nat → Nat} (h : Arr .u64 wr b 4 f) :
    (∀ d os, (grow (redrawn wr d) os).cell? ⟨b, 0, none⟩ = some (.int .u64 (f 0 : Nat))) ∧ (∀ d os, (grow (redrawn wr d) os).cell? ⟨b, 1, none⟩ = some (.int .u64 (f 1 : Nat))) ∧
    (∀ d os, (grow (redrawn wr d) os).cell? ⟨b, 2, none⟩ = some (.int .u64 (f 2 : Nat))) ∧ (∀ d os, (grow (redrawn wr d) os).cell? ⟨b, 3, none⟩ = some (.int .u64 (f 3 : Nat))) :=
  ⟨fun d os => cell_regrown (h.cell 0 (by omega)) d os, fun d os => cell_regrown (h.cell 1 (by omega)) d os, fun d os => cell_regrown (h.cell 2 (by omega)) d os, fun d os => cell_regrown (h.cell 3 (by omega)) d os⟩

theorem Arr.lt4 {κ : IntKind} {w : World} {b : Nat} {f : Nat → Nat} (h : Arr κ w b 4 f) : b < w.heap.size := World.block_lt_of_cell? w _ (h.cell 0 (by omega))
/-- two numbers in boxes -/
structure Two' (w wr : World) (a b : Nat) : Prop where
  a : Arr .u64 wr w.heap.size 4 (limb a)
  b : Arr .u64 wr (w.heap.size + 1) 4 (limb b)
  l : Below w.heap.size w wr
  s : w.heap.size + 1 < wr.heap.size
theorem Two'.below {w wr w' : World} {a b : Nat} (h : Two' w wr a b) (hb : Below wr.heap.size wr w') : Two' w w' a b := by
  have := h.s; have := hb.size
  exact ⟨h.a.below hb (by omega), h.b.below hb (by omega), h.l.trans (hb.mono (by omega)), by omega⟩
theorem Two'.alloc {w wr : World} {a b : Nat} (h : Two' w wr a b) (o : Obj) : Two' w (wr.alloc o) a b := by
  have := h.s
  exact ⟨h.a.alloc o, h.b.alloc o, h.l.alloc (by omega) o, by rw [World.size_alloc]; omega⟩
theorem Two'.drew {w wr : World} {a b : Nat} (h : Two' w wr a b) : Two' w wr.drew a b := ⟨h.a.drew, h.b.drew, below_drewN h.l 1, h.s⟩
theorem Two'.put4 {w wr : World} {a b L : Nat} {x0 x1 x2 x3 : Value} (h : Two' w wr a b) (hL : w.heap.size + 1 < L) :
    Two' w ((((wr.setCell ⟨L, 0, none⟩ x0).setCell ⟨L, 1, none⟩ x1).setCell ⟨L, 2, none⟩ x2).setCell ⟨L, 3, none⟩ x3) a b :=
  ⟨h.a.put4_far (by omega), h.b.put4_far (by omega), below_set4 h.l (by omega), by simp only [World.size_setCell]; exact h.s⟩
theorem two_first {a b : Nat} {w : World} {t1 t2 : TypeId} :
    Two' w ((w.alloc (.cells #[.int .u64 (limb a 0 : Nat), .int .u64 (limb a 1 : Nat), .int .u64 (limb a 2 : Nat), .int .u64 (limb a 3 : Nat)] t1)).alloc (.cells #[.int .u64 (limb b 0 : Nat), .int .u64 (limb b 1 : Nat), .int .u64 (limb b 2 : Nat), .int .u64 (limb b 3 : Nat)] t2)) a b :=
  ⟨(Arr.new4 (f := limb a) rfl).alloc _, Arr.new4 (f := limb b) (by simp), ((Below.refl _ _).alloc (Nat.le_refl _) _).alloc (by simp only [World.size_alloc]; omega) _, by simp⟩
end Go.Proofs.Ytedkhpnlhkjjgaa
