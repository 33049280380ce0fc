/- u256.Div, walked. -/
import Derived.Test.YtedkhpnlhkjjgaaG24
import Derived.Test.YtedkhpnlhkjjgaaG16
import Derived.Test.YtedkhpnlhkjjgaaG23
import Derived.Lib.QuietBelow
import Derived.Deep.DeepCutAuto
namespace Go.Proofs.Ytedkhpnlhkjjgaa
open Go.RowKit

def DivPost (a b : Nat) (w : World) (e : Ending) (w' : World) : Prop :=
  e = .returned (.tuple #[U (if b = 0 then 0 else a / b), U (if b = 0 then 0 else a % b), .bool (decide (b ≠ 0))]) ∧ Below w.heap.size w w'
theorem divPost_yes {a b q r : Nat} {w w' : World} {e : Ending} (h : b ≠ 0) (hq : q = a / b) (hr : r = a % b) (he : e = .returned (.tuple #[U q, U r, .bool true])) (hw : Below w.heap.size w w') : DivPost a b w e w' := by
  unfold DivPost; rw [if_neg h, if_neg h, decide_eq_true h, ← hq, ← hr]; exact ⟨he, hw⟩
theorem divPost_no {a b : Nat} {w w' : World} {e : Ending} (h : b = 0) (he : e = .returned (.tuple #[U 0, U 0, .bool false])) (hw : Below w.heap.size w w') : DivPost a b w e w' := by
  unfold DivPost; rw [if_pos h, if_pos h, decide_eq_false (by simpa using h)]; exact ⟨he, hw⟩

structure DivMem (w wr : World) (D A R L8 L9 L10 L11 : Nat) (q : Nat → Nat) : Prop where
  z2 : Arr .u64 wr (w.heap.size + 1 + 1) 4 (fun _ => 0)
  z3 : Arr .u64 wr (w.heap.size + 1 + 1 + 1) 4 (fun _ => 0)
  d : Arr .u64 wr L8 4 (limb D)
  a : Arr .u64 wr L9 8 (limb A)
  r : Arr .u64 wr L10 4 (limb R)
  q : Arr .u64 wr L11 4 q
  b : Below w.heap.size w wr
  o1 : w.heap.size + 1 + 1 + 1 < L8
  o2 : L8 < L9
  o3 : L9 < L10
  o4 : L10 < L11
  o5 : L11 < wr.heap.size
theorem DivMem.drewN {w wr : World} {D A R L8 L9 L10 L11 : Nat} {q : Nat → Nat} (h : DivMem w wr D A R L8 L9 L10 L11 q) (n : Nat) : DivMem w (wr.drewN n) D A R L8 L9 L10 L11 q :=
  ⟨h.z2.drewN n, h.z3.drewN n, h.d.drewN n, h.a.drewN n, h.r.drewN n, h.q.drewN n, below_drewN h.b n, h.o1, h.o2, h.o3, h.o4, h.o5⟩
theorem DivMem.below {w wr w' : World} {D A R L8 L9 L10 L11 : Nat} {q : Nat → Nat} (h : DivMem w wr D A R L8 L9 L10 L11 q) (hb : Below wr.heap.size wr w') : DivMem w w' D A R L8 L9 L10 L11 q := by
  have := h.o1; have := h.o2; have := h.o3; have := h.o4; have := h.o5; have := hb.size
  exact ⟨h.z2.below hb (by omega), h.z3.below hb (by omega), h.d.below hb (by omega), h.a.below hb (by omega), h.r.below hb (by omega), h.q.below hb (by omega), h.b.trans (hb.mono (by omega)), h.o1, h.o2, h.o3, h.o4, by omega⟩
/-- a quotient's word is stored, and the new rest -/
theorem DivMem.step {w wr : World} {D A R R' L8 L9 L10 L11 k v : Nat} {q : Nat → Nat} (h : DivMem w wr D A R L8 L9 L10 L11 q) (hk : k < 4) :
    DivMem w (((((wr.setCell ⟨L11, k, none⟩ (.int .u64 (v : Nat))).setCell ⟨L10, 0, none⟩ (.int .u64 (limb R' 0 : Nat))).setCell ⟨L10, 1, none⟩ (.int .u64 (limb R' 1 : Nat))).setCell ⟨L10, 2, none⟩ (.int .u64 (limb R' 2 : Nat))).setCell ⟨L10, 3, none⟩ (.int .u64 (limb R' 3 : Nat)))
      D A R' L8 L9 L10 L11 (upd q k v) := by
  have := h.o1; have := h.o2; have := h.o3; have := h.o4; have := h.o5
  refine ⟨?_, ?_, ?_, ?_, ?_, ?_, ?_, h.o1, h.o2, h.o3, h.o4, by simp only [World.size_setCell]; exact h.o5⟩
  · exact ((((h.z2.set_far (by omega)).set_far (by omega)).set_far (by omega)).set_far (by omega)).set_far (by omega)
  · exact ((((h.z3.set_far (by omega)).set_far (by omega)).set_far (by omega)).set_far (by omega)).set_far (by omega)
  · exact ((((h.d.set_far (by omega)).set_far (by omega)).set_far (by omega)).set_far (by omega)).set_far (by omega)
  · exact ((((h.a.set_far (by omega)).set_far (by omega)).set_far (by omega)).set_far (by omega)).set_far (by omega)
  · refine Arr.congr (((((h.r.set_far (by omega)).set (by omega)).set (by omega)).set (by omega)).set (by omega)) fun i hi => ?_
    rcases (by omega : i = 0 ∨ i = 1 ∨ i = 2 ∨ i = 3) with rfl | rfl | rfl | rfl <;> simp [upd]
  · exact ((((h.q.set hk).set_far (by omega)).set_far (by omega)).set_far (by omega)).set_far (by omega)
  · exact ((((h.b.setCell (by simp; omega) _).setCell (by simp; omega) _).setCell (by simp; omega) _).setCell (by simp; omega) _).setCell (by simp; omega) _

/-- the state at the head of Div's loop -/
def DivRel (w : World) (D A L8 L9 L10 L11 : Nat) (i : Value) (wr : World) : Prop :=
  ∃ (k R : Nat) (q : Nat → Nat), k ≤ 4 ∧ i = .int .i64 (k : Nat) ∧ (∀ j, q j < 2 ^ 64) ∧ (∀ j, j < 4 - k → q j = 0) ∧
    R = A / 2 ^ (64 * (4 - k)) % D ∧ val q 4 = A / 2 ^ (64 * (4 - k)) / D * 2 ^ (64 * (4 - k)) ∧ DivMem w wr D A R L8 L9 L10 L11 q
theorem div_step {A D m : Nat} (hD : 0 < D) :
    A / 2 ^ (64 * m) / D = A / 2 ^ (64 * (m + 1)) / D * 2 ^ 64 + (A / 2 ^ (64 * (m + 1)) % D * 2 ^ 64 + limb A m) / D ∧
    A / 2 ^ (64 * m) % D = (A / 2 ^ (64 * (m + 1)) % D * 2 ^ 64 + limb A m) % D := by
  have e : A / 2 ^ (64 * m) = A / 2 ^ (64 * (m + 1)) * 2 ^ 64 + limb A m := by
    unfold limb
    rw [pow_succ64, Nat.mul_comm (2 ^ 64), ← Nat.div_div_eq_div_mul]
    exact (Nat.div_add_mod' _ _).symm
  rw [e]
  generalize A / 2 ^ (64 * (m + 1)) = Y
  have e2 : Y * 2 ^ 64 + limb A m = D * (Y / D * 2 ^ 64) + (Y % D * 2 ^ 64 + limb A m) := by
    have h := Nat.div_add_mod Y D
    have h1 := congrArg (· * 2 ^ 64) h
    simp only [Nat.add_mul, Nat.mul_assoc] at h1
    omega
  constructor
  · rw [e2, Nat.mul_add_div hD]
  · rw [e2, Nat.mul_add_mod]

theorem div_round {A D k R qn Rn X : Nat} {q : Nat → Nat} (hk : k < 4) (hD : 0 < D) (hR : R = A / 2 ^ (64 * (4 - k)) % D) (hv : val q 4 = A / 2 ^ (64 * (4 - k)) / D * 2 ^ (64 * (4 - k)))
    (hq0 : ∀ j, j < 4 - k → q j = 0) (hX : X = R * 2 ^ 64 + limb A (3 - k)) (hqn : qn = X / D) (hRn : Rn = X % D) :
    qn < 2 ^ 64 ∧ (∀ j, j < 4 - (k + 1) → upd q (3 - k) qn j = 0) ∧ Rn = A / 2 ^ (64 * (4 - (k + 1))) % D ∧ val (upd q (3 - k) qn) 4 = A / 2 ^ (64 * (4 - (k + 1))) / D * 2 ^ (64 * (4 - (k + 1))) := by
  obtain ⟨m, hm⟩ : ∃ m, m = 3 - k := ⟨_, rfl⟩
  rw [show 4 - k = m + 1 by omega] at hR hv hq0
  rw [← hm] at hX ⊢
  rw [show 4 - (k + 1) = m by omega]
  have st := div_step (A := A) (m := m) hD
  rw [← hR, ← hX, ← hqn, ← hRn] at st
  have hRD : R < D := by rw [hR]; exact Nat.mod_lt _ hD
  refine ⟨?_, fun j hj => ?_, st.2.symm, ?_⟩
  · rw [hqn, hX]; exact quot_lt hRD (limb_lt _ _)
  · rw [upd_ne _ (by omega)]; exact hq0 j (by omega)
  · have h1 := val_upd_at q qn (show m < 4 by omega)
    rw [hq0 m (by omega), hv, pow_succ64, Nat.zero_mul, Nat.add_zero] at h1
    rw [h1, st.1, Nat.add_mul, Nat.mul_assoc]; simp only [pow_succ64]
theorem div_end {a b s A D R : Nat} {q : Nat → Nat} (hb : b ≠ 0) (hA : A = a * 2 ^ s) (hD : D = b * 2 ^ s) (hR : R = A / 2 ^ (64 * (4 - 4)) % D) (hv : val q 4 = A / 2 ^ (64 * (4 - 4)) / D * 2 ^ (64 * (4 - 4))) :
    val q 4 = a / b ∧ R = a % b * 2 ^ s := by
  have e : (2 : Nat) ^ (64 * (4 - 4)) = 1 := rfl
  rw [e, Nat.div_one] at hR
  rw [e, Nat.div_one, Nat.mul_one] at hv
  have hp : 0 < 2 ^ s := Nat.pow_pos (by decide)
  rw [hv, hR, hA, hD, Nat.mul_div_mul_right _ _ hp, Nat.mul_mod_mul_right]
  exact ⟨rfl, rfl⟩

end Go.Proofs.Ytedkhpnlhkjjgaa

namespace Go.Proofs.Ytedkhpnlhkjjgaa
open Go.RowKit

def lit (n : Nat) : Value := .agg #[.int .u64 (n : Nat), .int .u64 0, .int .u64 0, .int .u64 0]
theorem U_small {n : Nat} (h : n < 2 ^ 64) : U n = lit n := by
  unfold U lit
  have h0 : limb n 0 = n := by unfold limb; simp; omega
  have h1 : ∀ i, 1 ≤ i → limb n i = 0 := fun i hi => by
    unfold limb
    rw [Nat.div_eq_of_lt (Nat.lt_of_lt_of_le h (Nat.pow_le_pow_right (by decide) (by omega)))]
  rw [h0, h1 1 (by omega), h1 2 (by omega), h1 3 (by omega)]; rfl
theorem sub12_c (w : World) : Calls Try.prog 103 #[.agg #[.int .u64 1, .int .u64 0, .int .u64 0, .int .u64 0], .agg #[.int .u64 2, .int .u64 0, .int .u64 0, .int .u64 0]] w
    fun e w' => e = .returned (.tuple #[.agg #[.int .u64 0, .int .u64 0, .int .u64 0, .int .u64 0], .bool false]) ∧ Below w.heap.size w w' := by
  have h := sub_walk 1 2 w (by decide) (by decide)
  rw [U_small (by decide), U_small (by decide)] at h
  exact h.mono fun e w' ⟨he, hw⟩ => ⟨by rw [he, if_neg (by decide), decide_eq_false (by decide), U_zero], hw⟩
theorem bytes258_c (w : World) : Calls Try.prog 117 #[.agg #[.int .u64 258, .int .u64 0, .int .u64 0, .int .u64 0]] w
    fun e w' => ∃ g, e = .returned (.slice (some ⟨g, 0, none⟩) 32 32) ∧ w'.cell? ⟨g, 30, none⟩ = some (.int .u8 1) ∧ w'.cell? ⟨g, 31, none⟩ = some (.int .u8 2) ∧ Below w.heap.size w w' := by
  have h := bytes_walk 258 w
  rw [U_small (by decide)] at h
  refine h.mono fun e w' ⟨g, he, _, _, ha, hw⟩ => ⟨g, he, ?_, ?_, hw⟩
  · rw [ha.cell 30 (by omega)]; rfl
  · rw [ha.cell 31 (by omega)]; rfl

end Go.Proofs.Ytedkhpnlhkjjgaa

namespace Go.Proofs.Ytedkhpnlhkjjgaa
open Go.RowKit Go.Sort

def addv (a b : Nat) : Nat := if a + b < 2 ^ 256 then a + b else 0
def addk (a b : Nat) : Bool := decide (a + b < 2 ^ 256)
def mulv (a b : Nat) : Nat := if a * b < 2 ^ 256 then a * b else 0
def mulk (a b : Nat) : Bool := decide (a * b < 2 ^ 256)
theorem addv_lt (a b : Nat) : addv a b < 2 ^ 256 := by unfold addv; split <;> omega
theorem mulv_lt (a b : Nat) : mulv a b < 2 ^ 256 := by unfold mulv; split <;> omega
theorem add_c (a b : Nat) (w : World) (ha : a < 2 ^ 256) (hb : b < 2 ^ 256) : Calls Try.prog 97 #[U a, U b] w fun e w' => e = .returned (.tuple #[U (addv a b), .bool (addk a b)]) ∧ Below w.heap.size w w' := add_walk a b w ha hb
theorem cmp_c (a b : Nat) (w : World) (ha : a < 2 ^ 256) (hb : b < 2 ^ 256) : Calls Try.prog 127 #[U a, U b] w fun e w' => e = .returned (.int .i64 (cmpU a b)) ∧ Below w.heap.size w w' := cmp_walk a b w ha hb
theorem blen_mono {a b : Nat} (h : a ≤ b) : blen a ≤ blen b := blen_le (Nat.lt_of_le_of_lt h (lt_blen b))
/-- three numbers in boxes -/
structure Three (w wr : World) (a b c : Nat) : Prop where
  a : Arr .u64 wr w.heap.size 4 (limb a)
  b : Arr .u64 wr (w.heap.size + 1) 4 (limb b)
  c : Arr .u64 wr (w.heap.size + 1 + 1) 4 (limb c)
  l : Below w.heap.size w wr
  s : w.heap.size + 1 + 1 < wr.heap.size
theorem Three.below {w wr w' : World} {a b c : Nat} (h : Three w wr a b c) (hb : Below wr.heap.size wr w') : Three w w' a b c := by
  have := h.s; have := hb.size
  exact ⟨h.a.below hb (by omega), h.b.below hb (by omega), h.c.below hb (by omega), h.l.trans (hb.mono (by omega)), by omega⟩
theorem Three.alloc {w wr : World} {a b c : Nat} (h : Three w wr a b c) (o : Obj) : Three w (wr.alloc o) a b c := by
  have := h.s
  exact ⟨h.a.alloc o, h.b.alloc o, h.c.alloc o, h.l.alloc (by omega) o, by rw [World.size_alloc]; omega⟩
/-- a number in a box made later -/
structure Box (wr : World) (L n : Nat) : Prop where
  a : Arr .u64 wr L 4 (limb n)
  s : L < wr.heap.size
theorem Box.below {wr w' : World} {L n : Nat} (h : Box wr L n) (hb : Below wr.heap.size wr w') : Box w' L n := ⟨h.a.below hb h.s, Nat.lt_of_lt_of_le h.s hb.size⟩
theorem Box.alloc {wr : World} {L n : Nat} (h : Box wr L n) (o : Obj) : Box (wr.alloc o) L n := ⟨h.a.alloc o, by rw [World.size_alloc]; have := h.s; omega⟩
theorem Box.new {wr : World} {L n : Nat} {t : TypeId} (h : L = wr.heap.size) : Box (wr.alloc (.cells #[.int .u64 (limb n 0 : Nat), .int .u64 (limb n 1 : Nat), .int .u64 (limb n 2 : Nat), .int .u64 (limb n 3 : Nat)] t)) L n :=
  ⟨Arr.new4 (f := limb n) h, by rw [World.size_alloc]; omega⟩
/-- .. and in every world of the class that a quiet region walks over -/
theorem Arr.grow4 {wr : World} {b : Nat} {f : Nat → Nat} (h : Arr .u64 wr b 4 f) :
    (∀ d os, (grow (redrawn wr d) os).cell? ⟨b, 0, none⟩ = some (.int .u64 (f 0 : Nat))) ∧ (∀ d os, (grow (redrawn wr d) os).cell? ⟨b, 1, none⟩ = some (.int .u64 (f 1 : Nat))) ∧
    (∀ d os, (grow (redrawn wr d) os).cell? ⟨b, 2, none⟩ = some (.int .u64 (f 2 : Nat))) ∧ (∀ d os, (grow (redrawn wr d) os).cell? ⟨b, 3, none⟩ = some (.int .u64 (f 3 : Nat))) :=
  ⟨fun d os => cell_regrown (h.cell 0 (by omega)) d os, fun d os => cell_regrown (h.cell 1 (by omega)) d os, fun d os => cell_regrown (h.cell 2 (by omega)) d os, fun d os => cell_regrown (h.cell 3 (by omega)) d os⟩

theorem Arr.lt4 {κ : IntKind} {w : World} {b : Nat} {f : Nat → Nat} (h : Arr κ w b 4 f) : b < w.heap.size := World.block_lt_of_cell? w _ (h.cell 0 (by omega))
/-- two numbers in boxes -/
structure Two' (w wr : World) (a b : Nat) : Prop where
  a : Arr .u64 wr w.heap.size 4 (limb a)
  b : Arr .u64 wr (w.heap.size + 1) 4 (limb b)
  l : Below w.heap.size w wr
  s : w.heap.size + 1 < wr.heap.size
theorem Two'.below {w wr w' : World} {a b : Nat} (h : Two' w wr a b) (hb : Below wr.heap.size wr w') : Two' w w' a b := by
  have := h.s; have := hb.size
  exact ⟨h.a.below hb (by omega), h.b.below hb (by omega), h.l.trans (hb.mono (by omega)), by omega⟩
theorem Two'.alloc {w wr : World} {a b : Nat} (h : Two' w wr a b) (o : Obj) : Two' w (wr.alloc o) a b := by
  have := h.s
  exact ⟨h.a.alloc o, h.b.alloc o, h.l.alloc (by omega) o, by rw [World.size_alloc]; omega⟩
theorem Two'.drew {w wr : World} {a b : Nat} (h : Two' w wr a b) : Two' w wr.drew a b := ⟨h.a.drew, h.b.drew, below_drewN h.l 1, h.s⟩
theorem Two'.put4 {w wr : World} {a b L : Nat} {x0 x1 x2 x3 : Value} (h : Two' w wr a b) (hL : w.heap.size + 1 < L) :
    Two' w ((((wr.setCell ⟨L, 0, none⟩ x0).setCell ⟨L, 1, none⟩ x1).setCell ⟨L, 2, none⟩ x2).setCell ⟨L, 3, none⟩ x3) a b :=
  ⟨h.a.put4_far (by omega), h.b.put4_far (by omega), below_set4 h.l (by omega), by simp only [World.size_setCell]; exact h.s⟩
theorem two_first {a b : Nat} {w : World} {t1 t2 : TypeId} :
    Two' w ((w.alloc (.cells #[.int .u64 (limb a 0 : Nat), .int .u64 (limb a 1 : Nat), .int .u64 (limb a 2 : Nat), .int .u64 (limb a 3 : Nat)] t1)).alloc (.cells #[.int .u64 (limb b 0 : Nat), .int .u64 (limb b 1 : Nat), .int .u64 (limb b 2 : Nat), .int .u64 (limb b 3 : Nat)] t2)) a b :=
  ⟨(Arr.new4 (f := limb a) rfl).alloc _, Arr.new4 (f := limb b) (by simp), ((Below.refl _ _).alloc (Nat.le_refl _) _).alloc (by simp only [World.size_alloc]; omega) _, by simp⟩
end Go.Proofs.Ytedkhpnlhkjjgaa
