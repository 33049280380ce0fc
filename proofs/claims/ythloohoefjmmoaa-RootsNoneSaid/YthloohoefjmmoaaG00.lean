/- Plain lemmas: rows of integer cells in memory, and numbers of 64-bit words. No program is named here. -/
import Derived.Test.YthloohoefjmmoaaRows
import Derived.WalkKit
import Derived.ProofKit
import Derived.Below
import Derived.WalkSpells
import Derived.WalkLawsBesides
import Derived.WalkSmall
import Derived.Deep.Draws
import Derived.Deep.RegionWith
import Derived.Deep.RegionHeld3
import Derived.Deep.QuietTactic
import Derived.BigQuiet
import Derived.BigRegion
import Derived.Lib.Hide
import Derived.OpenShut
import Derived.ChangeOld
import Derived.Laws.IdiomArrays
import Derived.ChangeSlices
import Derived.Carry
namespace Go.Proofs.Ythloohoefjmmoaa
open Go.RowKit

/-- block b holds n integer cells, f's values, and none is frozen -/
structure Arr (κ : IntKind) (w : World) (b n : Nat) (f : Nat → Nat) : Prop where
  cell : ∀ i, i < n → w.cell? ⟨b, i, none⟩ = some (.int κ (f i : Nat))
  free : ∀ i, i < n → w.frozen? ⟨b, i, none⟩ = false

theorem Arr.cells4 {κ : IntKind} {w : World} {b : Nat} {f : Nat → Nat} (h : Arr κ w b 4 f) :
    w.cell? ⟨b, 0, none⟩ = some (.int κ (f 0 : Nat)) ∧ w.cell? ⟨b, 1, none⟩ = some (.int κ (f 1 : Nat)) ∧ w.cell? ⟨b, 2, none⟩ = some (.int κ (f 2 : Nat)) ∧ w.cell? ⟨b, 3, none⟩ = some (.int κ (f 3 : Nat)) :=
  ⟨h.cell 0 (by omega), h.cell 1 (by omega), h.cell 2 (by omega), h.cell 3 (by omega)⟩
theorem Arr.frees4 {κ : IntKind} {w : World} {b : Nat} {f : Nat → Nat} (h : Arr κ w b 4 f) :
    w.frozen? ⟨b, 0, none⟩ = false ∧ w.frozen? ⟨b, 1, none⟩ = false ∧ w.frozen? ⟨b, 2, none⟩ = false ∧ w.frozen? ⟨b, 3, none⟩ = false :=
  ⟨h.free 0 (by omega), h.free 1 (by omega), h.free 2 (by omega), h.free 3 (by omega)⟩
theorem Arr.cells8 {κ : IntKind} {w : World} {b : Nat} {f : Nat → Nat} (h : Arr κ w b 8 f) :
    w.cell? ⟨b, 0, none⟩ = some (.int κ (f 0 : Nat)) ∧ w.cell? ⟨b, 1, none⟩ = some (.int κ (f 1 : Nat)) ∧ w.cell? ⟨b, 2, none⟩ = some (.int κ (f 2 : Nat)) ∧ w.cell? ⟨b, 3, none⟩ = some (.int κ (f 3 : Nat)) ∧
    w.cell? ⟨b, 4, none⟩ = some (.int κ (f 4 : Nat)) ∧ w.cell? ⟨b, 5, none⟩ = some (.int κ (f 5 : Nat)) ∧ w.cell? ⟨b, 6, none⟩ = some (.int κ (f 6 : Nat)) ∧ w.cell? ⟨b, 7, none⟩ = some (.int κ (f 7 : Nat)) :=
  ⟨h.cell 0 (by omega), h.cell 1 (by omega), h.cell 2 (by omega), h.cell 3 (by omega), h.cell 4 (by omega), h.cell 5 (by omega), h.cell 6 (by omega), h.cell 7 (by omega)⟩
theorem Arr.frees8 {κ : IntKind} {w : World} {b : Nat} {f : Nat → Nat} (h : Arr κ w b 8 f) :
    w.frozen? ⟨b, 0, none⟩ = false ∧ w.frozen? ⟨b, 1, none⟩ = false ∧ w.frozen? ⟨b, 2, none⟩ = false ∧ w.frozen? ⟨b, 3, none⟩ = false ∧
    w.frozen? ⟨b, 4, none⟩ = false ∧ w.frozen? ⟨b, 5, none⟩ = false ∧ w.frozen? ⟨b, 6, none⟩ = false ∧ w.frozen? ⟨b, 7, none⟩ = false :=
  ⟨h.free 0 (by omega), h.free 1 (by omega), h.free 2 (by omega), h.free 3 (by omega), h.free 4 (by omega), h.free 5 (by omega), h.free 6 (by omega), h.free 7 (by omega)⟩
def upd (f : Nat → Nat) (k v : Nat) : Nat → Nat := fun i => if i = k then v else f i
theorem upd_same (f : Nat → Nat) (k v : Nat) : upd f k v k = v := by simp [upd]
theorem upd_ne (f : Nat → Nat) {k v i : Nat} (h : i ≠ k) : upd f k v i = f i := by simp [upd, h]

theorem upd_lt {f : Nat → Nat} {k v B : Nat} (h : ∀ i, f i < B) (hv : v < B) : ∀ i, upd f k v i < B := fun i => by unfold upd; split; exact hv; exact h i

theorem Arr.drewN {κ : IntKind} {w : World} {b n : Nat} {f : Nat → Nat} (h : Arr κ w b n f) (m : Nat) : Arr κ (w.drewN m) b n f := ⟨h.cell, h.free⟩
theorem Arr.drew {κ : IntKind} {w : World} {b n : Nat} {f : Nat → Nat} (h : Arr κ w b n f) : Arr κ w.drew b n f := ⟨h.cell, h.free⟩
theorem Arr.below {κ : IntKind} {w w' : World} {b n B : Nat} {f : Nat → Nat} (h : Arr κ w b n f) (hb : Below B w w') (hB : b < B) : Arr κ w' b n f :=
  ⟨fun i hi => by rw [hb.cell (p := ⟨b, i, none⟩) hB]; exact h.cell i hi, fun i hi => by rw [hb.frozen (p := ⟨b, i, none⟩) hB]; exact h.free i hi⟩
theorem Arr.set_far {κ : IntKind} {w : World} {b n b' k : Nat} {f : Nat → Nat} {v : Value} (h : Arr κ w b n f) (hb : b' ≠ b) : Arr κ (w.setCell ⟨b', k, none⟩ v) b n f :=
  ⟨fun i hi => by rw [World.cell?_setCell_far _ _ _ _ hb]; exact h.cell i hi, fun i hi => by rw [World.frozen?_setCell]; exact h.free i hi⟩
theorem Arr.set {κ : IntKind} {w : World} {b n k v : Nat} {f : Nat → Nat} (h : Arr κ w b n f) (hk : k < n) : Arr κ (w.setCell ⟨b, k, none⟩ (.int κ (v : Nat))) b n (upd f k v) :=
  ⟨fun i hi => by
    by_cases hik : i = k
    · subst hik; rw [World.cell?_setCell_same _ _ _ (h.cell i hi), upd_same]
    · rw [World.cell?_setCell_other _ _ _ _ (by simp only [ne_eq, Addr.mk.injEq, true_and, and_true]; omega), upd_ne _ hik]; exact h.cell i hi,
   fun i hi => by rw [World.frozen?_setCell]; exact h.free i hi⟩
theorem Arr.alloc {κ : IntKind} {w : World} {b n : Nat} {f : Nat → Nat} (h : Arr κ w b n f) (o : Obj) : Arr κ (w.alloc o) b n f :=
  ⟨fun i hi => by
    have := World.block_lt_of_cell? w _ (h.cell i hi)
    rw [World.cell?_alloc_lt _ _ _ this]; exact h.cell i hi, fun i hi => by
    have := World.block_lt_of_cell? w _ (h.cell i hi)
    rw [World.frozen?_alloc_old _ _ _ (Nat.ne_of_lt this)]; exact h.free i hi⟩
theorem Arr.alloc_new {κ : IntKind} (w : World) (c : Array Value) (t : TypeId) {n : Nat} {f : Nat → Nat} (h : ∀ i, i < n → c[i]? = some (.int κ (f i : Nat))) : Arr κ (w.alloc (.cells c t)) w.heap.size n f :=
  ⟨fun i hi => by rw [World.cell?_alloc_new]; exact h i hi, fun i hi => by simp [World.frozen?_alloc_new]⟩
theorem Arr.new4 {κ : IntKind} {w : World} {b : Nat} {t : TypeId} {f : Nat → Nat} (hb : b = w.heap.size) :
    Arr κ (w.alloc (.cells #[.int κ (f 0 : Nat), .int κ (f 1 : Nat), .int κ (f 2 : Nat), .int κ (f 3 : Nat)] t)) b 4 f := by
  subst hb
  refine Arr.alloc_new w _ t fun i hi => ?_
  rcases (by omega : i = 0 ∨ i = 1 ∨ i = 2 ∨ i = 3) with rfl | rfl | rfl | rfl <;> rfl
theorem Arr.new8 {κ : IntKind} {w : World} {b : Nat} {t : TypeId} {f : Nat → Nat} (hb : b = w.heap.size) :
    Arr κ (w.alloc (.cells #[.int κ (f 0 : Nat), .int κ (f 1 : Nat), .int κ (f 2 : Nat), .int κ (f 3 : Nat), .int κ (f 4 : Nat), .int κ (f 5 : Nat), .int κ (f 6 : Nat), .int κ (f 7 : Nat)] t)) b 8 f := by
  subst hb
  refine Arr.alloc_new w _ t fun i hi => ?_
  rcases (by omega : i = 0 ∨ i = 1 ∨ i = 2 ∨ i = 3 ∨ i = 4 ∨ i = 5 ∨ i = 6 ∨ i = 7) with rfl | rfl | rfl | rfl | rfl | rfl | rfl | rfl <;> rfl
theorem Arr.new_rep {κ : IntKind} {w : World} {b n : Nat} {t : TypeId} (hb : b = w.heap.size) : Arr κ (w.alloc (.cells (Array.replicate n (.int κ 0)) t)) b n (fun _ => 0) := by
  subst hb
  refine Arr.alloc_new w _ t fun i hi => ?_
  rw [Array.getElem?_replicate, if_pos hi]; rfl
/-- a slice of n bytes (of address A) reads as f -/
structure Sl (w : World) (A : Option Addr) (n : Nat) (f : Nat → Nat) : Prop where
  small : ∀ i, f i < 256
  at_ : 0 < n → ∃ g o, A = some ⟨g, o, none⟩ ∧ g < w.heap.size ∧ ∀ i, i < n → w.cell? ⟨g, o + i, none⟩ = some (.int .u8 (f i : Nat))
theorem Sl.below {w w' : World} {A : Option Addr} {n : Nat} {f : Nat → Nat} (h : Sl w A n f) (hb : Below w.heap.size w w') : Sl w' A n f :=
  ⟨h.small, fun hn => by
    obtain ⟨g, o, e, hg, hc⟩ := h.at_ hn
    exact ⟨g, o, e, Nat.lt_of_lt_of_le hg hb.size, fun i hi => by rw [hb.cell (p := ⟨g, o + i, none⟩) hg]; exact hc i hi⟩⟩
theorem Sl.of_arr {w : World} {g n : Nat} {f : Nat → Nat} (hs : ∀ i, f i < 256) (h : Arr .u8 w g n f) (hg : g < w.heap.size) : Sl w (some ⟨g, 0, none⟩) n f :=
  ⟨hs, fun _ => ⟨g, 0, rfl, hg, fun i hi => by rw [Nat.zero_add]; exact h.cell i hi⟩⟩
theorem Arr.congr {κ : IntKind} {w : World} {b n : Nat} {f g : Nat → Nat} (h : Arr κ w b n f) (e : ∀ i, i < n → f i = g i) : Arr κ w b n g :=
  ⟨fun i hi => by rw [← e i hi]; exact h.cell i hi, h.free⟩

/-- Σ i < k, f i * 2^(64 i) -/
def val (f : Nat → Nat) : Nat → Nat
  | 0 => 0
  | k + 1 => val f k + f k * 2 ^ (64 * k)
theorem val_congr {f g : Nat → Nat} : ∀ k, (∀ i, i < k → f i = g i) → val f k = val g k
  | 0, _ => rfl
  | k + 1, h => by simp only [val]; rw [val_congr k (fun i hi => h i (by omega)), h k (by omega)]
theorem val_zero : ∀ k, val (fun _ => 0) k = 0
  | 0 => rfl
  | k + 1 => by simp only [val]; rw [val_zero k]; omega
theorem val_upd (f : Nat → Nat) {k j v : Nat} (h : k ≤ j) : val (upd f j v) k = val f k := val_congr k fun i hi => upd_ne f (by omega)
theorem val_upd_succ (f : Nat → Nat) (k v : Nat) : val (upd f k v) (k + 1) = val f k + v * 2 ^ (64 * k) := by
  simp only [val]; rw [val_upd f (Nat.le_refl k), upd_same]
theorem val_upd_at (f : Nat → Nat) (v : Nat) {i : Nat} : ∀ {n : Nat}, i < n → val (upd f i v) n + f i * 2 ^ (64 * i) = val f n + v * 2 ^ (64 * i)
  | 0, h => by omega
  | n + 1, h => by
    simp only [val]
    by_cases hi : i = n
    · subst hi; rw [val_upd f (Nat.le_refl _), upd_same]; omega
    · have := val_upd_at f v (show i < n by omega)
      rw [upd_ne f (fun e => hi e.symm)]; omega
theorem val_lt {f : Nat → Nat} : ∀ k, (∀ i, i < k → f i < 2 ^ 64) → val f k < 2 ^ (64 * k)
  | 0, _ => by simp [val]
  | k + 1, h => by
    have h1 := val_lt k (fun i hi => h i (by omega))
    have h2 : f k + 1 ≤ 2 ^ 64 := h k (by omega)
    have h3 := Nat.mul_le_mul_right (2 ^ (64 * k)) h2
    have h4 : 2 ^ (64 * (k + 1)) = 2 ^ 64 * 2 ^ (64 * k) := by rw [← Nat.pow_add]; congr 1; omega
    simp only [val]; rw [h4]; rw [Nat.add_mul] at h3; omega
theorem pow_succ64 (k : Nat) : 2 ^ (64 * (k + 1)) = 2 ^ 64 * 2 ^ (64 * k) := by rw [← Nat.pow_add]; congr 1; omega

theorem val_lt' {f : Nat → Nat} (k : Nat) (h : ∀ i, f i < 2 ^ 64) : val f (k + 1) < 2 ^ 64 * 2 ^ (64 * k) := by rw [← pow_succ64]; exact val_lt _ (fun i _ => h i)

/-- the i-th word of a number -/
def limb (n i : Nat) : Nat := n / 2 ^ (64 * i) % 2 ^ 64
theorem limb_lt (n i : Nat) : limb n i < 2 ^ 64 := Nat.mod_lt _ (by decide)
theorem val_limb (n : Nat) : ∀ k, val (limb n) k = n % 2 ^ (64 * k)
  | 0 => by simp [val, Nat.mod_one]
  | k + 1 => by
    simp only [val]; rw [val_limb n k, limb, pow_succ64, Nat.mul_comm (2 ^ 64), Nat.mod_mul, Nat.mul_comm (n / 2 ^ (64 * k) % 2 ^ 64)]
theorem limb_val {f : Nat → Nat} : ∀ k, (∀ i, i < k → f i < 2 ^ 64) → ∀ j, j < k → limb (val f k) j = f j
  | 0, _, j, hj => by omega
  | k + 1, h, j, hj => by
    have hv := val_lt k (fun i hi => h i (by omega))
    have hp : 0 < 2 ^ (64 * k) := Nat.pow_pos (by decide)
    by_cases hjk : j = k
    · subst hjk
      simp only [val, limb]
      rw [Nat.add_mul_div_right _ _ hp, Nat.div_eq_of_lt hv, Nat.zero_add, Nat.mod_eq_of_lt (h j (by omega))]
    · have hjk' : j < k := by omega
      rw [← limb_val k (fun i hi => h i (by omega)) j hjk']
      simp only [val, limb]
      have e : 2 ^ (64 * k) = 2 ^ (64 * j) * (2 ^ 64 * 2 ^ (64 * (k - 1 - j))) := by
        rw [← Nat.pow_add, ← Nat.pow_add]; congr 1; omega
      rw [e, Nat.mul_left_comm (f k), Nat.add_mul_div_left _ _ (Nat.pow_pos (by decide)), Nat.mul_left_comm (f k), Nat.add_mul_mod_self_left]
theorem val4_limb {n : Nat} (h : n < 2 ^ 256) : val (limb n) 4 = n := by rw [val_limb]; exact Nat.mod_eq_of_lt h

/-- a number of 256 bits, as the program holds it -/
def U (n : Nat) : Value := .agg #[.int .u64 (limb n 0 : Nat), .int .u64 (limb n 1 : Nat), .int .u64 (limb n 2 : Nat), .int .u64 (limb n 3 : Nat)]
theorem U_of {f : Nat → Nat} (h : ∀ i, f i < 2 ^ 64) : (.agg #[.int .u64 (f 0 : Nat), .int .u64 (f 1 : Nat), .int .u64 (f 2 : Nat), .int .u64 (f 3 : Nat)] : Value) = U (val f 4) := by
  unfold U
  rw [limb_val 4 (fun i _ => h i) 0 (by omega), limb_val 4 (fun i _ => h i) 1 (by omega), limb_val 4 (fun i _ => h i) 2 (by omega), limb_val 4 (fun i _ => h i) 3 (by omega)]
theorem U_zero : U 0 = .agg #[.int .u64 0, .int .u64 0, .int .u64 0, .int .u64 0] := by
  unfold U limb; simp
theorem below_set4 {B : Nat} {w wr : World} {b : Nat} {x0 x1 x2 x3 : Value} (h : Below B w wr) (hb : B ≤ b) :
    Below B w ((((wr.setCell ⟨b, 0, none⟩ x0).setCell ⟨b, 1, none⟩ x1).setCell ⟨b, 2, none⟩ x2).setCell ⟨b, 3, none⟩ x3) :=
  (((h.setCell hb _).setCell hb _).setCell hb _).setCell hb _
theorem below_set8 {B : Nat} {w wr : World} {b : Nat} {x0 x1 x2 x3 x4 x5 x6 x7 : Value} (h : Below B w wr) (hb : B ≤ b) :
    Below B w ((((((((wr.setCell ⟨b, 0, none⟩ x0).setCell ⟨b, 1, none⟩ x1).setCell ⟨b, 2, none⟩ x2).setCell ⟨b, 3, none⟩ x3).setCell ⟨b, 4, none⟩ x4).setCell ⟨b, 5, none⟩ x5).setCell ⟨b, 6, none⟩ x6).setCell ⟨b, 7, none⟩ x7) :=
  (((((((h.setCell hb _).setCell hb _).setCell hb _).setCell hb _).setCell hb _).setCell hb _).setCell hb _).setCell hb _
theorem Arr.put4 {w : World} {b n : Nat} {f : Nat → Nat} (h : Arr .u64 w b 4 f) :
    Arr .u64 ((((w.setCell ⟨b, 0, none⟩ (.int .u64 (limb n 0 : Nat))).setCell ⟨b, 1, none⟩ (.int .u64 (limb n 1 : Nat))).setCell ⟨b, 2, none⟩ (.int .u64 (limb n 2 : Nat))).setCell ⟨b, 3, none⟩ (.int .u64 (limb n 3 : Nat))) b 4 (limb n) := by
  refine Arr.congr ((((h.set (by omega)).set (by omega)).set (by omega)).set (by omega)) fun i hi => ?_
  rcases (by omega : i = 0 ∨ i = 1 ∨ i = 2 ∨ i = 3) with rfl | rfl | rfl | rfl <;> simp [upd]
theorem Arr.put4_far {κ : IntKind} {w : World} {b b' m : Nat} {f : Nat → Nat} {x0 x1 x2 x3 : Value} (h : Arr κ w b m f) (hb : b' ≠ b) :
    Arr κ ((((w.setCell ⟨b', 0, none⟩ x0).setCell ⟨b', 1, none⟩ x1).setCell ⟨b', 2, none⟩ x2).setCell ⟨b', 3, none⟩ x3) b m f :=
  (((h.set_far hb).set_far hb).set_far hb).set_far hb
theorem val_inj {f g : Nat → Nat} {k : Nat} (hf : ∀ i, i < k → f i < 2 ^ 64) (hg : ∀ i, i < k → g i < 2 ^ 64) (h : val f k = val g k) : ∀ j, j < k → f j = g j :=
  fun j hj => by rw [← limb_val k hf j hj, ← limb_val k hg j hj, h]

end Go.Proofs.Ythloohoefjmmoaa

namespace Go.Proofs.Ythloohoefjmmoaa
open Go.ChangeShapes Go.WideShapes Go.ChangeAt Go.RowKit

theorem own : ownKnob Try.prog.godebug = none := by kernel_rfl
theorem laidOut : laidOutB Try.prog = true := by kernel_rfl
end Go.Proofs.Ythloohoefjmmoaa

namespace Go.Proofs.Ythloohoefjmmoaa
open Go.ChangeShapes Go.WideShapes Go.ChangeAt Go.RowKit

theorem cellsU8 : Try.prog.cellsOf 5 = 1 := by kernel_rfl
section
variable {H : Type} {enc : TypeId × Value → H} {W : World} {base : Nat}
set_option maxRecDepth 100000 in
theorem open_bl {v : Value} {d : DataW H} {p : List MemPlace} (hv : Value.okWide Try.prog W .any base 73 v) (h : DataW.Trod enc Try.prog W 0 (fun _ => true) true 73 v d p) :
    ∃ A n c f, v = .slice A n c ∧ Sl W A n f := by
  obtain ⟨a0, n, c, rfl⟩ := okWide_slice Try.underlying73 hv
  obtain ⟨fuel, hf⟩ := h
  rcases open_ints Try.underlying73 Try.underlying5 cellsU8 hf with ⟨hcs, hx⟩ | ⟨a, len', cap', zs, hcs, _, hl, hm, hz, hx, hcell, hwz⟩
  · simp [Value.cells] at hcs
    obtain ⟨rfl, rfl, rfl⟩ := hcs
    exact ⟨none, 0, 0, fun _ => 0, rfl, fun _ => by decide, fun h => absurd h (by omega)⟩
  · simp only [Value.cells, List.cons.injEq, Value.slice.injEq, and_true] at hcs
    obtain ⟨rfl, rfl, rfl⟩ := hcs
    simp only [if_true] at hz
    have hb : ∀ i, 0 ≤ zs.getD i 0 ∧ zs.getD i 0 < 256 := fun i => by
      rcases Nat.lt_or_ge i zs.length with hi | hi
      · have h1 := hwz (zs.getD i 0) (by simp [List.getD, List.getElem?_eq_getElem hi])
        have h2 := bounds_u8 h1
        omega
      · simp only [List.getD, List.getElem?_eq_none hi, Option.getD_none]; decide
    refine ⟨some a, n, c, fun i => (zs.getD i 0).toNat, rfl, fun i => by have := hb i; omega, fun hn => ?_⟩
    have hc0 := hcell 0 (by omega)
    have hlt := World.block_lt_of_cell? W _ hc0
    obtain ⟨g, o, sp⟩ := a
    have hspot : sp = none := by simpa [Addr.add] using World.cell?_spot hc0
    subst hspot
    exact ⟨g, o, rfl, hlt, fun i hi => by
      have h1 := hcell i (by omega)
      have h2 := (hb i).1
      rw [add_plain] at h1
      rw [h1, Int.toNat_of_nonneg h2]⟩
set_option maxRecDepth 100000 in
theorem open_bl2 {v : Value} {d : DataW H} {p : List MemPlace} (hv : Value.okWide Try.prog W .any base 73 v) (h : DataW.Trod enc Try.prog W 0 (fun _ => true) true 73 v d p) :
    ∃ A n c f, v = .slice A n c ∧ Sl W A n f ∧ (A = none → n = 0 ∧ c = 0) := by
  obtain ⟨a0, n, c, rfl⟩ := okWide_slice Try.underlying73 hv
  obtain ⟨fuel, hf⟩ := h
  rcases open_ints Try.underlying73 Try.underlying5 cellsU8 hf with ⟨hcs, hx⟩ | ⟨a, len', cap', zs, hcs, _, hl, hm, hz, hx, hcell, hwz⟩
  · simp [Value.cells] at hcs
    obtain ⟨rfl, rfl, rfl⟩ := hcs
    exact ⟨none, 0, 0, fun _ => 0, rfl, ⟨fun _ => by decide, fun h => absurd h (by omega)⟩, fun _ => ⟨rfl, rfl⟩⟩
  · simp only [Value.cells, List.cons.injEq, Value.slice.injEq, and_true] at hcs
    obtain ⟨rfl, rfl, rfl⟩ := hcs
    simp only [if_true] at hz
    have hb : ∀ i, 0 ≤ zs.getD i 0 ∧ zs.getD i 0 < 256 := fun i => by
      rcases Nat.lt_or_ge i zs.length with hi | hi
      · have h1 := hwz (zs.getD i 0) (by simp [List.getD, List.getElem?_eq_getElem hi])
        have h2 := bounds_u8 h1
        omega
      · simp only [List.getD, List.getElem?_eq_none hi, Option.getD_none]; decide
    refine ⟨some a, n, c, fun i => (zs.getD i 0).toNat, rfl, ⟨fun i => by have := hb i; omega, fun hn => ?_⟩, fun h => by cases h⟩
    have hc0 := hcell 0 (by omega)
    have hlt := World.block_lt_of_cell? W _ hc0
    obtain ⟨g, o, sp⟩ := a
    have hspot : sp = none := by simpa [Addr.add] using World.cell?_spot hc0
    subst hspot
    exact ⟨g, o, rfl, hlt, fun i hi => by
      have h1 := hcell i (by omega)
      have h2 := (hb i).1
      rw [add_plain] at h1
      rw [h1, Int.toNat_of_nonneg h2]⟩
end
end Go.Proofs.Ythloohoefjmmoaa
