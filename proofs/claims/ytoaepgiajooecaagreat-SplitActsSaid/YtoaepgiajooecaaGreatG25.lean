/- tallagelaw01.lives, walked: the document's examples are as it says. -/
import Derived.Test.YtoaepgiajooecaaGreatG24
import Derived.Test.YtoaepgiajooecaaGreatG20
import Derived.Test.YtoaepgiajooecaaGreatG22
import Derived.Test.YtoaepgiajooecaaGreatG23
import Derived.Lib.QuietBelow
import Derived.Deep.DeepCutAuto
import Derived.Laws.AppendOwn
namespace Go.Proofs.YtoaepgiajooecaaGreat
open Go.RowKit

def lit (n : Nat) : Value := .agg #[.int .u64 (n : Nat), .int .u64 0, .int .u64 0, .int .u64 0]
theorem U_small {n : Nat} (h : n < 2 ^ 64) : U n = lit n := by
  unfold U lit
  have h0 : limb n 0 = n := by unfold limb; simp; omega
  have h1 : ∀ i, 1 ≤ i → limb n i = 0 := fun i hi => by
    unfold limb
    rw [Nat.div_eq_of_lt (Nat.lt_of_lt_of_le h (Nat.pow_le_pow_right (by decide) (by omega)))]
  rw [h0, h1 1 (by omega), h1 2 (by omega), h1 3 (by omega)]; rfl
theorem sub12_c (w : World) : Calls Tryz.prog 31 #[.agg #[.int .u64 1, .int .u64 0, .int .u64 0, .int .u64 0], .agg #[.int .u64 2, .int .u64 0, .int .u64 0, .int .u64 0]] w
    fun e w' => e = .returned (.tuple #[.agg #[.int .u64 0, .int .u64 0, .int .u64 0, .int .u64 0], .bool false]) ∧ Below w.heap.size w w' := by
  have h := sub_walk 1 2 w (by decide) (by decide)
  rw [U_small (by decide), U_small (by decide)] at h
  exact h.mono fun e w' ⟨he, hw⟩ => ⟨by rw [he, if_neg (by decide), decide_eq_false (by decide), U_zero], hw⟩
theorem div72_c (w : World) : Calls Tryz.prog 80 #[.agg #[.int .u64 7, .int .u64 0, .int .u64 0, .int .u64 0], .agg #[.int .u64 2, .int .u64 0, .int .u64 0, .int .u64 0]] w
    fun e w' => e = .returned (.tuple #[.agg #[.int .u64 3, .int .u64 0, .int .u64 0, .int .u64 0], .agg #[.int .u64 1, .int .u64 0, .int .u64 0, .int .u64 0], .bool true]) ∧ Below w.heap.size w w' := by
  have h := div_walk 7 2 w (by decide) (by decide)
  rw [U_small (by decide), U_small (by decide)] at h
  exact h.mono fun e w' ⟨he, hw⟩ => ⟨by rw [he, if_neg (by decide), if_neg (by decide), decide_eq_true (by decide), U_small (by decide), U_small (by decide)]; rfl, hw⟩
end Go.Proofs.YtoaepgiajooecaaGreat

namespace Go.Proofs.YtoaepgiajooecaaGreat
open Go.RowKit Go.Sort

def addv (a b : Nat) : Nat := if a + b < 2 ^ 256 then a + b else 0
def addk (a b : Nat) : Bool := decide (a + b < 2 ^ 256)
def mulv (a b : Nat) : Nat := if a * b < 2 ^ 256 then a * b else 0
def mulk (a b : Nat) : Bool := decide (a * b < 2 ^ 256)
theorem addv_lt (a b : Nat) : addv a b < 2 ^ 256 := by unfold addv; split <;> omega
theorem mulv_lt (a b : Nat) : mulv a b < 2 ^ 256 := by unfold mulv; split <;> omega
theorem cmp_c (a b : Nat) (w : World) (ha : a < 2 ^ 256) (hb : b < 2 ^ 256) : Calls Tryz.prog 58 #[U a, U b] w fun e w' => e = .returned (.int .i64 (cmpU a b)) ∧ Below w.heap.size w w' := cmp_walk a b w ha hb
theorem bits_c (a : Nat) (w : World) (ha : a < 2 ^ 256) : Calls Tryz.prog 81 #[U a] w fun e w' => e = .returned (.int .i64 (blen a : Nat)) ∧ Below w.heap.size w w' := bits_walk a w ha

theorem blen_mono {a b : Nat} (h : a ≤ b) : blen a ≤ blen b := blen_le (Nat.lt_of_le_of_lt h (lt_blen b))
/-- three numbers in boxes -/
structure Three (w wr : World) (a b c : Nat) : Prop where
  a : Arr .u64 wr w.heap.size 4 (limb a)
  b : Arr .u64 wr (w.heap.size + 1) 4 (limb b)
  c : Arr .u64 wr (w.heap.size + 1 + 1) 4 (limb c)
  l : Below w.heap.size w wr
  s : w.heap.size + 1 + 1 < wr.heap.size
theorem Three.below {w wr w' : World} {a b c : Nat} (h : Three w wr a b c) (hb : Below wr.heap.size wr w') : Three w w' a b c := by
  have := h.s; have := hb.size
  exact ⟨h.a.below hb (by omega), h.b.below hb (by omega), h.c.below hb (by omega), h.l.trans (hb.mono (by omega)), by omega⟩
theorem Three.alloc {w wr : World} {a b c : Nat} (h : Three w wr a b c) (o : Obj) : Three w (wr.alloc o) a b c := by
  have := h.s
  exact ⟨h.a.alloc o, h.b.alloc o, h.c.alloc o, h.l.alloc (by omega) o, by rw [World.size_alloc]; omega⟩
/-- a number in a box made later -/
structure Box (wr : World) (L n : Nat) : Prop where
  a : Arr .u64 wr L 4 (limb n)
  s : L < wr.heap.size
theorem Box.below {wr w' : World} {L n : Nat} (h : Box wr L n) (hb : Below wr.heap.size wr w') : Box w' L n := ⟨h.a.below hb h.s, Nat.lt_of_lt_of_le h.s hb.size⟩
theorem Box.alloc {wr : World} {L n : Nat} (h : Box wr L n) (o : Obj) : Box (wr.alloc o) L n := ⟨h.a.alloc o, by rw [World.size_alloc]; have := h.s; omega⟩
theorem Box.new {wr : World} {L n : Nat} {t : TypeId} (h : L = wr.heap.size) : Box (wr.alloc (.cells #[.int .u64 (limb n 0 : Nat), .int .u64 (limb n 1 : Nat), .int .u64 (limb n 2 : Nat), .int .u64 (limb n 3 : Nat)] t)) L n :=
  ⟨Arr.new4 (f := limb n) h, by rw [World.size_alloc]; omega⟩
/-- .. and in every world of the class that a quiet region walks over -/
theorem Arr.grow4 {wr : World} {b : Nat} {f : Nat → Nat} (h : Arr .u64 wr b 4 f) :
    (∀ d os, (grow (redrawn wr d) os).cell? ⟨b, 0, none⟩ = some (.int .u64 (f 0 : Nat))) ∧ (∀ d os, (grow (redrawn wr d) os).cell? ⟨b, 1, none⟩ = some (.int .u64 (f 1 : Nat))) ∧
    (∀ d os, (grow (redrawn wr d) os).cell? ⟨b, 2, none⟩ = some (.int .u64 (f 2 : Nat))) ∧ (∀ d os, (grow (redrawn wr d) os).cell? ⟨b, 3, none⟩ = some (.int .u64 (f 3 : Nat))) :=
  ⟨fun d os => cell_regrown (h.cell 0 (by omega)) d os, fun d os => cell_regrown (h.cell 1 (by omega)) d os, fun d os => cell_regrown (h.cell 2 (by omega)) d os, fun d os => cell_regrown (h.cell 3 (by omega)) d os⟩

theorem Arr.lt4 {κ : IntKind} {w : World} {b : Nat} {f : Nat → Nat} (h : Arr κ w b 4 f) : b < w.heap.size := World.block_lt_of_cell? w _ (h.cell 0 (by omega))
/-- two numbers in boxes -/
structure Two' (w wr : World) (a b : Nat) : Prop where
  a : Arr .u64 wr w.heap.size 4 (limb a)
  b : Arr .u64 wr (w.heap.size + 1) 4 (limb b)
  l : Below w.heap.size w wr
  s : w.heap.size + 1 < wr.heap.size
theorem Two'.below {w wr w' : World} {a b : Nat} (h : Two' w wr a b) (hb : Below wr.heap.size wr w') : Two' w w' a b := by
  have := h.s; have := hb.size
  exact ⟨h.a.below hb (by omega), h.b.below hb (by omega), h.l.trans (hb.mono (by omega)), by omega⟩
theorem Two'.alloc {w wr : World} {a b : Nat} (h : Two' w wr a b) (o : Obj) : Two' w (wr.alloc o) a b := by
  have := h.s
  exact ⟨h.a.alloc o, h.b.alloc o, h.l.alloc (by omega) o, by rw [World.size_alloc]; omega⟩
theorem Two'.drew {w wr : World} {a b : Nat} (h : Two' w wr a b) : Two' w wr.drew a b := ⟨h.a.drew, h.b.drew, below_drewN h.l 1, h.s⟩
theorem Two'.put4 {w wr : World} {a b L : Nat} {x0 x1 x2 x3 : Value} (h : Two' w wr a b) (hL : w.heap.size + 1 < L) :
    Two' w ((((wr.setCell ⟨L, 0, none⟩ x0).setCell ⟨L, 1, none⟩ x1).setCell ⟨L, 2, none⟩ x2).setCell ⟨L, 3, none⟩ x3) a b :=
  ⟨h.a.put4_far (by omega), h.b.put4_far (by omega), below_set4 h.l (by omega), by simp only [World.size_setCell]; exact h.s⟩
theorem two_first {a b : Nat} {w : World} {t1 t2 : TypeId} :
    Two' w ((w.alloc (.cells #[.int .u64 (limb a 0 : Nat), .int .u64 (limb a 1 : Nat), .int .u64 (limb a 2 : Nat), .int .u64 (limb a 3 : Nat)] t1)).alloc (.cells #[.int .u64 (limb b 0 : Nat), .int .u64 (limb b 1 : Nat), .int .u64 (limb b 2 : Nat), .int .u64 (limb b 3 : Nat)] t2)) a b :=
  ⟨(Arr.new4 (f := limb a) rfl).alloc _, Arr.new4 (f := limb b) (by simp), ((Below.refl _ _).alloc (Nat.le_refl _) _).alloc (by simp only [World.size_alloc]; omega) _, by simp⟩
end Go.Proofs.YtoaepgiajooecaaGreat

namespace Go.Proofs.YtoaepgiajooecaaGreat
open Go.RowKit

/-- Σ i < k, f i * 2^(32 i) -/
def nval (f : Nat → Nat) : Nat → Nat
  | 0 => 0
  | k + 1 => nval f k + f k * 2 ^ (32 * k)
theorem nval_congr {f g : Nat → Nat} : ∀ k, (∀ i, i < k → f i = g i) → nval f k = nval g k
  | 0, _ => rfl
  | k + 1, h => by simp only [nval]; rw [nval_congr k (fun i hi => h i (by omega)), h k (by omega)]
theorem pow_succ32 (k : Nat) : 2 ^ (32 * (k + 1)) = 2 ^ 32 * 2 ^ (32 * k) := by rw [← Nat.pow_add]; congr 1; omega
theorem nval_lt {f : Nat → Nat} : ∀ k, (∀ i, i < k → f i < 2 ^ 32) → nval f k < 2 ^ (32 * k)
  | 0, _ => by simp [nval]
  | k + 1, h => by
    have h1 := nval_lt k (fun i hi => h i (by omega))
    have h2 : f k + 1 ≤ 2 ^ 32 := h k (by omega)
    have h3 := Nat.mul_le_mul_right (2 ^ (32 * k)) h2
    simp only [nval]; rw [pow_succ32]; rw [Nat.add_mul] at h3; omega
theorem nval_top {f : Nat → Nat} {k : Nat} : ∀ {n : Nat}, k ≤ n → (∀ i, k ≤ i → i < n → f i = 0) → nval f n = nval f k
  | 0, hk, _ => by rw [show k = 0 by omega]
  | n + 1, hk, h => by
    rcases Nat.eq_or_lt_of_le hk with e | e
    · rw [e]
    · simp only [nval]; rw [h n (by omega) (by omega), nval_top (n := n) (by omega) (fun i h1 h2 => h i h1 (by omega))]; omega
/-- the k-th word of 32 bits -/
def w32 (n i : Nat) : Nat := n / 2 ^ (32 * i) % 2 ^ 32
theorem w32_lt (n i : Nat) : w32 n i < 2 ^ 32 := Nat.mod_lt _ (by decide)
theorem nval_w32 (n : Nat) : ∀ k, nval (w32 n) k = n % 2 ^ (32 * k)
  | 0 => by simp [nval, Nat.mod_one]
  | k + 1 => by
    simp only [nval]; rw [nval_w32 n k, w32, pow_succ32, Nat.mul_comm (2 ^ 32), Nat.mod_mul, Nat.mul_comm (n / 2 ^ (32 * k) % 2 ^ 32)]

/-- v is a slice of n words of 32 bits, f's values -/
structure Ws (w : World) (v : Value) (n : Nat) (f : Nat → Nat) : Prop where
  small : ∀ i, f i < 2 ^ 32
  at_ : (v = .slice none 0 0 ∧ n = 0) ∨ ∃ g o c, v = .slice (some ⟨g, o, none⟩) n c ∧ n ≤ c ∧ g < w.heap.size ∧ ∀ i, i < n → w.cell? ⟨g, o + i, none⟩ = some (.int .u32 (f i : Nat))
theorem Ws.below {w w' : World} {v : Value} {n : Nat} {f : Nat → Nat} (h : Ws w v n f) (hb : Below w.heap.size w w') : Ws w' v n f := by
  refine ⟨h.small, ?_⟩
  rcases h.at_ with h1 | ⟨g, o, c, e, hc, hg, hx⟩
  · exact .inl h1
  · exact .inr ⟨g, o, c, e, hc, Nat.lt_of_lt_of_le hg hb.size, fun i hi => by rw [hb.cell (p := ⟨g, o + i, none⟩) hg]; exact hx i hi⟩
theorem Ws.cut {w : World} {g o c n k : Nat} {f : Nat → Nat} (h : Ws w (.slice (some ⟨g, o, none⟩) n c) n f) (hk : k ≤ n) : Ws w (.slice (some ⟨g, o, none⟩) k c) k f := by
  refine ⟨h.small, ?_⟩
  rcases h.at_ with ⟨h1, _⟩ | ⟨g', o', c', e, hc, hg, hx⟩
  · cases h1
  · cases e
    exact .inr ⟨g, o, c, rfl, by omega, hg, fun i hi => hx i (by omega)⟩
/-- without noughts above -/
def Trimmed (n : Nat) (f : Nat → Nat) : Prop := n = 0 ∨ f (n - 1) ≠ 0
def TrimPost (w : World) (n : Nat) (f : Nat → Nat) (e : Ending) (w' : World) : Prop :=
  ∃ v k, e = .returned v ∧ k ≤ n ∧ Ws w v k f ∧ nval f k = nval f n ∧ Trimmed k f ∧ w' = w
def TrimRel (n : Nat) (f : Nat → Nat) (w : World) (x : Value) (wr : World) : Prop :=
  ∃ k : Nat, k ≤ n ∧ x = .int .i64 (k : Nat) ∧ (∀ i, k ≤ i → i < n → f i = 0) ∧ wr = w

end Go.Proofs.YtoaepgiajooecaaGreat
