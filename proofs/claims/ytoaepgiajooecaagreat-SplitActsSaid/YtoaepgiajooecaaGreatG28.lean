/- tallageref01.ToU, told, walked. -/
import Derived.Test.YtoaepgiajooecaaGreatG27
import Derived.Test.YtoaepgiajooecaaGreatG21
import Derived.OwnWalk
namespace Go.Proofs.YtoaepgiajooecaaGreat
open Go.RowKit Go.Sort

/-- a word of 64 bits out of the first k of 32 -/
def outw (f : Nat → Nat) (k j : Nat) : Nat := padw f k (2 * j) + padw f k (2 * j + 1) * 4294967296
theorem outw_lt {f : Nat → Nat} (hf : ∀ i, f i < 2 ^ 32) (k j : Nat) : outw f k j < 2 ^ 64 := by
  have := padw_lt hf k (2 * j)
  have := padw_lt hf k (2 * j + 1)
  unfold outw; omega
theorem outw_val {f : Nat → Nat} {n : Nat} (hn : n ≤ 8) : val (outw f n) 4 = nval f n := by
  rw [← nval_pad f hn]
  simp only [val, nval, outw, Nat.reduceMul, Nat.reduceAdd]
  omega
theorem outw_far {f : Nat → Nat} {k i : Nat} (h : i ≠ k / 2) : outw f (k + 1) i = outw f k i := by
  unfold outw padw
  have h1 : (2 * i < k + 1) = (2 * i < k) := by apply propext; omega
  have h2 : (2 * i + 1 < k + 1) = (2 * i + 1 < k) := by apply propext; omega
  simp only [h1, h2]
theorem or_even {f : Nat → Nat} {j : Nat} (hf : ∀ i, f i < 2 ^ 32) : bits BinOp.or IntKind.u64 ((outw f (2 * j) j : Nat) : Int) ((f (2 * j) : Nat) : Int) = ((outw f (2 * j + 1) j : Nat) : Int) := by
  have h := hf (2 * j)
  have e0 : outw f (2 * j) j = 0 := by unfold outw padw; rw [if_neg (by omega), if_neg (by omega)]
  have e1 : outw f (2 * j + 1) j = f (2 * j) := by unfold outw padw; rw [if_pos (by omega), if_neg (by omega)]; omega
  rw [e0, e1, u64_or_nat _ _ (by decide) (by omega), Nat.zero_or]
theorem or_odd {f : Nat → Nat} {j : Nat} (hf : ∀ i, f i < 2 ^ 32) : bits BinOp.or IntKind.u64 ((outw f (2 * j + 1) j : Nat) : Int) ((f (2 * j + 1) : Nat) * 4294967296 : Int) = ((outw f (2 * j + 1 + 1) j : Nat) : Int) := by
  have h := hf (2 * j)
  have h1 := hf (2 * j + 1)
  have e0 : outw f (2 * j + 1) j = f (2 * j) := by unfold outw padw; rw [if_pos (by omega), if_neg (by omega)]; omega
  have e1 : outw f (2 * j + 1 + 1) j = f (2 * j) + f (2 * j + 1) * 4294967296 := by unfold outw padw; rw [if_pos (by omega), if_pos (by omega)]
  have e2 : ((f (2 * j + 1) : Nat) * 4294967296 : Int) = ((f (2 * j + 1) * 4294967296 : Nat) : Int) := by omega
  rw [e0, e1, e2, u64_or_nat _ _ (by omega) (by omega), Nat.or_comm, nat_join 32 _ _ ?_ h, Nat.add_comm]
  omega
def ToURel (n : Nat) (f : Nat → Nat) (w W1 : World) (x : Value) (wr : World) : Prop :=
  ∃ k : Nat, k ≤ n ∧ x = .int .i64 (k : Nat) ∧ Arr .u64 wr w.heap.size 4 (fun _ => 0) ∧ Arr .u64 wr (w.heap.size + 1) 4 (outw f k) ∧ Below (w.heap.size + 1) W1 wr ∧ w.heap.size + 1 < wr.heap.size
def ToUPost (N : Nat) (w : World) (e : Ending) (w' : World) : Prop :=
  e = .returned (.tuple #[U (if N < 2 ^ 256 then N else 0), .bool (decide (N < 2 ^ 256))]) ∧ Below w.heap.size w w'
theorem toUPost_yes {N n : Nat} {w w' : World} {e : Ending} (hn : n = N) (h : N < 2 ^ 256) (he : e = .returned (.tuple #[U n, .bool true])) (hw : Below w.heap.size w w') : ToUPost N w e w' := by
  subst hn; unfold ToUPost; rw [if_pos h, decide_eq_true h]; exact ⟨he, hw⟩
theorem toUPost_no {N : Nat} {w w' : World} {e : Ending} (h : ¬ N < 2 ^ 256) (he : e = .returned (.tuple #[U 0, .bool false])) (hw : Below w.heap.size w w') : ToUPost N w e w' := by
  unfold ToUPost; rw [if_neg h, decide_eq_false h]; exact ⟨he, hw⟩

end Go.Proofs.YtoaepgiajooecaaGreat

namespace Go.Proofs.YtoaepgiajooecaaGreat
open Go.RowKit Go.Sort

theorem held2 {w w' : World} {a b : Nat} (h : Two' w w' a b) : w'.cell? ⟨w.heap.size, 0, none⟩ = some (.int .u64 (limb a 0 : Nat)) ∧ w'.cell? ⟨w.heap.size, 1, none⟩ = some (.int .u64 (limb a 1 : Nat)) ∧ w'.cell? ⟨w.heap.size, 2, none⟩ = some (.int .u64 (limb a 2 : Nat)) ∧ w'.cell? ⟨w.heap.size, 3, none⟩ = some (.int .u64 (limb a 3 : Nat)) ∧ w'.cell? ⟨w.heap.size + 1, 0, none⟩ = some (.int .u64 (limb b 0 : Nat)) ∧ w'.cell? ⟨w.heap.size + 1, 1, none⟩ = some (.int .u64 (limb b 1 : Nat)) ∧ w'.cell? ⟨w.heap.size + 1, 2, none⟩ = some (.int .u64 (limb b 2 : Nat)) ∧ w'.cell? ⟨w.heap.size + 1, 3, none⟩ = some (.int .u64 (limb b 3 : Nat)) ∧ Two' w w' a b := by
  obtain ⟨a0, a1, a2, a3⟩ := h.a.cells4
  obtain ⟨b0, b1, b2, b3⟩ := h.b.cells4
  exact ⟨a0, a1, a2, a3, b0, b1, b2, b3, h⟩
theorem un_held2 {w w' : World} {a b : Nat} (h : w'.cell? ⟨w.heap.size, 0, none⟩ = some (.int .u64 (limb a 0 : Nat)) ∧ w'.cell? ⟨w.heap.size, 1, none⟩ = some (.int .u64 (limb a 1 : Nat)) ∧ w'.cell? ⟨w.heap.size, 2, none⟩ = some (.int .u64 (limb a 2 : Nat)) ∧ w'.cell? ⟨w.heap.size, 3, none⟩ = some (.int .u64 (limb a 3 : Nat)) ∧ w'.cell? ⟨w.heap.size + 1, 0, none⟩ = some (.int .u64 (limb b 0 : Nat)) ∧ w'.cell? ⟨w.heap.size + 1, 1, none⟩ = some (.int .u64 (limb b 1 : Nat)) ∧ w'.cell? ⟨w.heap.size + 1, 2, none⟩ = some (.int .u64 (limb b 2 : Nat)) ∧ w'.cell? ⟨w.heap.size + 1, 3, none⟩ = some (.int .u64 (limb b 3 : Nat)) ∧ Two' w w' a b) : Two' w w' a b := h.2.2.2.2.2.2.2.2

def subv (a b : Nat) : Nat := if b ≤ a then a - b else 0
def subk (a b : Nat) : Bool := decide (b ≤ a)
theorem subv_lt {a : Nat} (b : Nat) (h : a < 2 ^ 256) : subv a b < 2 ^ 256 := by unfold subv; split <;> omega
end Go.Proofs.YtoaepgiajooecaaGreat

namespace Go.Proofs.YtoaepgiajooecaaGreat
open Go.RowKit Go.Sort

theorem wpList_make_arr {P : Program} (w : World) {ops : Array Oper} {rest : List Oper} {o : Oper} {a : Act} {Q : Exit → Act → World → Prop}
    (hg : o.guard = none) (l c : Operand) (t : TypeId) (hop : o.op = Op.makeSlice t l c)
    (e : TypeId) (i : TypeInfo) (z : Value) (size : Nat) (h1 : P.underlying t = some (.slice e)) (h2 : P.info? e = some i) (h3 : i.zero = some z) (h4 : i.size = size)
    (kl kc : IntKind) (L C : Int) (n m : Nat) (hl : a.eval l = .int kl L) (hc : a.eval c = .int kc C) (hL : L = (n : Int)) (hC : C = (m : Int)) (hnm : n ≤ m) (b2 : i.bytes * m ≤ 281474976710656) (b3 : m ≤ maxLen)
    (hK : wpList P ops Q rest (a.put o.dst (.slice (some ⟨w.heap.size, 0, none⟩) n m)) (w.alloc (.cells (madeCells z.cells (m * size)) e))) :
    wpList P ops Q (o :: rest) a w := by
  subst h4
  have h63' : (m : Int) ≤ 9223372036854775807 := by
    have h := b3
    simp [maxLen] at h
    omega
  have hb' : (i.bytes : Int) * (m : Int) ≤ 281474976710656 := by
    have h : ((i.bytes * m : Nat) : Int) ≤ 281474976710656 := by omega
    rwa [Int.natCast_mul] at h
  have hr := run_make (P := P) w t e i z h1 h2 h3 kl kc n m (by omega) (by omega) hb' h63'
  simp only [Int.toNat_natCast] at hr
  refine wpList_plain hg fun K hK' => ?_
  subst hL
  subst hC
  unfold Oper.wp
  simp [execOp, hop, hl, hc, hr, Result.andThen]
  exact hK' _ _ hK
theorem Arr.Ws {w : World} {g N : Nat} {F : Nat → Nat} (h : Arr .u32 w g N F) (hF : ∀ i, F i < 2 ^ 32) (hg : g < w.heap.size) : Ws w (.slice (some ⟨g, 0, none⟩) N N) N F :=
  ⟨hF, .inr ⟨g, 0, N, rfl, Nat.le_refl _, hg, fun i hi => by rw [Nat.zero_add]; exact h.cell i hi⟩⟩
theorem nval_upd_at (f : Nat → Nat) (v : Nat) {i : Nat} : ∀ {n : Nat}, i < n → nval (upd f i v) n + f i * 2 ^ (32 * i) = nval f n + v * 2 ^ (32 * i)
  | 0, h => by omega
  | n + 1, h => by
    simp only [nval]
    by_cases hi : i = n
    · subst hi
      have e := nval_congr (f := upd f i v) (g := f) i (fun j hj => upd_ne f (by omega))
      rw [e, upd_same]; omega
    · have := nval_upd_at f v (show i < n by omega)
      rw [upd_ne f (fun e => hi e.symm)]; omega

def TimOut (n m : Nat) (f g : Nat → Nat) (B : Nat) (w : World) (x : Value) (wr : World) : Prop :=
  ∃ (i : Nat) (F : Nat → Nat), i ≤ n ∧ x = .int .i64 (i : Nat) ∧ (∀ t, F t < 2 ^ 32) ∧ (∀ t, i + m ≤ t → F t = 0) ∧ nval F (n + m) = nval f i * nval g m ∧
    Arr .u32 wr B (n + m) F ∧ Below w.heap.size w wr ∧ w.heap.size ≤ B ∧ B < wr.heap.size
def TimIn (n m i V0 : Nat) (f g : Nat → Nat) (B : Nat) (w : World) (y z : Value) (wr : World) : Prop :=
  ∃ (j c : Nat) (F : Nat → Nat), j ≤ m + 1 ∧ z = .int .i64 (j : Nat) ∧ y = .int .u64 (c : Nat) ∧ c < 2 ^ 32 ∧ (j = m + 1 → c = 0) ∧ (∀ t, F t < 2 ^ 32) ∧ (∀ t, i + m + 1 ≤ t → F t = 0) ∧ (j ≤ m → F (i + m) = 0) ∧
    nval F (n + m) + c * 2 ^ (32 * (i + j)) = V0 + f i * nval (padw g m) j * 2 ^ (32 * i) ∧
    Arr .u32 wr B (n + m) F ∧ Below w.heap.size w wr ∧ w.heap.size ≤ B ∧ B < wr.heap.size
theorem tim_math {Fk x gj lo hi c v v' V0 vb P Q R M X : Nat} (hv : v' + Fk * P = v + lo * P) (h : v + c * P = V0 + x * vb * Q) (hs : lo + hi * M = X) (hX : X = Fk + c + x * gj) (hP : P = R * Q) :
    v' + hi * (M * P) = V0 + x * (vb + gj * R) * Q := by
  have h1 := congrArg (· * P) hs
  simp only [Nat.add_mul, Nat.mul_assoc, hX] at h1
  have e : x * (vb + gj * R) * Q = x * vb * Q + x * (gj * P) := by rw [hP, Nat.mul_add, Nat.add_mul, Nat.mul_assoc, Nat.mul_assoc, Nat.mul_assoc]
  rw [e]
  omega

end Go.Proofs.YtoaepgiajooecaaGreat
