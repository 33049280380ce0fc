/- Numbers in groups of seven bits, as they are read: where the groups stop, and what they tell. No program. -/
import Derived.Test.YtcodlbfomfjmfaaOb
namespace Go.Proofs.Ytcodlbfomfjmfaa
open Go.RowKit

/-- the number of the first j groups from k on -/
def gv (f : Nat → Nat) (k : Nat) : Nat → Nat
  | 0 => 0
  | j + 1 => gv f k j + f (k + j) % 128 * 128 ^ j
theorem gv_lt (f : Nat → Nat) (k : Nat) : ∀ j, gv f k j < 128 ^ j
  | 0 => by simp [gv]
  | j + 1 => by
    have h1 := gv_lt f k j
    have h2 : f (k + j) % 128 + 1 ≤ 128 := Nat.mod_lt _ (by decide)
    have h3 := Nat.mul_le_mul_right (128 ^ j) h2
    rw [Nat.add_mul] at h3
    simp only [gv, Nat.pow_succ]; omega
/-- the groups from k on stop at the i-th: the bytes end there, or it's one too many, or the last one -/
structure Stop (f : Nat → Nat) (n k i : Nat) : Prop where
  on : ∀ j, j < i → k + j < n ∧ 128 ≤ f (k + j)
  le : i ≤ 9
  stop : n ≤ k + i ∨ i = 9 ∨ f (k + i) < 128
theorem Stop.one {f : Nat → Nat} {n k i j : Nat} (h : Stop f n k i) (h' : Stop f n k j) : i = j := by
  rcases Nat.lt_trichotomy i j with h1 | h1 | h1
  · have := h'.on i h1; have := h.stop; have := h'.le; omega
  · exact h1
  · have := h.on j h1; have := h'.stop; have := h.le; omega
/-- what is wrong: 0: nothing -/
def gerr (f : Nat → Nat) (n k i : Nat) (most : Int) : Nat :=
  if n ≤ k + i then 3 else if i = 9 then 4 else if 0 < i ∧ f (k + i) = 0 then 4 else if most < (gv f k (i + 1) : Nat) then 5 else 0
/-- what is told -/
def gval (f : Nat → Nat) (n k i : Nat) (most : Int) : Nat := if gerr f n k i most = 0 then gv f k (i + 1) else 0
theorem nat_or_add {a d m : Nat} (h : a < 2 ^ m) : a ||| d * 2 ^ m = a + d * 2 ^ m := by
  rw [Nat.or_comm, ← Nat.shiftLeft_eq, ← Nat.shiftLeft_add_eq_or_of_lt h, Nat.add_comm]
theorem wrap_nat63 {n : Nat} (h : n < 2 ^ 63) : IntKind.i64.wrap (n : Int) = (n : Int) := by rw [IntKind.wrap_i64]; omega
theorem or_grp {a d i : Nat} (hi : i < 9) (ha : a < 128 ^ i) (hd : d < 128) : bits .or .i64 (a : Int) (IntKind.i64.wrap ((d : Int) * 2 ^ (7 * i))) = ((a + d * 128 ^ i : Nat) : Int) := by
  have e : 128 ^ i = 2 ^ (7 * i) := by rw [show (128 : Nat) = 2 ^ 7 from rfl, ← Nat.pow_mul]
  rw [e] at ha ⊢
  have h1 : d * 2 ^ (7 * i) + 2 ^ (7 * i) ≤ 128 * 2 ^ (7 * i) := by rw [← Nat.succ_mul]; exact Nat.mul_le_mul_right _ hd
  have h2 : 128 * 2 ^ (7 * i) ≤ 2 ^ 63 := by
    rw [show 128 * 2 ^ (7 * i) = 2 ^ (7 * i + 7) by rw [Nat.pow_add, Nat.mul_comm]]
    exact Nat.pow_le_pow_right (by decide) (by omega)
  have hp : 0 < 2 ^ (7 * i) := Nat.pow_pos (by decide)
  have ew : IntKind.i64.wrap ((d : Int) * 2 ^ (7 * i)) = ((d * 2 ^ (7 * i) : Nat) : Int) := by
    rw [show (d : Int) * 2 ^ (7 * i) = ((d * 2 ^ (7 * i) : Nat) : Int) by rw [Int.natCast_mul, Int.natCast_pow]; rfl]
    exact wrap_nat63 (by omega)
  rw [ew]
  show IntKind.i64.wrap ((BitVec.ofInt 64 (a : Int) ||| BitVec.ofInt 64 ((d * 2 ^ (7 * i) : Nat) : Int)).toNat : Int) = _
  rw [BitVec.toNat_or, ofInt_u64 a (by omega), ofInt_u64 _ (by omega), nat_or_add ha]
  exact wrap_nat63 (by omega)
theorem gv_mod (f : Nat → Nat) (N k : Nat) : ∀ i, (∀ j, j < i → f (k + j) % 128 = N / 128 ^ j % 128) → gv f k i = N % 128 ^ i
  | 0, _ => by simp [gv, Nat.mod_one]
  | i + 1, h => by
    simp only [gv]
    rw [gv_mod f N k i (fun j hj => h j (by omega)), h i (by omega), Nat.mod_pow_succ, Nat.mul_comm (128 ^ i)]
theorem gv_dig (f : Nat → Nat) (k : Nat) : ∀ m j, j < m → gv f k m / 128 ^ j % 128 = f (k + j) % 128
  | 0, _, h => absurd h (by omega)
  | m + 1, j, h => by
    have hp : 0 < 128 ^ j := Nat.pow_pos (by decide)
    simp only [gv]
    rcases Nat.lt_or_eq_of_le (Nat.le_of_lt_succ h) with h1 | rfl
    · have e : f (k + m) % 128 * 128 ^ m = f (k + m) % 128 * 128 ^ (m - j - 1) * 128 * 128 ^ j := by
        rw [Nat.mul_assoc, Nat.mul_assoc, ← Nat.pow_succ', ← Nat.pow_add]
        congr 2; omega
      rw [e, Nat.add_mul_div_right _ _ hp, Nat.add_mul_mod_self_right]
      exact gv_dig f k m j h1
    · rw [Nat.add_mul_div_right _ _ hp, Nat.div_eq_of_lt (gv_lt f k j), Nat.zero_add, Nat.mod_mod]
theorem gv_top (f : Nat → Nat) (k i : Nat) : gv f k (i + 1) / 128 ^ i = f (k + i) % 128 := by
  simp only [gv]
  rw [Nat.add_mul_div_right _ _ (Nat.pow_pos (by decide)), Nat.div_eq_of_lt (gv_lt f k i), Nat.zero_add]
/-- what is told, put again, is what was read -/
theorem Stop.back {f : Nat → Nat} {n k i : Nat} (h : Stop f n k i) (hs : ∀ j, f j < 256) (hl : f (k + i) < 128) (h0 : i = 0 ∨ f (k + i) ≠ 0) :
    Grp (gv f k (i + 1)) i ∧ ∀ j, j ≤ i → vb (gv f k (i + 1)) i j = f (k + j) := by
  have ht := gv_top f k i
  rw [Nat.mod_eq_of_lt hl] at ht
  refine ⟨⟨fun j hj => ?_, by omega⟩, fun j hj => ?_⟩
  · rw [Nat.le_div_iff_mul_le (Nat.pow_pos (by decide))]
    have h1 : 128 * 128 ^ j ≤ 128 ^ i := by rw [← Nat.pow_succ']; exact Nat.pow_le_pow_right (by decide) hj
    have h2 : 1 ≤ gv f k (i + 1) / 128 ^ i := by omega
    rw [Nat.le_div_iff_mul_le (Nat.pow_pos (by decide))] at h2
    omega
  · unfold vb
    split
    · rename_i hj2
      rw [gv_dig f k (i + 1) j (by omega)]
      have h1 := (h.on j hj2).2
      have h2 := hs (k + j)
      omega
    · have e : j = i := by omega
      rw [e, ht]
/-- what was put is read -/
theorem Grp.stop {f : Nat → Nat} {N n k i : Nat} (h : Grp N i) (hN : N < 2 ^ 63) (hn : k + i < n) (hf : ∀ j, j ≤ i → f (k + j) = vb N i j) :
    Stop f n k i ∧ gv f k (i + 1) = N ∧ f (k + i) < 128 ∧ (i = 0 ∨ f (k + i) ≠ 0) ∧ i < 9 := by
  have h9 := grp_most h hN
  have hi : f (k + i) = N / 128 ^ i := by rw [hf i (Nat.le_refl _)]; simp [vb]
  have hlo := h.low
  refine ⟨⟨fun j hj => ⟨by omega, ?_⟩, by omega, .inr (.inr (by omega))⟩, ?_, by omega, ?_, h9⟩
  · rw [hf j (by omega)]; simp [vb, hj]
  · rw [gv_mod f N k (i + 1) fun j hj => ?_]
    · refine Nat.mod_eq_of_lt ?_
      rw [Nat.pow_succ, Nat.mul_comm]
      exact (Nat.div_lt_iff_lt_mul (Nat.pow_pos (by decide))).1 hlo
    · rw [hf j (by omega)]
      unfold vb
      split
      · omega
      · have e : j = i := by omega
        rw [e]
  · rcases Nat.eq_zero_or_pos i with e | e
    · exact .inl e
    · refine .inr ?_
      have h1 := h.big (i - 1) (by omega)
      have h2 := grp_step N (i - 1)
      rw [show i - 1 + 1 = i by omega] at h2
      omega
end Go.Proofs.Ytcodlbfomfjmfaa
