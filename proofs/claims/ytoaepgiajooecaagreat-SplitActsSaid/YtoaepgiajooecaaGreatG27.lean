/- tallageref01.Plus, walked. -/
import Derived.Test.YtoaepgiajooecaaGreatG26
namespace Go.Proofs.YtoaepgiajooecaaGreat
open Go.RowKit Go.Sort

theorem one32 (w : World) (x : Int) (t : TypeId) : ∀ j u, ([.int .u32 x] : List Value)[j]? = some u → (w.alloc (.cells #[.int .u32 x] t)).cell? ((⟨w.heap.size, 0, none⟩ : Addr).add j) = some u := by
  intro j u h
  match j, h with
  | 0, h => simp at h; subst h; simp [Addr.add]
theorem one32' (x : Int) : ∀ u ∈ ([.int .u32 x] : List Value), u.oneCell' = true := fun u hu => by simp at hu; subst hu; rfl
theorem Ws.open_ {w : World} {v : Value} {n : Nat} {f : Nat → Nat} (h : Ws w v n f) : ∃ A c, v = .slice A n c ∧ (0 < n → ∃ g o, A = some ⟨g, o, none⟩ ∧ g < w.heap.size ∧ ∀ i, i < n → w.cell? ⟨g, o + i, none⟩ = some (.int .u32 (f i : Nat))) := by
  rcases h.at_ with ⟨rfl, rfl⟩ | ⟨g, o, c, rfl, hc, hg, hx⟩
  · exact ⟨none, 0, rfl, fun h => absurd h (by omega)⟩
  · exact ⟨_, c, rfl, fun _ => ⟨g, o, rfl, hg, hx⟩⟩
/-- a word, or nought behind the end -/
def padw (f : Nat → Nat) (n : Nat) : Nat → Nat := fun i => if i < n then f i else 0
theorem padw_lt {f : Nat → Nat} (hf : ∀ i, f i < 2 ^ 32) (n : Nat) : ∀ i, padw f n i < 2 ^ 32 := fun i => by unfold padw; split; exact hf i; decide
theorem nval_pad (f : Nat → Nat) {n k : Nat} (h : n ≤ k) : nval (padw f n) k = nval f n := by
  rw [nval_top (f := padw f n) h (fun i h1 _ => by unfold padw; rw [if_neg (by omega)])]
  exact nval_congr n fun i hi => by unfold padw; rw [if_pos hi]
theorem nval_upd (h : Nat → Nat) (k v : Nat) : nval (upd h k v) (k + 1) = nval h k + v * 2 ^ (32 * k) := by
  simp only [nval]; rw [upd_same]; congr 1; exact nval_congr k fun i hi => upd_ne h (by omega)
theorem u32s_upd (h : Nat → Nat) (k v : Nat) : u32s (upd h k v) (k + 1) = u32s h k ++ [.int .u32 (v : Nat)] := by
  rw [u32s_succ, upd_same]; congr 1; exact u32s_congr fun i hi => upd_ne h (by omega)

def PlusRel (n m : Nat) (f g : Nat → Nat) (w : World) (x y z : Value) (wr : World) : Prop :=
  ∃ (k c : Nat) (h : Nat → Nat), z = .int .i64 (k : Nat) ∧ y = .int .u64 (c : Nat) ∧ c ≤ 1 ∧ k ≤ max n m + 1 ∧ (k = max n m + 1 → c = 0) ∧ (∀ i, h i < 2 ^ 32) ∧
    nval h k + c * 2 ^ (32 * k) = nval (padw f n) k + nval (padw g m) k ∧ wr.ownsRow w.heap.size 179 1 x k (u32s h k) ∧ Below w.heap.size w wr
theorem plus_next {n m k c lo hi X : Nat} {f g h : Nat → Nat} {w wr : World} {x : Value} (hf : ∀ i, f i < 2 ^ 32) (hg : ∀ i, g i < 2 ^ 32) (hc : c ≤ 1) (hk : k ≤ max n m) (hlast : k = max n m → padw f n k = 0 ∧ padw g m k = 0)
    (hh : ∀ i, h i < 2 ^ 32) (hv : nval h k + c * 2 ^ (32 * k) = nval (padw f n) k + nval (padw g m) k) (hX : X = c + padw f n k + padw g m k) (hlo : lo = X % 4294967296) (hhi : hi = X / 4294967296)
    (hown : wr.ownsRow w.heap.size 179 1 x (k + 1) (u32s h k ++ [.int .u32 (lo : Nat)])) (hbel : Below w.heap.size w wr) : PlusRel n m f g w x (.int .u64 (hi : Nat)) (.int .i64 ((k + 1 : Nat) : Int)) wr := by
  have h1 := padw_lt hf n k
  have h2 := padw_lt hg m k
  refine ⟨k + 1, hi, upd h k lo, rfl, rfl, by omega, by omega, fun e => ?_, upd_lt hh (by omega), ?_, ?_, hbel⟩
  · have := hlast (by omega)
    omega
  · rw [nval_upd, pow_succ32]
    simp only [nval]
    have e : lo + hi * 2 ^ 32 = c + padw f n k + padw g m k := by omega
    have e2 := congrArg (· * 2 ^ (32 * k)) e
    simp only [Nat.add_mul, Nat.mul_assoc] at e2
    omega
  · rw [u32s_upd]; exact hown

end Go.Proofs.YtoaepgiajooecaaGreat

namespace Go.Proofs.YtoaepgiajooecaaGreat
open Go.RowKit Go.Sort

theorem nval_cmp {f g : Nat → Nat} {j : Nat} (hf : ∀ i, f i < 2 ^ 32) : ∀ {n : Nat}, j < n → (∀ i, j < i → i < n → f i = g i) → f j < g j → nval f n < nval g n
  | 0, h, _, _ => absurd h (by omega)
  | n + 1, h, he, hlt => by
    simp only [nval]
    rcases Nat.eq_or_lt_of_le (Nat.le_of_lt_succ h) with e | e
    · subst e
      have h1 := nval_lt j (fun i _ => hf i)
      have h2 := Nat.mul_le_mul_right (2 ^ (32 * j)) (show f j + 1 ≤ g j from hlt)
      rw [Nat.add_mul] at h2; omega
    · have h1 := nval_cmp hf e (fun i h1 h2 => he i h1 (by omega)) hlt
      rw [he n e (by omega)]; omega
theorem trim_lt {f g : Nat → Nat} {n m : Nat} (hf : ∀ i, f i < 2 ^ 32) (h : n < m) (ht : Trimmed m g) : nval f n < nval g m := by
  have h1 := nval_lt n (fun i _ => hf i)
  obtain ⟨k, rfl⟩ : ∃ k, m = k + 1 := ⟨m - 1, by omega⟩
  rcases ht with h2 | h2
  · omega
  · rw [Nat.add_sub_cancel] at h2
    have h3 : 2 ^ (32 * n) ≤ 2 ^ (32 * k) := Nat.pow_le_pow_right (by decide) (by omega)
    have h4 := Nat.mul_le_mul_right (2 ^ (32 * k)) (show 1 ≤ g k by omega)
    simp only [nval]
    omega
theorem cmpU_lt {a b : Nat} (h : a < b) : cmpU a b = -1 := by unfold cmpU; rw [if_neg (by omega), if_neg (by omega)]
theorem cmpU_gt {a b : Nat} (h : b < a) : cmpU a b = 1 := by unfold cmpU; rw [if_neg (by omega), if_pos (by omega)]
theorem cmpU_ge' (a b : Nat) : (0 : Int) ≤ cmpU a b ↔ b ≤ a := by
  rcases Nat.lt_trichotomy a b with h | h | h
  · rw [cmpU_lt h]; omega
  · unfold cmpU; rw [if_pos h]; omega
  · rw [cmpU_gt h]; omega
theorem cmpU_eq {a b : Nat} (h : a = b) : cmpU a b = 0 := by unfold cmpU; rw [if_pos h]
def CmpRel (n : Nat) (f g : Nat → Nat) (w : World) (x : Value) (wr : World) : Prop :=
  ∃ k : Nat, k ≤ n ∧ x = .int .i64 ((k : Int) - 1) ∧ (∀ i, k ≤ i → i < n → f i = g i) ∧ Below w.heap.size w wr
def NCmpPost (N M : Nat) (w : World) (e : Ending) (w' : World) : Prop := e = .returned (.int .i64 (cmpU N M)) ∧ Below w.heap.size w w'

end Go.Proofs.YtoaepgiajooecaaGreat

namespace Go.Proofs.YtoaepgiajooecaaGreat
open Go.RowKit Go.Sort

theorem nval_split (g : Nat → Nat) (n : Nat) : ∀ d, ∃ q, nval g (n + d) = nval g n + q * 2 ^ (32 * n)
  | 0 => ⟨0, by simp⟩
  | d + 1 => by
    obtain ⟨q, hq⟩ := nval_split g n d
    refine ⟨q + g (n + d) * 2 ^ (32 * d), ?_⟩
    show nval g (n + d) + g (n + d) * 2 ^ (32 * (n + d)) = _
    rw [hq, Nat.add_mul, Nat.mul_assoc, ← Nat.pow_add, show 32 * d + 32 * n = 32 * (n + d) by omega]; omega
theorem nval_low {g : Nat → Nat} {n m : Nat} (h : nval g m < 2 ^ (32 * n)) : nval (padw g m) n = nval g m := by
  rcases Nat.lt_or_ge n m with h1 | h1
  · obtain ⟨q, hq⟩ := nval_split g n (m - n)
    rw [show n + (m - n) = m by omega] at hq
    have h2 : nval (padw g m) n = nval g n := nval_congr n fun i hi => by unfold padw; rw [if_pos (by omega)]
    rw [h2]
    rcases Nat.eq_zero_or_pos q with h3 | h3
    · rw [h3] at hq; omega
    · have := Nat.mul_le_mul_right (2 ^ (32 * n)) h3; omega
  · exact nval_pad g h1
def MinusRel (n m : Nat) (f g : Nat → Nat) (w : World) (x y z : Value) (wr : World) : Prop :=
  ∃ (k b : Nat) (h : Nat → Nat), z = .int .i64 (k : Nat) ∧ y = .int .u64 (b : Nat) ∧ b ≤ 1 ∧ k ≤ n ∧ (∀ i, h i < 2 ^ 32) ∧
    nval h k + nval (padw g m) k = nval f k + b * 2 ^ (32 * k) ∧ wr.ownsRow w.heap.size 179 1 x k (u32s h k) ∧ Below w.heap.size w wr
def MinusPost (N M n : Nat) (w : World) (e : Ending) (w' : World) : Prop :=
  ((N < M ∧ e = .returned (.tuple #[.slice none 0 0, .bool false])) ∨ (M ≤ N ∧ ∃ v, e = .returned (.tuple #[v, .bool true]) ∧ NatV w' v (N - M) n)) ∧ Below w.heap.size w w'
theorem minus_next {n m k b lo b' y : Nat} {f g h : Nat → Nat} {w wr : World} {x : Value} (hk : k < n) (hh : ∀ i, h i < 2 ^ 32)
    (hv : nval h k + nval (padw g m) k = nval f k + b * 2 ^ (32 * k)) (hy : y = b + padw g m k) (hb' : b' ≤ 1) (hlo : lo + y = f k + b' * 4294967296) (hlol : lo < 4294967296)
    (hown : wr.ownsRow w.heap.size 179 1 x (k + 1) (u32s h k ++ [.int .u32 (lo : Nat)])) (hbel : Below w.heap.size w wr) : MinusRel n m f g w x (.int .u64 (b' : Nat)) (.int .i64 ((k + 1 : Nat) : Int)) wr := by
  refine ⟨k + 1, b', upd h k lo, rfl, rfl, hb', by omega, upd_lt hh (by omega), ?_, ?_, hbel⟩
  · rw [nval_upd, pow_succ32]
    simp only [nval]
    have e2 := congrArg (· * 2 ^ (32 * k)) hlo
    rw [hy] at e2
    simp only [Nat.add_mul, Nat.mul_assoc] at e2
    have e3 : (4294967296 : Nat) = 2 ^ 32 := rfl
    rw [e3] at e2
    omega
  · rw [u32s_upd]; exact hown

end Go.Proofs.YtoaepgiajooecaaGreat
