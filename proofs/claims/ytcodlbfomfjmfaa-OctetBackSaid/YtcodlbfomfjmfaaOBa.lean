/- Values put one behind the other: where they lie, and that reading tells them. No program. -/
import Derived.Test.YtcodlbfomfjmfaaOctetOnce
namespace Go.Proofs.Ytcodlbfomfjmfaa
open Go.RowKit

/-- a value that is put -/
structure It where
  kd : Int
  N : Int
  a : Nat
  A : Option Addr
  m : Nat
  c : Nat
  g : Nat → Nat
def It.num (x : It) : Nat := (max x.N 0).toNat
/-- x's bytes stand in F from k to k' -/
def One (x : It) (F : Nat → Nat) (k k' : Nat) : Prop :=
  (x.kd = 0 ∧ ∃ c, Grp x.num c ∧ k' = k + (c + 1) ∧ ∀ j, j < c + 1 → F (k + j) = vb x.num c j) ∨
  (x.kd ≠ 0 ∧ x.kd = 1 ∧ k' = k + 1 + cnt x.a ∧ F k = cnt x.a ∧ ∀ j, j < cnt x.a → F (k + 1 + j) = ab x.a j) ∨
  (x.kd ≠ 0 ∧ x.kd ≠ 1 ∧ ∃ c, Grp x.m c ∧ k' = k + (c + 1) + x.m ∧ (∀ j, j < c + 1 → F (k + j) = vb x.m c j) ∧ ∀ j, j < x.m → F (k + (c + 1) + j) = x.g j)
theorem One.congr {x : It} {F G : Nat → Nat} {k k' : Nat} (h : One x F k k') (e : ∀ j, j < k' → F j = G j) : One x G k k' := by
  rcases h with ⟨h0, c, h1, h2, h3⟩ | ⟨h0, h1, h2, h3, h4⟩ | ⟨h0, h1, c, h2, h3, h4, h5⟩
  · exact .inl ⟨h0, c, h1, h2, fun j hj => by rw [← e _ (by omega)]; exact h3 j hj⟩
  · exact .inr (.inl ⟨h0, h1, h2, by rw [← e _ (by omega)]; exact h3, fun j hj => by rw [← e _ (by omega)]; exact h4 j hj⟩)
  · exact .inr (.inr ⟨h0, h1, c, h2, h3, fun j hj => by rw [← e _ (by omega)]; exact h4 j hj, fun j hj => by rw [← e _ (by omega)]; exact h5 j hj⟩)
/-- the first i stand in F, up to T -/
def Laid (it : Nat → It) (F : Nat → Nat) (i T : Nat) : Prop := ∃ pos : Nat → Nat, pos 0 = 0 ∧ pos i = T ∧ ∀ j, j < i → pos j ≤ pos (j + 1) ∧ One (it j) F (pos j) (pos (j + 1))
theorem pos_le {pos : Nat → Nat} {i : Nat} (h : ∀ j, j < i → pos j ≤ pos (j + 1)) : ∀ d j, j + d ≤ i → pos j ≤ pos (j + d)
  | 0, _, _ => Nat.le_refl _
  | d + 1, j, hj => Nat.le_trans (pos_le h d j (by omega)) (h (j + d) (by omega))
theorem Laid.zero (it : Nat → It) (F : Nat → Nat) : Laid it F 0 0 := ⟨fun _ => 0, rfl, rfl, fun j hj => absurd hj (by omega)⟩
theorem Laid.more {it : Nat → It} {F G : Nat → Nat} {i T T' : Nat} (h : Laid it F i T) (e : ∀ j, j < T → F j = G j) (hT : T ≤ T') (ho : One (it i) G T T') : Laid it G (i + 1) T' := by
  obtain ⟨pos, h0, h1, h2⟩ := h
  have hle := fun j (hj : j < i) => (h2 j hj).1
  refine ⟨fun j => if j ≤ i then pos j else T', by simp [h0], if_neg (by omega), fun j hj => ?_⟩
  by_cases hji : j < i
  · simp only [if_pos (Nat.le_of_lt hji), if_pos (Nat.succ_le_of_lt hji)]
    refine ⟨hle j hji, (h2 j hji).2.congr fun q hq => e q ?_⟩
    have := pos_le hle (i - (j + 1)) (j + 1) (by omega)
    rw [show j + 1 + (i - (j + 1)) = i by omega, h1] at this
    omega
  · obtain rfl : j = i := by omega
    simp only [Nat.le_refl, if_true, if_neg (Nat.not_succ_le_self j), h1]
    exact ⟨hT, ho⟩
theorem num_lt {x : It} (h : x.N < 2 ^ 63) : x.num < 2 ^ 63 := by unfold It.num; omega
/-- a number is told again -/
theorem One.var {x : It} {F : Nat → Nat} {n k k' : Nat} (h : One x F k k') (hx : x.kd = 0) (hN : x.num < 2 ^ 63) (hn : k' ≤ n) {v e k2 : Nat} (hg : VarGot F n k 9223372036854775807 v e k2) : v = x.num ∧ e = 0 ∧ k2 = k' := by
  rcases h with ⟨h0, c, h1, h2, h3⟩ | ⟨h0, _⟩ | ⟨h0, _⟩
  · obtain ⟨hst, hgv, hl, hz, h9⟩ := h1.stop (f := F) (n := n) (k := k) hN (by omega) (fun j hj => h3 j (by omega))
    obtain ⟨i, hi, he, hv, hk⟩ := hg
    obtain rfl := hi.one hst
    have e0 : gerr F n k i 9223372036854775807 = 0 := by
      unfold gerr
      rw [if_neg (by omega), if_neg (by omega), if_neg (by omega), if_neg (by rw [hgv]; omega)]
    have he0 : e = 0 := he.trans e0
    refine ⟨?_, he0, ?_⟩
    · rw [hv]; unfold gval; rw [if_pos e0, hgv]
    · rw [hk he0, h2]; omega
  · exact absurd hx h0
  · exact absurd hx h0
theorem bnum_congr9 {f g : Nat → Nat} (h : ∀ j, j ≤ 31 → f j = g j) : ∀ k, bnum f k = bnum g k
  | 0 => rfl
  | k + 1 => by simp only [bnum]; rw [bnum_congr9 h k, h (31 - k) (by omega)]
theorem bnum_bytes0 (a : Nat) : ∀ k, k ≤ 32 → bnum (fun i => byteAt a (31 - i)) k = a % 2 ^ (8 * k)
  | 0, _ => by simp [bnum, Nat.mod_one]
  | k + 1, hk => by
    have e : 2 ^ (8 * (k + 1)) = 2 ^ (8 * k) * 256 := by rw [show (256 : Nat) = 2 ^ 8 from rfl, ← Nat.pow_add]; congr 1
    simp only [bnum]
    rw [bnum_bytes0 a k (by omega), show 31 - (31 - k) = k by omega, e, Nat.mod_mul, byteAt, Nat.mul_comm (a / 2 ^ (8 * k) % 256)]
theorem cnt_top {a : Nat} (h : 0 < cnt a) : byteAt a (cnt a - 1) ≠ 0 := by
  intro h0
  have h1 : a < 2 ^ (8 * cnt a) := Nat.lt_of_lt_of_le (lt_blen a) (Nat.pow_le_pow_right (by decide) (by unfold cnt; omega))
  unfold byteAt at h0
  have hp : 0 < 2 ^ (8 * (cnt a - 1)) := Nat.pow_pos (by decide)
  have e : 2 ^ (8 * cnt a) = 256 * 2 ^ (8 * (cnt a - 1)) := by rw [show (256 : Nat) = 2 ^ 8 from rfl, ← Nat.pow_add]; congr 1; omega
  have h2 : a / 2 ^ (8 * (cnt a - 1)) < 256 := (Nat.div_lt_iff_lt_mul hp).2 (by rw [← e]; exact h1)
  rw [Nat.mod_eq_of_lt h2] at h0
  have h3 := (Nat.div_eq_zero_iff_lt hp).1 h0
  have := cnt_le h3
  omega
theorem ab_bnum {a : Nat} (ha : a < 2 ^ 256) {f : Nat → Nat} {q : Nat} (h : ∀ j, j < cnt a → f (q + j) = ab a j) : bnum (word f q (cnt a)) 32 = a := by
  have hc := cnt_le (m := 32) ha
  have e : ∀ j, j ≤ 31 → word f q (cnt a) j = byteAt a (31 - j) := fun j hj => by
    unfold word cat
    split
    · rename_i hlt
      have h1 : a < 2 ^ (8 * cnt a) := Nat.lt_of_lt_of_le (lt_blen a) (Nat.pow_le_pow_right (by decide) (by unfold cnt; omega))
      unfold byteAt
      rw [Nat.div_eq_of_lt (Nat.lt_of_lt_of_le h1 (Nat.pow_le_pow_right (by decide) (by omega))), Nat.zero_mod]
    · rename_i hge
      show f (q + (j - (32 - cnt a))) = _
      rw [h _ (by omega)]
      unfold ab
      congr 1; omega
  rw [bnum_congr9 e 32, bnum_bytes0 a 32 (by omega), Nat.mod_eq_of_lt ha]
/-- an amount is told again -/
theorem One.amt {x : It} {F : Nat → Nat} {n k k' : Nat} (h : One x F k k') (hx : x.kd = 1) (ha : x.a < 2 ^ 256) (hn : k' ≤ n) {a e k2 : Nat} (hg : AmtGot F n k a e k2) : a = x.a ∧ e = 0 ∧ k2 = k' := by
  rcases h with ⟨h0, _⟩ | ⟨h0, h1, h2, h3, h4⟩ | ⟨_, h0, _⟩
  · rw [h0] at hx; cases hx
  · have hc := cnt_le (m := 32) ha
    have hnb : ¬ AmtBad F n k := by
      rintro (h | ⟨hp, _, h⟩)
      · omega
      · rw [h3] at hp
        have h5 := h4 0 hp
        rw [Nat.add_zero, h] at h5
        have h6 := cnt_top hp
        unfold ab at h5
        rw [Nat.sub_zero] at h5
        exact h6 h5.symm
    rcases hg with ⟨h, _⟩ | ⟨_, h, _⟩ | ⟨_, _, h, _⟩ | ⟨_, _, _, he, hav, hk⟩
    · omega
    · exact absurd h hnb
    · omega
    · refine ⟨?_, he, by omega⟩
      rw [hav, h3]
      exact ab_bnum ha h4
  · exact absurd hx h0
/-- a text is told again -/
theorem One.txt {x : It} {F : Nat → Nat} {n k k' : Nat} (h : One x F k k') (hx : x.kd ≠ 0) (hx' : x.kd ≠ 1) (hm : x.m ≤ 100) (hn : k' ≤ n) {q m e k2 : Nat} (hg : TextGot F n k 100 q m e k2) : m = x.m ∧ e = 0 ∧ k2 = k' ∧ ∀ i, i < m → F (q + i) = x.g i := by
  rcases h with ⟨h0, _⟩ | ⟨_, h0, _⟩ | ⟨_, _, c, h1, h2, h3, h4⟩
  · exact absurd h0 hx
  · exact absurd h0 hx'
  · obtain ⟨hst, hgv, hl, hz, h9⟩ := h1.stop (f := F) (n := n) (k := k) (by omega) (by omega) (fun j hj => h3 j (by omega))
    obtain ⟨v, e1, k1, ⟨i, hi, he, hv, hk⟩, hr⟩ := hg
    obtain rfl := hi.one hst
    have e0 : gerr F n k i 100 = 0 := by
      unfold gerr
      rw [if_neg (by omega), if_neg (by omega), if_neg (by omega), if_neg (by rw [hgv]; omega)]
    have he0 : e1 = 0 := he.trans e0
    have hv0 : v = x.m := by rw [hv]; unfold gval; rw [if_pos e0, hgv]
    have hk1 := hk he0
    rcases hr with ⟨h, _⟩ | ⟨_, h, _⟩ | ⟨_, _, hm2, he2, hk2, hq⟩
    · exact absurd he0 h
    · omega
    · refine ⟨by omega, he2, by omega, fun j hj => ?_⟩
      rw [hq, hk1, show k + i + 1 + j = k + (i + 1) + j by omega]
      exact h4 j (by omega)
end Go.Proofs.Ytcodlbfomfjmfaa
