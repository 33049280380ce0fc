/- The numbers behind the laws of layer 18. -/
import Derived.Test.YtomhbggfdjooaaaDoorVR
namespace Go.Proofs.YtomhbggfdjooaaaDoor
open Go.RowKit Go.Sort

theorem rgood_iff {s t : Nat} : rgood s t = true ↔ s ≤ MOST ∧ t ≤ MOST ∧ t ≤ s := by
  unfold rgood vgood
  simp only [Bool.and_eq_true, decide_eq_true_eq, and_assoc]
theorem rgood_zero {a : Nat} : rgood a 0 = true ↔ a ≤ MOST := by
  rw [rgood_iff]
  exact ⟨fun h => h.1, fun h => ⟨h, Nat.zero_le _, Nat.zero_le _⟩⟩
theorem MOST_val : MOST = 340282366920938463463374607431768211455 := by decide
theorem most_small {s : Nat} (h : s ≤ MOST) : s + 1000 < 2 ^ 256 := by
  rw [MOST_val] at h
  exact Nat.lt_of_le_of_lt (Nat.add_le_add_right h 1000) (by decide)
theorem addv_1000 {s : Nat} (h : s ≤ MOST) : addv s 1000 = s + 1000 := if_pos (most_small h)
theorem most_two {s a : Nat} (hs : s ≤ MOST) (ha : a ≤ MOST) : s + a < 2 ^ 256 := by
  rw [MOST_val] at hs ha
  exact Nat.lt_of_le_of_lt (Nat.add_le_add hs ha) (by decide)
theorem sh_good {s t a : Nat} (h : rgood s t = true) (ha : a ≤ MOST) : shk s t a = true ∧ shv s t a ≤ a ∧ shv s t a * (s + 1000) ≤ a * (t + 1000) := by
  obtain ⟨hs, ht, hts⟩ := rgood_iff.1 h
  have hg : vgood s t = true := by unfold vgood; rw [decide_eq_true hs, decide_eq_true ht]; rfl
  have h1 : a * (t + 1000) / (s + 1000) ≤ a := Nat.div_le_of_le_mul (by rw [Nat.mul_comm (s + 1000)]; exact Nat.mul_le_mul_left a (by omega))
  have hq : quoOk (a * (t + 1000)) (s + 1000) := ⟨by omega, Nat.lt_of_le_of_lt h1 (Nat.lt_of_le_of_lt ha MOST_lt)⟩
  have hv : shv s t a = a * (t + 1000) / (s + 1000) := by
    unfold shv qv
    rw [if_pos hg, addv_1000 hs, addv_1000 ht, if_pos hq]
  refine ⟨?_, by rw [hv]; exact h1, by rw [hv]; exact Nat.div_mul_le_self _ _⟩
  unfold shk qok
  rw [hg, addv_1000 hs, addv_1000 ht, decide_eq_true hq]; rfl
theorem tk_good {s t a q : Nat} (h : rgood s t = true) (hq : a * (s + 1000) / (t + 1000) ≤ q) (hq2 : q < 2 ^ 256) : tkk s t a = true ∧ tkv s t a = a * (s + 1000) / (t + 1000) := by
  obtain ⟨hs, ht, hts⟩ := rgood_iff.1 h
  have hg : vgood s t = true := by unfold vgood; rw [decide_eq_true hs, decide_eq_true ht]; rfl
  have hk : quoOk (a * (s + 1000)) (t + 1000) := ⟨by omega, Nat.lt_of_le_of_lt hq hq2⟩
  constructor
  · unfold tkk qok
    rw [hg, addv_1000 hs, addv_1000 ht, decide_eq_true hk]; rfl
  · unfold tkv qv
    rw [if_pos hg, addv_1000 hs, addv_1000 ht, if_pos hk]
set_option maxRecDepth 100000 in
/-- what is sold is worth at most the stock, and what is left stays good -/
theorem tk_sold {s t a : Nat} (h : rgood s t = true) (hat : a ≤ t) : tkk s t a = true ∧ tkv s t a ≤ s ∧ t - a ≤ s - tkv s t a := by
  obtain ⟨hs, ht, hts⟩ := rgood_iff.1 h
  obtain ⟨d, rfl⟩ : ∃ d, s = t + d := ⟨s - t, by omega⟩
  have e1 : a * (t + d + 1000) = a * (t + 1000) + a * d := by rw [show t + d + 1000 = (t + 1000) + d by omega, Nat.mul_add]
  have e2 : (t + 1000) * (a + d) = a * (t + 1000) + d * (t + 1000) := by rw [Nat.mul_add, Nat.mul_comm (t + 1000) a, Nat.mul_comm (t + 1000) d]
  have e3 : a * d ≤ d * (t + 1000) := by rw [Nat.mul_comm a d]; exact Nat.mul_le_mul_left d (by omega)
  have h1 : a * (t + d + 1000) / (t + 1000) ≤ a + d := Nat.div_le_of_le_mul (by rw [e1, e2]; omega)
  have hb := tk_good (a := a) h h1 (Nat.lt_of_le_of_lt (Nat.add_le_add_right hat d) (Nat.lt_of_le_of_lt hs MOST_lt))
  rw [← hb.2] at h1
  exact ⟨hb.1, by omega, by omega⟩
set_option maxRecDepth 100000 in
/-- who buys and sells at once has not more -/
theorem tk_back {s t a x : Nat} (hx : x * (s + 1000) ≤ a * (t + 1000)) (ha : a ≤ MOST) (h : rgood (s + a) (t + x) = true) : tkk (s + a) (t + x) x = true ∧ tkv (s + a) (t + x) x ≤ a := by
  have e1 : x * (s + a + 1000) = x * (s + 1000) + x * a := by rw [show s + a + 1000 = (s + 1000) + a by omega, Nat.mul_add]
  have e2 : (t + x + 1000) * a = a * (t + 1000) + x * a := by rw [show t + x + 1000 = (t + 1000) + x by omega, Nat.add_mul, Nat.mul_comm (t + 1000) a]
  have h1 : x * (s + a + 1000) / (t + x + 1000) ≤ a := Nat.div_le_of_le_mul (by rw [e1, e2]; omega)
  have hb := tk_good (a := x) h h1 (Nat.lt_of_le_of_lt ha MOST_lt)
  exact ⟨hb.1, by rw [hb.2]; exact h1⟩
end Go.Proofs.YtomhbggfdjooaaaDoor
