/- tallageref01.NatCmp, walked. -/
import Derived.Test.YtomhbggfdjooaaaDoorR3
namespace Go.Proofs.YtomhbggfdjooaaaDoor
open Go.RowKit Go.Sort

theorem nval_cmp {f g : Nat → Nat} {j : Nat} (hf : ∀ i, f i < 2 ^ 32) : ∀ {n : Nat}, j < n → (∀ i, j < i → i < n → f i = g i) → f j < g j → nval f n < nval g n
  | 0, h, _, _ => absurd h (by omega)
  | n + 1, h, he, hlt => by
    simp only [nval]
    rcases Nat.eq_or_lt_of_le (Nat.le_of_lt_succ h) with e | e
    · subst e
      have h1 := nval_lt j (fun i _ => hf i)
      have h2 := Nat.mul_le_mul_right (2 ^ (32 * j)) (show f j + 1 ≤ g j from hlt)
      rw [Nat.add_mul] at h2; omega
    · have h1 := nval_cmp hf e (fun i h1 h2 => he i h1 (by omega)) hlt
      rw [he n e (by omega)]; omega
theorem trim_lt {f g : Nat → Nat} {n m : Nat} (hf : ∀ i, f i < 2 ^ 32) (h : n < m) (ht : Trimmed m g) : nval f n < nval g m := by
  have h1 := nval_lt n (fun i _ => hf i)
  obtain ⟨k, rfl⟩ : ∃ k, m = k + 1 := ⟨m - 1, by omega⟩
  rcases ht with h2 | h2
  · omega
  · rw [Nat.add_sub_cancel] at h2
    have h3 : 2 ^ (32 * n) ≤ 2 ^ (32 * k) := Nat.pow_le_pow_right (by decide) (by omega)
    have h4 := Nat.mul_le_mul_right (2 ^ (32 * k)) (show 1 ≤ g k by omega)
    simp only [nval]
    omega
theorem cmpU_lt {a b : Nat} (h : a < b) : cmpU a b = -1 := by unfold cmpU; rw [if_neg (by omega), if_neg (by omega)]
theorem cmpU_gt {a b : Nat} (h : b < a) : cmpU a b = 1 := by unfold cmpU; rw [if_neg (by omega), if_pos (by omega)]
theorem cmpU_ge' (a b : Nat) : (0 : Int) ≤ cmpU a b ↔ b ≤ a := by
  rcases Nat.lt_trichotomy a b with h | h | h
  · rw [cmpU_lt h]; omega
  · unfold cmpU; rw [if_pos h]; omega
  · rw [cmpU_gt h]; omega
theorem cmpU_eq {a b : Nat} (h : a = b) : cmpU a b = 0 := by unfold cmpU; rw [if_pos h]
def CmpRel (n : Nat) (f g : Nat → Nat) (w : World) (x : Value) (wr : World) : Prop :=
  ∃ k : Nat, k ≤ n ∧ x = .int .i64 ((k : Int) - 1) ∧ (∀ i, k ≤ i → i < n → f i = g i) ∧ Below w.heap.size w wr
def NCmpPost (N M : Nat) (w : World) (e : Ending) (w' : World) : Prop := e = .returned (.int .i64 (cmpU N M)) ∧ Below w.heap.size w w'

set_option maxRecDepth 100000 in
set_option maxHeartbeats 4000000 in
theorem ncmp_walk (va vb : Value) (n m : Nat) (f g : Nat → Nat) (w : World) (ha : Ws w va n f) (hb : Ws w vb m g) (hn : n ≤ 100) (hm : m ≤ 100) :
    Calls Tryd.prog 25 #[va, vb] w (NCmpPost (nval f n) (nval g m) w) := by
  have Ha := Lib.hid ha
  have Hb := Lib.hid hb
  clear ha hb
  go_enter Tryd.func25, Tryd.ntmps25
  go_wp2_with fail
  refine (trim_walk _ _ _ _ Ha.out (by omega)).mono ?_
  rintro e w1 ⟨v1, n1, rfl, hn1, hw1, hv1, ht1, rfl⟩
  go_wp2_with fail
  refine (trim_walk _ _ _ _ Hb.out (by omega)).mono ?_
  rintro e w2 ⟨v2, m1, rfl, hm1, hw2, hv2, ht2, rfl⟩
  obtain ⟨A, ca, rfl, oa⟩ := hw1.open_
  obtain ⟨B, cb, rfl, ob⟩ := hw2.open_
  have Hf := Lib.hid hw1.small
  have Hg := Lib.hid hw2.small
  have Oa := Lib.hid oa
  have Ob := Lib.hid ob
  have Hv1 := Lib.hid hv1
  have Hv2 := Lib.hid hv2
  have Ht1 := Lib.hid ht1
  have Ht2 := Lib.hid ht2
  clear hw1 hw2 oa ob hv1 hv2 ht1 ht2
  by_cases hlen : n1 = m1
  · have q1 : ((n1 : Int) == (m1 : Int)) = true := by rw [beq_iff_eq]; omega
    have q2 : ((n1 : Int) != (m1 : Int)) = false := by rw [bne_eq_false_iff_eq]; omega
    have q3 : IntKind.i64.wrap ((n1 : Int) - 1) = (n1 : Int) - 1 := IntWalk.i64_in _ (by omega)
    have Hlen := Lib.hid hlen
    clear hlen
    go_wp2
    go_loopw [5] (CmpRel n1 f g w2) (fun x _ => (intOf x + 1).toNat)
    case atStart => exact ⟨n1, Nat.le_refl _, rfl, fun i h1 h2 => absurd h2 (by omega), Below.refl _ _⟩
    case round =>
      obtain ⟨k, hk, rfl, heq, hbel⟩ := hrel
      have Heq := Lib.hid heq
      clear heq
      by_cases hk0 : k = 0
      · have q4 : ¬ (0 : Int) ≤ (k : Int) - 1 := by omega
        have Hk0 := Lib.hid hk0
        clear hk0
        go_wp2
        go_ret
        have hr : nval f n = nval g m := by rw [← Hv1.out, ← Hv2.out, ← Hlen.out]; exact nval_congr n1 fun i hi => Heq.out i (by have := Hk0.out; omega) hi
        exact ⟨by rw [cmpU_eq hr]; rfl, hbel⟩
      · obtain ⟨j, hj⟩ : ∃ j, k = j + 1 := ⟨k - 1, by omega⟩
        have q4 : (0 : Int) ≤ (k : Int) - 1 := by omega
        have q5 : ((k : Int) - 1).toNat = j := by omega
        have q6 : (k : Int) - 1 < (n1 : Int) := by omega
        have q7 : (k : Int) - 1 < (m1 : Int) := by have := Hlen.out; omega
        obtain ⟨ga, ofa, rfl, hga, hxa⟩ := Oa.out (by omega)
        obtain ⟨gb, ofb, rfl, hgb, hxb⟩ := Ob.out (by have := Hlen.out; omega)
        have c1 : wr.cell? ⟨ga, ofa + j, none⟩ = some (.int .u32 (f j : Nat)) := by rw [hbel.cell (p := ⟨ga, ofa + j, none⟩) hga]; exact hxa j (by omega)
        have c2 : wr.cell? ⟨gb, ofb + j, none⟩ = some (.int .u32 (g j : Nat)) := by rw [hbel.cell (p := ⟨gb, ofb + j, none⟩) hgb]; exact hxb j (by have := Hlen.out; omega)
        have Hj := Lib.hid hj
        clear hj hxa hxb hk0
        by_cases hfg : f j = g j
        · have q8 : ((f j : Int) == (g j : Int)) = true := by rw [beq_iff_eq]; omega
          have q9 : ((f j : Int) != (g j : Int)) = false := by rw [bne_eq_false_iff_eq]; omega
          have q10 : IntKind.i64.wrap ((k : Int) - 1 - 1) = (k : Int) - 1 - 1 := IntWalk.i64_in _ (by omega)
          have Hfg := Lib.hid hfg
          clear hfg
          go_wp2
          go_region
          all_goals
            go_wp2
            go_roundw
            case rel =>
              refine ⟨j, by have := Hj.out; omega, by congr 1; have := Hj.out; omega, fun i h1 h2 => ?_, below_drewN hbel 1⟩
              rcases Nat.eq_or_lt_of_le h1 with e | e
              · rw [← e]; exact Hfg.out
              · exact Heq.out i (by have := Hj.out; omega) h2
            case measure => simp [intOf]; omega
        · have q8 : ((f j : Int) == (g j : Int)) = false := by rw [beq_eq_false_iff_ne]; omega
          have q9 : ((f j : Int) != (g j : Int)) = true := by rw [bne_iff_ne]; omega
          have Hfg := Lib.hid hfg
          clear hfg
          by_cases hl : f j < g j
          · have q10 : (f j : Int) < (g j : Int) := by omega
            have Hl := Lib.hid hl
            clear hl
            go_wp2
            go_region
            all_goals
              go_wp2
              go_region
              all_goals
                go_wp2
                go_ret
                have hr : nval f n < nval g m := by
                  rw [← Hv1.out, ← Hv2.out, ← Hlen.out]
                  exact nval_cmp (j := j) Hf.out (by have := Hj.out; omega) (fun i h1 h2 => Heq.out i (by have := Hj.out; omega) h2) Hl.out
                exact ⟨by rw [cmpU_lt hr]; rfl, below_drewN hbel 2⟩
          · have q10 : ¬ (f j : Int) < (g j : Int) := by omega
            have Hl := Lib.hid hl
            clear hl
            go_wp2
            go_region
            all_goals
              go_wp2
              go_region
              all_goals
                go_wp2
                go_ret
                have hr : nval g m < nval f n := by
                  rw [← Hv1.out, ← Hv2.out, ← Hlen.out]
                  exact nval_cmp (j := j) Hg.out (by have := Hj.out; omega) (fun i h1 h2 => (Heq.out i (by have := Hj.out; omega) h2).symm) (by have := Hl.out; have := Hfg.out; omega)
                exact ⟨by rw [cmpU_gt hr]; rfl, below_drewN hbel 2⟩
  · have q1 : ((n1 : Int) == (m1 : Int)) = false := by rw [beq_eq_false_iff_ne]; omega
    have q2 : ((n1 : Int) != (m1 : Int)) = true := by rw [bne_iff_ne]; omega
    by_cases hl : n1 < m1
    · have q3 : (n1 : Int) < (m1 : Int) := by omega
      go_wp2
      go_ret
      have hr : nval f n < nval g m := by rw [← Hv1.out, ← Hv2.out]; exact trim_lt Hf.out hl Ht2.out
      exact ⟨by rw [cmpU_lt hr]; rfl, Below.refl _ _⟩
    · have q3 : ¬ (n1 : Int) < (m1 : Int) := by omega
      go_wp2
      go_ret
      have hr : nval g m < nval f n := by rw [← Hv1.out, ← Hv2.out]; exact trim_lt Hg.out (by omega) Ht1.out
      exact ⟨by rw [cmpU_gt hr]; rfl, Below.refl _ _⟩
end Go.Proofs.YtomhbggfdjooaaaDoor
