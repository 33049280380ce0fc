/- tallageref01.NatCmp, walked. -/
import Derived.Test.YtnjcnlbphaodcaaGreatG30
import Derived.Test.YtnjcnlbphaodcaaGreatG13
namespace Go.Proofs.YtnjcnlbphaodcaaGreat
open Go.RowKit Go.Sort

theorem nval_cmp {f g : Nat → Nat} {j : Nat} (hf : ∀ i, f i < 2 ^ 32) : ∀ {n : Nat}, j < n → (∀ i, j < i → i < n → f i = g i) → f j < g j → nval f n < nval g n
  | 0, h, _, _ => absurd h (by omega)
  | n + 1, h, he, hlt => by
    simp only [nval]
    rcases Nat.eq_or_lt_of_le (Nat.le_of_lt_succ h) with e | e
    · subst e
      have h1 := nval_lt j (fun i _ => hf i)
      have h2 := Nat.mul_le_mul_right (2 ^ (32 * j)) (show f j + 1 ≤ g j from hlt)
      rw [Nat.add_mul] at h2; omega
    · have h1 := nval_cmp hf e (fun i h1 h2 => he i h1 (by omega)) hlt
      rw [he n e (by omega)]; omega
theorem trim_lt {f g : Nat → Nat} {n m : Nat} (hf : ∀ i, f i < 2 ^ 32) (h : n < m) (ht : Trimmed m g) : nval f n < nval g m := by
  have h1 := nval_lt n (fun i _ => hf i)
  obtain ⟨k, rfl⟩ : ∃ k, m = k + 1 := ⟨m - 1, by omega⟩
  rcases ht with h2 | h2
  · omega
  · rw [Nat.add_sub_cancel] at h2
    have h3 : 2 ^ (32 * n) ≤ 2 ^ (32 * k) := Nat.pow_le_pow_right (by decide) (by omega)
    have h4 := Nat.mul_le_mul_right (2 ^ (32 * k)) (show 1 ≤ g k by omega)
    simp only [nval]
    omega
theorem cmpU_lt {a b : Nat} (h : a < b) : cmpU a b = -1 := by unfold cmpU; rw [if_neg (by omega), if_neg (by omega)]
theorem cmpU_gt {a b : Nat} (h : b < a) : cmpU a b = 1 := by unfold cmpU; rw [if_neg (by omega), if_pos (by omega)]
theorem cmpU_ge' (a b : Nat) : (0 : Int) ≤ cmpU a b ↔ b ≤ a := by
  rcases Nat.lt_trichotomy a b with h | h | h
  · rw [cmpU_lt h]; omega
  · unfold cmpU; rw [if_pos h]; omega
  · rw [cmpU_gt h]; omega
theorem cmpU_eq {a b : Nat} (h : a = b) : cmpU a b = 0 := by unfold cmpU; rw [if_pos h]
def CmpRel (n : Nat) (f g : Nat → Nat) (w : World) (x : Value) (wr : World) : Prop :=
  ∃ k : Nat, k ≤ n ∧ x = .int .i64 ((k : Int) - 1) ∧ (∀ i, k ≤ i → i < n → f i = g i) ∧ Below w.heap.size w wr
def NCmpPost (N M : Nat) (w : World) (e : Ending) (w' : World) : Prop := e = .returned (.int .i64 (cmpU N M)) ∧ Below w.heap.size w w'

set_option maxRecDepth 100000 in
set_option maxHeartbeats 4000000 in
theorem ncmp_walk (va vb : Value) (n m : Nat) (f g : Nat → Nat) (w : World) (ha : Ws w va n f) (hb : Ws w vb m g) (hn : n ≤ 100) (hm : m ≤ 100) :
    Calls Tryz.prog 85 #[va, vb] w (NCmpPost (nval f n) (nval g m) w) := by
  have Ha := Lib.hid ha
  have Hb := Lib.hid hb
  clear ha hb
  go_enter Tryz.func85, Tryz.ntmps85
  go_wp2_with fail
  refine (trim_walk _ _ _ _ Ha.out (by omega)).mono ?_
  rintro e w1 ⟨v1, n1, rfl, hn1, hw1, hv1, ht1, rfl⟩
  go_wp2_with fail
  refine (trim_walk _ _ _ _ Hb.out (by omega)).mono ?_
  rintro e w2 ⟨v2, m1, rfl, hm1, hw2, hv2, ht2, rfl⟩
  obtain ⟨A, ca, rfl, oa⟩ := hw1.open_
  obtain ⟨B, cb, rfl, ob⟩ := hw2.open_
  have Hf := Lib.hid hw1.small
  have Hg := Lib.hid hw2.small
  have Oa := Lib.hid oa
  have Ob := Lib.hid ob
  have Hv1 := Lib.hid hv1
  have Hv2 := Lib.hid hv2
  have Ht1 := Lib.hid ht1
  have Ht2 := Lib.hid ht2
  clear hw1 hw2 oa ob hv1 hv2 ht1 ht2
  by_cases hlen : n1 = m1
  · have q1 : ((n1 : Int) == (m1 : Int)) = true := by rw [beq_iff_eq]; omega
    have q2 : ((n1 : Int) != (m1 : Int)) = false := by rw [bne_eq_false_iff_eq]; omega
    have q3 : IntKind.i64.wrap ((n1 : Int) - 1) = (n1 : Int) - 1 := IntWalk.i64_in _ (by omega)
    have Hlen := Lib.hid hlen
    clear hlen
    go_wp2
    go_loopw [5] (CmpRel n1 f g w2) (fun x _ => (intOf x + 1).toNat)
    case atStart => exact ⟨n1, Nat.le_refl _, rfl, fun i h1 h2 => absurd h2 (by omega), Below.refl _ _⟩
    case round =>
      obtain ⟨k, hk, rfl, heq, hbel⟩ := hrel
      have Heq := Lib.hid heq
      clear heq
      by_cases hk0 : k = 0
      · have q4 : ¬ (0 : Int) ≤ (k : Int) - 1 := by omega
        have Hk0 := Lib.hid hk0
        clear hk0
        go_wp2
        go_ret
        have hr : nval f n = nval g m := by rw [← Hv1.out, ← Hv2.out, ← Hlen.out]; exact nval_congr n1 fun i hi => Heq.out i (by have := Hk0.out; omega) hi
        exact ⟨by rw [cmpU_eq hr]; rfl, hbel⟩
      · obtain ⟨j, hj⟩ : ∃ j, k = j + 1 := ⟨k - 1, by omega⟩
        have q4 : (0 : Int) ≤ (k : Int) - 1 := by omega
        have q5 : ((k : Int) - 1).toNat = j := by omega
        have q6 : (k : Int) - 1 < (n1 : Int) := by omega
        have q7 : (k : Int) - 1 < (m1 : Int) := by have := Hlen.out; omega
        obtain ⟨ga, ofa, rfl, hga, hxa⟩ := Oa.out (by omega)
        obtain ⟨gb, ofb, rfl, hgb, hxb⟩ := Ob.out (by have := Hlen.out; omega)
        have c1 : wr.cell? ⟨ga, ofa + j, none⟩ = some (.int .u32 (f j : Nat)) := by rw [hbel.cell (p := ⟨ga, ofa + j, none⟩) hga]; exact hxa j (by omega)
        have c2 : wr.cell? ⟨gb, ofb + j, none⟩ = some (.int .u32 (g j : Nat)) := by rw [hbel.cell (p := ⟨gb, ofb + j, none⟩) hgb]; exact hxb j (by have := Hlen.out; omega)
        have Hj := Lib.hid hj
        clear hj hxa hxb hk0
        by_cases hfg : f j = g j
        · have q8 : ((f j : Int) == (g j : Int)) = true := by rw [beq_iff_eq]; omega
          have q9 : ((f j : Int) != (g j : Int)) = false := by rw [bne_eq_false_iff_eq]; omega
          have q10 : IntKind.i64.wrap ((k : Int) - 1 - 1) = (k : Int) - 1 - 1 := IntWalk.i64_in _ (by omega)
          have Hfg := Lib.hid hfg
          clear hfg
          go_wp2
          go_region
          all_goals
            go_wp2
            go_roundw
            case rel =>
              refine ⟨j, by have := Hj.out; omega, by congr 1; have := Hj.out; omega, fun i h1 h2 => ?_, below_drewN hbel 1⟩
              rcases Nat.eq_or_lt_of_le h1 with e | e
              · rw [← e]; exact Hfg.out
              · exact Heq.out i (by have := Hj.out; omega) h2
            case measure => simp [intOf]; omega
        · have q8 : ((f j : Int) == (g j : Int)) = false := by rw [beq_eq_false_iff_ne]; omega
          have q9 : ((f j : Int) != (g j : Int)) = true := by rw [bne_iff_ne]; omega
          have Hfg := Lib.hid hfg
          clear hfg
          by_cases hl : f j < g j
          · have q10 : (f j : Int) < (g j : Int) := by omega
            have Hl := Lib.hid hl
            clear hl
            go_wp2
            go_region
            all_goals
              go_wp2
              go_region
              all_goals
                go_wp2
                go_ret
                have hr : nval f n < nval g m := by
                  rw [← Hv1.out, ← Hv2.out, ← Hlen.out]
                  exact nval_cmp (j := j) Hf.out (by have := Hj.out; omega) (fun i h1 h2 => Heq.out i (by have := Hj.out; omega) h2) Hl.out
                exact ⟨by rw [cmpU_lt hr]; rfl, below_drewN hbel 2⟩
          · have q10 : ¬ (f j : Int) < (g j : Int) := by omega
            have Hl := Lib.hid hl
            clear hl
            go_wp2
            go_region
            all_goals
              go_wp2
              go_region
              all_goals
                go_wp2
                go_ret
                have hr : nval g m < nval f n := by
                  rw [← Hv1.out, ← Hv2.out, ← Hlen.out]
                  exact nval_cmp (j := j) Hg.out (by have := Hj.out; omega) (fun i h1 h2 => (Heq.out i (by have := Hj.out; omega) h2).symm) (by have := Hl.out; have := Hfg.out; omega)
                exact ⟨by rw [cmpU_gt hr]; rfl, below_drewN hbel 2⟩
  · have q1 : ((n1 : Int) == (m1 : Int)) = false := by rw [beq_eq_false_iff_ne]; omega
    have q2 : ((n1 : Int) != (m1 : Int)) = true := by rw [bne_iff_ne]; omega
    by_cases hl : n1 < m1
    · have q3 : (n1 : Int) < (m1 : Int) := by omega
      go_wp2
      go_ret
      have hr : nval f n < nval g m := by rw [← Hv1.out, ← Hv2.out]; exact trim_lt Hf.out hl Ht2.out
      exact ⟨by rw [cmpU_lt hr]; rfl, Below.refl _ _⟩
    · have q3 : ¬ (n1 : Int) < (m1 : Int) := by omega
      go_wp2
      go_ret
      have hr : nval g m < nval f n := by rw [← Hv1.out, ← Hv2.out]; exact trim_lt Hg.out (by omega) Ht1.out
      exact ⟨by rw [cmpU_gt hr]; rfl, Below.refl _ _⟩
end Go.Proofs.YtnjcnlbphaodcaaGreat

namespace Go.Proofs.YtnjcnlbphaodcaaGreat
open Go.RowKit Go.Sort

theorem nval_split (g : Nat → Nat) (n : Nat) : ∀ d, ∃ q, nval g (n + d) = nval g n + q * 2 ^ (32 * n)
  | 0 => ⟨0, by simp⟩
  | d + 1 => by
    obtain ⟨q, hq⟩ := nval_split g n d
    refine ⟨q + g (n + d) * 2 ^ (32 * d), ?_⟩
    show nval g (n + d) + g (n + d) * 2 ^ (32 * (n + d)) = _
    rw [hq, Nat.add_mul, Nat.mul_assoc, ← Nat.pow_add, show 32 * d + 32 * n = 32 * (n + d) by omega]; omega
theorem nval_low {g : Nat → Nat} {n m : Nat} (h : nval g m < 2 ^ (32 * n)) : nval (padw g m) n = nval g m := by
  rcases Nat.lt_or_ge n m with h1 | h1
  · obtain ⟨q, hq⟩ := nval_split g n (m - n)
    rw [show n + (m - n) = m by omega] at hq
    have h2 : nval (padw g m) n = nval g n := nval_congr n fun i hi => by unfold padw; rw [if_pos (by omega)]
    rw [h2]
    rcases Nat.eq_zero_or_pos q with h3 | h3
    · rw [h3] at hq; omega
    · have := Nat.mul_le_mul_right (2 ^ (32 * n)) h3; omega
  · exact nval_pad g h1
def MinusRel (n m : Nat) (f g : Nat → Nat) (w : World) (x y z : Value) (wr : World) : Prop :=
  ∃ (k b : Nat) (h : Nat → Nat), z = .int .i64 (k : Nat) ∧ y = .int .u64 (b : Nat) ∧ b ≤ 1 ∧ k ≤ n ∧ (∀ i, h i < 2 ^ 32) ∧
    nval h k + nval (padw g m) k = nval f k + b * 2 ^ (32 * k) ∧ wr.ownsRow w.heap.size 126 1 x k (u32s h k) ∧ Below w.heap.size w wr
def MinusPost (N M n : Nat) (w : World) (e : Ending) (w' : World) : Prop :=
  ((N < M ∧ e = .returned (.tuple #[.slice none 0 0, .bool false])) ∨ (M ≤ N ∧ ∃ v, e = .returned (.tuple #[v, .bool true]) ∧ NatV w' v (N - M) n)) ∧ Below w.heap.size w w'
theorem minus_next {n m k b lo b' y : Nat} {f g h : Nat → Nat} {w wr : World} {x : Value} (hk : k < n) (hh : ∀ i, h i < 2 ^ 32)
    (hv : nval h k + nval (padw g m) k = nval f k + b * 2 ^ (32 * k)) (hy : y = b + padw g m k) (hb' : b' ≤ 1) (hlo : lo + y = f k + b' * 4294967296) (hlol : lo < 4294967296)
    (hown : wr.ownsRow w.heap.size 126 1 x (k + 1) (u32s h k ++ [.int .u32 (lo : Nat)])) (hbel : Below w.heap.size w wr) : MinusRel n m f g w x (.int .u64 (b' : Nat)) (.int .i64 ((k + 1 : Nat) : Int)) wr := by
  refine ⟨k + 1, b', upd h k lo, rfl, rfl, hb', by omega, upd_lt hh (by omega), ?_, ?_, hbel⟩
  · rw [nval_upd, pow_succ32]
    simp only [nval]
    have e2 := congrArg (· * 2 ^ (32 * k)) hlo
    rw [hy] at e2
    simp only [Nat.add_mul, Nat.mul_assoc] at e2
    have e3 : (4294967296 : Nat) = 2 ^ 32 := rfl
    rw [e3] at e2
    omega
  · rw [u32s_upd]; exact hown

set_option maxRecDepth 100000 in
set_option maxHeartbeats 4000000 in
theorem minus_walk (va vb : Value) (n m : Nat) (f g : Nat → Nat) (w : World) (ha : Ws w va n f) (hb : Ws w vb m g) (hn : n ≤ 50) (hm : m ≤ 50) :
    Calls Tryz.prog 71 #[va, vb] w (MinusPost (nval f n) (nval g m) n w) := by
  obtain ⟨i0, hi, hz0, hz1, hz2⟩ := info_parts infoU32
  have Ha := Lib.hid ha
  have Hb := Lib.hid hb
  clear ha hb
  obtain ⟨cm, hcm⟩ : ∃ c, c = cmpU (nval f n) (nval g m) := ⟨_, rfl⟩
  have Hcm := Lib.hid hcm
  clear hcm
  by_cases hlt : nval f n < nval g m
  · have q1 : cm < 0 := by rw [Hcm.out, cmpU_lt hlt]; decide
    have Hlt := Lib.hid hlt
    clear hlt
    go_enter Tryz.func71, Tryz.ntmps71
    go_wp2_with (go_at_call 85; refine (ncmp_walk _ _ n m f g _ Ha.out Hb.out (by omega) (by omega)).mono ?_; rintro e w1 ⟨rfl, hb1⟩; rw [← Hcm.out])
    refine bodyPost_ret (v := .tuple #[.slice none 0 0, .bool false]) (by simp [results, Tryz.results71, go_sem]) rfl ⟨.inl ⟨Hlt.out, rfl⟩, hb1⟩
  · have q1 : ¬ cm < 0 := by rw [Hcm.out]; have := (cmpU_ge' (nval f n) (nval g m)).2 (by omega); omega
    have Hge := Lib.hid (show nval g m ≤ nval f n by omega)
    clear hlt
    obtain ⟨A, ca, rfl, oa⟩ := Ha.out.open_
    obtain ⟨B, cb, rfl, ob⟩ := Hb.out.open_
    have Hf := Lib.hid Ha.out.small
    have Hg := Lib.hid Hb.out.small
    have Oa := Lib.hid oa
    have Ob := Lib.hid ob
    clear oa ob
    go_enter Tryz.func71, Tryz.ntmps71
    go_wp2_with (go_at_call 85; refine (ncmp_walk _ _ n m f g _ Ha.out Hb.out (by omega) (by omega)).mono ?_; rintro e w1 ⟨rfl, hb1⟩; rw [← Hcm.out])
    go_loopw [6, 7, 8] (MinusRel n m f g w) (fun _ _ z _ => n - (intOf z).toNat)
    case atStart =>
      exact ⟨0, 0, fun _ => 0, rfl, rfl, by omega, by omega, by simp, by simp [nval], World.ownsRow_nil _ _ _ _, hb1⟩
    case round =>
      obtain ⟨k, b, h, rfl, rfl, hbl, hkn, hh, hv, hown, hbel⟩ := hrel
      have Hh := Lib.hid hh
      have Hv := Lib.hid hv
      have hsz := hbel.size
      clear hh hv
      by_cases h1 : k < n
      · have q2 : (k : Int) < (n : Int) := by omega
        obtain ⟨ga, ofa, rfl, hga, hxa⟩ := Oa.out (by omega)
        have ca1 : wr.cell? ⟨ga, ofa + k, none⟩ = some (.int .u32 (f k : Nat)) := by rw [hbel.cell (p := ⟨ga, ofa + k, none⟩) hga]; exact hxa k h1
        have s0 : IntKind.u64.wrap ((f k : Nat) : Int) = ((f k : Nat) : Int) := wrap_u64 (by have := Hf.out k; omega)
        obtain ⟨y, hy⟩ : ∃ y, y = b + padw g m k := ⟨_, rfl⟩
        have hyl : y ≤ 4294967296 := by have := padw_lt Hg.out m k; omega
        have Hy := Lib.hid hy
        clear hxa hy
        by_cases h2 : k < m
        · have q3 : (k : Int) < (m : Int) := by omega
          obtain ⟨gb, ofb, rfl, hgb, hxb⟩ := Ob.out (by omega)
          have cb1 : wr.cell? ⟨gb, ofb + k, none⟩ = some (.int .u32 (g k : Nat)) := by rw [hbel.cell (p := ⟨gb, ofb + k, none⟩) hgb]; exact hxb k h2
          have s0' : IntKind.u64.wrap ((g k : Nat) : Int) = ((g k : Nat) : Int) := wrap_u64 (by have := Hg.out k; omega)
          have s1 : IntKind.u64.wrap ((b : Int) + (g k : Nat)) = (y : Int) := by
            have e : y = b + g k := by rw [Hy.out]; unfold padw; rw [if_pos h2]
            rw [← Int.natCast_add, ← e, wrap_u64 (by omega)]
          clear hxb
          by_cases h3 : f k < y
          · have q4 : (f k : Int) < (y : Int) := by omega
            obtain ⟨x1, hx1⟩ : ∃ x, x = f k + 4294967296 := ⟨_, rfl⟩
            obtain ⟨lo, hlo⟩ : ∃ x, x = f k + 4294967296 - y := ⟨_, rfl⟩
            have fk := Hf.out k
            have s2 : IntKind.u64.wrap ((f k : Nat) + 4294967296 : Int) = (x1 : Int) := by rw [hx1, show ((f k : Nat) + 4294967296 : Int) = ((f k + 4294967296 : Nat) : Int) by omega]; exact wrap_u64 (by omega)
            have s3 : IntKind.u64.wrap ((x1 : Int) - (y : Int)) = (lo : Int) := by rw [show (x1 : Int) - (y : Int) = ((lo : Nat) : Int) by omega]; exact wrap_u64 (by omega)
            have s4 : IntKind.u32.wrap (lo : Int) = (lo : Int) := by rw [IntKind.wrap_u32]; omega
            have Hlo := Lib.hid (show lo + y = f k + 1 * 4294967296 ∧ lo < 4294967296 by omega)
            clear hx1 hlo fk hyl
            go_wp2_with (at_builtin; refine wpList_append_own _ rfl (.tmp 43) (.tmp 48) _ rfl w.heap.size 126 i0 (.int .u32 0) 1 4 Tryz.underlying106 hi hz0 hz1 hz2 rfl (by omega) _ k (u32s h k) rfl (hown.alloc _) ⟨wr.heap.size, 0, none⟩ 1 1 [.int .u32 (lo : Nat)] rfl rfl (one32 _ _ _) (one32' _) (by unfold maxLen; omega) (by omega) (by simp only [World.size_alloc]; omega) ?_; intro v3 w3 hown3 hg3 _)
            go_roundw
            case rel =>
              exact minus_next (b' := 1) h1 Hh.out Hv.out Hy.out (by omega) Hlo.out.1 Hlo.out.2 hown3 ((hbel.alloc hsz _).grown hg3 (by simp only [World.size_alloc]; omega) (own_ge hown))
            case measure => simp [intOf]; omega
          · have q4 : ¬ (f k : Int) < (y : Int) := by omega
            obtain ⟨lo, hlo⟩ : ∃ x, x = f k - y := ⟨_, rfl⟩
            have fk := Hf.out k
            have s3 : IntKind.u64.wrap ((f k : Nat) - (y : Int) : Int) = (lo : Int) := by rw [show ((f k : Nat) : Int) - (y : Int) = ((lo : Nat) : Int) by omega]; exact wrap_u64 (by omega)
            have s4 : IntKind.u32.wrap (lo : Int) = (lo : Int) := by rw [IntKind.wrap_u32]; omega
            have Hlo := Lib.hid (show lo + y = f k + 0 * 4294967296 ∧ lo < 4294967296 by omega)
            clear hlo fk hyl
            go_wp2_with (at_builtin; refine wpList_append_own _ rfl (.tmp 43) (.tmp 48) _ rfl w.heap.size 126 i0 (.int .u32 0) 1 4 Tryz.underlying106 hi hz0 hz1 hz2 rfl (by omega) _ k (u32s h k) rfl (hown.alloc _) ⟨wr.heap.size, 0, none⟩ 1 1 [.int .u32 (lo : Nat)] rfl rfl (one32 _ _ _) (one32' _) (by unfold maxLen; omega) (by omega) (by simp only [World.size_alloc]; omega) ?_; intro v3 w3 hown3 hg3 _)
            go_roundw
            case rel =>
              exact minus_next (b' := 0) h1 Hh.out Hv.out Hy.out (by omega) Hlo.out.1 Hlo.out.2 hown3 ((hbel.alloc hsz _).grown hg3 (by simp only [World.size_alloc]; omega) (own_ge hown))
            case measure => simp [intOf]; omega
        · have q3 : ¬ (k : Int) < (m : Int) := by omega
          obtain rfl : y = b := by rw [Hy.out]; unfold padw; rw [if_neg h2]; rfl
          by_cases h3 : f k < y
          · have q4 : (f k : Int) < (y : Int) := by omega
            obtain ⟨x1, hx1⟩ : ∃ x, x = f k + 4294967296 := ⟨_, rfl⟩
            obtain ⟨lo, hlo⟩ : ∃ x, x = f k + 4294967296 - y := ⟨_, rfl⟩
            have fk := Hf.out k
            have s2 : IntKind.u64.wrap ((f k : Nat) + 4294967296 : Int) = (x1 : Int) := by rw [hx1, show ((f k : Nat) + 4294967296 : Int) = ((f k + 4294967296 : Nat) : Int) by omega]; exact wrap_u64 (by omega)
            have s3 : IntKind.u64.wrap ((x1 : Int) - (y : Int)) = (lo : Int) := by rw [show (x1 : Int) - (y : Int) = ((lo : Nat) : Int) by omega]; exact wrap_u64 (by omega)
            have s4 : IntKind.u32.wrap (lo : Int) = (lo : Int) := by rw [IntKind.wrap_u32]; omega
            have Hlo := Lib.hid (show lo + y = f k + 1 * 4294967296 ∧ lo < 4294967296 by omega)
            clear hx1 hlo fk hyl
            go_wp2_with (at_builtin; refine wpList_append_own _ rfl (.tmp 43) (.tmp 48) _ rfl w.heap.size 126 i0 (.int .u32 0) 1 4 Tryz.underlying106 hi hz0 hz1 hz2 rfl (by omega) _ k (u32s h k) rfl (hown.alloc _) ⟨wr.heap.size, 0, none⟩ 1 1 [.int .u32 (lo : Nat)] rfl rfl (one32 _ _ _) (one32' _) (by unfold maxLen; omega) (by omega) (by simp only [World.size_alloc]; omega) ?_; intro v3 w3 hown3 hg3 _)
            go_roundw
            case rel =>
              exact minus_next (b' := 1) h1 Hh.out Hv.out Hy.out (by omega) Hlo.out.1 Hlo.out.2 hown3 ((hbel.alloc hsz _).grown hg3 (by simp only [World.size_alloc]; omega) (own_ge hown))
            case measure => simp [intOf]; omega
          · have q4 : ¬ (f k : Int) < (y : Int) := by omega
            obtain ⟨lo, hlo⟩ : ∃ x, x = f k - y := ⟨_, rfl⟩
            have fk := Hf.out k
            have s3 : IntKind.u64.wrap ((f k : Nat) - (y : Int) : Int) = (lo : Int) := by rw [show ((f k : Nat) : Int) - (y : Int) = ((lo : Nat) : Int) by omega]; exact wrap_u64 (by omega)
            have s4 : IntKind.u32.wrap (lo : Int) = (lo : Int) := by rw [IntKind.wrap_u32]; omega
            have Hlo := Lib.hid (show lo + y = f k + 0 * 4294967296 ∧ lo < 4294967296 by omega)
            clear hlo fk hyl
            go_wp2_with (at_builtin; refine wpList_append_own _ rfl (.tmp 43) (.tmp 48) _ rfl w.heap.size 126 i0 (.int .u32 0) 1 4 Tryz.underlying106 hi hz0 hz1 hz2 rfl (by omega) _ k (u32s h k) rfl (hown.alloc _) ⟨wr.heap.size, 0, none⟩ 1 1 [.int .u32 (lo : Nat)] rfl rfl (one32 _ _ _) (one32' _) (by unfold maxLen; omega) (by omega) (by simp only [World.size_alloc]; omega) ?_; intro v3 w3 hown3 hg3 _)
            go_roundw
            case rel =>
              exact minus_next (b' := 0) h1 Hh.out Hv.out Hy.out (by omega) Hlo.out.1 Hlo.out.2 hown3 ((hbel.alloc hsz _).grown hg3 (by simp only [World.size_alloc]; omega) (own_ge hown))
            case measure => simp [intOf]; omega
      · have q2 : ¬ (k : Int) < (n : Int) := by omega
        have hkn' : k = n := by omega
        have hws := own_Ws Hh.out hown
        have hval : nval h k = nval f n - nval g m := by
          have e := Hv.out
          have h5 := nval_lt k (fun i _ => Hh.out i)
          have h6 := nval_lt n (fun i _ => Hf.out i)
          have h7 := Hge.out
          rw [hkn'] at e h5 ⊢
          rw [nval_low (g := g) (n := n) (m := m) (by omega)] at e
          rcases (show b = 0 ∨ b = 1 by omega) with rfl | rfl
          · omega
          · omega
        have Hval := Lib.hid hval
        have Hkn := Lib.hid hkn'
        clear hval hkn'
        go_wp2_with (go_at_call 83; refine (trim_walk _ _ _ _ hws (by omega)).mono ?_; rintro e w' ⟨v, n', rfl, hn', hw, hnv, htr, rfl⟩)
        refine bodyPost_ret (v := .tuple #[v, .bool true]) (by simp [results, Tryz.results71, go_sem]) rfl ⟨.inr ⟨Hge.out, v, rfl, n', h, by omega, hw, by rw [hnv]; exact Hval.out, htr⟩, hbel⟩
end Go.Proofs.YtnjcnlbphaodcaaGreat

namespace Go.Proofs.YtnjcnlbphaodcaaGreat
open Go.RowKit Go.Sort

/-- a word of 64 bits out of the first k of 32 -/
def outw (f : Nat → Nat) (k j : Nat) : Nat := padw f k (2 * j) + padw f k (2 * j + 1) * 4294967296
theorem outw_lt {f : Nat → Nat} (hf : ∀ i, f i < 2 ^ 32) (k j : Nat) : outw f k j < 2 ^ 64 := by
  have := padw_lt hf k (2 * j)
  have := padw_lt hf k (2 * j + 1)
  unfold outw; omega
theorem outw_val {f : Nat → Nat} {n : Nat} (hn : n ≤ 8) : val (outw f n) 4 = nval f n := by
  rw [← nval_pad f hn]
  simp only [val, nval, outw, Nat.reduceMul, Nat.reduceAdd]
  omega
theorem outw_far {f : Nat → Nat} {k i : Nat} (h : i ≠ k / 2) : outw f (k + 1) i = outw f k i := by
  unfold outw padw
  have h1 : (2 * i < k + 1) = (2 * i < k) := by apply propext; omega
  have h2 : (2 * i + 1 < k + 1) = (2 * i + 1 < k) := by apply propext; omega
  simp only [h1, h2]
theorem or_even {f : Nat → Nat} {j : Nat} (hf : ∀ i, f i < 2 ^ 32) : bits BinOp.or IntKind.u64 ((outw f (2 * j) j : Nat) : Int) ((f (2 * j) : Nat) : Int) = ((outw f (2 * j + 1) j : Nat) : Int) := by
  have h := hf (2 * j)
  have e0 : outw f (2 * j) j = 0 := by unfold outw padw; rw [if_neg (by omega), if_neg (by omega)]
  have e1 : outw f (2 * j + 1) j = f (2 * j) := by unfold outw padw; rw [if_pos (by omega), if_neg (by omega)]; omega
  rw [e0, e1, u64_or_nat _ _ (by decide) (by omega), Nat.zero_or]
theorem or_odd {f : Nat → Nat} {j : Nat} (hf : ∀ i, f i < 2 ^ 32) : bits BinOp.or IntKind.u64 ((outw f (2 * j + 1) j : Nat) : Int) ((f (2 * j + 1) : Nat) * 4294967296 : Int) = ((outw f (2 * j + 1 + 1) j : Nat) : Int) := by
  have h := hf (2 * j)
  have h1 := hf (2 * j + 1)
  have e0 : outw f (2 * j + 1) j = f (2 * j) := by unfold outw padw; rw [if_pos (by omega), if_neg (by omega)]; omega
  have e1 : outw f (2 * j + 1 + 1) j = f (2 * j) + f (2 * j + 1) * 4294967296 := by unfold outw padw; rw [if_pos (by omega), if_pos (by omega)]
  have e2 : ((f (2 * j + 1) : Nat) * 4294967296 : Int) = ((f (2 * j + 1) * 4294967296 : Nat) : Int) := by omega
  rw [e0, e1, e2, u64_or_nat _ _ (by omega) (by omega), Nat.or_comm, nat_join 32 _ _ ?_ h, Nat.add_comm]
  omega
def ToURel (n : Nat) (f : Nat → Nat) (w W1 : World) (x : Value) (wr : World) : Prop :=
  ∃ k : Nat, k ≤ n ∧ x = .int .i64 (k : Nat) ∧ Arr .u64 wr w.heap.size 4 (fun _ => 0) ∧ Arr .u64 wr (w.heap.size + 1) 4 (outw f k) ∧ Below (w.heap.size + 1) W1 wr ∧ w.heap.size + 1 < wr.heap.size
def ToUPost (N : Nat) (w : World) (e : Ending) (w' : World) : Prop :=
  e = .returned (.tuple #[U (if N < 2 ^ 256 then N else 0), .bool (decide (N < 2 ^ 256))]) ∧ Below w.heap.size w w'
theorem toUPost_yes {N n : Nat} {w w' : World} {e : Ending} (hn : n = N) (h : N < 2 ^ 256) (he : e = .returned (.tuple #[U n, .bool true])) (hw : Below w.heap.size w w') : ToUPost N w e w' := by
  subst hn; unfold ToUPost; rw [if_pos h, decide_eq_true h]; exact ⟨he, hw⟩
theorem toUPost_no {N : Nat} {w w' : World} {e : Ending} (h : ¬ N < 2 ^ 256) (he : e = .returned (.tuple #[U 0, .bool false])) (hw : Below w.heap.size w w') : ToUPost N w e w' := by
  unfold ToUPost; rw [if_neg h, decide_eq_false h]; exact ⟨he, hw⟩

set_option maxRecDepth 100000 in
set_option maxHeartbeats 4000000 in
theorem toU_walk (v : Value) (n : Nat) (f : Nat → Nat) (w : World) (h : Ws w v n f) (hn : n ≤ 100) :
    Calls Tryz.prog 82 #[v] w (ToUPost (nval f n) w) := by
  have Hh := Lib.hid h
  clear h
  go_enter Tryz.func82, Tryz.ntmps82
  go_wp2_with fail
  refine (trim_walk _ _ _ _ (Hh.out.below ((Below.refl _ _).alloc (Nat.le_refl _) _)) (by omega)).mono ?_
  rintro e w1 ⟨v1, n1, rfl, hn1, hw1, hv1, ht1, rfl⟩
  obtain ⟨A, ca, rfl, oa⟩ := hw1.open_
  have Hf := Lib.hid hw1.small
  have Oa := Lib.hid oa
  have Hv1 := Lib.hid hv1
  have Ht1 := Lib.hid ht1
  clear hw1 oa hv1 ht1
  by_cases h8 : n1 ≤ 8
  · have q1 : ¬ (8 : Int) < (n1 : Int) := by omega
    have hNl : nval f n < 2 ^ 256 := by
      rw [← Hv1.out]
      exact Nat.lt_of_lt_of_le (nval_lt n1 (fun i _ => Hf.out i)) (Nat.pow_le_pow_right (by decide) (by omega))
    have HNl := Lib.hid hNl
    clear hNl
    go_wp2
    go_loopw [15] (ToURel n1 f w (w.alloc (.cells #[.int .u64 0, .int .u64 0, .int .u64 0, .int .u64 0] 24))) (fun x _ => n1 - (intOf x).toNat)
    case atStart =>
      refine ⟨0, Nat.zero_le _, rfl, (Arr.new4 (f := fun _ => 0) rfl).alloc _, ?_, (Below.refl _ _).alloc (by simp only [World.size_alloc]; omega) _, by simp⟩
      exact Arr.congr (Arr.new4 (f := fun _ => 0) (by simp)) fun i _ => by unfold outw padw; rw [if_neg (by omega), if_neg (by omega)]
    case round =>
      obtain ⟨k, hk, rfl, hz, hs, hbel, hsz⟩ := hrel
      by_cases hlt : k < n1
      · have q2 : (k : Int) < (n1 : Int) := by omega
        obtain ⟨ga, ofa, rfl, hga, hxa⟩ := Oa.out (by omega)
        have hga' : ga < w.heap.size + 1 := by simpa using hga
        have c1 : wr.cell? ⟨ga, ofa + k, none⟩ = some (.int .u32 (f k : Nat)) := by rw [hbel.cell (p := ⟨ga, ofa + k, none⟩) hga']; exact hxa k hlt
        obtain ⟨j, hj⟩ : ∃ j, j = k / 2 := ⟨_, rfl⟩
        have hj4 : j < 4 := by omega
        have jI : (j : Int) < 4 := by omega
        have e1 : (k : Int) / 2 = (j : Int) := by omega
        have e2 : (k : Int).tdiv 2 = (j : Int) := by rw [Int.tdiv_eq_ediv_of_nonneg (by omega)]; omega
        have c4 := hs.cell j hj4
        have f4 := hs.free j hj4
        have s0 : IntKind.u64.wrap ((f k : Nat) : Int) = ((f k : Nat) : Int) := wrap_u64 (by have := Hf.out k; omega)
        have Hj := Lib.hid hj
        have hcong : ∀ i, i < 4 → upd (outw f k) j (outw f (k + 1) j) i = outw f (k + 1) i := fun i _ => by
          by_cases hi : i = j
          · rw [hi, upd_same]
          · rw [upd_ne _ hi, outw_far (by rw [← hj]; exact hi)]
        have Hcong := Lib.hid hcong
        have cases2 : (∃ h : Hid (k = 2 * j), True) ∨ (∃ h : Hid (k = 2 * j + 1), True) := by
          rcases (show k = 2 * j ∨ k = 2 * j + 1 by omega) with h | h
          · exact .inl ⟨Lib.hid h, trivial⟩
          · exact .inr ⟨Lib.hid h, trivial⟩
        clear hj hxa hga hcong
        rcases cases2 with ⟨hkj, _⟩ | ⟨hkj, _⟩
        · have e3 : (k : Int).tmod 2 = 0 := by have := hkj.out; rw [Int.tmod_eq_emod_of_nonneg (by omega)]; omega
          have o1 := or_even (j := j) Hf.out
          rw [← hkj.out] at o1
          go_wp2
          go_roundw
          case rel =>
            refine ⟨k + 1, by omega, by go_num, hz.set_far (by omega), (hs.set hj4).congr Hcong.out, hbel.setCell (by simp) _, by rw [World.size_setCell]; exact hsz⟩
          case measure => simp [intOf]; omega
        · have e3 : (k : Int).tmod 2 = 1 := by have := hkj.out; rw [Int.tmod_eq_emod_of_nonneg (by omega)]; omega
          have o1 := or_odd (j := j) Hf.out
          rw [← hkj.out] at o1
          have s5 : IntKind.u64.wrap ((f k : Nat) * 4294967296 : Int) = ((f k : Nat) * 4294967296 : Int) := by
            have := Hf.out k
            rw [show ((f k : Nat) * 4294967296 : Int) = ((f k * 4294967296 : Nat) : Int) by omega]; exact wrap_u64 (by omega)
          go_wp2
          go_roundw
          case rel =>
            refine ⟨k + 1, by omega, by go_num, hz.set_far (by omega), (hs.set hj4).congr Hcong.out, hbel.setCell (by simp) _, by rw [World.size_setCell]; exact hsz⟩
          case measure => simp [intOf]; omega
      · have q2 : ¬ (k : Int) < (n1 : Int) := by omega
        have hkn : k = n1 := by omega
        have hval : val (outw f k) 4 = nval f n := by rw [hkn, outw_val h8]; exact Hv1.out
        have Hval := Lib.hid hval
        clear hval hkn
        have hb2 := Lib.hid (((Below.refl w.heap.size w).alloc (Nat.le_refl _) _).trans (hbel.mono (by omega)))
        obtain ⟨s0, s1, s2, s3⟩ := hs.cells4
        obtain ⟨y0, y1, y2, y3⟩ := hz.frees4
        obtain ⟨z0, z1, z2, z3⟩ := hz.cells4
        go_wp2
        refine bodyPost_ret (v := .tuple #[.agg #[.int .u64 (outw f k 0 : Nat), .int .u64 (outw f k 1 : Nat), .int .u64 (outw f k 2 : Nat), .int .u64 (outw f k 3 : Nat)], .bool true]) (by simp [results, Tryz.results82, go_sem, z0, z1, z2, z3]) rfl (toUPost_yes Hval.out HNl.out ?_ (below_set4 hb2.out (by omega)))
        rw [U_of (outw_lt Hf.out k)]
  · have q1 : (8 : Int) < (n1 : Int) := by omega
    have hN : ¬ nval f n < 2 ^ 256 := by
      rw [← Hv1.out]
      obtain ⟨i, rfl⟩ : ∃ i, n1 = i + 1 := ⟨n1 - 1, by omega⟩
      rcases Ht1.out with h2 | h2
      · omega
      · rw [Nat.add_sub_cancel] at h2
        have h3 : 2 ^ 256 ≤ 2 ^ (32 * i) := Nat.pow_le_pow_right (by decide) (by omega)
        have h4 := Nat.mul_le_mul_right (2 ^ (32 * i)) (show 1 ≤ f i by omega)
        simp only [nval]
        omega
    have HN := Lib.hid hN
    clear hN
    go_wp2
    refine bodyPost_ret (v := .tuple #[.agg #[.int .u64 0, .int .u64 0, .int .u64 0, .int .u64 0], .bool false]) (by simp [results, Tryz.results82, go_sem]) rfl (toUPost_no HN.out (by rw [U_zero]) ((Below.refl _ _).alloc (Nat.le_refl _) _))
end Go.Proofs.YtnjcnlbphaodcaaGreat
