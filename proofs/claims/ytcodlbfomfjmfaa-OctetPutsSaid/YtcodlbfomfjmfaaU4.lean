/- u256.Mul, walked. -/
import Derived.Test.YtcodlbfomfjmfaaU1
import Derived.Test.YtcodlbfomfjmfaaU3
import Derived.Test.YtcodlbfomfjmfaaShelf
namespace Go.Proofs.Ytcodlbfomfjmfaa
open Go.RowKit

def mh (x y : Nat) : Nat := x * y / 18446744073709551616
def ml (x y : Nat) : Nat := x * y % 18446744073709551616
theorem mul64_c (x y : Nat) (hx : x < 2 ^ 64) (hy : y < 2 ^ 64) (w : World) :
    Calls Try.prog 98 #[.int .u64 (x : Nat), .int .u64 (y : Nat)] w fun e w' => e = .returned (.tuple #[.int .u64 (mh x y : Nat), .int .u64 (ml x y : Nat)]) ∧ w' = w :=
  Try.bits_Mul64 x y hx hy w
theorem run_add64z (x y : Nat) (w : World) :
    (callFunc 92 #[.int .u64 (x : Nat), .int .u64 (y : Nat), .int .u64 0]).run Try.prog w =
      .ok (.value (.tuple #[.int .u64 (s64 x y 0 : Nat), .int .u64 (c64 x y 0 : Nat)])) w := run_add64n x y 0 (by omega) w
theorem ml_lt (x y : Nat) : ml x y < 2 ^ 64 := Nat.mod_lt _ (by decide)
theorem mh_le {x y : Nat} (hx : x < 2 ^ 64) (hy : y < 2 ^ 64) : mh x y + 2 ≤ 2 ^ 64 := by
  unfold mh
  have h1 : x * y ≤ (2 ^ 64 - 1) * (2 ^ 64 - 1) := Nat.mul_le_mul (by omega) (by omega)
  have h2 : x * y / 18446744073709551616 ≤ (2 ^ 64 - 1) * (2 ^ 64 - 1) / 18446744073709551616 := Nat.div_le_div_right h1
  have h3 : (2 ^ 64 - 1) * (2 ^ 64 - 1) / 18446744073709551616 = 18446744073709551614 := by decide
  omega
theorem mhl (x y : Nat) : mh x y * 2 ^ 64 + ml x y = x * y := by unfold mh ml; omega

theorem mul_step {x y d g : Nat} (hx : x < 2 ^ 64) (hy : y < 2 ^ 64) (hd : d < 2 ^ 64) (hg : g < 2 ^ 64) :
    mh x y + c64 (ml x y) d 0 + c64 g (s64 (ml x y) d 0) 0 < 2 ^ 64 ∧
    (mh x y + c64 (ml x y) d 0 + c64 g (s64 (ml x y) d 0) 0) * 2 ^ 64 + s64 g (s64 (ml x y) d 0) 0 = g + x * y + d := by
  have h1 := mhl x y
  have h2 := sc64 (ml x y) d 0
  have h3 := sc64 g (s64 (ml x y) d 0) 0
  have h4 : x * y ≤ (2 ^ 64 - 1) * (2 ^ 64 - 1) := Nat.mul_le_mul (by omega) (by omega)
  generalize s64 (ml x y) d 0 = s1 at *
  generalize s64 g s1 0 = s at *
  generalize c64 (ml x y) d 0 = c1 at *
  generalize c64 g s1 0 = c2 at *
  generalize x * y = xy at *
  omega
theorem mul_inner_math {x y d g s D v v' V0 vb P Q R M : Nat} (hv : v' + g * P = v + s * P) (h : v + d * P = V0 + x * vb * Q) (hs : D * M + s = g + x * y + d) (hP : P = R * Q) :
    v' + D * (M * P) = V0 + x * (vb + y * R) * Q := by
  have h1 := congrArg (· * P) hs
  simp only [Nat.add_mul, Nat.mul_assoc] at h1
  have e : x * (vb + y * R) * Q = x * vb * Q + x * (y * P) := by rw [hP, Nat.mul_add, Nat.add_mul, Nat.mul_assoc, Nat.mul_assoc, Nat.mul_assoc]
  rw [e, ← Nat.mul_assoc D]
  have e2 : D * M * P = D * (M * P) := Nat.mul_assoc _ _ _
  omega
theorem mul_outer_math {x d v v' V0 A b P Q : Nat} (hv : v' + 0 * P = v + d * P) (h : v + d * P = V0 + x * b * Q) (hV : V0 = A * b) : v' = (A + x * Q) * b := by
  have e : (A + x * Q) * b = A * b + x * b * Q := by rw [Nat.add_mul, Nat.mul_assoc, Nat.mul_assoc, Nat.mul_comm Q b]
  omega
theorem wrap_u64 {n : Nat} (h : n < 2 ^ 64) : IntKind.u64.wrap (n : Int) = (n : Int) := IntWalk.u64_in _ (by omega)
/-- the state at the head of Mul's outer loop -/
def MulOut (a b : Nat) (w : World) (i : Value) (wr : World) : Prop :=
  ∃ (k : Nat) (f : Nat → Nat), k ≤ 4 ∧ i = .int .i64 (k : Nat) ∧ (∀ j, f j < 2 ^ 64) ∧ (∀ j, k + 4 ≤ j → f j = 0) ∧ val f 8 = val (limb a) k * b ∧
    Arr .u64 wr w.heap.size 4 (limb a) ∧ Arr .u64 wr (w.heap.size + 1) 4 (limb b) ∧ Arr .u64 wr (w.heap.size + 1 + 1) 4 (fun _ => 0) ∧ Arr .u64 wr (w.heap.size + 1 + 1 + 1) 8 f ∧
    Below w.heap.size w wr ∧ w.heap.size + 1 + 1 + 1 < wr.heap.size
/-- the state at the head of its inner loop -/
def MulIn (a b : Nat) (w : World) (k V0 : Nat) (c i : Value) (wr : World) : Prop :=
  ∃ (j d : Nat) (f : Nat → Nat), j ≤ 4 ∧ i = .int .i64 (j : Nat) ∧ c = .int .u64 (d : Nat) ∧ d < 2 ^ 64 ∧ (∀ j, f j < 2 ^ 64) ∧ (∀ j, k + 4 ≤ j → f j = 0) ∧
    val f 8 + d * 2 ^ (64 * (k + j)) = V0 + limb a k * val (limb b) j * 2 ^ (64 * k) ∧
    Arr .u64 wr w.heap.size 4 (limb a) ∧ Arr .u64 wr (w.heap.size + 1) 4 (limb b) ∧ Arr .u64 wr (w.heap.size + 1 + 1) 4 (fun _ => 0) ∧ Arr .u64 wr (w.heap.size + 1 + 1 + 1) 8 f ∧
    Below w.heap.size w wr ∧ w.heap.size + 1 + 1 + 1 < wr.heap.size

def MulPost (a b : Nat) (w : World) (e : Ending) (w' : World) : Prop :=
  e = .returned (.tuple #[U (if a * b < 2 ^ 256 then a * b else 0), .bool (decide (a * b < 2 ^ 256))]) ∧ Below w.heap.size w w'

theorem mulPost_yes {a b : Nat} {w w' : World} {e : Ending} (h : a * b < 2 ^ 256) (he : e = .returned (.tuple #[U (a * b), .bool true])) (hw : Below w.heap.size w w') : MulPost a b w e w' := by
  unfold MulPost; rw [if_pos h, decide_eq_true h]; exact ⟨he, hw⟩
theorem mulPost_no {a b : Nat} {w w' : World} {e : Ending} (h : ¬ a * b < 2 ^ 256) (he : e = .returned (.tuple #[U 0, .bool false])) (hw : Below w.heap.size w w') : MulPost a b w e w' := by
  unfold MulPost; rw [if_neg h, decide_eq_false h]; exact ⟨he, hw⟩

set_option maxRecDepth 100000 in
set_option maxHeartbeats 2000000 in
theorem mul_walk (a b : Nat) (w : World) (hal : a < 2 ^ 256) (hbl : b < 2 ^ 256) :
    Calls Try.prog 21 #[U a, U b] w (MulPost a b w) := by
  have hadd := run_add64n
  have haddz := run_add64z
  unfold U
  go_enter Try.func21, Try.ntmps21
  go_wp2
  go_loopw [13] (MulOut a b w) (fun i _ => 4 - (intOf i).toNat)
  case atStart =>
    refine ⟨0, fun _ => 0, by omega, rfl, by simp, by simp, by rw [val_zero]; simp only [val]; omega, ?_, ?_, ?_, ?_, ?_, ?_⟩
    · exact (((Arr.new4 (f := limb a) rfl).alloc _).alloc _).alloc _
    · exact ((Arr.new4 (f := limb b) (by simp)).alloc _).alloc _
    · exact (Arr.new4 (f := fun _ => 0) (by simp)).alloc _
    · exact Arr.new8 (f := fun _ => 0) (by simp)
    · exact ((((Below.refl _ _).alloc (Nat.le_refl _) _).alloc (by simp only [World.size_alloc]; omega) _).alloc (by simp only [World.size_alloc]; omega) _).alloc (by simp only [World.size_alloc]; omega) _
    · simp
  case round =>
    obtain ⟨k, f, hk, rfl, hf, hz8, hv, ha, hb, hz, hs, hbel, hsz⟩ := hrel
    by_cases hlt : k < 4
    · go_wp2
      go_loopw [8, 16] (MulIn a b w k (val f 8)) (fun _ i _ => 4 - (intOf i).toNat)
      case atStart => exact ⟨0, 0, f, by omega, rfl, rfl, by omega, hf, hz8, by simp only [val]; omega, ha, hb, hz, hs, hbel, hsz⟩
      case round =>
        obtain ⟨j, d, g, hj, rfl, rfl, hd, hg, hg8, hvg, ia, ib, iz, is, ibel, isz⟩ := hrel
        by_cases hjl : j < 4
        · have Hvg := Lib.hid hvg
          have Hv := Lib.hid hv
          have Hg := Lib.hid hg
          have Hf := Lib.hid hf
          have Hz8 := Lib.hid hz8
          have Hg8 := Lib.hid hg8
          have hbl' := hbl
          clear hvg hv hg hf hz8 hg8 hal hbl
          have a1 := ia.cell k hlt
          have b1 := ib.cell j hjl
          have f1 := is.free (k + j) (by omega)
          have f2 := is.cell (k + j) (by omega)
          go_wp2
          go_quiet ((go_at_call 98; exact Calls.quiet_of_same (mul64_c _ _ (limb_lt _ _) (limb_lt _ _) _)))
          go_wp2
          go_roundw
          case rel =>
            have hm := mul_step (limb_lt a k) (limb_lt b j) hd (Hg.out (k + j))
            refine ⟨j + 1, _, upd g (k + j) (s64 (g (k + j)) (s64 (ml (limb a k) (limb b j)) d 0) 0), by omega, by go_num, ?_, hm.1, upd_lt Hg.out (s64_lt _ _ _), ?_, ?_, ?_, ?_, ?_, ?_, ?_, ?_⟩
            · rw [← Int.natCast_add, wrap_u64 (by omega), ← Int.natCast_add, wrap_u64 hm.1]
            · intro i hi; rw [upd_ne _ (by omega)]; exact Hg8.out i hi
            · have hv1 := val_upd_at g (s64 (g (k + j)) (s64 (ml (limb a k) (limb b j)) d 0) 0) (show k + j < 8 by omega)
              rw [show k + (j + 1) = k + j + 1 from rfl, pow_succ64]
              exact mul_inner_math hv1 Hvg.out hm.2 (by rw [← Nat.pow_add]; congr 1; omega)
            · exact (ia.drewN _).set_far (by omega)
            · exact (ib.drewN _).set_far (by omega)
            · exact (iz.drewN _).set_far (by omega)
            · exact (is.drewN _).set (by omega)
            · exact (below_drewN ibel _).setCell (by simp; omega) _
            · simp; omega
          case measure => simp [intOf]; omega
        · obtain rfl : j = 4 := by omega
          have f1 := is.free (k + 4) (by omega)
          have f2 := is.cell (k + 4) (by omega)
          have Hvg := Lib.hid hvg
          have Hv := Lib.hid hv
          have Hg := Lib.hid hg
          have Hf := Lib.hid hf
          have Hz8 := Lib.hid hz8
          have Hg8 := Lib.hid hg8
          have hbl' := hbl
          clear hvg hv hg hf hz8 hg8 hal hbl
          go_wp2
          go_roundw
          case rel =>
            refine ⟨k + 1, upd g (k + 4) d, by omega, by go_num, upd_lt Hg.out hd, ?_, ?_, ?_, ?_, ?_, ?_, ?_, ?_⟩
            · intro i hi; rw [upd_ne _ (by omega)]; exact Hg8.out i (by omega)
            · have hv1 := val_upd_at g d (show k + 4 < 8 by omega)
              rw [Hg8.out (k + 4) (Nat.le_refl _)] at hv1
              have hvg := Hvg.out
              rw [val4_limb hbl'] at hvg
              exact mul_outer_math hv1 hvg Hv.out
            · exact ia.set_far (by omega)
            · exact ib.set_far (by omega)
            · exact iz.set_far (by omega)
            · exact is.set (by omega)
            · exact ibel.setCell (by simp; omega) _
            · simp; omega
          case measure => simp [intOf]; omega
    · obtain rfl : k = 4 := by omega
      have hn : val f 8 = a * b := by rw [hv, val4_limb hal]
      have hs' : Arr .u64 wr (w.heap.size + 1 + 1 + 1) 8 (limb (a * b)) := hs.congr fun i hi => by rw [← hn, limb_val 8 (fun i _ => hf i) i hi]
      clear hs hn hv hz8 hf
      have hhl : a * b / 2 ^ 256 < 2 ^ 256 := (Nat.div_lt_iff_lt_mul (by decide)).2 (by have := Nat.mul_lt_mul'' hal hbl; exact this)
      have Hiff : Hid (a * b / 2 ^ 256 = 0 ↔ a * b < 2 ^ 256) := Lib.hid (by rw [Nat.div_eq_zero_iff_lt (by decide)])
      have Hlow : Hid (a * b < 2 ^ 256 → a * b % 2 ^ 256 = a * b) := Lib.hid fun h => Nat.mod_eq_of_lt h
      obtain ⟨hi, hhi⟩ : ∃ hi, hi = a * b / 2 ^ 256 := ⟨_, rfl⟩
      obtain ⟨n, hn⟩ : ∃ n, n = a * b := ⟨_, rfl⟩
      rw [← hhi] at hhl Hiff
      rw [← hn] at hs' hhi Hiff Hlow
      have heq := fun w => eq0_run hhl w
      have Hhi := Lib.hid hhi
      have Hn := Lib.hid hn
      clear hhi hn hhl hal hbl
      obtain ⟨s0, s1, s2, s3, s4, s5, s6, s7⟩ := hs'.cells8
      by_cases hc : hi = 0
      · have hd : decide (hi = 0) = true := decide_eq_true hc
        have Hc := Lib.hid hc
        clear hc
        go_wp2_with (first
          | (go_at_call 99; refine (high_walk n _).mono ?_; rintro e w1 ⟨rfl, hb1⟩; rw [← Hhi.out]; obtain ⟨s0, s1, s2, s3, s4, s5, s6, s7⟩ := (hs'.below hb1 hsz).cells8; unfold U)
          | (go_at_call 100; refine (low_walk n _).mono ?_; rintro e w2 ⟨rfl, hb2⟩; rw [Hlow.out (Hiff.out.1 Hc.out)]; obtain ⟨y0, y1, y2, y3⟩ := ((hz.below hb1 (by omega)).below hb2 (by have := hb1.size; omega)).frees4; obtain ⟨z0, z1, z2, z3⟩ := ((hz.below hb1 (by omega)).below hb2 (by have := hb1.size; omega)).cells4; unfold U))
        have hlt : a * b < 2 ^ 256 := by rw [← Hn.out]; exact Hiff.out.1 Hc.out
        refine bodyPost_ret (v := .tuple #[.agg #[.int .u64 (limb n 0 : Nat), .int .u64 (limb n 1 : Nat), .int .u64 (limb n 2 : Nat), .int .u64 (limb n 3 : Nat)], .bool true]) (by simp [results, Try.results21, go_sem, z0, z1, z2, z3]) rfl (mulPost_yes hlt (by rw [← Hn.out]; rfl) (below_set4 ((hbel.trans (hb1.mono (by omega))).trans (hb2.mono (by have := hb1.size; omega))) (by omega)))
      · have hd : decide (hi = 0) = false := decide_eq_false hc
        have Hc := Lib.hid hc
        clear hc
        go_wp2_with (go_at_call 99; refine (high_walk n _).mono ?_; rintro e w1 ⟨rfl, hb1⟩; rw [← Hhi.out]; obtain ⟨y0, y1, y2, y3⟩ := (hz.below hb1 (by omega)).frees4; obtain ⟨z0, z1, z2, z3⟩ := (hz.below hb1 (by omega)).cells4; unfold U)
        have hge : ¬ a * b < 2 ^ 256 := by rw [← Hn.out]; exact fun h => Hc.out (Hiff.out.2 h)
        refine bodyPost_ret (v := .tuple #[.agg #[.int .u64 0, .int .u64 0, .int .u64 0, .int .u64 0], .bool false]) (by simp [results, Try.results21, go_sem, z0, z1, z2, z3]) rfl (mulPost_no hge (by rw [U_zero]) (below_set4 (hbel.trans (hb1.mono (by omega))) (by omega)))
end Go.Proofs.Ytcodlbfomfjmfaa
