/- u256.Mul, walked. -/
import Derived.Test.YtoaepgiajooecaaGreatG22
import Derived.Test.YtoaepgiajooecaaGreatG20
import Derived.Test.YtoaepgiajooecaaGreatG03
import Derived.Test.YtoaepgiajooecaaGreatG21
namespace Go.Proofs.YtoaepgiajooecaaGreat
open Go.RowKit

def mh (x y : Nat) : Nat := x * y / 18446744073709551616
def ml (x y : Nat) : Nat := x * y % 18446744073709551616
theorem mul64_c (x y : Nat) (hx : x < 2 ^ 64) (hy : y < 2 ^ 64) (w : World) :
    Calls Tryz.prog 103 #[.int .u64 (x : Nat), .int .u64 (y : Nat)] w fun e w' => e = .returned (.tuple #[.int .u64 (mh x y : Nat), .int .u64 (ml x y : Nat)]) ∧ w' = w :=
  Tryz.bits_Mul64 x y hx hy w
theorem run_add64z (x y : Nat) (w : World) :
    (callFunc 102 #[.int .u64 (x : Nat), .int .u64 (y : Nat), .int .u64 0]).run Tryz.prog w =
      .ok (.value (.tuple #[.int .u64 (s64 x y 0 : Nat), .int .u64 (c64 x y 0 : Nat)])) w := run_add64n x y 0 (by omega) w
theorem ml_lt (x y : Nat) : ml x y < 2 ^ 64 := Nat.mod_lt _ (by decide)
theorem mh_le {x y : Nat} (hx : x < 2 ^ 64) (hy : y < 2 ^ 64) : mh x y + 2 ≤ 2 ^ 64 := by
  unfold mh
  have h1 : x * y ≤ (2 ^ 64 - 1) * (2 ^ 64 - 1) := Nat.mul_le_mul (by omega) (by omega)
  have h2 : x * y / 18446744073709551616 ≤ (2 ^ 64 - 1) * (2 ^ 64 - 1) / 18446744073709551616 := Nat.div_le_div_right h1
  have h3 : (2 ^ 64 - 1) * (2 ^ 64 - 1) / 18446744073709551616 = 18446744073709551614 := by decide
  omega
theorem mhl (x y : Nat) : mh x y * 2 ^ 64 + ml x y = x * y := by unfold mh ml; omega

theorem mul_step {x y d g : Nat} (hx : x < 2 ^ 64) (hy : y < 2 ^ 64) (hd : d < 2 ^ 64) (hg : g < 2 ^ 64) :
    mh x y + c64 (ml x y) d 0 + c64 g (s64 (ml x y) d 0) 0 < 2 ^ 64 ∧
    (mh x y + c64 (ml x y) d 0 + c64 g (s64 (ml x y) d 0) 0) * 2 ^ 64 + s64 g (s64 (ml x y) d 0) 0 = g + x * y + d := by
  have h1 := mhl x y
  have h2 := sc64 (ml x y) d 0
  have h3 := sc64 g (s64 (ml x y) d 0) 0
  have h4 : x * y ≤ (2 ^ 64 - 1) * (2 ^ 64 - 1) := Nat.mul_le_mul (by omega) (by omega)
  generalize s64 (ml x y) d 0 = s1 at *
  generalize s64 g s1 0 = s at *
  generalize c64 (ml x y) d 0 = c1 at *
  generalize c64 g s1 0 = c2 at *
  generalize x * y = xy at *
  omega
theorem mul_inner_math {x y d g s D v v' V0 vb P Q R M : Nat} (hv : v' + g * P = v + s * P) (h : v + d * P = V0 + x * vb * Q) (hs : D * M + s = g + x * y + d) (hP : P = R * Q) :
    v' + D * (M * P) = V0 + x * (vb + y * R) * Q := by
  have h1 := congrArg (· * P) hs
  simp only [Nat.add_mul, Nat.mul_assoc] at h1
  have e : x * (vb + y * R) * Q = x * vb * Q + x * (y * P) := by rw [hP, Nat.mul_add, Nat.add_mul, Nat.mul_assoc, Nat.mul_assoc, Nat.mul_assoc]
  rw [e, ← Nat.mul_assoc D]
  have e2 : D * M * P = D * (M * P) := Nat.mul_assoc _ _ _
  omega
theorem mul_outer_math {x d v v' V0 A b P Q : Nat} (hv : v' + 0 * P = v + d * P) (h : v + d * P = V0 + x * b * Q) (hV : V0 = A * b) : v' = (A + x * Q) * b := by
  have e : (A + x * Q) * b = A * b + x * b * Q := by rw [Nat.add_mul, Nat.mul_assoc, Nat.mul_assoc, Nat.mul_comm Q b]
  omega
theorem wrap_u64 {n : Nat} (h : n < 2 ^ 64) : IntKind.u64.wrap (n : Int) = (n : Int) := IntWalk.u64_in _ (by omega)
/-- the state at the head of Mul's outer loop -/
def MulOut (a b : Nat) (w : World) (i : Value) (wr : World) : Prop :=
  ∃ (k : Nat) (f : Nat → Nat), k ≤ 4 ∧ i = .int .i64 (k : Nat) ∧ (∀ j, f j < 2 ^ 64) ∧ (∀ j, k + 4 ≤ j → f j = 0) ∧ val f 8 = val (limb a) k * b ∧
    Arr .u64 wr w.heap.size 4 (limb a) ∧ Arr .u64 wr (w.heap.size + 1) 4 (limb b) ∧ Arr .u64 wr (w.heap.size + 1 + 1) 4 (fun _ => 0) ∧ Arr .u64 wr (w.heap.size + 1 + 1 + 1) 8 f ∧
    Below w.heap.size w wr ∧ w.heap.size + 1 + 1 + 1 < wr.heap.size
/-- the state at the head of its inner loop -/
def MulIn (a b : Nat) (w : World) (k V0 : Nat) (c i : Value) (wr : World) : Prop :=
  ∃ (j d : Nat) (f : Nat → Nat), j ≤ 4 ∧ i = .int .i64 (j : Nat) ∧ c = .int .u64 (d : Nat) ∧ d < 2 ^ 64 ∧ (∀ j, f j < 2 ^ 64) ∧ (∀ j, k + 4 ≤ j → f j = 0) ∧
    val f 8 + d * 2 ^ (64 * (k + j)) = V0 + limb a k * val (limb b) j * 2 ^ (64 * k) ∧
    Arr .u64 wr w.heap.size 4 (limb a) ∧ Arr .u64 wr (w.heap.size + 1) 4 (limb b) ∧ Arr .u64 wr (w.heap.size + 1 + 1) 4 (fun _ => 0) ∧ Arr .u64 wr (w.heap.size + 1 + 1 + 1) 8 f ∧
    Below w.heap.size w wr ∧ w.heap.size + 1 + 1 + 1 < wr.heap.size

def MulPost (a b : Nat) (w : World) (e : Ending) (w' : World) : Prop :=
  e = .returned (.tuple #[U (if a * b < 2 ^ 256 then a * b else 0), .bool (decide (a * b < 2 ^ 256))]) ∧ Below w.heap.size w w'

theorem mulPost_yes {a b : Nat} {w w' : World} {e : Ending} (h : a * b < 2 ^ 256) (he : e = .returned (.tuple #[U (a * b), .bool true])) (hw : Below w.heap.size w w') : MulPost a b w e w' := by
  unfold MulPost; rw [if_pos h, decide_eq_true h]; exact ⟨he, hw⟩
theorem mulPost_no {a b : Nat} {w w' : World} {e : Ending} (h : ¬ a * b < 2 ^ 256) (he : e = .returned (.tuple #[U 0, .bool false])) (hw : Below w.heap.size w w') : MulPost a b w e w' := by
  unfold MulPost; rw [if_neg h, decide_eq_false h]; exact ⟨he, hw⟩

end Go.Proofs.YtoaepgiajooecaaGreat

namespace Go.Proofs.YtoaepgiajooecaaGreat
open Go.RowKit

def shr0 (l r : Nat) : Nat := l / 2 ^ r
theorem or_join' {x l r : Nat} (hx : x < 2 ^ r) (hr : r ≤ 64) : bits BinOp.or IntKind.u64 (x : Int) (IntKind.u64.wrap ((l : Int) * 2 ^ r)) = ((shlLo x l r : Nat) : Int) := by
  have h64 : 18446744073709551616 = 2 ^ r * 2 ^ (64 - r) := by rw [← Nat.pow_add, show r + (64 - r) = 64 by omega]
  have hle : 2 ^ r ≤ 2 ^ 64 := Nat.pow_le_pow_right (by decide) (by omega)
  have hw : IntKind.u64.wrap ((l : Int) * 2 ^ r) = ((l * 2 ^ r % 18446744073709551616 : Nat) : Int) := by
    rw [IntKind.wrap_u64, Int.natCast_emod, Int.natCast_mul, Int.natCast_pow]; rfl
  rw [hw, u64_or_nat _ _ (by omega) (Nat.mod_lt _ (by decide)), Nat.or_comm, nat_join r _ _ ?_ hx, Nat.add_comm]
  · rfl
  · rw [h64, Nat.mod_mul_right_mod]; exact Nat.mul_mod_left _ _
theorem shr0_lt {l r : Nat} (hl : l < 2 ^ 64) (hr : r ≤ 64) : shr0 l r < 2 ^ (64 - r) := by
  unfold shr0
  refine (Nat.div_lt_iff_lt_mul (Nat.pow_pos (by decide))).2 ?_
  rw [← Nat.pow_add, show 64 - r + r = 64 by omega]; exact hl
theorem shr0_run (l r : Nat) : (l : Int) / 2 ^ r = ((shr0 l r : Nat) : Int) := by unfold shr0; rw [Int.natCast_ediv, Int.natCast_pow]; rfl
/-- a word of a number that is shifted right -/
theorem limb_shr (a j w : Nat) {r : Nat} (hr : r < 64) : limb (a / 2 ^ (64 * w + r)) j = shlLo (shr0 (limb a (j + w)) r) (limb a (j + w + 1)) (64 - r) := by
  have e1 : a / 2 ^ (64 * w + r) / 2 ^ (64 * j) = a / 2 ^ (64 * (j + w)) / 2 ^ r := by
    rw [Nat.div_div_eq_div_mul, Nat.div_div_eq_div_mul, ← Nat.pow_add, ← Nat.pow_add]; congr 2; omega
  have e2 : limb a (j + w + 1) = a / 2 ^ (64 * (j + w)) / 2 ^ 64 % 2 ^ 64 := by
    unfold limb; rw [Nat.div_div_eq_div_mul, ← Nat.pow_add]; congr 3
  have e3 : limb a (j + w) = a / 2 ^ (64 * (j + w)) % 2 ^ 64 := rfl
  rw [e2, e3]
  unfold limb shlLo shr0
  rw [e1]
  generalize a / 2 ^ (64 * (j + w)) = X
  have h64 : (18446744073709551616 : Nat) = 2 ^ (64 - r) * 2 ^ r := by rw [← Nat.pow_add, show 64 - r + r = 64 by omega]
  have hpr : 0 < 2 ^ r := Nat.pow_pos (by decide)
  have hps : 0 < 2 ^ (64 - r) := Nat.pow_pos (by decide)
  show X / 2 ^ r % 18446744073709551616 = X % 18446744073709551616 / 2 ^ r + X / 18446744073709551616 % 18446744073709551616 * 2 ^ (64 - r) % 18446744073709551616
  have a1 : X % 18446744073709551616 / 2 ^ r = X / 2 ^ r % 2 ^ (64 - r) := by rw [h64, Nat.mul_comm, Nat.mod_mul_right_div_self]
  have a2 : X / 18446744073709551616 = X / 2 ^ r / 2 ^ (64 - r) := by rw [h64, Nat.mul_comm, Nat.div_div_eq_div_mul]
  rw [a1, a2]
  generalize X / 2 ^ r = Y
  have a3 : Y / 2 ^ (64 - r) % 18446744073709551616 * 2 ^ (64 - r) % 18446744073709551616 = Y / 2 ^ (64 - r) % 2 ^ r * 2 ^ (64 - r) := by
    rw [show Y / 2 ^ (64 - r) % 18446744073709551616 * 2 ^ (64 - r) % 18446744073709551616 = Y / 2 ^ (64 - r) % 18446744073709551616 * 2 ^ (64 - r) % (2 ^ r * 2 ^ (64 - r)) by rw [Nat.mul_comm (2 ^ r), ← h64]]
    rw [Nat.mul_mod_mul_right]
    congr 1
    rw [h64, Nat.mod_mul_left_mod]
  rw [a3, h64, Nat.mod_mul, Nat.mul_comm (2 ^ (64 - r))]
theorem limb_top {a i : Nat} (ha : a < 2 ^ 256) (hi : 4 ≤ i) : limb a i = 0 := by
  unfold limb
  rw [Nat.div_eq_of_lt (Nat.lt_of_lt_of_le ha (Nat.pow_le_pow_right (by decide) (by omega)))]
theorem shlLo_zero (x r : Nat) : shlLo x 0 r = x := by unfold shlLo; simp

def ShrPost (a by_ : Nat) (w : World) (e : Ending) (w' : World) : Prop := e = .returned (U (a / 2 ^ by_)) ∧ Below w.heap.size w w'
def ShrRel (a by_ words : Nat) (w : World) (i : Value) (wr : World) : Prop :=
  ∃ (k : Nat) (f : Nat → Nat), k ≤ 4 - words ∧ i = .int .i64 (k : Nat) ∧ (∀ j, j < k → f j = limb (a / 2 ^ by_) j) ∧ (∀ j, k ≤ j → f j = 0) ∧
    Arr .u64 wr w.heap.size 4 (limb a) ∧ Arr .u64 wr (w.heap.size + 1) 4 (fun _ => 0) ∧ Arr .u64 wr (w.heap.size + 1 + 1) 4 f ∧
    Below w.heap.size w wr ∧ w.heap.size + 1 + 1 < wr.heap.size

set_option maxRecDepth 100000 in
set_option maxHeartbeats 1000000 in
theorem shr_walk (a by_ : Nat) (w : World) (hal : a < 2 ^ 256) (hby : by_ < 256) : Calls Tryz.prog 99 #[U a, .int .i64 (by_ : Nat)] w (ShrPost a by_ w) := by
  have Hal := Lib.hid hal
  clear hal
  obtain ⟨words, hw⟩ : ∃ n, n = by_ / 64 := ⟨_, rfl⟩
  obtain ⟨rest, hr⟩ : ∃ n, n = by_ % 64 := ⟨_, rfl⟩
  have e1 : (by_ : Int) / 64 = (words : Int) := by omega
  have e2 : (by_ : Int).tmod 64 = (rest : Int) := by rw [Int.tmod_eq_emod_of_nonneg (by omega)]; omega
  have e3 : (by_ : Int).tdiv 64 = (words : Int) := by rw [Int.tdiv_eq_ediv_of_nonneg (by omega)]; omega
  have hw4 : words < 4 := by omega
  have hr64 : rest < 64 := by omega
  have Hby : Hid (by_ = 64 * words + rest) := Lib.hid (by omega)
  clear hw hr
  unfold U
  go_enter Tryz.func99, Tryz.ntmps99
  go_wp2
  go_loopw [15] (ShrRel a by_ words w) (fun i _ => 4 - (intOf i).toNat)
  case atStart =>
    refine ⟨0, fun _ => 0, by omega, rfl, by simp, by simp, ?_, ?_, ?_, ?_, ?_⟩
    · exact ((Arr.new4 (f := limb a) rfl).alloc _).alloc _
    · exact (Arr.new4 (f := fun _ => 0) (by simp)).alloc _
    · exact Arr.new4 (f := fun _ => 0) (by simp)
    · exact (((Below.refl _ _).alloc (Nat.le_refl _) _).alloc (by simp only [World.size_alloc]; omega) _).alloc (by simp only [World.size_alloc]; omega) _
    · simp
  case round =>
    obtain ⟨k, f, hk, rfl, hf, hf0, ha, hz, hs, hbel, hsz⟩ := hrel
    by_cases hlt : k < 4 - words
    · have a1 := ha.cell (k + words) (by omega)
      have f1 := hs.free k (by omega)
      have f2 := hs.cell k (by omega)
      have q3 : (k : Int) + (words : Int) < 4 := by omega
      have t1 : (k : Int) < 4 - (words : Int) := by omega
      have r1 := shr0_run (limb a (k + words)) rest
      have o1 := or_join' (x := shr0 (limb a (k + words)) rest) (l := limb a (k + words + 1)) (r := 64 - rest) (shr0_lt (limb_lt _ _) (by omega)) (by omega)
      have Hf := Lib.hid hf
      have Hf0 := Lib.hid hf0
      clear hf hf0
      by_cases hn : k + words + 1 < 4
      · have q4 : (k : Int) + (words : Int) + 1 < 4 := by omega
        have a2 := ha.cell (k + words + 1) hn
        go_wp2
        go_region
        go_wp2
        go_roundw
        case rel =>
          refine ⟨k + 1, upd (upd f k (shr0 (limb a (k + words)) rest)) k (shlLo (shr0 (limb a (k + words)) rest) (limb a (k + words + 1)) (64 - rest)), by omega, by go_num, ?_, ?_, ?_, ?_, ?_, ?_, ?_⟩
          · intro i hi
            by_cases hik : i = k
            · subst hik; rw [upd_same, Hby.out, limb_shr _ _ _ hr64]
            · rw [upd_ne _ hik, upd_ne _ hik]; exact Hf.out i (by omega)
          · intro i hi; rw [upd_ne _ (by omega), upd_ne _ (by omega)]; exact Hf0.out i (by omega)
          · exact ((ha.drew).set_far (by omega)).set_far (by omega)
          · exact ((hz.drew).set_far (by omega)).set_far (by omega)
          · exact ((hs.drew).set (by omega)).set (by omega)
          · exact ((below_drewN hbel 1).setCell (by simp; omega) _).setCell (by simp; omega) _
          · simp; omega
        case measure => simp [intOf]; omega
      · have q4 : ¬ (k : Int) + (words : Int) + 1 < 4 := by omega
        go_wp2
        go_roundw
        case rel =>
          refine ⟨k + 1, upd f k (shr0 (limb a (k + words)) rest), by omega, by go_num, ?_, ?_, ?_, ?_, ?_, ?_, ?_⟩
          · intro i hi
            by_cases hik : i = k
            · subst hik; rw [upd_same, Hby.out, limb_shr _ _ _ hr64, limb_top Hal.out (show 4 ≤ i + words + 1 by omega), shlLo_zero]
            · rw [upd_ne _ hik]; exact Hf.out i (by omega)
          · intro i hi; rw [upd_ne _ (by omega)]; exact Hf0.out i (by omega)
          · exact ha.set_far (by omega)
          · exact hz.set_far (by omega)
          · exact hs.set (by omega)
          · exact hbel.setCell (by simp; omega) _
          · simp; omega
        case measure => simp [intOf]; omega
    · obtain rfl : k = 4 - words := by omega
      have t1 : ¬ ((4 - words : Nat) : Int) < 4 - (words : Int) := by omega
      have hs' : Arr .u64 wr (w.heap.size + 1 + 1) 4 (limb (a / 2 ^ by_)) := hs.congr fun i hi => by
        by_cases hik : i < 4 - words
        · exact hf i hik
        · rw [hf0 i (by omega), Hby.out, limb_shr _ _ _ hr64, limb_top Hal.out (show 4 ≤ i + words by omega), limb_top Hal.out (show 4 ≤ i + words + 1 by omega), shlLo_zero]; simp [shr0]
      obtain ⟨n, hn⟩ : ∃ n, n = a / 2 ^ by_ := ⟨_, rfl⟩
      rw [← hn] at hs'
      have Hn := Lib.hid hn
      clear hn hf hf0 hs
      obtain ⟨s0, s1, s2, s3⟩ := hs'.cells4
      obtain ⟨y0, y1, y2, y3⟩ := hz.frees4
      obtain ⟨z0, z1, z2, z3⟩ := hz.cells4
      go_wp2
      refine bodyPost_ret (v := .agg #[.int .u64 (limb n 0 : Nat), .int .u64 (limb n 1 : Nat), .int .u64 (limb n 2 : Nat), .int .u64 (limb n 3 : Nat)]) (by simp [results, Tryz.results99, go_sem, z0, z1, z2, z3]) rfl ⟨by rw [← Hn.out]; rfl, ?_⟩
      exact below_set4 hbel (by omega)
end Go.Proofs.YtoaepgiajooecaaGreat

namespace Go.Proofs.YtoaepgiajooecaaGreat

/-- What a guess of a quotient's digit keeps: u is the dividend's upper part, n its next digit (below B), y = y1 * B + y0. -/
structure Guess (B u n y1 y0 q r : Nat) : Prop where
  sum : q * y1 + r = u
  over : (u * B + n) / (y1 * B + y0) ≤ q

theorem guess_first {B u n y1 y0 : Nat} (hy1 : 0 < y1) (hB : 0 < B) (hn : n < B) : Guess B u n y1 y0 (u / y1) (u % y1) where
  sum := by rw [Nat.mul_comm]; exact Nat.div_add_mod u y1
  over := by
    refine Nat.le_of_lt_succ ((Nat.div_lt_iff_lt_mul (Nat.add_pos_left (Nat.mul_pos hy1 hB) _)).2 ?_)
    have h1 := Nat.div_add_mod u y1
    have h2 := Nat.mod_lt u hy1
    have h3 : u + 1 ≤ (u / y1 + 1) * y1 := by rw [Nat.add_mul, Nat.one_mul, Nat.mul_comm (u / y1)]; omega
    have h4 := Nat.mul_le_mul_right B h3
    rw [Nat.add_mul, Nat.one_mul] at h4
    have h5 : (u / y1 + 1) * y1 * B ≤ (u / y1 + 1) * (y1 * B + y0) := by rw [Nat.mul_assoc]; exact Nat.mul_le_mul_left _ (by omega)
    show _ < (u / y1 + 1) * _
    omega

/-- the guess is too great: one less still is at least the quotient -/
theorem Guess.less {B u n y1 y0 q r : Nat} (g : Guess B u n y1 y0 q r) (hbig : (u * B + n) / (y1 * B + y0) < q) : Guess B u n y1 y0 (q - 1) (r + y1) where
  sum := by
    have := g.sum
    have hq : 0 < q := Nat.lt_of_le_of_lt (Nat.zero_le _) hbig
    clear hbig
    obtain ⟨k, rfl⟩ : ∃ k, q = k + 1 := ⟨q - 1, by omega⟩
    rw [Nat.add_mul] at this; simp only [Nat.add_sub_cancel]; omega
  over := by
    generalize (u * B + n) / (y1 * B + y0) = x at *
    omega

theorem Guess.big_of_test {B u n y1 y0 q r : Nat} (g : Guess B u n y1 y0 q r) (hy : 0 < y1 * B + y0) (ht : r * B + n < q * y0) : (u * B + n) / (y1 * B + y0) < q := by
  refine (Nat.div_lt_iff_lt_mul hy).2 ?_
  have h := g.sum
  have h1 := congrArg (· * B) h
  simp only [Nat.add_mul, Nat.mul_assoc] at h1
  rw [Nat.mul_add]
  omega
theorem Guess.exact_of_test {B u n y1 y0 q r : Nat} (g : Guess B u n y1 y0 q r) (hy : 0 < y1 * B + y0) (ht : q * y0 ≤ r * B + n) : q = (u * B + n) / (y1 * B + y0) := by
  refine Nat.le_antisymm ((Nat.le_div_iff_mul_le hy).2 ?_) g.over
  have h := g.sum
  have h1 := congrArg (· * B) h
  simp only [Nat.add_mul, Nat.mul_assoc] at h1
  rw [Nat.mul_add]
  omega
theorem quot_lt {B u n y : Nat} (hu : u < y) (hn : n < B) : (u * B + n) / y < B := by
  refine (Nat.div_lt_iff_lt_mul (by omega)).2 ?_
  have h := Nat.mul_le_mul_right B (show u + 1 ≤ y by omega)
  rw [Nat.add_mul, Nat.one_mul, Nat.mul_comm y] at h
  omega

/-- a quotient in two digits -/
theorem two_digits {B u n1 n0 y : Nat} (hy : 0 < y) (hn0 : n0 < B) :
    (u * B * B + (n1 * B + n0)) / y = (u * B + n1) / y * B + ((u * B + n1) % y * B + n0) / y ∧ (u * B * B + (n1 * B + n0)) % y = ((u * B + n1) % y * B + n0) % y := by
  have e : u * B * B + (n1 * B + n0) = y * ((u * B + n1) / y * B) + ((u * B + n1) % y * B + n0) := by
    have h := Nat.div_add_mod (u * B + n1) y
    have h1 := congrArg (· * B) h
    simp only [Nat.add_mul, Nat.mul_assoc] at h1
    rw [Nat.mul_assoc u B B, ← Nat.mul_assoc y] at *
    omega
  constructor
  · rw [e, Nat.mul_add_div hy]
  · rw [e, Nat.mul_add_mod]

/-- what is left of a word's quotient, when the word was guessed: X = guess * D + left, or short of it by less than M -/
theorem word_over {R n D R3 R2 D3 P : Nat} (hP : 0 < P) (hR : R * (18446744073709551616) + n < (R3 * 18446744073709551616 + R2 + 1) * P) (hD : D3 * P ≤ D) (hD3 : 0 < D3) :
    (R * 18446744073709551616 + n) / D ≤ (R3 * 18446744073709551616 + R2) / D3 := by
  refine (Nat.le_div_iff_mul_le hD3).2 ?_
  have hD0 : 0 < D := Nat.lt_of_lt_of_le (Nat.mul_pos hD3 hP) hD
  have h1 := Nat.div_mul_le_self (R * 18446744073709551616 + n) D
  have h2 := Nat.mul_le_mul_left ((R * 18446744073709551616 + n) / D) hD
  have h3 : (R * 18446744073709551616 + n) / D * D3 * P < (R3 * 18446744073709551616 + R2 + 1) * P := by rw [Nat.mul_assoc]; omega
  have h4 := Nat.lt_of_mul_lt_mul_right h3
  omega

end Go.Proofs.YtoaepgiajooecaaGreat
