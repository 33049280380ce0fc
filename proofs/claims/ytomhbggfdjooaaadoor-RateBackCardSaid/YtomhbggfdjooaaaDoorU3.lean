/- Equality of 256-bit numbers; u256.Cmp, Min, lowHalf, highHalf, walked. -/
import Derived.Test.YtomhbggfdjooaaaDoorU2
namespace Go.Proofs.YtomhbggfdjooaaaDoor
open Go.RowKit

theorem eqU (a0 a1 a2 a3 b0 b1 b2 b3 : Int) (w : World) : (Op.equalIn 10000 24 (.agg #[.int .u64 a0, .int .u64 a1, .int .u64 a2, .int .u64 a3]) (.agg #[.int .u64 b0, .int .u64 b1, .int .u64 b2, .int .u64 b3])).run Tryd.prog w =
   .ok (a0 == b0 && a1 == b1 && a2 == b2 && a3 == b3) w := by
  have u3 := Tryd.underlying22
  have aa := Tryd.isAgg22
  have z3 := Tryd.sizeOf22
  rw [show (10000 : Nat) = 9999 + 1 from rfl, Op.equalIn]
  simp only [Sem.run_bind, run_underlying Tryd.underlying24, Result.andThen_ok]
  simp only [Std.Legacy.Range.forIn_eq_forIn_range', Std.Legacy.Range.size, Nat.sub_zero, Nat.add_sub_cancel, Nat.div_one, List.range'_succ, List.range'_zero, List.forIn_cons, List.forIn_nil]
  go_simp
  by_cases h1 : a0 = b0 <;> by_cases h2 : a1 = b1 <;> by_cases h3 : a2 = b2 <;> by_cases h4 : a3 = b3 <;> simp [h1, h2, h3, h4]
theorem limbs_eq {a b : Nat} (ha : a < 2 ^ 256) (hb : b < 2 ^ 256) : ((limb a 0 : Int) == (limb b 0 : Int) && (limb a 1 : Int) == (limb b 1 : Int) && (limb a 2 : Int) == (limb b 2 : Int) && (limb a 3 : Int) == (limb b 3 : Int)) = decide (a = b) := by
  by_cases h : a = b
  · subst h; simp
  · rw [decide_eq_false h]
    rw [Bool.eq_false_iff]
    intro hh
    simp only [Bool.and_eq_true, beq_iff_eq, Int.ofNat_inj] at hh
    refine h ?_
    rw [← val4_limb ha, ← val4_limb hb]
    refine val_congr 4 fun i hi => ?_
    rcases (by omega : i = 0 ∨ i = 1 ∨ i = 2 ∨ i = 3) with rfl | rfl | rfl | rfl
    · exact hh.1.1.1
    · exact hh.1.1.2
    · exact hh.1.2
    · exact hh.2
/-- the walk's own form of '==' on two numbers -/
theorem eq_run {a b : Nat} (ha : a < 2 ^ 256) (hb : b < 2 ^ 256) (w : World) :
    (Op.equalIn 10000 24 (.agg #[.int .u64 (limb a 0 : Nat), .int .u64 (limb a 1 : Nat), .int .u64 (limb a 2 : Nat), .int .u64 (limb a 3 : Nat)]) (.agg #[.int .u64 (limb b 0 : Nat), .int .u64 (limb b 1 : Nat), .int .u64 (limb b 2 : Nat), .int .u64 (limb b 3 : Nat)])).run Tryd.prog w = .ok (decide (a = b)) w := by
  rw [eqU, limbs_eq ha hb]
theorem eq0_run {a : Nat} (ha : a < 2 ^ 256) (w : World) :
    (Op.equalIn 10000 24 (.agg #[.int .u64 (limb a 0 : Nat), .int .u64 (limb a 1 : Nat), .int .u64 (limb a 2 : Nat), .int .u64 (limb a 3 : Nat)]) (.agg #[.int .u64 0, .int .u64 0, .int .u64 0, .int .u64 0])).run Tryd.prog w = .ok (decide (a = 0)) w := by
  have h := eq_run ha (show 0 < 2 ^ 256 by decide) w
  rw [← h]
  congr

def cmpU (a b : Nat) : Int := if a = b then 0 else if b ≤ a then 1 else -1
def CmpPost (a b : Nat) (w : World) (e : Ending) (w' : World) : Prop := e = .returned (.int .i64 (cmpU a b)) ∧ Below w.heap.size w w'

theorem cmpPost_mk {a b : Nat} {w w' : World} {r : Int} (h : cmpU a b = r) (hb : Below w.heap.size w w') : CmpPost a b w (.returned (.int .i64 r)) w' := ⟨by rw [h], hb⟩

set_option maxRecDepth 100000 in
set_option maxHeartbeats 1000000 in
theorem cmp_walk (a b : Nat) (w : World) (hal : a < 2 ^ 256) (hbl : b < 2 ^ 256) :
    Calls Tryd.prog 23 #[U a, U b] w (CmpPost a b w) := by
  have heq := fun w => eq_run hal hbl w
  unfold U
  by_cases hab : a = b
  · have hd : decide (a = b) = true := decide_eq_true hab
    have hc : cmpU a b = 0 := if_pos hab
    have Hc := Lib.hid hc
    have Hab := Lib.hid hab
    clear hab hc
    go_enter Tryd.func23, Tryd.ntmps23
    go_wp2_with fail
    go_ret
    exact cmpPost_mk Hc.out (((Below.refl _ _).alloc (Nat.le_refl _) _).alloc (by simp only [World.size_alloc]; omega) _)
  · have hd : decide (a = b) = false := decide_eq_false hab
    have Hab := Lib.hid hab
    clear hab
    go_enter Tryd.func23, Tryd.ntmps23
    by_cases hle : b ≤ a
    · have hc : cmpU a b = 1 := by unfold cmpU; rw [if_neg Hab.out, if_pos hle]
      have Hc := Lib.hid hc
      have Hle := Lib.hid hle
      clear hc hle
      go_wp2_with (go_at_call 38; refine (sub_walk a b _ hal hbl).mono ?_; rintro e w1 ⟨rfl, hb1⟩; rw [if_pos Hle.out, decide_eq_true Hle.out]; unfold U)
      go_ret
      exact cmpPost_mk Hc.out (((((Below.refl _ _).alloc (Nat.le_refl _) _).alloc (by simp only [World.size_alloc]; omega) _).trans (hb1.mono (by simp only [World.size_alloc]; omega))).alloc (by have := hb1.size; simp only [World.size_alloc] at this; omega) _)
    · have hc : cmpU a b = -1 := by unfold cmpU; rw [if_neg Hab.out, if_neg hle]
      have Hc := Lib.hid hc
      have Hle := Lib.hid hle
      clear hc hle
      go_wp2_with (go_at_call 38; refine (sub_walk a b _ hal hbl).mono ?_; rintro e w1 ⟨rfl, hb1⟩; rw [if_neg Hle.out, decide_eq_false Hle.out]; unfold U)
      go_ret
      exact cmpPost_mk Hc.out (((((Below.refl _ _).alloc (Nat.le_refl _) _).alloc (by simp only [World.size_alloc]; omega) _).trans (hb1.mono (by simp only [World.size_alloc]; omega))).alloc (by have := hb1.size; simp only [World.size_alloc] at this; omega) _)

/-- what Min comes to -/
def MinPost (a b : Nat) (w : World) (e : Ending) (w' : World) : Prop := e = .returned (U (min a b)) ∧ Below w.heap.size w w'
theorem minPost_mk {a b m : Nat} {w w' : World} (h : min a b = m) (hb : Below w.heap.size w w') : MinPost a b w (.returned (U m)) w' := ⟨by rw [h], hb⟩

/-- eight words -/
def U8 (n : Nat) : Value := .agg #[.int .u64 (limb n 0 : Nat), .int .u64 (limb n 1 : Nat), .int .u64 (limb n 2 : Nat), .int .u64 (limb n 3 : Nat), .int .u64 (limb n 4 : Nat), .int .u64 (limb n 5 : Nat), .int .u64 (limb n 6 : Nat), .int .u64 (limb n 7 : Nat)]
theorem U8_of {f : Nat → Nat} (h : ∀ i, f i < 2 ^ 64) : (.agg #[.int .u64 (f 0 : Nat), .int .u64 (f 1 : Nat), .int .u64 (f 2 : Nat), .int .u64 (f 3 : Nat), .int .u64 (f 4 : Nat), .int .u64 (f 5 : Nat), .int .u64 (f 6 : Nat), .int .u64 (f 7 : Nat)] : Value) = U8 (val f 8) := by
  unfold U8
  rw [limb_val 8 (fun i _ => h i) 0 (by omega), limb_val 8 (fun i _ => h i) 1 (by omega), limb_val 8 (fun i _ => h i) 2 (by omega), limb_val 8 (fun i _ => h i) 3 (by omega),
    limb_val 8 (fun i _ => h i) 4 (by omega), limb_val 8 (fun i _ => h i) 5 (by omega), limb_val 8 (fun i _ => h i) 6 (by omega), limb_val 8 (fun i _ => h i) 7 (by omega)]
theorem limb_mod {n i k : Nat} (h : i < k) : limb (n % 2 ^ (64 * k)) i = limb n i := by
  unfold limb
  have e : 2 ^ (64 * k) = 2 ^ (64 * i) * (2 ^ 64 * 2 ^ (64 * (k - 1 - i))) := by rw [← Nat.pow_add, ← Nat.pow_add]; congr 1; omega
  rw [e, Nat.mod_mul_right_div_self, Nat.mod_mul_right_mod]
theorem limb_div (n i k : Nat) : limb (n / 2 ^ (64 * k)) i = limb n (k + i) := by
  unfold limb; rw [Nat.div_div_eq_div_mul, ← Nat.pow_add]; congr 3; omega
theorem U_low (n : Nat) : U (n % 2 ^ 256) = .agg #[.int .u64 (limb n 0 : Nat), .int .u64 (limb n 1 : Nat), .int .u64 (limb n 2 : Nat), .int .u64 (limb n 3 : Nat)] := by
  unfold U
  rw [limb_mod (k := 4) (by omega), limb_mod (k := 4) (by omega), limb_mod (k := 4) (by omega), limb_mod (k := 4) (by omega)]
theorem U_high (n : Nat) : U (n / 2 ^ 256) = .agg #[.int .u64 (limb n 4 : Nat), .int .u64 (limb n 5 : Nat), .int .u64 (limb n 6 : Nat), .int .u64 (limb n 7 : Nat)] := by
  unfold U
  rw [limb_div n 0 4, limb_div n 1 4, limb_div n 2 4, limb_div n 3 4]

def LowPost (n : Nat) (w : World) (e : Ending) (w' : World) : Prop := e = .returned (U (n % 2 ^ 256)) ∧ Below w.heap.size w w'
def HighPost (n : Nat) (w : World) (e : Ending) (w' : World) : Prop := e = .returned (U (n / 2 ^ 256)) ∧ Below w.heap.size w w'
set_option maxRecDepth 100000 in
theorem low_walk (n : Nat) (w : World) : Calls Tryd.prog 54 #[U8 n] w (LowPost n w) := by
  unfold U8
  go_enter Tryd.func54, Tryd.ntmps54
  go_wp2
  refine bodyPost_ret (v := .agg #[.int .u64 (limb n 0 : Nat), .int .u64 (limb n 1 : Nat), .int .u64 (limb n 2 : Nat), .int .u64 (limb n 3 : Nat)]) (by simp [results, Tryd.results54, go_sem]) rfl ⟨by rw [U_low], ?_⟩
  exact ((Below.refl _ _).alloc (Nat.le_refl _) _).alloc (by simp only [World.size_alloc]; omega) _
set_option maxRecDepth 100000 in
theorem high_walk (n : Nat) (w : World) : Calls Tryd.prog 56 #[U8 n] w (HighPost n w) := by
  unfold U8
  go_enter Tryd.func56, Tryd.ntmps56
  go_wp2
  refine bodyPost_ret (v := .agg #[.int .u64 (limb n 4 : Nat), .int .u64 (limb n 5 : Nat), .int .u64 (limb n 6 : Nat), .int .u64 (limb n 7 : Nat)]) (by simp [results, Tryd.results56, go_sem]) rfl ⟨by rw [U_high], ?_⟩
  exact ((Below.refl _ _).alloc (Nat.le_refl _) _).alloc (by simp only [World.size_alloc]; omega) _
end Go.Proofs.YtomhbggfdjooaaaDoor
