/- u256.Sub, walked: a contract over natural numbers. -/
import Derived.Test.YtnjcnlbphaodcaaGreatProg
import Derived.Test.YtnjcnlbphaodcaaGreatG00
import Derived.Laws.Externs
import Derived.Lib.Hide
namespace Go.Proofs.YtnjcnlbphaodcaaGreat
open Go.RowKit

def r64 (x y c : Nat) : Nat := (x + 18446744073709551616 - y - c) % 18446744073709551616
def b64 (x y c : Nat) : Nat := if x < y + c then 1 else 0
theorem run_sub64n (x y b : Nat) (hb : b ≤ 1) (w : World) :
    (callFunc 75 #[.int .u64 (x : Nat), .int .u64 (y : Nat), .int .u64 (b : Nat)]).run Tryz.prog w =
      .ok (.value (.tuple #[.int .u64 (r64 x y b : Nat), .int .u64 (b64 x y b : Nat)])) w := by
  rw [run_callFunc_extern (fn := Tryz.f75) (by kernel_rfl) (by kernel_rfl) (by kernel_rfl) (by kernel_rfl) (e := fun args => do
    let (x, y, b) ← Extern.MathBitsCarry.three "Sub64" args
    pure (Extern.MathBitsCarry.pair ((x + Extern.MathBitsCarry.m64 - y - b) % Extern.MathBitsCarry.m64) (if x < y + b then 1 else 0))) (by kernel_rfl)]
  have : b = 0 ∨ b = 1 := by omega
  rcases this with rfl | rfl <;> rfl
theorem r64_lt (x y c : Nat) : r64 x y c < 2 ^ 64 := by unfold r64; omega
theorem b64_le (x y c : Nat) : b64 x y c ≤ 1 := by unfold b64; split <;> omega
theorem rb64 (x y c : Nat) (hx : x < 2 ^ 64) (hy : y < 2 ^ 64) (hc : c ≤ 1) : r64 x y c + y + c = x + b64 x y c * 2 ^ 64 := by unfold r64 b64; split <;> omega

/-- what Sub comes to -/
def SubPost (a b : Nat) (w : World) (e : Ending) (w' : World) : Prop :=
  e = .returned (.tuple #[U (if b ≤ a then a - b else 0), .bool (decide (b ≤ a))]) ∧ Below w.heap.size w w'
theorem subPost_yes {a b : Nat} {w w' : World} {e : Ending} (h : b ≤ a) (he : e = .returned (.tuple #[U (a - b), .bool true])) (hw : Below w.heap.size w w') : SubPost a b w e w' := by
  unfold SubPost; rw [if_pos h, decide_eq_true h]; exact ⟨he, hw⟩
theorem subPost_no {a b : Nat} {w w' : World} {e : Ending} (h : ¬ b ≤ a) (he : e = .returned (.tuple #[U 0, .bool false])) (hw : Below w.heap.size w w') : SubPost a b w e w' := by
  unfold SubPost; rw [if_neg h, decide_eq_false h]; exact ⟨he, hw⟩
/-- the state at the head of Sub's loop -/
def SubRel (a b : Nat) (w : World) (c i : Value) (wr : World) : Prop :=
  ∃ (k d : Nat) (f : Nat → Nat), k ≤ 4 ∧ i = .int .i64 (k : Nat) ∧ c = .int .u64 (d : Nat) ∧ d ≤ 1 ∧ (∀ j, f j < 2 ^ 64) ∧
    val f k + val (limb b) k = val (limb a) k + d * 2 ^ (64 * k) ∧
    Arr .u64 wr w.heap.size 4 (limb a) ∧ Arr .u64 wr (w.heap.size + 1) 4 (limb b) ∧ Arr .u64 wr (w.heap.size + 1 + 1) 4 (fun _ => 0) ∧ Arr .u64 wr (w.heap.size + 1 + 1 + 1) 4 f ∧
    Below w.heap.size w wr ∧ w.heap.size + 1 + 1 + 1 < wr.heap.size

set_option maxRecDepth 100000 in
set_option maxHeartbeats 1000000 in
theorem sub_walk (a b : Nat) (w : World) (hal : a < 2 ^ 256) (hbl : b < 2 ^ 256) :
    Calls Tryz.prog 55 #[U a, U b] w (SubPost a b w) := by
  have hsub := run_sub64n
  unfold U
  go_enter Tryz.func55, Tryz.ntmps55
  go_wp2
  go_loopw [7, 9] (SubRel a b w) (fun _ i _ => 4 - (intOf i).toNat)
  case atStart =>
    refine ⟨0, 0, fun _ => 0, by omega, rfl, rfl, by omega, by simp, by simp [val], ?_, ?_, ?_, ?_, ?_, ?_⟩
    · exact (((Arr.new4 (f := limb a) rfl).alloc _).alloc _).alloc _
    · exact ((Arr.new4 (f := limb b) (by simp)).alloc _).alloc _
    · exact (Arr.new4 (f := fun _ => 0) (by simp)).alloc _
    · exact Arr.new4 (f := fun _ => 0) (by simp)
    · exact ((((Below.refl _ _).alloc (Nat.le_refl _) _).alloc (by simp only [World.size_alloc]; omega) _).alloc (by simp only [World.size_alloc]; omega) _).alloc (by simp only [World.size_alloc]; omega) _
    · simp
  case round =>
    obtain ⟨k, d, f, hk, rfl, rfl, hd, hf, hv, ha, hb, hz, hs, hbel, hsz⟩ := hrel
    by_cases hlt : k < 4
    · have a1 := ha.cell k hlt
      have b1 := hb.cell k hlt
      have f1 := hs.free k hlt
      have f2 := hs.cell k hlt
      go_wp2
      go_region_with (fail)
      all_goals
        go_wp2
        go_roundw
        case rel =>
          refine ⟨k + 1, b64 (limb a k) (limb b k) d, upd f k (r64 (limb a k) (limb b k) d), by omega, by go_num, rfl, b64_le _ _ _, upd_lt hf (r64_lt _ _ _), ?_, ?_, ?_, ?_, ?_, ?_, ?_⟩
          · rw [val_upd_succ, pow_succ64]
            have h1 := congrArg (· * 2 ^ (64 * k)) (rb64 (limb a k) (limb b k) d (limb_lt a k) (limb_lt b k) hd)
            simp only [val]
            simp only [Nat.add_mul, Nat.mul_assoc] at h1
            omega
          · exact ha.drew.set_far (by omega)
          · exact hb.drew.set_far (by omega)
          · exact hz.drew.set_far (by omega)
          · exact hs.drew.set hlt
          · exact (below_drewN hbel 1).setCell (by simp; omega) _
          · simp; omega
        case measure => simp [intOf]; omega
    · obtain rfl : k = 4 := by omega
      have f0 := hs.cell 0 (by omega)
      have f1 := hs.cell 1 (by omega)
      have f2 := hs.cell 2 (by omega)
      have f3 := hs.cell 3 (by omega)
      have z0 := hz.cell 0 (by omega)
      have z1 := hz.cell 1 (by omega)
      have z2 := hz.cell 2 (by omega)
      have z3 := hz.cell 3 (by omega)
      have y0 := hz.free 0 (by omega)
      have y1 := hz.free 1 (by omega)
      have y2 := hz.free 2 (by omega)
      have y3 := hz.free 3 (by omega)
      have hv4 : val f 4 + b = a + d * 2 ^ 256 := by rw [val4_limb hal, val4_limb hbl] at hv; exact hv
      have hfl := val_lt 4 (fun i _ => hf i)
      have Hv := Lib.hid hv4
      have Hfl := Lib.hid hfl
      clear hv hv4 hfl
      go_wp2
      · have hd' : (d : Int) ≠ 0 := by simpa using ‹((d : Int) != 0) = true›
        have hge : ¬ b ≤ a := by have := Hv.out; have := Hfl.out; have := Nat.mul_le_mul_right (2 ^ 256) (show 1 ≤ d by omega); omega
        refine bodyPost_ret (v := .tuple #[.agg #[.int .u64 0, .int .u64 0, .int .u64 0, .int .u64 0], .bool false]) (by simp [results, Tryz.results55, go_sem, z0, z1, z2, z3]) rfl (subPost_no hge (by rw [U_zero]) (below_set4 hbel (by omega)))
      · have hd' : (d : Int) = 0 := by simpa using ‹((d : Int) != 0) = false›
        have hd0 : d = 0 := by omega
        have hlt : b ≤ a := by have := Hv.out; have := Hfl.out; subst hd0; omega
        have hab : a - b = val f 4 := by have := Hv.out; subst hd0; omega
        refine bodyPost_ret (v := .tuple #[.agg #[.int .u64 (f 0 : Nat), .int .u64 (f 1 : Nat), .int .u64 (f 2 : Nat), .int .u64 (f 3 : Nat)], .bool true]) (by simp [results, Tryz.results55, go_sem, z0, z1, z2, z3]) rfl (subPost_yes hlt (by rw [hab, U_of hf]) (below_set4 hbel (by omega)))
end Go.Proofs.YtnjcnlbphaodcaaGreat

namespace Go.Proofs.YtnjcnlbphaodcaaGreat
open Go.RowKit

theorem eqU (a0 a1 a2 a3 b0 b1 b2 b3 : Int) (w : World) : (Op.equalIn 10000 24 (.agg #[.int .u64 a0, .int .u64 a1, .int .u64 a2, .int .u64 a3]) (.agg #[.int .u64 b0, .int .u64 b1, .int .u64 b2, .int .u64 b3])).run Tryz.prog w =
   .ok (a0 == b0 && a1 == b1 && a2 == b2 && a3 == b3) w := by
  have u3 := Tryz.underlying22
  have aa := Tryz.isAgg22
  have z3 := Tryz.sizeOf22
  rw [show (10000 : Nat) = 9999 + 1 from rfl, Op.equalIn]
  simp only [Sem.run_bind, run_underlying Tryz.underlying24, Result.andThen_ok]
  simp only [Std.Legacy.Range.forIn_eq_forIn_range', Std.Legacy.Range.size, Nat.sub_zero, Nat.add_sub_cancel, Nat.div_one, List.range'_succ, List.range'_zero, List.forIn_cons, List.forIn_nil]
  go_simp
  by_cases h1 : a0 = b0 <;> by_cases h2 : a1 = b1 <;> by_cases h3 : a2 = b2 <;> by_cases h4 : a3 = b3 <;> simp [h1, h2, h3, h4]
theorem limbs_eq {a b : Nat} (ha : a < 2 ^ 256) (hb : b < 2 ^ 256) : ((limb a 0 : Int) == (limb b 0 : Int) && (limb a 1 : Int) == (limb b 1 : Int) && (limb a 2 : Int) == (limb b 2 : Int) && (limb a 3 : Int) == (limb b 3 : Int)) = decide (a = b) := by
  by_cases h : a = b
  · subst h; simp
  · rw [decide_eq_false h]
    rw [Bool.eq_false_iff]
    intro hh
    simp only [Bool.and_eq_true, beq_iff_eq, Int.ofNat_inj] at hh
    refine h ?_
    rw [← val4_limb ha, ← val4_limb hb]
    refine val_congr 4 fun i hi => ?_
    rcases (by omega : i = 0 ∨ i = 1 ∨ i = 2 ∨ i = 3) with rfl | rfl | rfl | rfl
    · exact hh.1.1.1
    · exact hh.1.1.2
    · exact hh.1.2
    · exact hh.2
/-- the walk's own form of '==' on two numbers -/
theorem eq_run {a b : Nat} (ha : a < 2 ^ 256) (hb : b < 2 ^ 256) (w : World) :
    (Op.equalIn 10000 24 (.agg #[.int .u64 (limb a 0 : Nat), .int .u64 (limb a 1 : Nat), .int .u64 (limb a 2 : Nat), .int .u64 (limb a 3 : Nat)]) (.agg #[.int .u64 (limb b 0 : Nat), .int .u64 (limb b 1 : Nat), .int .u64 (limb b 2 : Nat), .int .u64 (limb b 3 : Nat)])).run Tryz.prog w = .ok (decide (a = b)) w := by
  rw [eqU, limbs_eq ha hb]
theorem eq0_run {a : Nat} (ha : a < 2 ^ 256) (w : World) :
    (Op.equalIn 10000 24 (.agg #[.int .u64 (limb a 0 : Nat), .int .u64 (limb a 1 : Nat), .int .u64 (limb a 2 : Nat), .int .u64 (limb a 3 : Nat)]) (.agg #[.int .u64 0, .int .u64 0, .int .u64 0, .int .u64 0])).run Tryz.prog w = .ok (decide (a = 0)) w := by
  have h := eq_run ha (show 0 < 2 ^ 256 by decide) w
  rw [← h]
  congr

def cmpU (a b : Nat) : Int := if a = b then 0 else if b ≤ a then 1 else -1
def CmpPost (a b : Nat) (w : World) (e : Ending) (w' : World) : Prop := e = .returned (.int .i64 (cmpU a b)) ∧ Below w.heap.size w w'

theorem cmpPost_mk {a b : Nat} {w w' : World} {r : Int} (h : cmpU a b = r) (hb : Below w.heap.size w w') : CmpPost a b w (.returned (.int .i64 r)) w' := ⟨by rw [h], hb⟩

set_option maxRecDepth 100000 in
set_option maxHeartbeats 1000000 in
theorem cmp_walk (a b : Nat) (w : World) (hal : a < 2 ^ 256) (hbl : b < 2 ^ 256) :
    Calls Tryz.prog 77 #[U a, U b] w (CmpPost a b w) := by
  have heq := fun w => eq_run hal hbl w
  unfold U
  by_cases hab : a = b
  · have hd : decide (a = b) = true := decide_eq_true hab
    have hc : cmpU a b = 0 := if_pos hab
    have Hc := Lib.hid hc
    have Hab := Lib.hid hab
    clear hab hc
    go_enter Tryz.func77, Tryz.ntmps77
    go_wp2_with fail
    go_ret
    exact cmpPost_mk Hc.out (((Below.refl _ _).alloc (Nat.le_refl _) _).alloc (by simp only [World.size_alloc]; omega) _)
  · have hd : decide (a = b) = false := decide_eq_false hab
    have Hab := Lib.hid hab
    clear hab
    go_enter Tryz.func77, Tryz.ntmps77
    by_cases hle : b ≤ a
    · have hc : cmpU a b = 1 := by unfold cmpU; rw [if_neg Hab.out, if_pos hle]
      have Hc := Lib.hid hc
      have Hle := Lib.hid hle
      clear hc hle
      go_wp2_with (go_at_call 55; refine (sub_walk a b _ hal hbl).mono ?_; rintro e w1 ⟨rfl, hb1⟩; rw [if_pos Hle.out, decide_eq_true Hle.out]; unfold U)
      go_ret
      exact cmpPost_mk Hc.out (((((Below.refl _ _).alloc (Nat.le_refl _) _).alloc (by simp only [World.size_alloc]; omega) _).trans (hb1.mono (by simp only [World.size_alloc]; omega))).alloc (by have := hb1.size; simp only [World.size_alloc] at this; omega) _)
    · have hc : cmpU a b = -1 := by unfold cmpU; rw [if_neg Hab.out, if_neg hle]
      have Hc := Lib.hid hc
      have Hle := Lib.hid hle
      clear hc hle
      go_wp2_with (go_at_call 55; refine (sub_walk a b _ hal hbl).mono ?_; rintro e w1 ⟨rfl, hb1⟩; rw [if_neg Hle.out, decide_eq_false Hle.out]; unfold U)
      go_ret
      exact cmpPost_mk Hc.out (((((Below.refl _ _).alloc (Nat.le_refl _) _).alloc (by simp only [World.size_alloc]; omega) _).trans (hb1.mono (by simp only [World.size_alloc]; omega))).alloc (by have := hb1.size; simp only [World.size_alloc] at this; omega) _)

/-- what Min comes to -/
def MinPost (a b : Nat) (w : World) (e : Ending) (w' : World) : Prop := e = .returned (U (min a b)) ∧ Below w.heap.size w w'
theorem minPost_mk {a b m : Nat} {w w' : World} (h : min a b = m) (hb : Below w.heap.size w w') : MinPost a b w (.returned (U m)) w' := ⟨by rw [h], hb⟩

/-- eight words -/
def U8 (n : Nat) : Value := .agg #[.int .u64 (limb n 0 : Nat), .int .u64 (limb n 1 : Nat), .int .u64 (limb n 2 : Nat), .int .u64 (limb n 3 : Nat), .int .u64 (limb n 4 : Nat), .int .u64 (limb n 5 : Nat), .int .u64 (limb n 6 : Nat), .int .u64 (limb n 7 : Nat)]
theorem U8_of {f : Nat → Nat} (h : ∀ i, f i < 2 ^ 64) : (.agg #[.int .u64 (f 0 : Nat), .int .u64 (f 1 : Nat), .int .u64 (f 2 : Nat), .int .u64 (f 3 : Nat), .int .u64 (f 4 : Nat), .int .u64 (f 5 : Nat), .int .u64 (f 6 : Nat), .int .u64 (f 7 : Nat)] : Value) = U8 (val f 8) := by
  unfold U8
  rw [limb_val 8 (fun i _ => h i) 0 (by omega), limb_val 8 (fun i _ => h i) 1 (by omega), limb_val 8 (fun i _ => h i) 2 (by omega), limb_val 8 (fun i _ => h i) 3 (by omega),
    limb_val 8 (fun i _ => h i) 4 (by omega), limb_val 8 (fun i _ => h i) 5 (by omega), limb_val 8 (fun i _ => h i) 6 (by omega), limb_val 8 (fun i _ => h i) 7 (by omega)]
theorem limb_mod {n i k : Nat} (h : i < k) : limb (n % 2 ^ (64 * k)) i = limb n i := by
  unfold limb
  have e : 2 ^ (64 * k) = 2 ^ (64 * i) * (2 ^ 64 * 2 ^ (64 * (k - 1 - i))) := by rw [← Nat.pow_add, ← Nat.pow_add]; congr 1; omega
  rw [e, Nat.mod_mul_right_div_self, Nat.mod_mul_right_mod]
theorem limb_div (n i k : Nat) : limb (n / 2 ^ (64 * k)) i = limb n (k + i) := by
  unfold limb; rw [Nat.div_div_eq_div_mul, ← Nat.pow_add]; congr 3; omega
theorem U_low (n : Nat) : U (n % 2 ^ 256) = .agg #[.int .u64 (limb n 0 : Nat), .int .u64 (limb n 1 : Nat), .int .u64 (limb n 2 : Nat), .int .u64 (limb n 3 : Nat)] := by
  unfold U
  rw [limb_mod (k := 4) (by omega), limb_mod (k := 4) (by omega), limb_mod (k := 4) (by omega), limb_mod (k := 4) (by omega)]
theorem U_high (n : Nat) : U (n / 2 ^ 256) = .agg #[.int .u64 (limb n 4 : Nat), .int .u64 (limb n 5 : Nat), .int .u64 (limb n 6 : Nat), .int .u64 (limb n 7 : Nat)] := by
  unfold U
  rw [limb_div n 0 4, limb_div n 1 4, limb_div n 2 4, limb_div n 3 4]

def LowPost (n : Nat) (w : World) (e : Ending) (w' : World) : Prop := e = .returned (U (n % 2 ^ 256)) ∧ Below w.heap.size w w'
def HighPost (n : Nat) (w : World) (e : Ending) (w' : World) : Prop := e = .returned (U (n / 2 ^ 256)) ∧ Below w.heap.size w w'
end Go.Proofs.YtnjcnlbphaodcaaGreat

namespace Go.Proofs.YtnjcnlbphaodcaaGreat
open Go.RowKit

/-- the i-th byte of a number, the least first -/
def byteAt (a i : Nat) : Nat := a / 2 ^ (8 * i) % 256
theorem byteAt_lt (a i : Nat) : byteAt a i < 256 := Nat.mod_lt _ (by decide)
theorem byte_of_limb (a k : Nat) : limb a (k / 8) / 2 ^ (k % 8 * 8) % 256 = byteAt a k := by
  unfold limb byteAt
  have e1 : 2 ^ 64 = 2 ^ (k % 8 * 8) * 2 ^ (64 - k % 8 * 8) := by rw [← Nat.pow_add]; congr 1; omega
  have e2 : 2 ^ (64 - k % 8 * 8) = 256 * 2 ^ (64 - k % 8 * 8 - 8) := by rw [show (256 : Nat) = 2 ^ 8 from rfl, ← Nat.pow_add]; congr 1; omega
  rw [e1, Nat.mod_mul_right_div_self, Nat.div_div_eq_div_mul, ← Nat.pow_add, e2, Nat.mod_mul_right_mod]
  congr 3; omega
theorem byte_run {a k q r : Nat} (hq : q = k / 8) (hr : r = k % 8) : IntKind.u8.wrap ((limb a q : Int) / 2 ^ (r * 8)) = ((byteAt a k : Nat) : Int) := by
  subst hq hr
  rw [IntKind.wrap_u8', ← byte_of_limb, Int.natCast_emod, Int.natCast_ediv, Int.natCast_pow]; rfl

def BytesPost (a : Nat) (w : World) (e : Ending) (w' : World) : Prop :=
  ∃ g, e = .returned (.slice (some ⟨g, 0, none⟩) 32 32) ∧ w.heap.size ≤ g ∧ g < w'.heap.size ∧ Arr .u8 w' g 32 (fun i => byteAt a (31 - i)) ∧ Below w.heap.size w w'
def BytesRel (a : Nat) (w : World) (i : Value) (wr : World) : Prop :=
  ∃ (k : Nat) (f : Nat → Nat), k ≤ 32 ∧ i = .int .i64 (k : Nat) ∧ (∀ j, 32 - k ≤ j → j < 32 → f j = byteAt a (31 - j)) ∧
    Arr .u64 wr w.heap.size 4 (limb a) ∧ Arr .u8 wr (w.heap.size + 1) 32 f ∧ Below w.heap.size w wr ∧ w.heap.size + 1 < wr.heap.size

set_option maxRecDepth 100000 in
set_option maxHeartbeats 1000000 in
theorem bytes_walk (a : Nat) (w : World) : Calls Tryz.prog 63 #[U a] w (BytesPost a w) := by
  have hmk : ∀ w, (Instr.makeSlice 82 (.int .i64 32) (.int .i64 32)).run Tryz.prog w = .ok (.slice (some ⟨w.heap.size, 0, none⟩) 32 32) (w.alloc (.cells (Array.replicate 32 (.int .u8 0)) 5)) := fun _ => by kernel_rfl
  unfold U
  go_enter Tryz.func63, Tryz.ntmps63
  go_wp2
  go_loopw [8] (BytesRel a w) (fun i _ => 32 - (intOf i).toNat)
  case atStart =>
    refine ⟨0, fun _ => 0, by omega, rfl, fun j h1 h2 => by omega, (Arr.new4 (f := limb a) rfl).alloc _, ?_, ?_, by simp⟩
    · exact Arr.new_rep (by simp)
    · exact ((Below.refl _ _).alloc (Nat.le_refl _) _).alloc (by simp only [World.size_alloc]; omega) _
  case round =>
    obtain ⟨k, f, hk, rfl, hf, ha, hs, hbel, hsz⟩ := hrel
    have Hf := Lib.hid hf
    clear hf
    by_cases hlt : k < 32
    · obtain ⟨q, hq⟩ : ∃ q, q = k / 8 := ⟨_, rfl⟩
      obtain ⟨r, hr⟩ : ∃ r, r = k % 8 := ⟨_, rfl⟩
      have e1 : (k : Int).tdiv 8 = (q : Int) := by rw [Int.tdiv_eq_ediv_of_nonneg (by omega)]; omega
      have e2 : (k : Int).tmod 8 = (r : Int) := by rw [Int.tmod_eq_emod_of_nonneg (by omega)]; omega
      have e3 : (k : Int) / 8 = (q : Int) := by omega
      have hq4 : q < 4 := by omega
      have hr8 : r < 8 := by omega
      have b1 := byte_run (a := a) hq hr
      have a1 := ha.cell q hq4
      have f1 := hs.free (31 - k) (by omega)
      have f2 := hs.cell (31 - k) (by omega)
      have i2 : (31 : Int) - (k : Int) = ((31 - k : Nat) : Int) := by omega
      have i3 : ((31 - k : Nat) : Int) < 32 := by omega
      clear hq hr
      go_wp2
      go_roundw
      case rel =>
        refine ⟨k + 1, upd f (31 - k) (byteAt a k), by omega, by go_num, fun j h1 h2 => ?_, ha.set_far (by omega), hs.set (by omega), hbel.setCell (by simp) _, by rw [World.size_setCell]; exact hsz⟩
        by_cases hj : j = 31 - k
        · rw [hj, upd_same, show 31 - (31 - k) = k by omega]
        · rw [upd_ne _ hj]; exact Hf.out j (by omega) h2
      case measure => simp [intOf]; omega
    · obtain rfl : k = 32 := by omega
      go_wp2
      go_ret
      exact ⟨w.heap.size + 1, rfl, by omega, hsz, hs.congr fun i hi => Hf.out i (by omega) hi, hbel⟩
end Go.Proofs.YtnjcnlbphaodcaaGreat
