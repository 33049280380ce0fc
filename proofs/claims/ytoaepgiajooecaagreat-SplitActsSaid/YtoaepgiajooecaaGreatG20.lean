/- Equality of 256-bit numbers; u256.Cmp, Min, lowHalf, highHalf, walked. -/
import Derived.Test.YtoaepgiajooecaaGreatG19
import Derived.Test.YtoaepgiajooecaaGreatG03
namespace Go.Proofs.YtoaepgiajooecaaGreat
open Go.RowKit

theorem eqU (a0 a1 a2 a3 b0 b1 b2 b3 : Int) (w : World) : (Op.equalIn 10000 44 (.agg #[.int .u64 a0, .int .u64 a1, .int .u64 a2, .int .u64 a3]) (.agg #[.int .u64 b0, .int .u64 b1, .int .u64 b2, .int .u64 b3])).run Tryz.prog w =
   .ok (a0 == b0 && a1 == b1 && a2 == b2 && a3 == b3) w := by
  have u3 := Tryz.underlying42
  have aa := Tryz.isAgg42
  have z3 := Tryz.sizeOf42
  rw [show (10000 : Nat) = 9999 + 1 from rfl, Op.equalIn]
  simp only [Sem.run_bind, run_underlying Tryz.underlying44, Result.andThen_ok]
  simp only [Std.Legacy.Range.forIn_eq_forIn_range', Std.Legacy.Range.size, Nat.sub_zero, Nat.add_sub_cancel, Nat.div_one, List.range'_succ, List.range'_zero, List.forIn_cons, List.forIn_nil]
  go_simp
  by_cases h1 : a0 = b0 <;> by_cases h2 : a1 = b1 <;> by_cases h3 : a2 = b2 <;> by_cases h4 : a3 = b3 <;> simp [h1, h2, h3, h4]
theorem limbs_eq {a b : Nat} (ha : a < 2 ^ 256) (hb : b < 2 ^ 256) : ((limb a 0 : Int) == (limb b 0 : Int) && (limb a 1 : Int) == (limb b 1 : Int) && (limb a 2 : Int) == (limb b 2 : Int) && (limb a 3 : Int) == (limb b 3 : Int)) = decide (a = b) := by
  by_cases h : a = b
  · subst h; simp
  · rw [decide_eq_false h]
    rw [Bool.eq_false_iff]
    intro hh
    simp only [Bool.and_eq_true, beq_iff_eq, Int.ofNat_inj] at hh
    refine h ?_
    rw [← val4_limb ha, ← val4_limb hb]
    refine val_congr 4 fun i hi => ?_
    rcases (by omega : i = 0 ∨ i = 1 ∨ i = 2 ∨ i = 3) with rfl | rfl | rfl | rfl
    · exact hh.1.1.1
    · exact hh.1.1.2
    · exact hh.1.2
    · exact hh.2
/-- the walk's own form of '==' on two numbers -/
theorem eq_run {a b : Nat} (ha : a < 2 ^ 256) (hb : b < 2 ^ 256) (w : World) :
    (Op.equalIn 10000 44 (.agg #[.int .u64 (limb a 0 : Nat), .int .u64 (limb a 1 : Nat), .int .u64 (limb a 2 : Nat), .int .u64 (limb a 3 : Nat)]) (.agg #[.int .u64 (limb b 0 : Nat), .int .u64 (limb b 1 : Nat), .int .u64 (limb b 2 : Nat), .int .u64 (limb b 3 : Nat)])).run Tryz.prog w = .ok (decide (a = b)) w := by
  rw [eqU, limbs_eq ha hb]
theorem eq0_run {a : Nat} (ha : a < 2 ^ 256) (w : World) :
    (Op.equalIn 10000 44 (.agg #[.int .u64 (limb a 0 : Nat), .int .u64 (limb a 1 : Nat), .int .u64 (limb a 2 : Nat), .int .u64 (limb a 3 : Nat)]) (.agg #[.int .u64 0, .int .u64 0, .int .u64 0, .int .u64 0])).run Tryz.prog w = .ok (decide (a = 0)) w := by
  have h := eq_run ha (show 0 < 2 ^ 256 by decide) w
  rw [← h]
  congr

def cmpU (a b : Nat) : Int := if a = b then 0 else if b ≤ a then 1 else -1
def CmpPost (a b : Nat) (w : World) (e : Ending) (w' : World) : Prop := e = .returned (.int .i64 (cmpU a b)) ∧ Below w.heap.size w w'

theorem cmpPost_mk {a b : Nat} {w w' : World} {r : Int} (h : cmpU a b = r) (hb : Below w.heap.size w w') : CmpPost a b w (.returned (.int .i64 r)) w' := ⟨by rw [h], hb⟩

set_option maxRecDepth 100000 in
set_option maxHeartbeats 1000000 in
theorem cmp_walk (a b : Nat) (w : World) (hal : a < 2 ^ 256) (hbl : b < 2 ^ 256) :
    Calls Tryz.prog 58 #[U a, U b] w (CmpPost a b w) := by
  have heq := fun w => eq_run hal hbl w
  unfold U
  by_cases hab : a = b
  · have hd : decide (a = b) = true := decide_eq_true hab
    have hc : cmpU a b = 0 := if_pos hab
    have Hc := Lib.hid hc
    have Hab := Lib.hid hab
    clear hab hc
    go_enter Tryz.func58, Tryz.ntmps58
    go_wp2_with fail
    go_ret
    exact cmpPost_mk Hc.out (((Below.refl _ _).alloc (Nat.le_refl _) _).alloc (by simp only [World.size_alloc]; omega) _)
  · have hd : decide (a = b) = false := decide_eq_false hab
    have Hab := Lib.hid hab
    clear hab
    go_enter Tryz.func58, Tryz.ntmps58
    by_cases hle : b ≤ a
    · have hc : cmpU a b = 1 := by unfold cmpU; rw [if_neg Hab.out, if_pos hle]
      have Hc := Lib.hid hc
      have Hle := Lib.hid hle
      clear hc hle
      go_wp2_with (go_at_call 31; refine (sub_walk a b _ hal hbl).mono ?_; rintro e w1 ⟨rfl, hb1⟩; rw [if_pos Hle.out, decide_eq_true Hle.out]; unfold U)
      go_ret
      exact cmpPost_mk Hc.out (((((Below.refl _ _).alloc (Nat.le_refl _) _).alloc (by simp only [World.size_alloc]; omega) _).trans (hb1.mono (by simp only [World.size_alloc]; omega))).alloc (by have := hb1.size; simp only [World.size_alloc] at this; omega) _)
    · have hc : cmpU a b = -1 := by unfold cmpU; rw [if_neg Hab.out, if_neg hle]
      have Hc := Lib.hid hc
      have Hle := Lib.hid hle
      clear hc hle
      go_wp2_with (go_at_call 31; refine (sub_walk a b _ hal hbl).mono ?_; rintro e w1 ⟨rfl, hb1⟩; rw [if_neg Hle.out, decide_eq_false Hle.out]; unfold U)
      go_ret
      exact cmpPost_mk Hc.out (((((Below.refl _ _).alloc (Nat.le_refl _) _).alloc (by simp only [World.size_alloc]; omega) _).trans (hb1.mono (by simp only [World.size_alloc]; omega))).alloc (by have := hb1.size; simp only [World.size_alloc] at this; omega) _)

/-- what Min comes to -/
def MinPost (a b : Nat) (w : World) (e : Ending) (w' : World) : Prop := e = .returned (U (min a b)) ∧ Below w.heap.size w w'
theorem minPost_mk {a b m : Nat} {w w' : World} (h : min a b = m) (hb : Below w.heap.size w w') : MinPost a b w (.returned (U m)) w' := ⟨by rw [h], hb⟩

/-- eight words -/
def U8 (n : Nat) : Value := .agg #[.int .u64 (limb n 0 : Nat), .int .u64 (limb n 1 : Nat), .int .u64 (limb n 2 : Nat), .int .u64 (limb n 3 : Nat), .int .u64 (limb n 4 : Nat), .int .u64 (limb n 5 : Nat), .int .u64 (limb n 6 : Nat), .int .u64 (limb n 7 : Nat)]
theorem U8_of {f : Nat → Nat} (h : ∀ i, f i < 2 ^ 64) : (.agg #[.int .u64 (f 0 : Nat), .int .u64 (f 1 : Nat), .int .u64 (f 2 : Nat), .int .u64 (f 3 : Nat), .int .u64 (f 4 : Nat), .int .u64 (f 5 : Nat), .int .u64 (f 6 : Nat), .int .u64 (f 7 : Nat)] : Value) = U8 (val f 8) := by
  unfold U8
  rw [limb_val 8 (fun i _ => h i) 0 (by omega), limb_val 8 (fun i _ => h i) 1 (by omega), limb_val 8 (fun i _ => h i) 2 (by omega), limb_val 8 (fun i _ => h i) 3 (by omega),
    limb_val 8 (fun i _ => h i) 4 (by omega), limb_val 8 (fun i _ => h i) 5 (by omega), limb_val 8 (fun i _ => h i) 6 (by omega), limb_val 8 (fun i _ => h i) 7 (by omega)]
theorem limb_mod {n i k : Nat} (h : i < k) : limb (n % 2 ^ (64 * k)) i = limb n i := by
  unfold limb
  have e : 2 ^ (64 * k) = 2 ^ (64 * i) * (2 ^ 64 * 2 ^ (64 * (k - 1 - i))) := by rw [← Nat.pow_add, ← Nat.pow_add]; congr 1; omega
  rw [e, Nat.mod_mul_right_div_self, Nat.mod_mul_right_mod]
theorem limb_div (n i k : Nat) : limb (n / 2 ^ (64 * k)) i = limb n (k + i) := by
  unfold limb; rw [Nat.div_div_eq_div_mul, ← Nat.pow_add]; congr 3; omega
theorem U_low (n : Nat) : U (n % 2 ^ 256) = .agg #[.int .u64 (limb n 0 : Nat), .int .u64 (limb n 1 : Nat), .int .u64 (limb n 2 : Nat), .int .u64 (limb n 3 : Nat)] := by
  unfold U
  rw [limb_mod (k := 4) (by omega), limb_mod (k := 4) (by omega), limb_mod (k := 4) (by omega), limb_mod (k := 4) (by omega)]
theorem U_high (n : Nat) : U (n / 2 ^ 256) = .agg #[.int .u64 (limb n 4 : Nat), .int .u64 (limb n 5 : Nat), .int .u64 (limb n 6 : Nat), .int .u64 (limb n 7 : Nat)] := by
  unfold U
  rw [limb_div n 0 4, limb_div n 1 4, limb_div n 2 4, limb_div n 3 4]

def LowPost (n : Nat) (w : World) (e : Ending) (w' : World) : Prop := e = .returned (U (n % 2 ^ 256)) ∧ Below w.heap.size w w'
def HighPost (n : Nat) (w : World) (e : Ending) (w' : World) : Prop := e = .returned (U (n / 2 ^ 256)) ∧ Below w.heap.size w w'
set_option maxRecDepth 100000 in
theorem low_walk (n : Nat) (w : World) : Calls Tryz.prog 95 #[U8 n] w (LowPost n w) := by
  unfold U8
  go_enter Tryz.func95, Tryz.ntmps95
  go_wp2
  refine bodyPost_ret (v := .agg #[.int .u64 (limb n 0 : Nat), .int .u64 (limb n 1 : Nat), .int .u64 (limb n 2 : Nat), .int .u64 (limb n 3 : Nat)]) (by simp [results, Tryz.results95, go_sem]) rfl ⟨by rw [U_low], ?_⟩
  exact ((Below.refl _ _).alloc (Nat.le_refl _) _).alloc (by simp only [World.size_alloc]; omega) _
set_option maxRecDepth 100000 in
theorem high_walk (n : Nat) (w : World) : Calls Tryz.prog 97 #[U8 n] w (HighPost n w) := by
  unfold U8
  go_enter Tryz.func97, Tryz.ntmps97
  go_wp2
  refine bodyPost_ret (v := .agg #[.int .u64 (limb n 4 : Nat), .int .u64 (limb n 5 : Nat), .int .u64 (limb n 6 : Nat), .int .u64 (limb n 7 : Nat)]) (by simp [results, Tryz.results97, go_sem]) rfl ⟨by rw [U_high], ?_⟩
  exact ((Below.refl _ _).alloc (Nat.le_refl _) _).alloc (by simp only [World.size_alloc]; omega) _
end Go.Proofs.YtoaepgiajooecaaGreat

namespace Go.Proofs.YtoaepgiajooecaaGreat
open Go.RowKit

/-- the i-th byte of a number, the least first -/
def byteAt (a i : Nat) : Nat := a / 2 ^ (8 * i) % 256
theorem byteAt_lt (a i : Nat) : byteAt a i < 256 := Nat.mod_lt _ (by decide)
theorem byte_of_limb (a k : Nat) : limb a (k / 8) / 2 ^ (k % 8 * 8) % 256 = byteAt a k := by
  unfold limb byteAt
  have e1 : 2 ^ 64 = 2 ^ (k % 8 * 8) * 2 ^ (64 - k % 8 * 8) := by rw [← Nat.pow_add]; congr 1; omega
  have e2 : 2 ^ (64 - k % 8 * 8) = 256 * 2 ^ (64 - k % 8 * 8 - 8) := by rw [show (256 : Nat) = 2 ^ 8 from rfl, ← Nat.pow_add]; congr 1; omega
  rw [e1, Nat.mod_mul_right_div_self, Nat.div_div_eq_div_mul, ← Nat.pow_add, e2, Nat.mod_mul_right_mod]
  congr 3; omega
theorem byte_run {a k q r : Nat} (hq : q = k / 8) (hr : r = k % 8) : IntKind.u8.wrap ((limb a q : Int) / 2 ^ (r * 8)) = ((byteAt a k : Nat) : Int) := by
  subst hq hr
  rw [IntKind.wrap_u8', ← byte_of_limb, Int.natCast_emod, Int.natCast_ediv, Int.natCast_pow]; rfl

def BytesPost (a : Nat) (w : World) (e : Ending) (w' : World) : Prop :=
  ∃ g, e = .returned (.slice (some ⟨g, 0, none⟩) 32 32) ∧ w.heap.size ≤ g ∧ g < w'.heap.size ∧ Arr .u8 w' g 32 (fun i => byteAt a (31 - i)) ∧ Below w.heap.size w w'
def BytesRel (a : Nat) (w : World) (i : Value) (wr : World) : Prop :=
  ∃ (k : Nat) (f : Nat → Nat), k ≤ 32 ∧ i = .int .i64 (k : Nat) ∧ (∀ j, 32 - k ≤ j → j < 32 → f j = byteAt a (31 - j)) ∧
    Arr .u64 wr w.heap.size 4 (limb a) ∧ Arr .u8 wr (w.heap.size + 1) 32 f ∧ Below w.heap.size w wr ∧ w.heap.size + 1 < wr.heap.size

end Go.Proofs.YtoaepgiajooecaaGreat

namespace Go.Proofs.YtoaepgiajooecaaGreat
open Go.RowKit

/-- how many binary digits -/
def blen (n : Nat) : Nat := if n = 0 then 0 else n.log2 + 1
theorem blen_zero : blen 0 = 0 := rfl
theorem blen_pos {n : Nat} (h : n ≠ 0) : blen n = n.log2 + 1 := if_neg h
theorem blen_iff {n k : Nat} (h : n ≠ 0) : blen n = k + 1 ↔ 2 ^ k ≤ n ∧ n < 2 ^ (k + 1) := by
  rw [blen_pos h, ← Nat.log2_eq_iff h]; omega
theorem blen_le {n k : Nat} (h : n < 2 ^ k) : blen n ≤ k := by
  by_cases h0 : n = 0
  · subst h0; rw [blen_zero]; omega
  · rw [blen_pos h0]; exact (Nat.log2_lt h0).2 h
theorem lt_blen (n : Nat) : n < 2 ^ blen n := by
  by_cases h0 : n = 0
  · subst h0; decide
  · rw [blen_pos h0]; exact Nat.lt_log2_self
theorem bitLenAux_eq : ∀ (f x : Nat), x < 2 ^ f → Lib.bitLenAux f x = blen x
  | 0, x, h => by have : x = 0 := by simpa using h
                  subst this; rfl
  | f + 1, x, h => by
    rw [Lib.bitLenAux]
    by_cases h0 : x = 0
    · rw [if_pos h0, h0]; rfl
    · rw [if_neg h0, bitLenAux_eq f (x / 2) (by rw [Nat.pow_succ] at h; omega), blen_pos h0]
      by_cases h1 : x < 2
      · obtain rfl : x = 1 := by omega
        decide
      · rw [blen_pos (by omega), Nat.log2_def x, if_pos (by omega)]; omega
theorem bitLen_eq {x : Nat} (h : x < 2 ^ 64) : Lib.bitLen x = blen x := bitLenAux_eq 64 x h
theorem blen_join {v l m : Nat} (hl : l ≠ 0) (hv : v < 2 ^ m) : blen (v + l * 2 ^ m) = m + blen l := by
  have hp : 0 < 2 ^ m := Nat.pow_pos (by decide)
  have hne : v + l * 2 ^ m ≠ 0 := by have := Nat.mul_pos (Nat.pos_of_ne_zero hl) hp; omega
  rw [blen_pos hl, ← Nat.add_assoc, blen_iff hne]
  have h1 : 2 ^ l.log2 ≤ l := Nat.log2_self_le hl
  have h2 : l + 1 ≤ 2 ^ (l.log2 + 1) := Nat.lt_log2_self
  constructor
  · have := Nat.mul_le_mul_right (2 ^ m) h1
    rw [Nat.pow_add, Nat.mul_comm (2 ^ m)]; omega
  · have := Nat.mul_le_mul_right (2 ^ m) h2
    rw [Nat.add_mul, Nat.one_mul] at this
    rw [show m + l.log2 + 1 = (l.log2 + 1) + m by omega, Nat.pow_add]; omega

theorem len64_c (x : Nat) (hx : x < 2 ^ 64) (w : World) :
    Calls Tryz.prog 100 #[.int .u64 (x : Nat)] w fun e w' => e = .returned (.int .i64 (blen x : Nat)) ∧ w = w' := by
  refine (Tryz.bits_Len64 (x : Int) w (by omega) (by omega)).mono ?_
  rintro e w' ⟨rfl, rfl⟩
  exact ⟨by rw [Int.toNat_natCast, bitLen_eq hx], rfl⟩

def BitsPost (a : Nat) (w : World) (e : Ending) (w' : World) : Prop := e = .returned (.int .i64 (blen a : Nat)) ∧ Below w.heap.size w w'
theorem bitsPost_mk {a m : Nat} {w w' : World} (h : m = blen a) (hb : Below w.heap.size w w') : BitsPost a w (.returned (.int .i64 (m : Nat))) w' := ⟨by rw [h], hb⟩
def BitsRel (a : Nat) (w : World) (c i : Value) (wr : World) : Prop :=
  ∃ (k m : Nat), k ≤ 4 ∧ i = .int .i64 (k : Nat) ∧ c = .int .i64 (m : Nat) ∧ m = blen (val (limb a) k) ∧ Arr .u64 wr w.heap.size 4 (limb a) ∧ Below w.heap.size w wr

set_option maxRecDepth 100000 in
set_option maxHeartbeats 1000000 in
theorem bits_walk (a : Nat) (w : World) (hal : a < 2 ^ 256) : Calls Tryz.prog 81 #[U a] w (BitsPost a w) := by
  have Hal := Lib.hid hal
  clear hal
  unfold U
  go_enter Tryz.func81, Tryz.ntmps81
  go_wp2
  go_loopw [3, 5] (BitsRel a w) (fun _ i _ => 4 - (intOf i).toNat)
  case atStart => exact ⟨0, 0, by omega, rfl, rfl, rfl, Arr.new4 (f := limb a) rfl, (Below.refl _ _).alloc (Nat.le_refl _) _⟩
  case round =>
    obtain ⟨k, m, hk, rfl, rfl, hm, ha, hbel⟩ := hrel
    have Hm := Lib.hid hm
    clear hm
    by_cases hlt : k < 4
    · have a1 := ha.cell k hlt
      by_cases h0 : limb a k = 0
      · have ht : ((limb a k : Int) != 0) = false := by rw [h0]; rfl
        have H0 := Lib.hid h0
        clear h0
        go_wp2
        go_roundw
        case rel =>
          refine ⟨k + 1, m, by omega, by go_num, rfl, ?_, ha, hbel⟩
          simp only [val]; rw [H0.out, Nat.zero_mul, Nat.add_zero]; exact Hm.out
        case measure => simp [intOf]; omega
      · have ht : ((limb a k : Int) != 0) = true := by rw [bne_iff_ne]; omega
        have H0 := Lib.hid h0
        clear h0
        have hb64 : blen (limb a k) ≤ 64 := blen_le (limb_lt a k)
        go_wp2_with (go_at_call 100; refine (len64_c _ (limb_lt a k) _).mono ?_; rintro e w' ⟨rfl, rfl⟩)
        go_roundw
        case rel =>
          refine ⟨k + 1, k * 64 + blen (limb a k), by omega, by go_num, by go_num, ?_, ha, hbel⟩
          simp only [val]; rw [blen_join H0.out (val_lt k (fun i _ => limb_lt a i))]; omega
        case measure => simp [intOf]; omega
    · obtain rfl : k = 4 := by omega
      go_wp2
      go_ret
      exact bitsPost_mk (by rw [Hm.out, val4_limb Hal.out]) hbel
end Go.Proofs.YtoaepgiajooecaaGreat
