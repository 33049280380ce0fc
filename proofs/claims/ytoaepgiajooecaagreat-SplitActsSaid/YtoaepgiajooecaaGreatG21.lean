/- u256.shiftLeft, walked. -/
import Derived.Test.YtoaepgiajooecaaGreatG20
import Derived.Test.YtoaepgiajooecaaGreatG02
import Derived.Test.YtoaepgiajooecaaGreatG10
import Derived.Laws.IdiomStrings
namespace Go.Proofs.YtoaepgiajooecaaGreat
open Go.RowKit

def shlLo (x l r : Nat) : Nat := x + l * 2 ^ r % 18446744073709551616
def shlHi (l r : Nat) : Nat := l / 2 ^ (64 - r)
theorem shlLo_lt {x l r : Nat} (hx : x < 2 ^ r) (hr : r < 64) : shlLo x l r < 2 ^ 64 := by
  unfold shlLo
  have h64 : 18446744073709551616 = 2 ^ r * 2 ^ (64 - r) := by rw [← Nat.pow_add, show r + (64 - r) = 64 by omega]
  have h1 : l * 2 ^ r % 18446744073709551616 = l % 2 ^ (64 - r) * 2 ^ r := by rw [h64, Nat.mul_comm (2 ^ r), Nat.mul_mod_mul_right]
  have h2 : l % 2 ^ (64 - r) + 1 ≤ 2 ^ (64 - r) := Nat.mod_lt _ (Nat.pow_pos (by decide))
  have h3 := Nat.mul_le_mul_right (2 ^ r) h2
  have h5 : 2 ^ 64 = 2 ^ (64 - r) * 2 ^ r := by rw [← Nat.pow_add, show 64 - r + r = 64 by omega]
  rw [h1, h5]; rw [Nat.add_mul] at h3; omega
theorem or_join {x l r : Nat} (hx : x < 2 ^ r) (hr : r < 64) : bits BinOp.or IntKind.u64 (x : Int) (IntKind.u64.wrap ((l : Int) * 2 ^ r)) = ((shlLo x l r : Nat) : Int) := by
  have h64 : 18446744073709551616 = 2 ^ r * 2 ^ (64 - r) := by rw [← Nat.pow_add, show r + (64 - r) = 64 by omega]
  have hle : 2 ^ r ≤ 2 ^ 64 := Nat.pow_le_pow_right (by decide) (by omega)
  have hw : IntKind.u64.wrap ((l : Int) * 2 ^ r) = ((l * 2 ^ r % 18446744073709551616 : Nat) : Int) := by
    rw [IntKind.wrap_u64, Int.natCast_emod, Int.natCast_mul, Int.natCast_pow]; rfl
  rw [hw, u64_or_nat _ _ (by omega) (Nat.mod_lt _ (by decide)), Nat.or_comm, nat_join r _ _ ?_ hx, Nat.add_comm]
  · rfl
  · rw [h64, Nat.mod_mul_right_mod]; exact Nat.mul_mod_left _ _
theorem or_high {x l r : Nat} (hx : x = 0) (hl : l < 2 ^ 64) : bits BinOp.or IntKind.u64 (x : Int) ((l : Int) / 2 ^ (64 - r)) = ((shlHi l r : Nat) : Int) := by
  have hw : (l : Int) / 2 ^ (64 - r) = ((shlHi l r : Nat) : Int) := by
    unfold shlHi; rw [Int.natCast_ediv, Int.natCast_pow]; rfl
  have hlt : shlHi l r < 18446744073709551616 := Nat.lt_of_le_of_lt (Nat.div_le_self _ _) hl
  rw [hw, hx, u64_or_nat _ _ (by decide) hlt, Nat.zero_or]
theorem shl_parts {x l r : Nat} (hl : l < 2 ^ 64) (hr : r < 64) : x + l * 2 ^ r = shlLo x l r + shlHi l r * 2 ^ 64 ∧ shlHi l r < 2 ^ r := by
  unfold shlLo shlHi
  have h64 : 2 ^ 64 = 2 ^ (64 - r) * 2 ^ r := by rw [← Nat.pow_add]; congr 1; omega
  have hd : l * 2 ^ r / 2 ^ 64 = l / 2 ^ (64 - r) := by rw [h64, Nat.mul_div_mul_right _ _ (Nat.pow_pos (by decide))]
  refine ⟨?_, (Nat.div_lt_iff_lt_mul (Nat.pow_pos (by decide))).2 (by rw [Nat.mul_comm, ← h64]; exact hl)⟩
  rw [← hd]; have := Nat.mod_add_div' (l * 2 ^ r) (2 ^ 64); omega

def ShlPost (a by_ : Nat) (w : World) (e : Ending) (w' : World) : Prop := e = .returned (U8 (a * 2 ^ by_)) ∧ Below w.heap.size w w'
def ShlRel (a words rest : Nat) (w : World) (i : Value) (wr : World) : Prop :=
  ∃ (k : Nat) (f : Nat → Nat), k ≤ 4 ∧ i = .int .i64 (k : Nat) ∧ (∀ j, f j < 2 ^ 64) ∧ (∀ j, k + words < j → f j = 0) ∧ f (k + words) < 2 ^ rest ∧ val f 8 = val (limb a) k * 2 ^ (64 * words + rest) ∧
    Arr .u64 wr w.heap.size 4 (limb a) ∧ Arr .u64 wr (w.heap.size + 1) 8 (fun _ => 0) ∧ Arr .u64 wr (w.heap.size + 1 + 1) 8 f ∧
    Below w.heap.size w wr ∧ w.heap.size + 1 + 1 < wr.heap.size

set_option maxRecDepth 100000 in
set_option maxHeartbeats 1000000 in
theorem shl_walk (a by_ : Nat) (w : World) (hal : a < 2 ^ 256) (hby : by_ < 256) : Calls Tryz.prog 96 #[U a, .int .i64 (by_ : Nat)] w (ShlPost a by_ w) := by
  have Hal := Lib.hid hal
  clear hal
  obtain ⟨words, hw⟩ : ∃ n, n = by_ / 64 := ⟨_, rfl⟩
  obtain ⟨rest, hr⟩ : ∃ n, n = by_ % 64 := ⟨_, rfl⟩
  have e1 : (by_ : Int) / 64 = (words : Int) := by omega
  have e2 : (by_ : Int).tmod 64 = (rest : Int) := by rw [Int.tmod_eq_emod_of_nonneg (by omega)]; omega
  have e3 : (by_ : Int).tdiv 64 = (words : Int) := by rw [Int.tdiv_eq_ediv_of_nonneg (by omega)]; omega
  have hw4 : words < 4 := by omega
  have hr64 : rest < 64 := by omega
  have Hby : Hid (by_ = 64 * words + rest) := Lib.hid (by omega)
  clear hw hr
  unfold U
  go_enter Tryz.func96, Tryz.ntmps96
  go_wp2
  go_loopw [13] (ShlRel a words rest w) (fun i _ => 4 - (intOf i).toNat)
  case atStart =>
    refine ⟨0, fun _ => 0, by omega, rfl, by simp, by simp, Nat.pow_pos (by decide), by rw [val_zero]; simp only [val]; omega, ?_, ?_, ?_, ?_, ?_⟩
    · exact ((Arr.new4 (f := limb a) rfl).alloc _).alloc _
    · exact (Arr.new8 (f := fun _ => 0) (by simp)).alloc _
    · exact Arr.new8 (f := fun _ => 0) (by simp)
    · exact (((Below.refl _ _).alloc (Nat.le_refl _) _).alloc (by simp only [World.size_alloc]; omega) _).alloc (by simp only [World.size_alloc]; omega) _
    · simp
  case round =>
    obtain ⟨k, f, hk, rfl, hf, hf0, hfr, hv, ha, hz, hs, hbel, hsz⟩ := hrel
    by_cases hlt : k < 4
    · have a1 := ha.cell k hlt
      have f1 := hs.free (k + words) (by omega)
      have f2 := hs.cell (k + words) (by omega)
      have f3 := hs.free (k + words + 1) (by omega)
      have f4 := hs.cell (k + words + 1) (by omega)
      have q3 : (k : Int) + (words : Int) < 8 := by omega
      have q4 : (k : Int) + (words : Int) + 1 < 8 := by omega
      have o1 := or_join (l := limb a k) hfr hr64
      have o2 := or_high (r := rest) (hf0 (k + words + 1) (by omega)) (limb_lt a k)
      have Hf := Lib.hid hf
      have Hf0 := Lib.hid hf0
      have Hfr := Lib.hid hfr
      have Hv := Lib.hid hv
      clear hf hf0 hfr hv
      go_wp2
      go_region
      go_wp2
      go_region
      go_wp2
      go_roundw
      case rel =>
        have hp := shl_parts (x := f (k + words)) (limb_lt a k) hr64
        have hlo := shlLo_lt (l := limb a k) Hfr.out hr64
        have hhi : shlHi (limb a k) rest < 2 ^ 64 := Nat.lt_of_le_of_lt (Nat.div_le_self _ _) (limb_lt a k)
        refine ⟨k + 1, upd (upd f (k + words) (shlLo (f (k + words)) (limb a k) rest)) (k + words + 1) (shlHi (limb a k) rest), by omega, by go_num, upd_lt (upd_lt Hf.out hlo) hhi, ?_, ?_, ?_, ?_, ?_, ?_, ?_, ?_⟩
        · intro i hi; rw [upd_ne _ (by omega), upd_ne _ (by omega)]; exact Hf0.out i (by omega)
        · rw [show k + 1 + words = k + words + 1 by omega, upd_same]; exact hp.2
        · have v1 := val_upd_at (upd f (k + words) (shlLo (f (k + words)) (limb a k) rest)) (shlHi (limb a k) rest) (show k + words + 1 < 8 by omega)
          have v2 := val_upd_at f (shlLo (f (k + words)) (limb a k) rest) (show k + words < 8 by omega)
          rw [upd_ne _ (show k + words + 1 ≠ k + words by omega), Hf0.out (k + words + 1) (by omega), pow_succ64] at v1
          have h1 := congrArg (· * 2 ^ (64 * (k + words))) hp.1
          have hv := Hv.out
          have e : 2 ^ rest * 2 ^ (64 * (k + words)) = 2 ^ (64 * k) * 2 ^ (64 * words + rest) := by rw [← Nat.pow_add, ← Nat.pow_add]; congr 1; omega
          simp only [Nat.add_mul, Nat.mul_assoc, e] at h1
          have hk1 : val (limb a) (k + 1) = val (limb a) k + limb a k * 2 ^ (64 * k) := rfl
          rw [hk1, Nat.add_mul, Nat.mul_assoc (limb a k), ← hv]
          rw [Nat.zero_mul] at v1
          omega
        · exact ((ha.drew.drew).set_far (by omega)).set_far (by omega)
        · exact ((hz.drew.drew).set_far (by omega)).set_far (by omega)
        · exact ((hs.drew.drew).set (by omega)).set (by omega)
        · exact ((below_drewN hbel 2).setCell (by simp; omega) _).setCell (by simp; omega) _
        · simp; omega
      case measure => simp [intOf]; omega
    · obtain rfl : k = 4 := by omega
      have hn : val f 8 = a * 2 ^ by_ := by rw [hv, val4_limb Hal.out, Hby.out]
      have Hn := Lib.hid hn
      have Hf := Lib.hid hf
      clear hv hn hf hf0 hfr
      obtain ⟨s0, s1, s2, s3, s4, s5, s6, s7⟩ := hs.cells8
      obtain ⟨y0, y1, y2, y3, y4, y5, y6, y7⟩ := hz.frees8
      obtain ⟨z0, z1, z2, z3, z4, z5, z6, z7⟩ := hz.cells8
      go_wp2
      refine bodyPost_ret (v := .agg #[.int .u64 (f 0 : Nat), .int .u64 (f 1 : Nat), .int .u64 (f 2 : Nat), .int .u64 (f 3 : Nat), .int .u64 (f 4 : Nat), .int .u64 (f 5 : Nat), .int .u64 (f 6 : Nat), .int .u64 (f 7 : Nat)]) (by simp [results, Tryz.results96, go_sem, z0, z1, z2, z3, z4, z5, z6, z7]) rfl ⟨by rw [U8_of Hf.out, Hn.out], ?_⟩
      exact below_set8 hbel (by omega)
end Go.Proofs.YtoaepgiajooecaaGreat

namespace Go.Proofs.YtoaepgiajooecaaGreat
open Go.RowKit

/-- the number of the last k of 32 bytes, the greatest first -/
def bnum (f : Nat → Nat) : Nat → Nat
  | 0 => 0
  | k + 1 => bnum f k + f (31 - k) * 2 ^ (8 * k)
theorem bnum_lt {f : Nat → Nat} (h : ∀ i, f i < 256) : ∀ k, bnum f k < 2 ^ (8 * k)
  | 0 => by simp [bnum]
  | k + 1 => by
    have h1 := bnum_lt h k
    have h2 : f (31 - k) + 1 ≤ 2 ^ 8 := h (31 - k)
    have h3 := Nat.mul_le_mul_right (2 ^ (8 * k)) h2
    have h4 : 2 ^ (8 * (k + 1)) = 2 ^ 8 * 2 ^ (8 * k) := by rw [← Nat.pow_add]; congr 1; omega
    simp only [bnum]; rw [h4]; rw [Nat.add_mul] at h3; omega
/-- one byte more: what becomes of the words -/
theorem limb_byte {v x k : Nat} (hv : v < 2 ^ (8 * k)) (hx : x < 256) (i : Nat) :
    limb (v + x * 2 ^ (8 * k)) i = upd (limb v) (k / 8) (limb v (k / 8) + x * 2 ^ (k % 8 * 8)) i ∧ limb v (k / 8) < 2 ^ (k % 8 * 8) := by
  have hk : 2 ^ (8 * k) = 2 ^ (64 * (k / 8)) * 2 ^ (k % 8 * 8) := by rw [← Nat.pow_add]; congr 1; omega
  have hp : 0 < 2 ^ (64 * (k / 8)) := Nat.pow_pos (by decide)
  have hlow : v / 2 ^ (64 * (k / 8)) < 2 ^ (k % 8 * 8) := (Nat.div_lt_iff_lt_mul hp).2 (by rw [Nat.mul_comm, ← hk]; exact hv)
  have hr : 2 ^ (k % 8 * 8) * 256 ≤ 2 ^ 64 := by
    rw [show (256 : Nat) = 2 ^ 8 from rfl, ← Nat.pow_add]; exact Nat.pow_le_pow_right (by decide) (by omega)
  have hl : limb v (k / 8) = v / 2 ^ (64 * (k / 8)) := Nat.mod_eq_of_lt (Nat.lt_of_lt_of_le hlow (by omega))
  refine ⟨?_, by rw [hl]; exact hlow⟩
  by_cases hi : i = k / 8
  · subst hi
    rw [upd_same, hl]
    unfold limb
    rw [hk, show v + x * (2 ^ (64 * (k / 8)) * 2 ^ (k % 8 * 8)) = v + x * 2 ^ (k % 8 * 8) * 2 ^ (64 * (k / 8)) by rw [Nat.mul_comm (2 ^ (64 * (k / 8))), ← Nat.mul_assoc], Nat.add_mul_div_right _ _ hp, Nat.mod_eq_of_lt]
    have h1 := Nat.mul_le_mul_right (2 ^ (k % 8 * 8)) (show x + 1 ≤ 256 by omega)
    rw [Nat.add_mul, Nat.one_mul, Nat.mul_comm 256] at h1
    omega
  · rw [upd_ne _ hi]
    rcases Nat.lt_or_ge i (k / 8) with h | h
    · unfold limb
      have e : 2 ^ (8 * k) = 2 ^ (64 * i) * (2 ^ 64 * 2 ^ (8 * k - 64 * i - 64)) := by rw [← Nat.pow_add, ← Nat.pow_add]; congr 1; omega
      rw [e, Nat.mul_left_comm x, Nat.add_mul_div_left _ _ (Nat.pow_pos (by decide)), Nat.mul_left_comm x, Nat.add_mul_mod_self_left]
    · have h64 : 2 ^ (8 * (k + 1)) ≤ 2 ^ (64 * i) := Nat.pow_le_pow_right (by decide) (by omega)
      have h4 : 2 ^ (8 * (k + 1)) = 256 * 2 ^ (8 * k) := by rw [show (256 : Nat) = 2 ^ 8 from rfl, ← Nat.pow_add]; congr 1; omega
      have h1 := Nat.mul_le_mul_right (2 ^ (8 * k)) (show x + 1 ≤ 256 by omega)
      rw [Nat.add_mul, Nat.one_mul] at h1
      unfold limb
      rw [Nat.div_eq_of_lt (by omega), Nat.div_eq_of_lt (by omega)]
theorem or_run {x l r : Nat} (hx : x < 2 ^ r) (hr : r < 64) (hf : x + l * 2 ^ r < 2 ^ 64) : bits BinOp.or IntKind.u64 (x : Int) (IntKind.u64.wrap ((l : Int) * 2 ^ r)) = ((x + l * 2 ^ r : Nat) : Int) := by
  rw [or_join hx hr]; congr 1; unfold shlLo; rw [Nat.mod_eq_of_lt (by omega)]

def FbPost (n : Nat) (f : Nat → Nat) (w : World) (e : Ending) (w' : World) : Prop :=
  e = .returned (.tuple #[U (if n = 32 then bnum f 32 else 0), .bool (decide (n = 32))]) ∧ Below w.heap.size w w'
theorem fbPost_yes {n : Nat} {f : Nat → Nat} {w w' : World} {e : Ending} (h : n = 32) (he : e = .returned (.tuple #[U (bnum f 32), .bool true])) (hw : Below w.heap.size w w') : FbPost n f w e w' := by
  unfold FbPost; rw [if_pos h, decide_eq_true h]; exact ⟨he, hw⟩
theorem fbPost_no {n : Nat} {f : Nat → Nat} {w w' : World} {e : Ending} (h : n ≠ 32) (he : e = .returned (.tuple #[U 0, .bool false])) (hw : Below w.heap.size w w') : FbPost n f w e w' := by
  unfold FbPost; rw [if_neg h, decide_eq_false h]; exact ⟨he, hw⟩
def FbRel (f : Nat → Nat) (w : World) (i : Value) (wr : World) : Prop :=
  ∃ k, k ≤ 32 ∧ i = .int .i64 (k : Nat) ∧ Arr .u64 wr w.heap.size 4 (fun _ => 0) ∧ Arr .u64 wr (w.heap.size + 1) 4 (limb (bnum f k)) ∧ Below w.heap.size w wr ∧ w.heap.size + 1 < wr.heap.size

end Go.Proofs.YtoaepgiajooecaaGreat

namespace Go.Proofs.YtoaepgiajooecaaGreat
open Go.RowKit

def amtL (a : Nat) : List Int := (List.range 32).map fun i => ((byteAt a (31 - i) : Nat) : Int)
def amtStr (a : Nat) : ByteArray := strOfNums (amtL a)
theorem amtL_get (a i : Nat) (h : i < 32) : (amtL a).getD i 0 = ((byteAt a (31 - i) : Nat) : Int) := by
  unfold amtL
  simp [List.getD, h]
/-- a byte of a text -/
def sb (s : ByteArray) (i : Nat) : Nat := if h : i < s.data.size then (s.data[i]).toNat else 0
theorem sb_lt (s : ByteArray) (i : Nat) : sb s i < 256 := by
  unfold sb
  split
  · exact UInt8.toNat_lt _
  · decide
theorem sl_conv (s : ByteArray) (w : World) (cap L : Nat) (t : TypeId) (a b : Nat) (hL : L = w.heap.size) : Sl (w.alloc (.cells (bytesRow s cap) t (a, b))).drew (some ⟨L, 0, none⟩) s.size (sb s) := by
  subst hL
  exact ⟨sb_lt s, fun _ => ⟨w.heap.size, 0, rfl, by show w.heap.size < (w.alloc _).heap.size; rw [World.size_alloc]; omega, fun i hi => by
    have hi' : i < s.data.size := hi
    rw [Nat.zero_add]
    have h := bytesRow_at s cap i hi'
    unfold sb
    rw [dif_pos hi']
    have hh : (w.alloc (.cells (bytesRow s cap) t (a, b))).drew.heap[w.heap.size]? = some (.cells (bytesRow s cap) t (a, b)) := by
      show (w.heap.push _)[w.heap.size]? = _
      simp
    unfold World.cell?
    rw [hh]
    exact h⟩⟩
def fbv (s : ByteArray) : Nat := if s.size = 32 then bnum (sb s) 32 else 0
theorem amtStr_size (a : Nat) : (amtStr a).size = 32 := by unfold amtStr; rw [strOfNums_size]; simp [amtL]
theorem bnum_bytes9 (a : Nat) : ∀ k, k ≤ 32 → bnum (fun i => byteAt a (31 - i)) k = a % 2 ^ (8 * k)
  | 0, _ => by simp [bnum, Nat.mod_one]
  | k + 1, h => by
    have e : 2 ^ (8 * (k + 1)) = 2 ^ (8 * k) * 256 := by rw [show (256 : Nat) = 2 ^ 8 from rfl, ← Nat.pow_add]; congr 1
    simp only [bnum]
    rw [bnum_bytes9 a k (by omega), show 31 - (31 - k) = k by omega, e, Nat.mod_mul, byteAt, Nat.mul_comm (a / 2 ^ (8 * k) % 256)]
theorem bnum_congr {f g : Nat → Nat} (h : ∀ j, j ≤ 31 → f j = g j) : ∀ k, bnum f k = bnum g k
  | 0 => rfl
  | k + 1 => by simp only [bnum]; rw [bnum_congr h k, h (31 - k) (by omega)]
theorem sb_amt (a i : Nat) (h : i ≤ 31) : sb (amtStr a) i = byteAt a (31 - i) := by
  have hs : i < (amtStr a).data.size := by have h2 : (amtStr a).data.size = 32 := amtStr_size a; omega
  unfold sb
  rw [dif_pos hs]
  have e : (amtStr a).data[i] = UInt8.ofNat (byteAt a (31 - i)) := by
    show ((strOfNums (amtL a)).data)[i] = _
    simp [strOfNums, amtL]
  rw [e]
  have := byteAt_lt a (31 - i)
  rw [UInt8.toNat_ofNat']
  exact Nat.mod_eq_of_lt this
theorem amt_fbv (a : Nat) (ha : a < 2 ^ 256) : fbv (amtStr a) = a := by
  unfold fbv
  rw [if_pos (amtStr_size a), bnum_congr (fun j hj => sb_amt a j hj) 32, bnum_bytes9 a 32 (by omega), Nat.mod_eq_of_lt ha]
end Go.Proofs.YtoaepgiajooecaaGreat
