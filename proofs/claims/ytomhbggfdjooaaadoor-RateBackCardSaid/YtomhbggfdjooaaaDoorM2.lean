/- muldiv.shiftLeft, walked. -/
import Derived.Test.YtomhbggfdjooaaaDoorM1
import Derived.Test.YtomhbggfdjooaaaDoorU7
namespace Go.Proofs.YtomhbggfdjooaaaDoor
open Go.RowKit

def shlA (l r : Nat) : Nat := l * 2 ^ r % 18446744073709551616
theorem shlA_lt (l r : Nat) : shlA l r < 2 ^ 64 := Nat.mod_lt _ (by decide)
theorem shlA_run (l r : Nat) : IntKind.u64.wrap ((l : Int) * 2 ^ r) = ((shlA l r : Nat) : Int) := by
  rw [IntKind.wrap_u64]; unfold shlA; rw [Int.natCast_emod, Int.natCast_mul, Int.natCast_pow]; rfl
theorem shlHi_lt {l r : Nat} (hl : l < 2 ^ 64) (hr : r < 64) : shlHi l r < 2 ^ r := by
  unfold shlHi
  refine (Nat.div_lt_iff_lt_mul (Nat.pow_pos (by decide))).2 ?_
  rw [← Nat.pow_add, show r + (64 - r) = 64 by omega]; exact hl
theorem or_join2 {y l r : Nat} (hy : y < 2 ^ 64) (hr : r < 64) : bits BinOp.or IntKind.u64 ((shlA l r : Nat) : Int) ((y : Int) / 2 ^ (64 - r)) = ((shlLo (shlHi y r) l r : Nat) : Int) := by
  have hx := shlHi_lt hy hr
  have h64 : 18446744073709551616 = 2 ^ r * 2 ^ (64 - r) := by rw [← Nat.pow_add, show r + (64 - r) = 64 by omega]
  have hle : 2 ^ r ≤ 2 ^ 64 := Nat.pow_le_pow_right (by decide) (by omega)
  have e : (y : Int) / 2 ^ (64 - r) = ((shlHi y r : Nat) : Int) := by unfold shlHi; rw [Int.natCast_ediv, Int.natCast_pow]; rfl
  rw [e, u64_or_nat _ _ (shlA_lt _ _) (by omega)]
  unfold shlA
  rw [nat_join r _ _ ?_ hx, Nat.add_comm]
  · rfl
  · rw [h64, Nat.mod_mul_right_mod]; exact Nat.mul_mod_left _ _
theorem limb_shl_low (n w r j : Nat) (hj : j < w) : limb (n * 2 ^ (64 * w + r)) j = 0 := by
  unfold limb
  have e : 64 * w + r = 64 * j + (64 + (64 * (w - 1 - j) + r)) := by omega
  rw [e, Nat.pow_add, Nat.pow_add, ← Nat.mul_assoc, Nat.mul_right_comm, Nat.mul_div_cancel _ (Nat.pow_pos (by decide)), Nat.mul_comm (2 ^ 64), ← Nat.mul_assoc]
  exact Nat.mul_mod_left _ _
theorem limb_shl0 (n w r : Nat) : limb (n * 2 ^ (64 * w + r)) w = shlA (limb n 0) r := by
  unfold limb shlA
  rw [Nat.pow_add, Nat.mul_comm (2 ^ (64 * w)), ← Nat.mul_assoc, Nat.mul_div_cancel _ (Nat.pow_pos (by decide))]
  simp only [Nat.mul_zero, Nat.pow_zero, Nat.div_one]
  show n * 2 ^ r % 2 ^ 64 = n % 2 ^ 64 * 2 ^ r % 2 ^ 64
  rw [Nat.mod_mul_mod]
theorem limb_shl (n w r m : Nat) (hr : r < 64) : limb (n * 2 ^ (64 * w + r)) (m + 1 + w) = shlLo (shlHi (limb n m) r) (limb n (m + 1)) r := by
  have hlo := shlLo_lt (l := limb n (m + 1)) (shlHi_lt (limb_lt n m) hr) hr
  have e0 : n * 2 ^ (64 * w + r) / 2 ^ (64 * (m + 1 + w)) = n / 2 ^ (64 * m) / 2 ^ (64 - r) := by
    rw [show 64 * (m + 1 + w) = (64 * w + r) + (64 * m + (64 - r)) by omega, Nat.pow_add 2 (64 * w + r), Nat.mul_comm n, Nat.mul_div_mul_left _ _ (Nat.pow_pos (by decide)), Nat.pow_add, Nat.div_div_eq_div_mul]
  have e1 : limb n (m + 1) = n / 2 ^ (64 * m) / 2 ^ 64 % 2 ^ 64 := by unfold limb; rw [Nat.div_div_eq_div_mul, ← Nat.pow_add]; congr 3
  have e2 : limb n m = n / 2 ^ (64 * m) % 2 ^ 64 := rfl
  have e3 : limb (n * 2 ^ (64 * w + r)) (m + 1 + w) = n / 2 ^ (64 * m) / 2 ^ (64 - r) % 2 ^ 64 := by unfold limb; rw [e0]
  rw [e3]
  rw [e1, e2] at hlo ⊢
  generalize n / 2 ^ (64 * m) = X at *
  have h64 : (2 : Nat) ^ 64 = 2 ^ r * 2 ^ (64 - r) := by rw [← Nat.pow_add, show r + (64 - r) = 64 by omega]
  have e4 : X / 2 ^ (64 - r) = X / 2 ^ 64 * 2 ^ r + shlHi (X % 2 ^ 64) r := by
    unfold shlHi
    have h := Nat.div_add_mod X (2 ^ 64)
    have h1 : X = 2 ^ (64 - r) * (X / 2 ^ 64 * 2 ^ r) + X % 2 ^ 64 := by
      rw [← Nat.mul_assoc, Nat.mul_right_comm, Nat.mul_comm (2 ^ (64 - r) * 2 ^ r), Nat.mul_comm (2 ^ (64 - r)), ← h64, Nat.mul_comm]; exact h.symm
    conv => lhs; rw [h1]
    rw [Nat.mul_add_div (Nat.pow_pos (by decide))]
  rw [e4]
  have e5 : (X / 2 ^ 64 * 2 ^ r) % 2 ^ 64 = X / 2 ^ 64 % 2 ^ 64 * 2 ^ r % 2 ^ 64 := by rw [Nat.mod_mul_mod]
  rw [Nat.add_mod, e5]
  have e6 : shlHi (X % 2 ^ 64) r % 2 ^ 64 = shlHi (X % 2 ^ 64) r := Nat.mod_eq_of_lt (Nat.lt_of_lt_of_le (shlHi_lt (Nat.mod_lt _ (by decide)) hr) (Nat.pow_le_pow_right (by decide) (by omega)))
  rw [e6]
  unfold shlLo at hlo ⊢
  rw [Nat.add_comm]
  exact Nat.mod_eq_of_lt hlo

/-- the words of a wide number as they lie: the high half ahead -/
def wl (n i : Nat) : Nat := if i < 4 then limb n (i + 4) else limb n (i - 4)
def eight (x0 x1 x2 x3 x4 x5 x6 x7 : Nat) : Nat → Nat
  | 0 => x0
  | 1 => x1
  | 2 => x2
  | 3 => x3
  | 4 => x4
  | 5 => x5
  | 6 => x6
  | 7 => x7
  | _ => 0
theorem Arr.newW {w : World} {b : Nat} {t : TypeId} {n : Nat} (hb : b = w.heap.size) :
    Arr .u64 (w.alloc (.cells #[.int .u64 (limb n 4 : Nat), .int .u64 (limb n 5 : Nat), .int .u64 (limb n 6 : Nat), .int .u64 (limb n 7 : Nat), .int .u64 (limb n 0 : Nat), .int .u64 (limb n 1 : Nat), .int .u64 (limb n 2 : Nat), .int .u64 (limb n 3 : Nat)] t)) b 8 (wl n) := by
  refine Arr.congr (Arr.new8 (f := eight (limb n 4) (limb n 5) (limb n 6) (limb n 7) (limb n 0) (limb n 1) (limb n 2) (limb n 3)) hb) fun i hi => ?_
  rcases (by omega : i = 0 ∨ i = 1 ∨ i = 2 ∨ i = 3 ∨ i = 4 ∨ i = 5 ∨ i = 6 ∨ i = 7) with rfl | rfl | rfl | rfl | rfl | rfl | rfl | rfl <;> simp [eight, wl]
def ShlWPost (n by_ : Nat) (w : World) (e : Ending) (w' : World) : Prop := e = .returned (W2 (n * 2 ^ by_)) ∧ Below w.heap.size w w'
def ShlWRel (n by_ words : Nat) (w : World) (i : Value) (wr : World) : Prop :=
  ∃ (k : Nat) (f : Nat → Nat), k ≤ 8 - words ∧ i = .int .i64 (k : Nat) ∧ (∀ j, j < k + words → f j = limb (n * 2 ^ by_) j) ∧
    Arr .u64 wr (w.heap.size + 1) 8 (fun _ => 0) ∧ Arr .u64 wr (w.heap.size + 1 + 1) 8 (limb n) ∧ Arr .u64 wr (w.heap.size + 1 + 1 + 1) 8 f ∧
    Below w.heap.size w wr ∧ w.heap.size + 1 + 1 + 1 < wr.heap.size

set_option maxRecDepth 100000 in
set_option maxHeartbeats 1000000 in
theorem shlw_walk (n by_ : Nat) (w : World) (hby : by_ < 256) : Calls Tryd.prog 48 #[W2 n, .int .i64 (by_ : Nat)] w (ShlWPost n by_ w) := by
  obtain ⟨words, hw⟩ : ∃ n, n = by_ / 64 := ⟨_, rfl⟩
  obtain ⟨rest, hr⟩ : ∃ n, n = by_ % 64 := ⟨_, rfl⟩
  have e1 : (by_ : Int) / 64 = (words : Int) := by omega
  have e2 : (by_ : Int).tmod 64 = (rest : Int) := by rw [Int.tmod_eq_emod_of_nonneg (by omega)]; omega
  have e3 : (by_ : Int).tdiv 64 = (words : Int) := by rw [Int.tdiv_eq_ediv_of_nonneg (by omega)]; omega
  have hw4 : words < 4 := by omega
  have hr64 : rest < 64 := by omega
  have Hby : Hid (by_ = 64 * words + rest) := Lib.hid (by omega)
  have e8 : IntKind.i64.wrap (8 - (words : Int)) = 8 - (words : Int) := IntWalk.i64_in _ (by omega)
  clear hw hr
  unfold W2
  go_enter Tryd.func48, Tryd.ntmps48
  go_wp2
  go_loopw [41] (ShlWRel n by_ words w) (fun i _ => 8 - (intOf i).toNat)
  case atStart =>
    refine ⟨0, fun _ => 0, by omega, rfl, ?_, ?_, ?_, ?_, ?_, ?_⟩
    · intro j hj; rw [Hby.out, limb_shl_low _ _ _ _ (by omega)]
    · exact ((Arr.new8 (f := fun _ => 0) (by simp)).alloc _).alloc _
    · exact (Arr.new8 (f := limb n) (by simp)).alloc _
    · exact Arr.new8 (f := fun _ => 0) (by simp)
    · exact ((((Below.refl _ _).alloc (Nat.le_refl _) _).alloc (by simp only [World.size_alloc]; omega) _).alloc (by simp only [World.size_alloc]; omega) _).alloc (by simp only [World.size_alloc]; omega) _
    · simp
  case round =>
    obtain ⟨k, f, hk, rfl, hf, hz, hs, ht, hbel, hsz⟩ := hrel
    by_cases hlt : k < 8 - words
    · have a1 := hs.cell k (by omega)
      have f1 := ht.free (k + words) (by omega)
      have f2 := ht.cell (k + words) (by omega)
      have q3 : (k : Int) + (words : Int) < 8 := by omega
      have q4 : ((k : Int) + (words : Int)).toNat = k + words := by omega
      have q5 : IntKind.i64.wrap ((k : Int) + (words : Int)) = (k : Int) + (words : Int) := IntWalk.i64_in _ (by omega)
      have q6 : (k : Int) < 8 - (words : Int) := by omega
      have s1 := shlA_run (limb n k) rest
      have Hf := Lib.hid hf
      clear hf
      by_cases hk0 : k = 0
      · have q7 : ¬ (0 : Int) < (k : Int) := by omega
        have Hk0 := Lib.hid hk0
        clear hk0
        go_wp2
        go_roundw
        case rel =>
          refine ⟨k + 1, upd f (k + words) (shlA (limb n k) rest), by omega, by go_num, ?_, ?_, ?_, ?_, ?_, ?_⟩
          · intro j hj
            by_cases hj2 : j < k + words
            · rw [upd_ne _ (by omega)]; exact Hf.out j hj2
            · obtain rfl : j = k + words := by omega
              rw [upd_same, Hk0.out, Nat.zero_add, Hby.out, limb_shl0]
          · exact hz.set_far (by omega)
          · exact hs.set_far (by omega)
          · exact ht.set (by omega)
          · exact hbel.setCell (by simp; omega) _
          · simp; omega
        case measure => simp [intOf]; omega
      · obtain ⟨m, hm⟩ : ∃ m, k = m + 1 := ⟨k - 1, by omega⟩
        have q7 : (0 : Int) < (k : Int) := by omega
        have q8 : IntKind.i64.wrap ((k : Int) - 1) = (k : Int) - 1 := IntWalk.i64_in _ (by omega)
        have q9 : ((k : Int) - 1).toNat = m := by omega
        have q10 : (0 : Int) ≤ (k : Int) - 1 := by omega
        have q11 : (k : Int) - 1 < 8 := by omega
        have q12 : IntKind.i64.wrap (64 - (rest : Int)) = 64 - (rest : Int) := IntWalk.i64_in _ (by omega)
        have a2 := hs.cell m (by omega)
        have o1 := or_join2 (l := limb n k) (limb_lt n m) hr64
        have Hm := Lib.hid hm
        clear hm hk0
        go_wp2
        go_region
        go_wp2
        go_roundw
        case rel =>
          refine ⟨k + 1, upd (upd f (k + words) (shlA (limb n k) rest)) (k + words) (shlLo (shlHi (limb n m) rest) (limb n k) rest), by omega, by go_num, ?_, ?_, ?_, ?_, ?_, ?_⟩
          · intro j hj
            by_cases hj2 : j < k + words
            · rw [upd_ne _ (by omega), upd_ne _ (by omega)]; exact Hf.out j hj2
            · obtain rfl : j = k + words := by omega
              rw [upd_same, Hm.out, Hby.out, limb_shl _ _ _ _ hr64]
          · exact ((hz.set_far (by omega)).drew).set_far (by omega)
          · exact ((hs.set_far (by omega)).drew).set_far (by omega)
          · exact ((ht.set (by omega)).drew).set (by omega)
          · exact (below_drewN (hbel.setCell (by simp; omega) _) 1).setCell (by simp; omega) _
          · simp; omega
        case measure => simp [intOf]; omega
    · have hk8 : k = 8 - words := by omega
      have q6 : ¬ (k : Int) < 8 - (words : Int) := by omega
      have ht' : Arr .u64 wr (w.heap.size + 1 + 1 + 1) 8 (limb (n * 2 ^ by_)) := ht.congr fun i hi => hf i (by omega)
      clear hf ht hk8
      obtain ⟨N, hN⟩ : ∃ N, N = n * 2 ^ by_ := ⟨_, rfl⟩
      rw [← hN] at ht'
      have HN := Lib.hid hN
      clear hN
      obtain ⟨s0, s1, s2, s3, s4, s5, s6, s7⟩ := ht'.cells8
      go_wp2_with (go_at_call 52; refine (join_walk N _).mono ?_; rintro e w1 ⟨rfl, hb1⟩; obtain ⟨y0, y1, y2, y3, y4, y5, y6, y7⟩ := (hz.below hb1 (by omega)).frees8; obtain ⟨z0, z1, z2, z3, z4, z5, z6, z7⟩ := (hz.below hb1 (by omega)).cells8; unfold W2)
      refine bodyPost_ret (v := W2 N) (by unfold W2; simp [results, Tryd.results48, go_sem, z0, z1, z2, z3, z4, z5, z6, z7]) rfl ⟨by rw [HN.out], ?_⟩
      exact below_set8 (hbel.trans (hb1.mono (by omega))) (by omega)

end Go.Proofs.YtomhbggfdjooaaaDoor
