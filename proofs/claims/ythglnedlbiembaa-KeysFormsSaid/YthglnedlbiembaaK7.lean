/- keys.Amount, ToAmount, walked. -/
import Derived.Test.YthglnedlbiembaaK6
import Derived.Test.YthglnedlbiembaaKM2
import Derived.Test.YthglnedlbiembaaUC
import Derived.Laws.IdiomStrings
namespace Go.Proofs.Ythglnedlbiembaa
open Go.RowKit

def amtL (a : Nat) : List Int := (List.range 32).map fun i => ((byteAt a (31 - i) : Nat) : Int)
def amtStr (a : Nat) : ByteArray := strOfNums (amtL a)
theorem amtL_get (a i : Nat) (h : i < 32) : (amtL a).getD i 0 = ((byteAt a (31 - i) : Nat) : Int) := by
  unfold amtL
  simp [List.getD, h]
set_option maxRecDepth 100000 in
set_option maxHeartbeats 1000000 in
theorem amount9_walk (a : Nat) (w : World) : Calls Try.prog 85 #[U a] w fun e w' => e = .returned (.string (amtStr a)) ∧ Below w.heap.size w w' := by
  unfold U
  go_enter Try.func85, Try.ntmps85
  go_wp2_with (go_at_call 33; refine (bytes_walk a _).mono ?_; rintro e w1 ⟨g, rfl, hg1, hg2, hA, hb1⟩; have hcv := run_convert_bytes_arg (P := Try.prog) w1 33 5 Try.underlying33 Try.underlying5 g 0 32 32 (amtL a) (by simp [amtL]) (fun i hi => by rw [Nat.zero_add, amtL_get a i hi]; exact hA.cell i hi) 9 Try.underlying9)
  go_ret
  exact ⟨rfl, ((Below.refl _ _).alloc (Nat.le_refl _) _).trans (hb1.mono (by simp))⟩
/-- a byte of a text -/
def sb (s : ByteArray) (i : Nat) : Nat := if h : i < s.data.size then (s.data[i]).toNat else 0
theorem sb_lt (s : ByteArray) (i : Nat) : sb s i < 256 := by
  unfold sb
  split
  · exact UInt8.toNat_lt _
  · decide
theorem sl_conv (s : ByteArray) (w : World) (cap L : Nat) (t : TypeId) (a b : Nat) (hL : L = w.heap.size) : Sl (w.alloc (.cells (bytesRow s cap) t (a, b))).drew (some ⟨L, 0, none⟩) s.size (sb s) := by
  subst hL
  exact ⟨sb_lt s, fun _ => ⟨w.heap.size, 0, rfl, by show w.heap.size < (w.alloc _).heap.size; rw [World.size_alloc]; omega, fun i hi => by
    have hi' : i < s.data.size := hi
    rw [Nat.zero_add]
    have h := bytesRow_at s cap i hi'
    unfold sb
    rw [dif_pos hi']
    have hh : (w.alloc (.cells (bytesRow s cap) t (a, b))).drew.heap[w.heap.size]? = some (.cells (bytesRow s cap) t (a, b)) := by
      show (w.heap.push _)[w.heap.size]? = _
      simp
    unfold World.cell?
    rw [hh]
    exact h⟩⟩
def fbv (s : ByteArray) : Nat := if s.size = 32 then bnum (sb s) 32 else 0
theorem fb_c (A : Option Addr) (c x : Nat) (ok : Bool) (s : ByteArray) (w : World) (hs : Sl w A s.size (sb s)) (hx : fbv s = x) (hok : decide (s.size = 32) = ok) : Calls Try.prog 27 #[.slice A s.size c] w fun e w' => e = .returned (.tuple #[U x, .bool ok]) ∧ Below w.heap.size w w' := by
  rw [← hx, ← hok]; exact fb_walk A s.size c (sb s) w hs
set_option maxRecDepth 100000 in
set_option maxHeartbeats 1000000 in
theorem toAmount_walk (s : ByteArray) (x : Nat) (ok : Bool) (w : World) (hx : fbv s = x) (hok : decide (s.size = 32) = ok) : Calls Try.prog 84 #[.string s] w fun e w' => e = .returned (.tuple #[U x, .bool ok]) ∧ Below w.heap.size w w' := by
  have hcv := fun w s => run_bytes_of_string (P := Try.prog) w 9 33 5 s Try.underlying9 Try.underlying33 Try.underlying5
  have Hx := Lib.hid hx
  have Hok := Lib.hid hok
  clear hx hok
  have z0 := (Arr.new4 (κ := .u64) (w := w) (t := 24) (f := fun _ => 0) (b := w.heap.size) rfl)
  have Z0 := Lib.hid z0
  clear z0
  unfold U
  go_enter Try.func84, Try.ntmps84
  go_wp2_with (go_at_call 27; refine (fb_c (some ⟨w.heap.size + 1, 0, none⟩) _ x ok s _ (sl_conv s (w.alloc (.cells #[.int .u64 0, .int .u64 0, .int .u64 0, .int .u64 0] 24)) _ _ _ _ _ (by simp)) Hx.out Hok.out).mono ?_; rintro e w1 ⟨rfl, hb1⟩; have z1 := ((Z0.out.alloc _).drew).below hb1 (by show w.heap.size < ((w.alloc _).alloc _).heap.size; simp only [World.size_alloc]; omega); obtain ⟨f0, f1, f2, f3⟩ := z1.frees4; obtain ⟨c0, c1, c2, c3⟩ := z1.cells4; unfold U)
  refine bodyPost_ret (v := .tuple #[.agg #[.int .u64 (limb x 0 : Nat), .int .u64 (limb x 1 : Nat), .int .u64 (limb x 2 : Nat), .int .u64 (limb x 3 : Nat)], .bool ok]) (by simp [results, Try.results84, go_sem, c0, c1, c2, c3]) rfl ⟨rfl, below_set4 ((below_drewN (((Below.refl _ _).alloc (Nat.le_refl _) _).alloc (by simp) _) 1).trans (hb1.mono (by show w.heap.size ≤ ((w.alloc _).alloc _).heap.size; simp only [World.size_alloc]; omega))) (Nat.le_refl _)⟩
theorem amtStr_size (a : Nat) : (amtStr a).size = 32 := by unfold amtStr; rw [strOfNums_size]; simp [amtL]
theorem bnum_bytes9 (a : Nat) : ∀ k, k ≤ 32 → bnum (fun i => byteAt a (31 - i)) k = a % 2 ^ (8 * k)
  | 0, _ => by simp [bnum, Nat.mod_one]
  | k + 1, h => by
    have e : 2 ^ (8 * (k + 1)) = 2 ^ (8 * k) * 256 := by rw [show (256 : Nat) = 2 ^ 8 from rfl, ← Nat.pow_add]; congr 1
    simp only [bnum]
    rw [bnum_bytes9 a k (by omega), show 31 - (31 - k) = k by omega, e, Nat.mod_mul, byteAt, Nat.mul_comm (a / 2 ^ (8 * k) % 256)]
theorem bnum_congr {f g : Nat → Nat} (h : ∀ j, j ≤ 31 → f j = g j) : ∀ k, bnum f k = bnum g k
  | 0 => rfl
  | k + 1 => by simp only [bnum]; rw [bnum_congr h k, h (31 - k) (by omega)]
theorem sb_amt (a i : Nat) (h : i ≤ 31) : sb (amtStr a) i = byteAt a (31 - i) := by
  have hs : i < (amtStr a).data.size := by have h2 : (amtStr a).data.size = 32 := amtStr_size a; omega
  unfold sb
  rw [dif_pos hs]
  have e : (amtStr a).data[i] = UInt8.ofNat (byteAt a (31 - i)) := by
    show ((strOfNums (amtL a)).data)[i] = _
    simp [strOfNums, amtL]
  rw [e]
  have := byteAt_lt a (31 - i)
  rw [UInt8.toNat_ofNat']
  exact Nat.mod_eq_of_lt this
theorem amt_fbv (a : Nat) (ha : a < 2 ^ 256) : fbv (amtStr a) = a := by
  unfold fbv
  rw [if_pos (amtStr_size a), bnum_congr (fun j hj => sb_amt a j hj) 32, bnum_bytes9 a 32 (by omega), Nat.mod_eq_of_lt ha]
end Go.Proofs.Ythglnedlbiembaa
