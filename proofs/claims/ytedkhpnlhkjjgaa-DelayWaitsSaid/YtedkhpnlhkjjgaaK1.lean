/- keys.digits and keys.Less, walked. -/
import Derived.Test.YtedkhpnlhkjjgaaProg
import Derived.Test.YtedkhpnlhkjjgaaKit
import Derived.Lib.Hide
namespace Go.Proofs.Ytedkhpnlhkjjgaa
open Go.RowKit

def kbyte (n i : Nat) : Nat := n / 2 ^ (8 * i) % 256
theorem kbyte_lt (n i : Nat) : kbyte n i < 256 := Nat.mod_lt _ (by decide)
theorem kbyte_run (n i : Nat) : IntKind.u8.wrap ((n : Int) / 2 ^ (8 * i)) = ((kbyte n i : Nat) : Int) := by
  unfold kbyte
  rw [IntKind.wrap_u8', Int.natCast_emod, Int.natCast_ediv, Int.natCast_pow]; rfl
/-- the eight bytes of a number, the greatest first -/
def D8 (n : Nat) : Value := .agg #[.int .u8 (kbyte n 7 : Nat), .int .u8 (kbyte n 6 : Nat), .int .u8 (kbyte n 5 : Nat), .int .u8 (kbyte n 4 : Nat), .int .u8 (kbyte n 3 : Nat), .int .u8 (kbyte n 2 : Nat), .int .u8 (kbyte n 1 : Nat), .int .u8 (kbyte n 0 : Nat)]
def DigPost (n : Nat) (w : World) (e : Ending) (w' : World) : Prop := e = .returned (D8 n) ∧ Below w.heap.size w w'
def KDigRel (n : Nat) (w : World) (i : Value) (wr : World) : Prop :=
  ∃ (k : Nat) (f : Nat → Nat), k ≤ 8 ∧ i = .int .i64 (k : Nat) ∧ (∀ j, 8 - k ≤ j → j < 8 → f j = kbyte n (7 - j)) ∧
    Arr .u8 wr w.heap.size 8 (fun _ => 0) ∧ Arr .u8 wr (w.heap.size + 1) 8 f ∧ Below w.heap.size w wr ∧ w.heap.size + 1 < wr.heap.size

set_option maxRecDepth 100000 in
set_option maxHeartbeats 1000000 in
theorem dig_walk (n : Nat) (w : World) (hn : n < 2 ^ 63) : Calls Try.prog 110 #[.int .i64 (n : Nat)] w (DigPost n w) := by
  have Hn := Lib.hid hn
  clear hn
  go_enter Try.func110, Try.ntmps110
  go_wp2
  go_loopw [5] (KDigRel n w) (fun i _ => 8 - (intOf i).toNat)
  case atStart =>
    refine ⟨0, fun _ => 0, by omega, rfl, fun j h1 h2 => by omega, ?_, ?_, ((Below.refl _ _).alloc (Nat.le_refl _) _).alloc (by simp only [World.size_alloc]; omega) _, by simp⟩
    · exact (Arr.new8 (f := fun _ => 0) rfl).alloc _
    · exact Arr.new8 (f := fun _ => 0) (by simp)
  case round =>
    obtain ⟨k, f, hk, rfl, hf, hz, hs, hbel, hsz⟩ := hrel
    have Hf := Lib.hid hf
    clear hf
    by_cases hlt : k < 8
    · have b1 := kbyte_run n k
      have f1 := hs.free (7 - k) (by omega)
      have f2 := hs.cell (7 - k) (by omega)
      have i2 : (7 : Int) - (k : Int) = ((7 - k : Nat) : Int) := by omega
      have i3 : ((7 - k : Nat) : Int) < 8 := by omega
      go_wp2
      go_roundw
      case rel =>
        refine ⟨k + 1, upd f (7 - k) (kbyte n k), by omega, by go_num, fun j h1 h2 => ?_, hz.set_far (by omega), hs.set (by omega), hbel.setCell (by simp) _, by rw [World.size_setCell]; exact hsz⟩
        by_cases hj : j = 7 - k
        · rw [hj, upd_same, show 7 - (7 - k) = k by omega]
        · rw [upd_ne _ hj]; exact Hf.out j (by omega) h2
      case measure => simp [intOf]; omega
    · obtain rfl : k = 8 := by omega
      have hs' : Arr .u8 wr (w.heap.size + 1) 8 (fun j => kbyte n (7 - j)) := hs.congr fun j hj => Hf.out j (by omega) hj
      obtain ⟨s0, s1, s2, s3, s4, s5, s6, s7⟩ := hs'.cells8
      obtain ⟨y0, y1, y2, y3, y4, y5, y6, y7⟩ := hz.frees8
      obtain ⟨z0, z1, z2, z3, z4, z5, z6, z7⟩ := hz.cells8
      go_wp2
      refine bodyPost_ret (v := D8 n) (by simp [results, Try.results110, go_sem, z0, z1, z2, z3, z4, z5, z6, z7, D8]) rfl ⟨rfl, ?_⟩
      exact below_set8 hbel (by omega)
end Go.Proofs.Ytedkhpnlhkjjgaa
