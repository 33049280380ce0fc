/- keys.Num, walked. -/
import Derived.Test.YtedkhpnlhkjjgaaK2
namespace Go.Proofs.Ytedkhpnlhkjjgaa
open Go.RowKit

theorem D8_cells (w : World) (m : Nat) (t : TypeId) : ∀ i, i < 8 → (w.alloc (.cells #[.int .u8 (kbyte m 7 : Nat), .int .u8 (kbyte m 6 : Nat), .int .u8 (kbyte m 5 : Nat), .int .u8 (kbyte m 4 : Nat), .int .u8 (kbyte m 3 : Nat), .int .u8 (kbyte m 2 : Nat), .int .u8 (kbyte m 1 : Nat), .int .u8 (kbyte m 0 : Nat)] t)).cell? ⟨w.heap.size, 0 + i, none⟩ = some (.int .u8 ((ints (kb8 m)).getD i 0)) := by
  intro i hi
  rw [Nat.zero_add, World.cell?_alloc_new]
  rcases (by omega : i = 0 ∨ i = 1 ∨ i = 2 ∨ i = 3 ∨ i = 4 ∨ i = 5 ∨ i = 6 ∨ i = 7) with rfl | rfl | rfl | rfl | rfl | rfl | rfl | rfl <;> rfl
def numStr (n : Int) : ByteArray := strOfNums (ints (kb8 (max n 0).toNat))
set_option maxRecDepth 100000 in
set_option maxHeartbeats 1000000 in
theorem knum_walk (n : Int) (w : World) (hn : n < 2 ^ 63) : Calls Try.prog 66 #[.int .i64 n] w fun e w' => e = .returned (.string (numStr n)) ∧ Below w.heap.size w w' := by
  go_enter Try.func66, Try.ntmps66
  go_wp2_with fail
  · refine (dig_c (0 : Int) _ (by omega) (by omega)).mono ?_
    rintro e w2 ⟨rfl, hb2⟩
    obtain ⟨m, hm⟩ : ∃ m, m = (0 : Int).toNat := ⟨_, rfl⟩
    rw [← hm]
    unfold D8
    have hcv := run_convert_bytes_arg (P := Try.prog) (w2.alloc (.cells #[.int .u8 (kbyte m 7 : Nat), .int .u8 (kbyte m 6 : Nat), .int .u8 (kbyte m 5 : Nat), .int .u8 (kbyte m 4 : Nat), .int .u8 (kbyte m 3 : Nat), .int .u8 (kbyte m 2 : Nat), .int .u8 (kbyte m 1 : Nat), .int .u8 (kbyte m 0 : Nat)] 161)) 56 5 Try.underlying56 Try.underlying5 w2.heap.size 0 8 8 (ints (kb8 m)) rfl (D8_cells w2 _ _) 9 Try.underlying9
    have hst : numStr n = strOfNums (ints (kb8 m)) := by unfold numStr; rw [Int.max_eq_right (by omega), ← hm]
    rw [← hst] at hcv
    clear hst hn hm
    go_wp2
    go_ret
    exact ⟨rfl, hb2.alloc hb2.size _⟩
  · refine (dig_c (n) _ (by omega) (by omega)).mono ?_
    rintro e w2 ⟨rfl, hb2⟩
    obtain ⟨m, hm⟩ : ∃ m, m = (n).toNat := ⟨_, rfl⟩
    rw [← hm]
    unfold D8
    have hcv := run_convert_bytes_arg (P := Try.prog) (w2.alloc (.cells #[.int .u8 (kbyte m 7 : Nat), .int .u8 (kbyte m 6 : Nat), .int .u8 (kbyte m 5 : Nat), .int .u8 (kbyte m 4 : Nat), .int .u8 (kbyte m 3 : Nat), .int .u8 (kbyte m 2 : Nat), .int .u8 (kbyte m 1 : Nat), .int .u8 (kbyte m 0 : Nat)] 161)) 56 5 Try.underlying56 Try.underlying5 w2.heap.size 0 8 8 (ints (kb8 m)) rfl (D8_cells w2 _ _) 9 Try.underlying9
    have hst : numStr n = strOfNums (ints (kb8 m)) := by unfold numStr; rw [Int.max_eq_left (by omega), ← hm]
    rw [← hst] at hcv
    clear hst hn hm
    go_wp2
    go_ret
    exact ⟨rfl, hb2.alloc hb2.size _⟩
end Go.Proofs.Ytedkhpnlhkjjgaa
