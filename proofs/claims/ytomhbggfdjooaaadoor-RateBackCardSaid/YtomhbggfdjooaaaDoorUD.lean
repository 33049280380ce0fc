/- u256.Of and u256.Text, walked. -/
import Derived.Test.YtomhbggfdjooaaaDoorUA
import Derived.Test.YtomhbggfdjooaaaDoorLives1
import Derived.Laws.BytesArg
import Derived.Deep.DeepCutAuto
import Derived.Deep.CutBlock
import Derived.Test.YtomhbggfdjooaaaDoorU3
namespace Go.Proofs.YtomhbggfdjooaaaDoor
open Go.RowKit

def OfPost (n : Nat) (w : World) (e : Ending) (w' : World) : Prop := e = .returned (.agg #[.int .u64 (n : Nat), .int .u64 0, .int .u64 0, .int .u64 0]) ∧ Below w.heap.size w w'
set_option maxRecDepth 100000 in
theorem of_walk (n : Nat) (w : World) : Calls Tryd.prog 39 #[.int .u64 (n : Nat)] w (OfPost n w) := by
  go_enter Tryd.func39, Tryd.ntmps39
  go_wp2
  refine bodyPost_ret (v := .agg #[.int .u64 (n : Nat), .int .u64 0, .int .u64 0, .int .u64 0]) (by simp [results, Tryd.results39, go_sem]) rfl ⟨rfl, ?_⟩
  exact (Below.refl _ _).alloc (Nat.le_refl _) _

/-- the decimal digit of a at place t of j digits, as a byte -/
def digAt (a j t : Nat) : Nat := 48 + a / 10 ^ (j - 1 - t) % 10
theorem digAt_lt (a j t : Nat) : digAt a j t < 256 := by unfold digAt; omega
/-- j digits of a -/
def digits (a j : Nat) : List Int := (List.range j).map fun t => ((digAt a j t : Nat) : Int)
theorem digits_length (a j : Nat) : (digits a j).length = j := by simp [digits]
theorem digits_getD {a j t : Nat} (h : t < j) : (digits a j).getD t 0 = (digAt a j t : Nat) := by
  simp [digits, List.getD, List.getElem?_map, List.getElem?_range h]

theorem pow_bound {a j : Nat} (ha : a < 2 ^ 256) (h : a / 10 ^ j ≠ 0) : j < 78 := by
  rcases Nat.lt_or_ge j 78 with h1 | h1
  · exact h1
  · refine absurd (Nat.div_eq_of_lt (Nat.lt_of_lt_of_le ha ?_)) h
    exact Nat.le_trans (by decide) (Nat.pow_le_pow_right (by decide) h1)
theorem div10_c (m : Nat) (w : World) (hm : m < 2 ^ 256) : Calls Tryd.prog 46 #[U m, .agg #[.int .u64 10, .int .u64 0, .int .u64 0, .int .u64 0]] w
    fun e w' => e = .returned (.tuple #[U (m / 10), U (m % 10), .bool true]) ∧ Below w.heap.size w w' := by
  have h := div_walk m 10 w hm (by decide)
  rw [U_small (show 10 < 2 ^ 64 by decide)] at h
  exact h.mono fun e w' ⟨he, hw⟩ => ⟨by rw [he, if_neg (by decide), if_neg (by decide), decide_eq_true (by decide)], hw⟩
theorem of10_c (w : World) : Calls Tryd.prog 39 #[.int .u64 10] w
    fun e w' => e = .returned (.agg #[.int .u64 10, .int .u64 0, .int .u64 0, .int .u64 0]) ∧ Below w.heap.size w w' := of_walk 10 w

def TextPost (a : Nat) (w : World) (e : Ending) (w' : World) : Prop :=
  ∃ j, e = .returned (.string (strOfNums (digits a j))) ∧ 1 ≤ j ∧ j ≤ 78 ∧ a < 10 ^ j ∧ (j = 1 ∨ 10 ^ (j - 1) ≤ a) ∧ Below w.heap.size w w'
def TextRel (a : Nat) (w : World) (i : Value) (wr : World) : Prop :=
  ∃ (j : Nat) (f : Nat → Nat), j ≤ 78 ∧ i = .int .i64 ((78 - j : Nat) : Int) ∧ (j = 0 ∨ 10 ^ (j - 1) ≤ a) ∧ (∀ t, 78 - j ≤ t → t < 78 → f t = 48 + a / 10 ^ (77 - t) % 10) ∧
    Arr .u64 wr w.heap.size 4 (limb (a / 10 ^ j)) ∧ Arr .u8 wr (w.heap.size + 1) 78 f ∧ Below w.heap.size w wr ∧ w.heap.size + 1 < wr.heap.size

end Go.Proofs.YtomhbggfdjooaaaDoor
