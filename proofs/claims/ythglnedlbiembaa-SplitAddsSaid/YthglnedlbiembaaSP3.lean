/- tallagelaw34.lives, SplitParts, walked. -/
import Derived.Test.YthglnedlbiembaaSP2
namespace Go.Proofs.Ythglnedlbiembaa
open Go.RowKit Go.Sort

theorem Bk.push2 {w wr : World} {l : List (Nat × Nat)} {t t' : TypeId} (n m : Nat) (h : Bk w wr l) : Bk w ((wr.alloc (.cells #[.int .u64 (limb n 0 : Nat), .int .u64 (limb n 1 : Nat), .int .u64 (limb n 2 : Nat), .int .u64 (limb n 3 : Nat)] t)).alloc (.cells #[.int .u64 (limb m 0 : Nat), .int .u64 (limb m 1 : Nat), .int .u64 (limb m 2 : Nat), .int .u64 (limb m 3 : Nat)] t')) ((wr.heap.size + 1, m) :: (wr.heap.size, n) :: l) := by
  have h2 := (h.push (t := t) n).push (t := t') m
  rw [World.size_alloc] at h2
  exact h2
theorem parts99_c (w : World) : Calls Try.prog 76 #[.int .i64 1000, .agg #[.int .u64 99, .int .u64 0, .int .u64 0, .int .u64 0]] w
    fun e w' => e = .returned (.tuple #[.agg #[.int .u64 9, .int .u64 0, .int .u64 0, .int .u64 0], .agg #[.int .u64 90, .int .u64 0, .int .u64 0, .int .u64 0], .bool true]) ∧ Below w.heap.size w w' := by
  have h := parts_yes_walk 1000 99 w (by decide) (by decide)
  rw [U_small (show 99 < 2 ^ 64 by decide)] at h
  refine h.mono fun e w' ⟨he, hw⟩ => ⟨?_, hw⟩
  rw [he, show 99 * 1000 / 10000 = 9 from rfl, show 99 - 9 = 90 from rfl, U_small (show 9 < 2 ^ 64 by decide), U_small (show 90 < 2 ^ 64 by decide)]
  rfl
set_option maxRecDepth 100000 in
set_option maxHeartbeats 2000000 in
theorem lives34_walk (w : World) : Calls Try.prog 78 #[] w fun e w' => e = .returned (.bool true) ∧ Below w.heap.size w w' := by
  have heq := eqU
  go_enter Try.func78, Try.ntmps78
  go_wp2_with (go_at_call 76; refine (parts99_c _).mono ?_; rintro e w1 ⟨rfl, hb1⟩)
  go_ret
  exact ⟨rfl, (hb1.alloc hb1.size _).alloc (by have := hb1.size; simp; omega) _⟩
set_option maxRecDepth 100000 in
set_option maxHeartbeats 4000000 in
theorem splitParts_of (n : Int) (a p q : Nat) (ok : Bool) (w : World) (hp : p < 2 ^ 256) (hq : q < 2 ^ 256)
    (hA : ∀ w, Calls Try.prog 76 #[.int .i64 n, U a] w fun e w' => e = .returned (.tuple #[U p, U q, .bool ok]) ∧ Below w.heap.size w w')
    (hB : ∀ w, Calls Try.prog 77 #[.int .i64 n, U a] w fun e w' => e = .returned (.tuple #[U p, U q, .bool ok]) ∧ Below w.heap.size w w') :
    Calls Try.prog 11 #[.int .i64 n, U a] w fun e w' => e = .returned (.bool true) ∧ Below w.heap.size w w' := by
  have HA := Lib.hid hA
  have HB := Lib.hid hB
  have heqp := fun w => eq_run hp hp w
  have heqq := fun w => eq_run hq hq w
  have K0 := Lib.hid (Bk.push (t := 24) a (Bk.nil (w := w)))
  clear hA hB hp hq
  unfold U
  go_enter Try.func11, Try.ntmps11
  go_wp2_with (first
    | (go_at_call 78; refine (lives34_walk _).mono ?_; rintro e w3 ⟨rfl, hb3⟩)
    | (go_at_call 77; refine (HB.out _).mono ?_; rintro e w2 ⟨rfl, hb2⟩; have k2 := (k1.call hb2).push2 (t := 24) (t' := 24) p q; obtain ⟨⟨b0, b1, b2, b3⟩, b4⟩ := (k1.call hb2).cells w1.heap.size p (by simp); obtain ⟨⟨c0, c1, c2, c3⟩, c4⟩ := (k1.call hb2).cells (w1.heap.size + 1) q (by simp); unfold U)
    | (go_at_call 76; refine (HA.out _).mono ?_; rintro e w1 ⟨rfl, hb1⟩; have k1 := (K0.out.call hb1).push2 (t := 24) (t' := 24) p q; obtain ⟨⟨a0, a1, a2, a3⟩, a4⟩ := (K0.out.call hb1).cells w.heap.size a (by simp); unfold U))
  go_ret
  exact ⟨rfl, (k2.call hb3).l⟩
theorem splitParts_walk (n : Int) (a : Nat) (w : World) (ha : a < 2 ^ 256) :
    Calls Try.prog 11 #[.int .i64 n, U a] w fun e w' => e = .returned (.bool true) ∧ Below w.heap.size w w' := by
  by_cases h : 0 ≤ n ∧ n ≤ 10000 ∧ a ≤ MOST
  · obtain ⟨m, rfl⟩ : ∃ m : Nat, n = (m : Int) := ⟨n.toNat, by omega⟩
    have hm : m ≤ 10000 := by omega
    have hp : a * m / 10000 ≤ a := Nat.div_le_of_le_mul (by rw [Nat.mul_comm]; exact Nat.mul_le_mul_right a hm)
    exact splitParts_of m a (a * m / 10000) (a - a * m / 10000) true w (by omega) (by omega) (fun w => parts_yes_walk m a w h.2.2 hm) (fun w => rparts_yes_walk m a w h.2.2 hm)
  · exact splitParts_of n a 0 0 false w (by decide) (by decide) (fun w => parts_no_walk n a w ha h) (fun w => rparts_no_walk n a w ha h)
end Go.Proofs.Ythglnedlbiembaa
