/- The law CellMoves: where it looks at nothing; the whole. -/
import Derived.Test.YtbfmhafmncnhfaaG31
namespace Go.Proofs.Ytbfmhafmncnhfaa
open Go.RowKit Go.Maps Go.Sort

set_option maxRecDepth 100000 in
set_option maxHeartbeats 4000000 in
theorem cellMoves_walk (A : Option Addr) (N C : Nat) (gs : Nat → Nat) (A' : Option Addr) (N' C' : Nat) (x0 x1 x2 x3 : Nat → Int) (a4 : Nat → Nat) (A5 : Nat → Option Addr) (k5 c5 : Nat → Nat) (w : World)
    (hr : RowsV w A N 4 (fun i => [.int .u64 (limb (gs i) 0 : Nat), .int .u64 (limb (gs i) 1 : Nat), .int .u64 (limb (gs i) 2 : Nat), .int .u64 (limb (gs i) 3 : Nat)])) (hg : ∀ i, i < N → gs i < 2 ^ 256) (hN : (N : Int) ≤ 9223372036854775807)
    (hr' : A10Rows w A' N' x0 x1 x2 x3 a4 A5 k5 c5) (hN' : (N' : Int) ≤ 9223372036854775807) (ha : ∀ i, i < N' → a4 i < 2 ^ 256) :
    Calls Try.prog 6 #[.slice A N C, .slice A' N' C'] w fun e w' => e = .returned (.bool true) ∧ Below w.heap.size w w' := by
  by_cases hl : N' ≤ 200 ∧ ∀ j, j < N' → k5 j ≤ 20
  · by_cases h : N ≤ 10
    · exact cellMoves_go A N C gs A' N' C' x0 x1 x2 x3 a4 A5 k5 c5 w hr hg h hr' hl ha
    · have p1 : (10 : Int) < (N : Int) := by omega
      have HL1 := Lib.hid (light10_rows A' N' C' x0 x1 x2 x3 a4 A5 k5 c5 w hr' (by omega) true ⟨fun _ => hl, fun _ => rfl⟩)
      have H0 := Lib.hid (Below.refl w.heap.size w)
      clear hr hr' hg hN hN' ha hl h
      go_enter Try.func6, Try.ntmps6
      go_wp2_with (first
        | (go_at_call 26; with_reducible refine (lives10_walk _).mono ?_; rintro e w10 ⟨rfl, hb10⟩; have HBl := Lib.hid hb10; clear hb10)
        | (go_at_call 25; with_reducible refine HL1.out.mono ?_; rintro e w1 ⟨rfl, hb1⟩; have H1 := Lib.hid hb1; clear hb1))
      go_ret
      first
      | exact ⟨rfl, H1.out.trans (HBl.out.mono H1.out.size)⟩
      | exact ⟨rfl, HBl.out⟩
  · by_cases h : N ≤ 10
    · have p1 : ¬ (10 : Int) < (N : Int) := by omega
      have HL1 := Lib.hid (light10_rows A' N' C' x0 x1 x2 x3 a4 A5 k5 c5 w hr' (by omega) false ⟨(fun h => by cases h), fun h => absurd h hl⟩)
      clear hr hr' hg hN hN' ha hl h
      go_enter Try.func6, Try.ntmps6
      go_wp2_with (first
        | (go_at_call 26; with_reducible refine (lives10_walk _).mono ?_; rintro e w10 ⟨rfl, hb10⟩; have HBl := Lib.hid hb10; clear hb10)
        | (go_at_call 25; with_reducible refine HL1.out.mono ?_; rintro e w1 ⟨rfl, hb1⟩; have H1 := Lib.hid hb1; clear hb1))
      go_ret
      exact ⟨rfl, H1.out.trans (HBl.out.mono H1.out.size)⟩
    · have p1 : (10 : Int) < (N : Int) := by omega
      have HL1 := Lib.hid (light10_rows A' N' C' x0 x1 x2 x3 a4 A5 k5 c5 w hr' (by omega) false ⟨(fun h => by cases h), fun h => absurd h hl⟩)
      clear hr hr' hg hN hN' ha hl h
      go_enter Try.func6, Try.ntmps6
      go_wp2_with (first
        | (go_at_call 26; with_reducible refine (lives10_walk _).mono ?_; rintro e w10 ⟨rfl, hb10⟩; have HBl := Lib.hid hb10; clear hb10)
        | (go_at_call 25; with_reducible refine HL1.out.mono ?_; rintro e w1 ⟨rfl, hb1⟩; have H1 := Lib.hid hb1; clear hb1))
      go_ret
      first
      | exact ⟨rfl, H1.out.trans (HBl.out.mono H1.out.size)⟩
      | exact ⟨rfl, HBl.out⟩
end Go.Proofs.Ytbfmhafmncnhfaa
