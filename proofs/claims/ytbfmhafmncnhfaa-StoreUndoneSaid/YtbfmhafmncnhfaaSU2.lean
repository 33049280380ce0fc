/- The law StoreUndone: where it looks at nothing; the whole. -/
import Derived.Test.YtbfmhafmncnhfaaG21
namespace Go.Proofs.Ytbfmhafmncnhfaa
open Go.RowKit Go.Maps Go.Sort

set_option maxRecDepth 100000 in
set_option maxHeartbeats 4000000 in
theorem storeUndone_walk (A : Option Addr) (N C : Nat) (x0 : Nat → Int) (x1 x2 : Nat → ByteArray) (x3 : Nat → Int) (A' : Option Addr) (N' C' : Nat) (y0 : Nat → Int) (y1 y2 : Nat → ByteArray) (y3 : Nat → Int) (w : World)
    (hr : ARows w A N x0 x1 x2 x3) (hr' : ARows w A' N' y0 y1 y2 y3) (hN : (N : Int) ≤ 9223372036854775807) (hN' : (N' : Int) ≤ 9223372036854775807)
    (hk : ∀ i, i < N → (x1 i).size ≤ maxLen ∧ (x2 i).size ≤ maxLen ∧ -9223372036854775808 ≤ x3 i ∧ x3 i < 2 ^ 63) (hk' : ∀ i, i < N' → (y1 i).size ≤ maxLen ∧ (y2 i).size ≤ maxLen ∧ -9223372036854775808 ≤ y3 i ∧ y3 i < 2 ^ 63) :
    Calls Try.prog 4 #[.slice A N C, .slice A' N' C'] w fun e w' => e = .returned (.bool true) ∧ Below w.heap.size w w' := by
  by_cases hg : N ≤ 300 ∧ ∀ j, j < N → lacc x1 x2 (j + 1) ≤ 20000
  · by_cases hg' : N' ≤ 300 ∧ ∀ j, j < N' → lacc y1 y2 (j + 1) ≤ 20000
    · exact storeUndone_go A N C x0 x1 x2 x3 A' N' C' y0 y1 y2 y3 w hr hr' hg.1 hg.2 hg'.1 hg'.2 hk hk'
    · have HL1 := Lib.hid (light08_rows A N C x0 x1 x2 x3 w hr hN true ⟨fun _ => hg, fun _ => rfl⟩)
      have HL2 : Hid (∀ w1, Below w.heap.size w w1 → _) := Lib.hid fun w1 hb => light08_rows A' N' C' y0 y1 y2 y3 w1 (RowsV.below hr' hb) hN' false ⟨(fun h => by cases h), fun h => absurd h hg'⟩
      clear hr hr' hN hN' hk hk' hg hg'
      go_enter Try.func4, Try.ntmps4
      go_wp2_with (first
        | (go_at_call 9; with_reducible refine (lives08_walk _).mono ?_; rintro e w10 ⟨rfl, hb10⟩; have HBl := Lib.hid hb10; clear hb10)
        | (go_at_call 8; with_reducible refine (HL2.out _ H1.out).mono ?_; rintro e w2 ⟨rfl, hb2⟩; have H2 := Lib.hid (H1.out.trans (hb2.mono H1.out.size)); clear hb2)
        | (go_at_call 8; with_reducible refine HL1.out.mono ?_; rintro e w1 ⟨rfl, hb1⟩; have H1 := Lib.hid hb1; clear hb1))
      go_ret
      exact ⟨rfl, H2.out.trans (HBl.out.mono H2.out.size)⟩
  · have HL1 := Lib.hid (light08_rows A N C x0 x1 x2 x3 w hr hN false ⟨(fun h => by cases h), fun h => absurd h hg⟩)
    clear hr hr' hN hN' hk hk' hg
    go_enter Try.func4, Try.ntmps4
    go_wp2_with (first
      | (go_at_call 9; with_reducible refine (lives08_walk _).mono ?_; rintro e w10 ⟨rfl, hb10⟩; have HBl := Lib.hid hb10; clear hb10)
      | (go_at_call 8; with_reducible refine HL1.out.mono ?_; rintro e w1 ⟨rfl, hb1⟩; have H1 := Lib.hid hb1; clear hb1))
    go_ret
    exact ⟨rfl, H1.out.trans (HBl.out.mono H1.out.size)⟩
end Go.Proofs.Ytbfmhafmncnhfaa
