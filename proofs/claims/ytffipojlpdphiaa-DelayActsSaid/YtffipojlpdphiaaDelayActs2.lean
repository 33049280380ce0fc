/- The law DelayActs: where it looks at nothing; the whole. -/
import Derived.Test.YtffipojlpdphiaaG34
namespace Go.Proofs.Ytffipojlpdphiaa
open Go.RowKit Go.Maps Go.Sort

set_option maxRecDepth 100000 in
set_option maxHeartbeats 1000000 in
theorem delayActs_walk (t blk : Int) (A : Option Addr) (N C : Nat) (A0 : Nat → Option Addr) (k0 c0 : Nat → Nat) (f : Nat → Nat → Int) (x1 x2 x3 : Nat → Int) (w : World) (hr : act28sAt w A N A0 k0 c0 f x1 x2 x3) (hN : (N : Int) ≤ 9223372036854775807) :
    Calls Try.prog 8 #[.int .i64 t, .slice A N C, .int .i64 blk] w fun e w' => e = .returned (.bool true) ∧ Below w.heap.size w w' := by
  by_cases hg : N ≤ 100 ∧ ∀ i, i < N → k0 i ≤ 5
  · exact delayActs_go t blk A N C A0 k0 c0 f x1 x2 x3 w hr hg.1 hg.2
  · have HL1 := Lib.hid (light28_rows A N C A0 k0 c0 x1 x2 x3 _ hr.rows hN hr.f0 false ⟨(fun h => by cases h), fun h => absurd h hg⟩)
    clear hr hN hg
    go_enter Try.func8, Try.ntmps8
    go_wp2_with (first
      | (go_at_call 52; with_reducible refine (lives28_walk _).mono ?_; rintro e w10 ⟨rfl, hb10⟩; have HBl := Lib.hid hb10; clear hb10)
      | (go_at_call 51; with_reducible refine HL1.out.mono ?_; rintro e w1 ⟨rfl, hb1⟩; have H1 := Lib.hid hb1; clear hb1))
    go_ret
    exact ⟨rfl, H1.out.trans (HBl.out.mono H1.out.size)⟩
end Go.Proofs.Ytffipojlpdphiaa
