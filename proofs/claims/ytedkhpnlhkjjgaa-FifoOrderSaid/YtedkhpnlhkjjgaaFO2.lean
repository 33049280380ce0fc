/- The law FifoOrder: where it looks at nothing; the whole. -/
import Derived.Test.YtedkhpnlhkjjgaaG35
namespace Go.Proofs.Ytedkhpnlhkjjgaa
open Go.RowKit Go.Maps Go.Sort

set_option maxRecDepth 100000 in
set_option maxHeartbeats 4000000 in
theorem fifoOrder_walk (A : Option Addr) (N C : Nat) (p0 : Nat → Bool) (A0 : Nat → Option Addr) (k0 c0 : Nat → Nat) (A1 : Nat → Option Addr) (k1 c1 : Nat → Nat) (f1 : Nat → Nat → Int) (mo : Nat) (w : World) (hr : RowsV w A N 3 (fun i => [.bool (p0 i), .slice (A0 i) (k0 i) (c0 i), .slice (A1 i) (k1 i) (c1 i)]))
    (hN : (N : Int) ≤ 9223372036854775807) (hk : ∀ i, i < N → (k0 i : Int) ≤ 9223372036854775807 ∧ (k1 i : Int) ≤ 9223372036854775807) (hl : ∀ i, i < N → Il w (A1 i) (k1 i) (f1 i)) (hmo : mo < 256) :
    Calls Try.prog 5 #[.int .u8 (mo : Nat), .slice A N C] w fun e w' => e = .returned (.bool true) ∧ Below w.heap.size w w' := by
  by_cases hg : N ≤ 200 ∧ ∀ i, i < N → k0 i ≤ 5 ∧ k1 i ≤ 10
  · exact fifoOrder_go A N C p0 A0 k0 c0 A1 k1 c1 f1 mo w hr hg.1 hg.2 hl hmo
  · have HL1 := Lib.hid (light12_rows A N C p0 A0 k0 c0 A1 k1 c1 w hr hN hk false ⟨(fun h => by cases h), fun h => absurd h hg⟩)
    clear hr hN hk hl hg hmo
    go_enter Try.func5, Try.ntmps5
    go_wp2_with (first
      | (go_at_call 19; with_reducible refine (lives12_walk _).mono ?_; rintro e w10 ⟨rfl, hb10⟩; have HBl := Lib.hid hb10; clear hb10)
      | (go_at_call 18; with_reducible refine HL1.out.mono ?_; rintro e w1 ⟨rfl, hb1⟩; have H1 := Lib.hid hb1; clear hb1))
    go_ret
    exact ⟨rfl, H1.out.trans (HBl.out.mono H1.out.size)⟩
end Go.Proofs.Ytedkhpnlhkjjgaa
