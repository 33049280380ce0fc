/- The law HistoryTells: where it looks at nothing; the whole. -/
import Derived.Test.YtedkhpnlhkjjgaaG20
namespace Go.Proofs.Ytedkhpnlhkjjgaa
open Go.RowKit Go.Maps Go.Sort

set_option maxRecDepth 100000 in
set_option maxHeartbeats 4000000 in
theorem historyTells_walk (A : Option Addr) (N C : Nat) (A0 : Nat → Option Addr) (k0 c0 : Nat → Nat) (x1 : Nat → Int) (a2 : Nat → Nat) (blk : Int) (w : World) (hr : RowsV w A N 6 (fun i => [.slice (A0 i) (k0 i) (c0 i), .int .i64 (x1 i), .int .u64 (limb (a2 i) 0 : Nat), .int .u64 (limb (a2 i) 1 : Nat), .int .u64 (limb (a2 i) 2 : Nat), .int .u64 (limb (a2 i) 3 : Nat)]))
    (hN : (N : Int) ≤ 9223372036854775807) (hk : ∀ i, i < N → (k0 i : Int) ≤ 9223372036854775807) (ha : ∀ i, i < N → a2 i < 2 ^ 256) :
    Calls Try.prog 3 #[.slice A N C, .int .i64 blk] w fun e w' => e = .returned (.bool true) ∧ Below w.heap.size w w' := by
  by_cases hg : N ≤ 100 ∧ ∀ i, i < N → k0 i ≤ 5
  · exact historyTells_go A N C A0 k0 c0 x1 a2 blk w hr hg.1 hg.2 ha
  · have HL1 := Lib.hid (light11_rows A N C A0 k0 c0 x1 a2 w hr hN hk false ⟨(fun h => by cases h), fun h => absurd h hg⟩)
    clear hr hN hk ha hg
    go_enter Try.func3, Try.ntmps3
    go_wp2_with (first
      | (go_at_call 12; with_reducible refine (lives11_walk _).mono ?_; rintro e w10 ⟨rfl, hb10⟩; have HBl := Lib.hid hb10; clear hb10)
      | (go_at_call 11; with_reducible refine HL1.out.mono ?_; rintro e w1 ⟨rfl, hb1⟩; have H1 := Lib.hid hb1; clear hb1))
    go_ret
    exact ⟨rfl, H1.out.trans (HBl.out.mono H1.out.size)⟩
end Go.Proofs.Ytedkhpnlhkjjgaa
