/- The law StoreLast: where it looks at nothing; the whole; a string that comes in. -/
import Derived.Test.YtbfmhafmncnhfaaG15
namespace Go.Proofs.Ytbfmhafmncnhfaa
open Go.ChangeShapes Go.WideShapes Go.ChangeAt Go.RowKit Go.Maps Go.Sort

set_option maxRecDepth 100000 in
theorem open_str {H : Type} {enc : TypeId × Value → H} {W : World} {base : Nat} {v : Value} {d : DataW H} {p : List MemPlace} (hv : Value.okWide Try.prog W .any base 9 v) (h : DataW.Trod enc Try.prog W 0 (fun _ => true) true 9 v d p) :
    ∃ s, v = .string s ∧ s.size ≤ maxLen := by
  obtain ⟨s, rfl⟩ := okWide_string Try.underlying9 hv
  obtain ⟨fuel, hf⟩ := h
  obtain ⟨x, e, _, hw⟩ := DataW.trod_string Try.underlying9 hf
  simp [Value.cells] at e
  subst e
  exact ⟨_, rfl, hw⟩
set_option maxRecDepth 100000 in
set_option maxHeartbeats 4000000 in
theorem storeLast_walk (A : Option Addr) (N C : Nat) (x0 : Nat → Int) (x1 x2 : Nat → ByteArray) (x3 : Nat → Int) (key beg : ByteArray) (w : World) (hr : RowsV w A N 4 (fun i => [.int .i64 (x0 i), .string (x1 i), .string (x2 i), .int .i64 (x3 i)]))
    (hN : (N : Int) ≤ 9223372036854775807) (hk1 : ∀ i, i < N → (x1 i).size ≤ maxLen) (hk2 : ∀ i, i < N → (x2 i).size ≤ maxLen) (hk : key.size ≤ maxLen) (hbg : beg.size ≤ maxLen) :
    Calls Try.prog 5 #[.slice A N C, .string key, .string beg] w fun e w' => e = .returned (.bool true) ∧ Below w.heap.size w w' := by
  by_cases hg : N ≤ 300 ∧ ∀ j, j < N → lacc x1 x2 (j + 1) ≤ 20000
  · exact storeLast_go A N C x0 x1 x2 x3 key beg w hr hg.1 hg.2 hk1 hk2 hk hbg
  · have HL1 := Lib.hid (light08_rows A N C x0 x1 x2 x3 w hr hN false ⟨(fun h => by cases h), fun h => absurd h hg⟩)
    clear hr hN hk1 hk2 hk hbg hg
    go_enter Try.func5, Try.ntmps5
    go_wp2_with (first
      | (go_at_call 9; with_reducible refine (lives08_walk _).mono ?_; rintro e w10 ⟨rfl, hb10⟩; have HBl := Lib.hid hb10; clear hb10)
      | (go_at_call 8; with_reducible refine HL1.out.mono ?_; rintro e w1 ⟨rfl, hb1⟩; have H1 := Lib.hid hb1; clear hb1))
    go_ret
    exact ⟨rfl, H1.out.trans (HBl.out.mono H1.out.size)⟩
end Go.Proofs.Ytbfmhafmncnhfaa
