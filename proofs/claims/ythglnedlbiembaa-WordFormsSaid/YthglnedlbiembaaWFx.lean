/- tallagelaw01.WordForms at any arguments. -/
import Derived.Test.YthglnedlbiembaaWordForms
import Derived.Test.YthglnedlbiembaaF9
namespace Go.Proofs.Ythglnedlbiembaa
open Go.RowKit Go.Sort

theorem fb_pair {n : Nat} {f : Nat → Nat} {c x : Nat} {k : Bool} {A : Option Addr} {fn : FuncId} {w : World} (h : Calls Try.prog fn #[.slice A n c] w (FbPost n f w)) (hx : (if n = 32 then bnum f 32 else 0) = x) (hk : decide (n = 32) = k) :
    Calls Try.prog fn #[.slice A n c] w fun e w' => e = .returned (.tuple #[U x, .bool k]) ∧ Below w.heap.size w w' := by
  rw [← hx, ← hk]; exact h
open Classical in
theorem parse_pair {s : ByteArray} {x : Nat} {k : Bool} {fn : FuncId} {w : World} (h : Calls Try.prog fn #[.string s] w (ParseAny s w)) (hx : (if pok (sbyte s) s.size then pnum (sbyte s) s.size else 0) = x) (hk : decide (pok (sbyte s) s.size) = k) :
    Calls Try.prog fn #[.string s] w fun e w' => e = .returned (.tuple #[U x, .bool k]) ∧ Below w.heap.size w w' := by
  refine h.mono fun e w' ⟨h1, hw⟩ => ⟨?_, hw⟩
  rcases h1 with ⟨hp, he⟩ | ⟨hp, he⟩
  · rw [he, ← hx, ← hk, if_pos hp, decide_eq_true hp]
  · rw [he, ← hx, ← hk, if_neg hp, decide_eq_false hp]
set_option maxRecDepth 100000 in
set_option maxHeartbeats 1000000 in
theorem wordForms_far (a : Nat) (A : Option Addr) (n c : Nat) (s : ByteArray) (w : World) (h : 200 < n ∨ ¬ 200 < n ∧ 200 < s.size) :
    Calls Try.prog 4 #[U a, .slice A n c, .string s] w fun e w' => e = .returned (.bool true) ∧ Below w.heap.size w w' := by
  unfold U
  rcases h with h | ⟨h, h2⟩
  · have q1 : (200 : Int) < n := by omega
    go_enter Try.func4, Try.ntmps4
    go_wp2_with (go_at_call 26; refine (lives1_walk _).mono ?_; rintro e w1 ⟨rfl, hb1⟩)
    go_ret
    exact ⟨rfl, ((Below.refl _ _).alloc (Nat.le_refl _) _).trans (hb1.mono (by simp))⟩
  · have q1 : ¬ (200 : Int) < n := by omega
    have q2 : (200 : Int) < s.size := by omega
    go_enter Try.func4, Try.ntmps4
    go_wp2_with (go_at_call 26; refine (lives1_walk _).mono ?_; rintro e w1 ⟨rfl, hb1⟩)
    go_ret
    exact ⟨rfl, ((Below.refl _ _).alloc (Nat.le_refl _) _).trans (hb1.mono (by simp))⟩
open Classical in
theorem wordForms_walk (a : Nat) (A : Option Addr) (n c : Nat) (f : Nat → Nat) (s : ByteArray) (w : World) (ha : a < 2 ^ 256) (hl : Sl w A n f) :
    Calls Try.prog 4 #[U a, .slice A n c, .string s] w fun e w' => e = .returned (.bool true) ∧ Below w.heap.size w w' := by
  by_cases h1 : 200 < n
  · exact wordForms_far a A n c s w (.inl h1)
  by_cases h2 : 200 < s.size
  · exact wordForms_far a A n c s w (.inr ⟨h1, h2⟩)
  exact wordForms_of a A n c (if n = 32 then bnum f 32 else 0) (if pok (sbyte s) s.size then pnum (sbyte s) s.size else 0) (decide (n = 32)) (decide (pok (sbyte s) s.size)) f s w ha hl (by omega) (by omega)
    (fun w h => fb_pair (fb_walk A n c f w h) rfl rfl) (fun w h => fb_pair (rfb_walk A n c f w h) rfl rfl) (fun w => parse_pair (uparse_walk s w (by omega)) rfl rfl) (fun w => parse_pair (rparse_walk s w (by omega)) rfl rfl)
end Go.Proofs.Ythglnedlbiembaa
