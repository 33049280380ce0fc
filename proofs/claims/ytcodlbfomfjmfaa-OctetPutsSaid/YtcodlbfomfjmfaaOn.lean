/- A source that no call made: its calls, walked. -/
import Derived.Test.YtcodlbfomfjmfaaOe
namespace Go.Proofs.Ytcodlbfomfjmfaa
open Go.RowKit

/-- nil, or a source whose 'made' is false -/
def Dead (w : World) (p : Value) : Prop :=
  p = .pointer none ∨ ∃ b, p = .pointer (some ⟨b, 0, none⟩) ∧ b < w.heap.size ∧ w.cell? ⟨b, 0, none⟩ = some (.bool false)
theorem Dead.below {w w' : World} {p : Value} (h : Dead w p) (hb : Below w.heap.size w w') : Dead w' p := by
  rcases h with h | ⟨b, h1, h2, h3⟩
  · exact .inl h
  · exact .inr ⟨b, h1, Nat.lt_of_lt_of_le h2 hb.size, by rw [hb.cell (p := ⟨b, 0, none⟩) h2]; exact h3⟩
set_option maxRecDepth 100000 in
set_option maxHeartbeats 400000 in
theorem err_dead (p : Value) (w : World) (h : Dead w p) : Calls Try.prog 53 #[p] w fun e w' => e = .returned (.int .i64 1) ∧ Below w.heap.size w w' := by
  rcases h with rfl | ⟨b, rfl, h2, h3⟩
  · go_enter Try.func53, Try.ntmps53
    go_wp2
    go_ret
    exact ⟨rfl, Below.refl _ _⟩
  · go_enter Try.func53, Try.ntmps53
    go_wp2
    go_ret
    exact ⟨rfl, Below.refl _ _⟩
set_option maxRecDepth 100000 in
set_option maxHeartbeats 400000 in
theorem left_dead (p : Value) (w : World) (h : Dead w p) : Calls Try.prog 54 #[p] w fun e w' => e = .returned (.int .i64 0) ∧ Below w.heap.size w w' := by
  have H := Lib.hid (err_dead p w h)
  clear h
  go_enter Try.func54, Try.ntmps54
  go_wp2_with (go_at_call 53; refine H.out.mono ?_; rintro e w1 ⟨rfl, hb1⟩)
  go_ret
  exact ⟨rfl, hb1⟩
set_option maxRecDepth 100000 in
set_option maxHeartbeats 400000 in
theorem end_dead (p : Value) (w : World) (h : Dead w p) : Calls Try.prog 55 #[p] w fun e w' => e = .returned (.int .i64 1) ∧ Below w.heap.size w w' := by
  have H := Lib.hid (left_dead p w h)
  have HD := Lib.hid h
  clear h
  go_enter Try.func55, Try.ntmps55
  go_wp2_with (first
    | (go_at_call 53; refine (err_dead p _ (HD.out.below hb1)).mono ?_; rintro e w2 ⟨rfl, hb2⟩)
    | (go_at_call 54; refine H.out.mono ?_; rintro e w1 ⟨rfl, hb1⟩))
  go_ret
  exact ⟨rfl, hb1.trans (hb2.mono hb1.size)⟩
set_option maxRecDepth 100000 in
set_option maxHeartbeats 400000 in
theorem take_dead (p q : Value) (n : Int) (w : World) (h : Dead w p) : Calls Try.prog 121 #[p, .int .i64 n, q] w fun e w' => e = .returned (.slice none 0 0) ∧ Below w.heap.size w w' := by
  have H := Lib.hid (err_dead p w h)
  clear h
  go_enter Try.func121, Try.ntmps121
  go_wp2_with (go_at_call 53; refine H.out.mono ?_; rintro e w1 ⟨rfl, hb1⟩)
  go_ret
  exact ⟨rfl, hb1⟩
set_option maxRecDepth 100000 in
set_option maxHeartbeats 400000 in
theorem byte_dead (p : Value) (w : World) (h : Dead w p) : Calls Try.prog 61 #[p] w fun e w' => e = .returned (.int .u8 0) ∧ Below w.heap.size w w' := by
  have H := Lib.hid (err_dead p w h)
  clear h
  go_enter Try.func61, Try.ntmps61
  go_wp2_with (go_at_call 53; refine H.out.mono ?_; rintro e w1 ⟨rfl, hb1⟩)
  go_ret
  exact ⟨rfl, hb1⟩
set_option maxRecDepth 100000 in
set_option maxHeartbeats 400000 in
theorem dvar_dead (p : Value) (m : Int) (w : World) (h : Dead w p) : Calls Try.prog 57 #[p, .int .i64 m] w fun e w' => e = .returned (.int .i64 0) ∧ Below w.heap.size w w' := by
  rcases h with rfl | ⟨b, rfl, h2, h3⟩
  · have H := Lib.hid (err_dead (.pointer none) (w.alloc (.cells #[.pointer none] 51)) (.inl rfl))
    go_enter Try.func57, Try.ntmps57
    go_wp2_with (go_at_call 53; refine H.out.mono ?_; rintro e w1 ⟨rfl, hb1⟩)
    go_ret
    exact ⟨rfl, ((Below.refl _ _).alloc (Nat.le_refl _) _).trans (hb1.mono (by simp))⟩
  · have hd : Dead w (.pointer (some ⟨b, 0, none⟩)) := .inr ⟨b, rfl, h2, h3⟩
    have H := Lib.hid (err_dead (.pointer (some ⟨b, 0, none⟩)) (w.alloc (.cells #[.pointer (some ⟨b, 0, none⟩)] 51)) (hd.below ((Below.refl _ _).alloc (Nat.le_refl _) _)))
    clear hd h3
    go_enter Try.func57, Try.ntmps57
    go_wp2_with (go_at_call 53; refine H.out.mono ?_; rintro e w1 ⟨rfl, hb1⟩)
    go_ret
    exact ⟨rfl, ((Below.refl _ _).alloc (Nat.le_refl _) _).trans (hb1.mono (by simp))⟩
set_option maxRecDepth 100000 in
set_option maxHeartbeats 400000 in
theorem text_dead (p : Value) (m : Int) (w : World) (h : Dead w p) : Calls Try.prog 59 #[p, .int .i64 m] w fun e w' => e = .returned (.slice none 0 0) ∧ Below w.heap.size w w' := by
  have H := Lib.hid (dvar_dead p m w h)
  have HD := Lib.hid h
  clear h
  go_enter Try.func59, Try.ntmps59
  go_wp2_with (first
    | (go_at_call 53; refine (err_dead p _ (HD.out.below hb1)).mono ?_; rintro e w2 ⟨rfl, hb2⟩)
    | (go_at_call 57; refine H.out.mono ?_; rintro e w1 ⟨rfl, hb1⟩))
  go_ret
  exact ⟨rfl, hb1.trans (hb2.mono hb1.size)⟩
end Go.Proofs.Ytcodlbfomfjmfaa
