/- pause: Who, May, and the document's; the law PauseBits, walked from its arguments. -/
import Derived.Test.YtdffnehblhehpaaDoorWP
namespace Go.Proofs.YtdffnehblhehpaaDoor
open Go.RowKit Go.Maps

def mayV (o p u k f : Int) : Bool := if whoV k = 1 then (f == o) else if whoV k = 2 then (f == p) else if whoV k = 3 then (f == u) else true
theorem whoV_cases (k : Int) : whoV k = 0 ∨ whoV k = 1 ∨ whoV k = 2 ∨ whoV k = 3 := by
  unfold whoV
  split
  · simp
  · split
    · simp
    · split <;> simp
theorem mayV_cases (o p u k f : Int) : (whoV k = 0 ∧ mayV o p u k f = true) ∨ (whoV k = 1 ∧ mayV o p u k f = (f == o)) ∨ (whoV k = 2 ∧ mayV o p u k f = (f == p)) ∨ (whoV k = 3 ∧ mayV o p u k f = (f == u)) := by
  unfold mayV
  rcases whoV_cases k with h | h | h | h <;> simp [h]
set_option maxRecDepth 100000 in
set_option maxHeartbeats 400000 in
theorem who_walk (k : Int) (w : World) : Calls Tryd.prog 11 #[.int .i64 k] w fun e w' => e = .returned (.int .i64 (whoV k : Nat)) ∧ w = w' := by
  by_cases h1 : k = 1
  · subst h1; (go_enter Tryd.func11, Tryd.ntmps11; go_wp2; go_ret; exact ⟨rfl, rfl⟩)
  by_cases h3 : k = 3
  · subst h3; (go_enter Tryd.func11, Tryd.ntmps11; go_wp2; go_ret; exact ⟨rfl, rfl⟩)
  by_cases h4 : k = 4
  · subst h4; (go_enter Tryd.func11, Tryd.ntmps11; go_wp2; go_ret; exact ⟨rfl, rfl⟩)
  by_cases h2 : k = 2
  · subst h2; (go_enter Tryd.func11, Tryd.ntmps11; go_wp2; go_ret; exact ⟨rfl, rfl⟩)
  by_cases h24 : k = 24
  · subst h24; (go_enter Tryd.func11, Tryd.ntmps11; go_wp2; go_ret; exact ⟨rfl, rfl⟩)
  by_cases h25 : k = 25
  · subst h25; (go_enter Tryd.func11, Tryd.ntmps11; go_wp2; go_ret; exact ⟨rfl, rfl⟩)
  have e0 : whoV k = 0 := by unfold whoV; rw [if_neg (by omega), if_neg h2, if_neg (by omega)]
  rw [e0]
  go_enter Tryd.func11, Tryd.ntmps11
  go_wp2
  go_ret
  exact ⟨rfl, rfl⟩
set_option maxRecDepth 100000 in
set_option maxHeartbeats 400000 in
theorem rwho_walk (k : Int) (w : World) : Calls Tryd.prog 12 #[.int .i64 k] w fun e w' => e = .returned (.int .i64 (whoV k : Nat)) ∧ w = w' := by
  by_cases h1 : k = 1
  · subst h1; (go_enter Tryd.func12, Tryd.ntmps12; go_wp2; go_ret; exact ⟨rfl, rfl⟩)
  by_cases h3 : k = 3
  · subst h3; (go_enter Tryd.func12, Tryd.ntmps12; go_wp2; go_ret; exact ⟨rfl, rfl⟩)
  by_cases h4 : k = 4
  · subst h4; (go_enter Tryd.func12, Tryd.ntmps12; go_wp2; go_ret; exact ⟨rfl, rfl⟩)
  by_cases h2 : k = 2
  · subst h2; (go_enter Tryd.func12, Tryd.ntmps12; go_wp2; go_ret; exact ⟨rfl, rfl⟩)
  by_cases h24 : k = 24
  · subst h24; (go_enter Tryd.func12, Tryd.ntmps12; go_wp2; go_ret; exact ⟨rfl, rfl⟩)
  by_cases h25 : k = 25
  · subst h25; (go_enter Tryd.func12, Tryd.ntmps12; go_wp2; go_ret; exact ⟨rfl, rfl⟩)
  have e0 : whoV k = 0 := by unfold whoV; rw [if_neg (by omega), if_neg h2, if_neg (by omega)]
  rw [e0]
  go_enter Tryd.func12, Tryd.ntmps12
  go_wp2
  go_ret
  exact ⟨rfl, rfl⟩
set_option maxRecDepth 100000 in
set_option maxHeartbeats 800000 in
theorem may_walk (o p u d t c a k f : Int) (w : World) : Calls Tryd.prog 13 #[.agg #[.int .i64 o, .int .i64 p, .int .i64 u, .int .i64 d, .int .i64 t, .int .i64 c, .int .i64 a], .int .i64 k, .int .i64 f] w fun e w' => e = .returned (.bool (mayV o p u k f)) ∧ Below w.heap.size w w' := by
  have HB := Lib.hid ((Below.refl w.heap.size w).alloc (Nat.le_refl _) (.cells #[.int .i64 o, .int .i64 p, .int .i64 u, .int .i64 d, .int .i64 t, .int .i64 c, .int .i64 a] 23))
  have HW := Lib.hid (fun w => who_walk k w)
  have hm : (whoV k = 0 ∧ mayV o p u k f = true) ∨ (whoV k = 1 ∧ mayV o p u k f = (f == o)) ∨ (whoV k = 2 ∧ mayV o p u k f = (f == p)) ∨ (whoV k = 3 ∧ mayV o p u k f = (f == u)) := mayV_cases o p u k f
  obtain ⟨W, hW⟩ : ∃ x, x = whoV k := ⟨_, rfl⟩
  obtain ⟨m, hM⟩ : ∃ x, x = mayV o p u k f := ⟨_, rfl⟩
  rw [← hW] at HW hm
  rw [← hM] at hm ⊢
  clear hW hM
  rcases hm with ⟨rfl, rfl⟩ | ⟨rfl, rfl⟩ | ⟨rfl, rfl⟩ | ⟨rfl, rfl⟩ <;>
    (go_enter Tryd.func13, Tryd.ntmps13
     go_wp2_with (go_at_call 11; refine (HW.out _).mono ?_; rintro e w1 ⟨rfl, rfl⟩)
     go_ret
     exact ⟨rfl, HB.out⟩)
set_option maxRecDepth 100000 in
set_option maxHeartbeats 800000 in
theorem rmay_walk (o p u d t c a k f : Int) (w : World) : Calls Tryd.prog 14 #[.agg #[.int .i64 o, .int .i64 p, .int .i64 u, .int .i64 d, .int .i64 t, .int .i64 c, .int .i64 a], .int .i64 k, .int .i64 f] w fun e w' => e = .returned (.bool (mayV o p u k f)) ∧ Below w.heap.size w w' := by
  have HB := Lib.hid ((Below.refl w.heap.size w).alloc (Nat.le_refl _) (.cells #[.int .i64 o, .int .i64 p, .int .i64 u, .int .i64 d, .int .i64 t, .int .i64 c, .int .i64 a] 23))
  have HW := Lib.hid (fun w => rwho_walk k w)
  have hm : (whoV k = 0 ∧ mayV o p u k f = true) ∨ (whoV k = 1 ∧ mayV o p u k f = (f == o)) ∨ (whoV k = 2 ∧ mayV o p u k f = (f == p)) ∨ (whoV k = 3 ∧ mayV o p u k f = (f == u)) := mayV_cases o p u k f
  obtain ⟨W, hW⟩ : ∃ x, x = whoV k := ⟨_, rfl⟩
  obtain ⟨m, hM⟩ : ∃ x, x = mayV o p u k f := ⟨_, rfl⟩
  rw [← hW] at HW hm
  rw [← hM] at hm ⊢
  clear hW hM
  rcases hm with ⟨rfl, rfl⟩ | ⟨rfl, rfl⟩ | ⟨rfl, rfl⟩ | ⟨rfl, rfl⟩ <;>
    (go_enter Tryd.func14, Tryd.ntmps14
     go_wp2_with (go_at_call 12; refine (HW.out _).mono ?_; rintro e w1 ⟨rfl, rfl⟩)
     go_ret
     exact ⟨rfl, HB.out⟩)
end Go.Proofs.YtdffnehblhehpaaDoor
