/- pause.Good and the document's, the document's Bit, and the law PauseTells, walked. -/
import Derived.Test.YtdffnehblhehpaaDoorWQ
import Derived.Lib.QuietBelow
namespace Go.Proofs.YtdffnehblhehpaaDoor
open Go.RowKit Go.Maps

def accV (x : Int) : Bool := decide (1 ≤ x ∧ x ≤ 4294967295)
def witV (x l : Int) : Bool := decide (l ≤ x ∧ x ≤ 1000000)
def goodV (o p u d t c a : Int) : Bool := accV o && accV p && accV u && witV d 1 && witV t 1 && witV c 0 && witV a 0
set_option maxRecDepth 100000 in
set_option maxHeartbeats 400000 in
theorem within_walk (x l : Int) (w : World) : Calls Tryd.prog 26 #[.int .i64 x, .int .i64 l] w fun e w' => e = .returned (.bool (witV x l)) ∧ w = w' := by
  by_cases h1 : l ≤ x
  · by_cases h2 : x ≤ 1000000
    · rw [show witV x l = true from decide_eq_true ⟨h1, h2⟩]
      go_enter Tryd.func26, Tryd.ntmps26
      go_wp2
      go_ret
      exact ⟨rfl, rfl⟩
    · rw [show witV x l = false from decide_eq_false (by omega)]
      go_enter Tryd.func26, Tryd.ntmps26
      go_wp2
      go_ret
      exact ⟨rfl, rfl⟩
  · rw [show witV x l = false from decide_eq_false (by omega)]
    go_enter Tryd.func26, Tryd.ntmps26
    go_wp2
    go_ret
    exact ⟨rfl, rfl⟩
set_option maxRecDepth 100000 in
theorem isTok1 (w : World) : Calls Tryd.prog 36 #[.int .i64 1] w fun e w' => e = .returned (.bool true) ∧ w = w' := by
  go_enter Tryd.func36, Tryd.ntmps36
  go_wp2
  go_ret
  exact ⟨rfl, rfl⟩
set_option maxRecDepth 100000 in
set_option maxHeartbeats 400000 in
theorem bgood1 (x : Int) (w : World) : Calls Tryd.prog 25 #[.int .i64 1, .int .i64 x] w fun e w' => e = .returned (.bool (accV x)) ∧ w = w' := by
  by_cases h1 : 1 ≤ x
  · by_cases h2 : x ≤ 4294967295
    · rw [show accV x = true from decide_eq_true ⟨h1, h2⟩]
      go_enter Tryd.func25, Tryd.ntmps25
      go_wp2_with (go_at_call 36; refine (isTok1 _).mono ?_; rintro e w1 ⟨rfl, rfl⟩)
      go_ret
      first
        | exact ⟨rfl, rfl⟩
        | exact ⟨by simp [h2], rfl⟩
    · rw [show accV x = false from decide_eq_false (by omega)]
      go_enter Tryd.func25, Tryd.ntmps25
      go_wp2_with (go_at_call 36; refine (isTok1 _).mono ?_; rintro e w1 ⟨rfl, rfl⟩)
      go_ret
      first
        | exact ⟨rfl, rfl⟩
        | exact ⟨by simp [h2], rfl⟩
  · rw [show accV x = false from decide_eq_false (by omega)]
    go_enter Tryd.func25, Tryd.ntmps25
    go_wp2_with (go_at_call 36; refine (isTok1 _).mono ?_; rintro e w1 ⟨rfl, rfl⟩)
    go_ret
    first
      | exact ⟨rfl, rfl⟩
      | exact ⟨by simp [h2], rfl⟩
set_option maxRecDepth 100000 in
set_option maxHeartbeats 400000 in
theorem ris_walk (x : Int) (w : World) : Calls Tryd.prog 27 #[.int .i64 x] w fun e w' => e = .returned (.bool (accV x)) ∧ w = w' := by
  by_cases h1 : 1 ≤ x
  · by_cases h2 : x ≤ 4294967295
    · rw [show accV x = true from decide_eq_true ⟨h1, h2⟩]
      go_enter Tryd.func27, Tryd.ntmps27
      go_wp2
      go_ret
      first
        | exact ⟨rfl, rfl⟩
        | exact ⟨by simp [h2], rfl⟩
    · rw [show accV x = false from decide_eq_false (by omega)]
      go_enter Tryd.func27, Tryd.ntmps27
      go_wp2
      go_ret
      first
        | exact ⟨rfl, rfl⟩
        | exact ⟨by simp [h2], rfl⟩
  · rw [show accV x = false from decide_eq_false (by omega)]
    go_enter Tryd.func27, Tryd.ntmps27
    go_wp2
    go_ret
    first
      | exact ⟨rfl, rfl⟩
      | exact ⟨by simp [h2], rfl⟩
def el3 (o p u : Int) : Nat → Int
  | 0 => o
  | 1 => p
  | _ => u
def el4 (d t c a : Int) : Nat → Int
  | 0 => d
  | 1 => t
  | 2 => c
  | _ => a
theorem gidx3 (o p u : Int) (j : Nat) (hj : j < 3) (w : World) : (Instr.index 53 (.agg #[.int .i64 o, .int .i64 p, .int .i64 u]) (.int .i64 (j : Nat))).run Tryd.prog w = .ok (.int .i64 (el3 o p u j)) w := by
  rcases (by omega : j = 0 ∨ j = 1 ∨ j = 2) with rfl | rfl | rfl <;> kernel_rfl
theorem gidx4 (d t c a : Int) (j : Nat) (hj : j < 4) (w : World) : (Instr.index 55 (.agg #[.int .i64 d, .int .i64 t, .int .i64 c, .int .i64 a]) (.int .i64 (j : Nat))).run Tryd.prog w = .ok (.int .i64 (el4 d t c a j)) w := by
  rcases (by omega : j = 0 ∨ j = 1 ∨ j = 2 ∨ j = 3) with rfl | rfl | rfl | rfl <;> kernel_rfl
theorem goodV_acc {o p u d t c a : Int} {j : Nat} (hj : j < 3) (h : accV (el3 o p u j) = false) : goodV o p u d t c a = false := by
  unfold goodV
  rcases (by omega : j = 0 ∨ j = 1 ∨ j = 2) with rfl | rfl | rfl
  · have h' : accV o = false := h
    simp [h']
  · have h' : accV p = false := h
    simp [h']
  · have h' : accV u = false := h
    simp [h']
theorem goodV_in {o p u d t c a : Int} (h : ∀ j, j < 3 → accV (el3 o p u j) = true) : goodV o p u d t c a = (witV d 1 && witV t 1 && witV c 0 && witV a 0) := by
  have h0 : accV o = true := h 0 (by decide)
  have h1 : accV p = true := h 1 (by decide)
  have h2 : accV u = true := h 2 (by decide)
  unfold goodV
  simp [h0, h1, h2]
set_option maxRecDepth 100000 in
set_option maxHeartbeats 1000000 in
theorem pgood_walk (o p u d t c a : Int) (w : World) : Calls Tryd.prog 7 #[.agg #[.int .i64 o, .int .i64 p, .int .i64 u, .int .i64 d, .int .i64 t, .int .i64 c, .int .i64 a]] w fun e w' => e = .returned (.bool (goodV o p u d t c a)) ∧ Below w.heap.size w w' := by
  have HB := Lib.hid ((Below.refl w.heap.size w).alloc (Nat.le_refl _) (.cells #[.int .i64 o, .int .i64 p, .int .i64 u, .int .i64 d, .int .i64 t, .int .i64 c, .int .i64 a] 23))
  obtain ⟨G, hG⟩ : ∃ x, x = goodV o p u d t c a := ⟨_, rfl⟩
  rw [← hG]
  have HG := Lib.hid hG
  clear hG
  go_enter Tryd.func7, Tryd.ntmps7
  go_wp2
  go_loopw [12] (fun i wr => ∃ j : Nat, j ≤ 3 ∧ i = .int .i64 (j : Nat) ∧ wr = (w.alloc (.cells #[.int .i64 o, .int .i64 p, .int .i64 u, .int .i64 d, .int .i64 t, .int .i64 c, .int .i64 a] 23)) ∧ ∀ i', i' < j → accV (el3 o p u i') = true) (fun i _ => 3 - (intOf i).toNat)
  case atStart => exact ⟨0, by omega, rfl, rfl, fun i' h => absurd h (by omega)⟩
  case round =>
    obtain ⟨j, hj, rfl, rfl, hall⟩ := hrel
    have HA := Lib.hid hall
    by_cases h3 : j < 3
    · have p1 : (j : Int) < 3 := by omega
      have hx := gidx3 o p u j h3
      have hw := Lib.hid (bgood1 (el3 o p u j))
      obtain ⟨y, hy⟩ : ∃ y, y = el3 o p u j := ⟨_, rfl⟩
      rw [← hy] at hx hw
      obtain ⟨B, hB⟩ : ∃ B, B = accV y := ⟨_, rfl⟩
      rw [← hB] at hw
      have HBe := Lib.hid hB
      have HY := Lib.hid hy
      clear hB hy hall
      cases B with
      | true =>
        go_wp2_with (go_at_call 25; refine (hw.out _).mono ?_; rintro e w1 ⟨rfl, rfl⟩)
        refine ⟨⟨j + 1, by omega, by simp, by trivial, fun i' hi' => ?_⟩, by simp [intOf]; omega⟩
        by_cases he : i' = j
        · rw [he, ← HY.out]; exact HBe.out.symm
        · exact HA.out i' (by omega)
      | false =>
        go_wp2_with (go_at_call 25; refine (hw.out _).mono ?_; rintro e w1 ⟨rfl, rfl⟩)
        go_ret
        refine ⟨?_, HB.out⟩
        rw [HG.out, goodV_acc h3 (by rw [← HY.out]; exact HBe.out.symm)]
        rfl
    · have p1 : ¬ (j : Int) < 3 := by omega
      have hg := HG.out.trans (goodV_in fun i' hi' => HA.out i' (by omega))
      obtain ⟨b1, hb1⟩ : ∃ x, x = witV d 1 := ⟨_, rfl⟩
      obtain ⟨b2, hb2⟩ : ∃ x, x = witV t 1 := ⟨_, rfl⟩
      obtain ⟨b3, hb3⟩ : ∃ x, x = witV c 0 := ⟨_, rfl⟩
      obtain ⟨b4, hb4⟩ : ∃ x, x = witV a 0 := ⟨_, rfl⟩
      rw [← hb1, ← hb2, ← hb3, ← hb4] at hg
      have H1 := Lib.hid (fun w => show Calls Tryd.prog 26 #[.int .i64 d, .int .i64 1] w fun e w' => e = .returned (.bool b1) ∧ w = w' from by rw [hb1]; exact within_walk d 1 w)
      have H2 := Lib.hid (fun w => show Calls Tryd.prog 26 #[.int .i64 t, .int .i64 1] w fun e w' => e = .returned (.bool b2) ∧ w = w' from by rw [hb2]; exact within_walk t 1 w)
      have H3 := Lib.hid (fun w => show Calls Tryd.prog 26 #[.int .i64 c, .int .i64 0] w fun e w' => e = .returned (.bool b3) ∧ w = w' from by rw [hb3]; exact within_walk c 0 w)
      have H4 := Lib.hid (fun w => show Calls Tryd.prog 26 #[.int .i64 a, .int .i64 0] w fun e w' => e = .returned (.bool b4) ∧ w = w' from by rw [hb4]; exact within_walk a 0 w)
      have hcase : (b1 = false ∧ G = false) ∨ (b1 = true ∧ b2 = false ∧ G = false) ∨ (b1 = true ∧ b2 = true ∧ b3 = false ∧ G = false) ∨ (b1 = true ∧ b2 = true ∧ b3 = true ∧ G = b4) := by
        rw [hg]
        cases b1 <;> cases b2 <;> cases b3 <;> simp
      clear hb1 hb2 hb3 hb4 hg HG HA hall
      rcases hcase with ⟨rfl, rfl⟩ | ⟨rfl, rfl, rfl⟩ | ⟨rfl, rfl, rfl, rfl⟩ | ⟨rfl, rfl, rfl, rfl⟩
      · go_wp2_with (first
          | (go_at_call 26; with_reducible refine (H1.out _).mono ?_; rintro e w1 ⟨rfl, rfl⟩))
        go_ret
        exact ⟨rfl, HB.out⟩
      · go_wp2_with (first
          | (go_at_call 26; with_reducible refine (H2.out _).mono ?_; rintro e w1 ⟨rfl, rfl⟩)
          | (go_at_call 26; with_reducible refine (H1.out _).mono ?_; rintro e w1 ⟨rfl, rfl⟩))
        go_ret
        exact ⟨rfl, HB.out⟩
      · go_wp2_with (first
          | (go_at_call 26; with_reducible refine (H3.out _).mono ?_; rintro e w1 ⟨rfl, rfl⟩)
          | (go_at_call 26; with_reducible refine (H2.out _).mono ?_; rintro e w1 ⟨rfl, rfl⟩)
          | (go_at_call 26; with_reducible refine (H1.out _).mono ?_; rintro e w1 ⟨rfl, rfl⟩))
        go_ret
        exact ⟨rfl, HB.out⟩
      · go_wp2_with (first
          | (go_at_call 26; with_reducible refine (H4.out _).mono ?_; rintro e w1 ⟨rfl, rfl⟩)
          | (go_at_call 26; with_reducible refine (H3.out _).mono ?_; rintro e w1 ⟨rfl, rfl⟩)
          | (go_at_call 26; with_reducible refine (H2.out _).mono ?_; rintro e w1 ⟨rfl, rfl⟩)
          | (go_at_call 26; with_reducible refine (H1.out _).mono ?_; rintro e w1 ⟨rfl, rfl⟩))
        go_ret
        exact ⟨rfl, HB.out⟩
def inV (x : Int) : Bool := decide (0 ≤ x ∧ x ≤ 1000000)
theorem goodV_wild {o p u d t c a : Int} {j : Nat} (hj : j < 4) (h : inV (el4 d t c a j) = false) : goodV o p u d t c a = false := by
  have key : ∀ x l : Int, 0 ≤ l → inV x = false → witV x l = false := fun x l hl h => by
    unfold inV at h
    have := of_decide_eq_false h
    exact decide_eq_false (by omega)
  unfold goodV
  rcases (by omega : j = 0 ∨ j = 1 ∨ j = 2 ∨ j = 3) with rfl | rfl | rfl | rfl
  · rw [key d 1 (by omega) h]; simp
  · rw [key t 1 (by omega) h]; simp
  · rw [key c 0 (by omega) h]; simp
  · rw [key a 0 (by omega) h]; simp
theorem goodV_end {o p u d t c a : Int} (h3 : ∀ j, j < 3 → accV (el3 o p u j) = true) (h4 : ∀ j, j < 4 → inV (el4 d t c a j) = true) : goodV o p u d t c a = (decide (1 ≤ d) && decide (1 ≤ t)) := by
  rw [goodV_in h3]
  have q0 := of_decide_eq_true (h4 0 (by decide))
  have q1 := of_decide_eq_true (h4 1 (by decide))
  have q2 := of_decide_eq_true (h4 2 (by decide))
  have q3 := of_decide_eq_true (h4 3 (by decide))
  unfold el4 at q0 q1 q2 q3
  simp only at q0 q1 q2 q3
  unfold witV
  rw [decide_eq_true q2, decide_eq_true q3, Bool.and_true, Bool.and_true]
  congr 1
  · exact decide_eq_decide.2 ⟨fun h => h.1, fun h => ⟨h, q0.2⟩⟩
  · exact decide_eq_decide.2 ⟨fun h => h.1, fun h => ⟨h, q1.2⟩⟩
set_option maxRecDepth 100000 in
set_option maxHeartbeats 2000000 in
theorem rgood_walk (o p u d t c a : Int) (w : World) : Calls Tryd.prog 8 #[.agg #[.int .i64 o, .int .i64 p, .int .i64 u, .int .i64 d, .int .i64 t, .int .i64 c, .int .i64 a]] w fun e w' => e = .returned (.bool (goodV o p u d t c a)) ∧ Below w.heap.size w w' := by
  have HB := Lib.hid ((Below.refl w.heap.size w).alloc (Nat.le_refl _) (.cells #[.int .i64 o, .int .i64 p, .int .i64 u, .int .i64 d, .int .i64 t, .int .i64 c, .int .i64 a] 23))
  obtain ⟨G, hG⟩ : ∃ x, x = goodV o p u d t c a := ⟨_, rfl⟩
  rw [← hG]
  have HG := Lib.hid hG
  clear hG
  go_enter Tryd.func8, Tryd.ntmps8
  go_wp2
  go_loopw [14] (fun i wr => ∃ j : Nat, j ≤ 3 ∧ i = .int .i64 (j : Nat) ∧ wr = (w.alloc (.cells #[.int .i64 o, .int .i64 p, .int .i64 u, .int .i64 d, .int .i64 t, .int .i64 c, .int .i64 a] 23)) ∧ ∀ i', i' < j → accV (el3 o p u i') = true) (fun i _ => 3 - (intOf i).toNat)
  case atStart => exact ⟨0, by omega, rfl, rfl, fun i' h => absurd h (by omega)⟩
  case round =>
    obtain ⟨j, hj, rfl, rfl, hall⟩ := hrel
    have HA := Lib.hid hall
    by_cases h3 : j < 3
    · have p1 : (j : Int) < 3 := by omega
      have hx := gidx3 o p u j h3
      have hw := Lib.hid (ris_walk (el3 o p u j))
      obtain ⟨y, hy⟩ : ∃ y, y = el3 o p u j := ⟨_, rfl⟩
      rw [← hy] at hx hw
      obtain ⟨B, hB⟩ : ∃ B, B = accV y := ⟨_, rfl⟩
      rw [← hB] at hw
      have HBe := Lib.hid hB
      have HY := Lib.hid hy
      clear hB hy hall
      cases B with
      | true =>
        go_wp2_with (go_at_call 27; refine (hw.out _).mono ?_; rintro e w1 ⟨rfl, rfl⟩)
        refine ⟨⟨j + 1, by omega, by simp, by trivial, fun i' hi' => ?_⟩, by simp [intOf]; omega⟩
        by_cases he : i' = j
        · rw [he, ← HY.out]; exact HBe.out.symm
        · exact HA.out i' (by omega)
      | false =>
        go_wp2_with (go_at_call 27; refine (hw.out _).mono ?_; rintro e w1 ⟨rfl, rfl⟩)
        go_ret
        refine ⟨?_, HB.out⟩
        rw [HG.out, goodV_acc h3 (by rw [← HY.out]; exact HBe.out.symm)]
        rfl
    · have p1 : ¬ (j : Int) < 3 := by omega
      have HA3 := Lib.hid (show ∀ i', i' < 3 → accV (el3 o p u i') = true from fun i' hi' => HA.out i' (by omega))
      clear HA hall
      go_wp2
      go_loopw [30] (fun i wr => ∃ j : Nat, j ≤ 4 ∧ i = .int .i64 (j : Nat) ∧ wr = (w.alloc (.cells #[.int .i64 o, .int .i64 p, .int .i64 u, .int .i64 d, .int .i64 t, .int .i64 c, .int .i64 a] 23)) ∧ ∀ i', i' < j → inV (el4 d t c a i') = true) (fun i _ => 4 - (intOf i).toNat)
      case atStart => exact ⟨0, by omega, rfl, rfl, fun i' h => absurd h (by omega)⟩
      case round =>
        obtain ⟨m, hm, rfl, rfl, hall⟩ := hrel
        have HA := Lib.hid hall
        clear hall
        by_cases h4 : m < 4
        · have p2 : (m : Int) < 4 := by omega
          have hx := gidx4 d t c a m h4
          obtain ⟨y, hy⟩ : ∃ y, y = el4 d t c a m := ⟨_, rfl⟩
          rw [← hy] at hx
          have HY := Lib.hid hy
          clear hy
          by_cases hin : 0 ≤ y ∧ y ≤ 1000000
          · have n1 : ¬ y < 0 := by omega
            have n2 : ¬ 1000000 < y := by omega
            go_wp2
            refine ⟨⟨m + 1, by omega, by simp, by trivial, fun i' hi' => ?_⟩, by simp [intOf]; omega⟩
            by_cases he : i' = m
            · rw [he, ← HY.out]; exact decide_eq_true hin
            · exact HA.out i' (by omega)
          · have e0 := HG.out.trans (goodV_wild h4 (by rw [← HY.out]; exact decide_eq_false hin))
            by_cases n1 : y < 0
            · go_wp2
              go_ret
              refine ⟨?_, HB.out⟩
              first | rfl | (rw [e0]; rfl)
            · have n2 : 1000000 < y := by omega
              go_wp2
              go_ret
              refine ⟨?_, HB.out⟩
              first | rfl | (rw [e0]; rfl)
        · have p2 : ¬ (m : Int) < 4 := by omega
          have e0 := HG.out.trans (goodV_end HA3.out (fun i' hi' => HA.out i' (by omega)))
          by_cases d1 : 1 ≤ d
          · rw [decide_eq_true d1, Bool.true_and] at e0
            by_cases t1 : 1 ≤ t
            · rw [decide_eq_true t1] at e0
              subst e0
              go_wp2
              go_ret
              exact ⟨rfl, HB.out⟩
            · rw [decide_eq_false t1] at e0
              subst e0
              go_wp2
              go_ret
              exact ⟨rfl, HB.out⟩
          · rw [decide_eq_false d1, Bool.false_and] at e0
            subst e0
            go_wp2
            go_ret
            exact ⟨rfl, HB.out⟩
end Go.Proofs.YtdffnehblhehpaaDoor
