/- The law DelayNone, walked from its box. -/
import Derived.Test.YthikpemdgmmcaaaTH
namespace Go.Proofs.Ythikpemdgmmcaaa
open Go.RowKit Go.Maps

theorem sidx0 (a b : Value) (w : World) : (Instr.index 30 (.agg #[a, b]) (.int .i64 0)).run Try.prog w = .ok a w := by kernel_rfl
theorem sidx1 (a b : Value) (w : World) : (Instr.index 30 (.agg #[a, b]) (.int .i64 1)).run Try.prog w = .ok b w := by kernel_rfl
set_option maxRecDepth 100000 in
set_option maxHeartbeats 400000 in
theorem dset_dead (p : Value) (t : Int) (A : Option Addr) (n c : Nat) (x y z : Int) (w : World) (h : SDead w p) : Calls Try.prog 69 #[p, .int .i64 t, .slice A n c, .int .i64 x, .int .i64 y, .int .i64 z] w fun e w' => e = .returned (.int .i64 1) ∧ w = w' := by
  have HM := Lib.hid (made_dead p w h)
  clear h
  go_enter Try.func69, Try.ntmps69
  go_wp2_with (go_at_call 19; refine HM.out.mono ?_; rintro e w1 ⟨rfl, rfl⟩)
  go_ret
  exact ⟨rfl, rfl⟩
set_option maxRecDepth 100000 in
set_option maxHeartbeats 1000000 in
theorem light28_walk (g : Nat) (A : Option Addr) (n c : Nat) (x y z : Int) (w : World) (hr : w.heap[g]? = some (.cells #[.slice A n c, .int .i64 x, .int .i64 y, .int .i64 z] 113 (0, 0))) (hn : (n : Int) ≤ 9223372036854775807) :
    Calls Try.prog 67 #[.slice (some ⟨g, 0, none⟩) 1 1] w fun e w' => e = .returned (.bool (decide (n ≤ 5))) ∧ Below w.heap.size w w' := by
  obtain ⟨B, hB⟩ : ∃ B, B = decide (n ≤ 5) := ⟨_, rfl⟩
  rw [← hB]
  have HBe := Lib.hid hB
  have HR := Lib.hid hr
  clear hB hr
  go_enter Try.func67, Try.ntmps67
  go_wp2
  go_loopw [10] (fun i wr => ∃ j : Nat, j ≤ 1 ∧ i = .int .i64 (j : Nat) ∧ Below w.heap.size w wr ∧ (j = 1 → n ≤ 5)) (fun i _ => 1 - (intOf i).toNat)
  case atStart => exact ⟨0, by omega, rfl, Below.refl _ _, fun h => by omega⟩
  case round =>
    obtain ⟨j, hj, rfl, hb, h5⟩ := hrel
    have HB := Lib.hid hb
    have H5 := Lib.hid h5
    have rr := (hb.block g (hp_lt HR.out)).trans HR.out
    have c0 := (hp_cell (i := 0) rr).trans rfl
    have c1 := (hp_cell (i := 1) rr).trans rfl
    have c2 := (hp_cell (i := 2) rr).trans rfl
    have c3 := (hp_cell (i := 3) rr).trans rfl
    clear hb h5 rr
    rcases (by omega : j = 0 ∨ j = 1) with rfl | rfl
    · by_cases hn5 : n ≤ 5
      · have p1 : ¬ (5 : Int) < (n : Int) := by omega
        go_wp2
        exact ⟨⟨1, by omega, rfl, HB.out.alloc HB.out.size _, fun _ => hn5⟩, by simp [intOf]⟩
      · have p1 : (5 : Int) < (n : Int) := by omega
        have e0 : B = false := by rw [HBe.out]; exact decide_eq_false hn5
        subst e0
        go_wp2
        go_ret
        exact ⟨rfl, HB.out.alloc HB.out.size _⟩
    · have e0 : B = true := by rw [HBe.out]; exact decide_eq_true (H5.out rfl)
      subst e0
      go_wp2
      go_ret
      exact ⟨rfl, HB.out⟩
/-- the law's world: its box, the store z, the id -/
structure DNAt (W w : World) (s : Value) (A : Option Addr) (n c : Nat) (f : Nat → Int) (x y z : Int) : Prop where
  bl : Below W.heap.size W w
  r : w.heap[W.heap.size]? = some (.cells #[.slice A n c, .int .i64 x, .int .i64 y, .int .i64 z] 113 (0, 0))
  l : Il w A n f
  d : SDead w s
theorem DNAt.step {W w w' : World} {s : Value} {A : Option Addr} {n c : Nat} {f : Nat → Int} {x y z : Int} (h : DNAt W w s A n c f x y z) (hb : Below w.heap.size w w') : DNAt W w' s A n c f x y z :=
  ⟨h.bl.trans (hb.mono h.bl.size), (hb.block _ (hp_lt h.r)).trans h.r, h.l.below hb, h.d.below hb⟩
theorem DNAt.nil {W w : World} {s : Value} {A : Option Addr} {n c : Nat} {f : Nat → Int} {x y z : Int} (h : DNAt W w s A n c f x y z) : DNAt W w (.pointer none) A n c f x y z := ⟨h.bl, h.r, h.l, .inl rfl⟩
set_option maxRecDepth 100000 in
set_option maxHeartbeats 2000000 in
theorem delayNone_walk (A : Option Addr) (n c : Nat) (f : Nat → Int) (x y z : Int) (w : World) (hl : Il w A n f) (hn : (n : Int) ≤ 9223372036854775807) : Calls Try.prog 12 #[.agg #[.slice A n c, .int .i64 x, .int .i64 y, .int .i64 z]] w fun e w' => e = .returned (.bool true) ∧ Below w.heap.size w w' := by
  have hx0 := sidx0
  have hx1 := sidx1
  have h0 : DNAt w ((w.alloc (.cells #[.slice A n c, .int .i64 x, .int .i64 y, .int .i64 z] 113)).alloc (.cells #[.slice A n c, .int .i64 x, .int .i64 y, .int .i64 z] 113)) (.pointer none) A n c f x y z := by
    have hb := ((Below.refl w.heap.size w).alloc (Nat.le_refl _) (.cells #[.slice A n c, .int .i64 x, .int .i64 y, .int .i64 z] 113)).alloc (by simp) (.cells #[.slice A n c, .int .i64 x, .int .i64 y, .int .i64 z] 113)
    exact ⟨hb, (heap_alloc_old _ _ (by simp)).trans (heap_alloc_new _ _), hl.below hb, .inl rfl⟩
  have HLt := Lib.hid (light28_walk (w.heap.size + 1) A n c x y z ((w.alloc (.cells #[.slice A n c, .int .i64 x, .int .i64 y, .int .i64 z] 113)).alloc (.cells #[.slice A n c, .int .i64 x, .int .i64 y, .int .i64 z] 113)) (by have := heap_alloc_new (w.alloc (.cells #[.slice A n c, .int .i64 x, .int .i64 y, .int .i64 z] 113)) (.cells #[.slice A n c, .int .i64 x, .int .i64 y, .int .i64 z] 113); simpa using this) hn)
  have H0 := Lib.hid h0
  clear h0 hl hn
  by_cases hn5 : n ≤ 5
  · rw [decide_eq_true hn5] at HLt
    go_enter Try.func12, Try.ntmps12
    go_wp2_with (go_at_call 67; refine HLt.out.mono ?_; rintro e w2 ⟨rfl, hb2⟩; have H2 := Lib.hid (H0.out.step hb2); clear hb2)
    have H3 := Lib.hid (H2.out.step ((Below.refl _ _).alloc (Nat.le_refl _) (.cells #[.map none, .slice none 0 0, .slice none 0 0] 28)))
    have hz : SDead (w2.alloc (.cells #[.map none, .slice none 0 0, .slice none 0 0] 28)) (.pointer (some ⟨w2.heap.size, 0, none⟩)) := .inr ⟨_, rfl, by simp, by simp⟩
    have HZ := Lib.hid hz
    clear hz
    go_loopw [12] (fun i wr => ∃ j : Nat, j ≤ 2 ∧ i = .int .i64 (j : Nat) ∧ DNAt w wr (.pointer none) A n c f x y z ∧ SDead wr (.pointer (some ⟨w2.heap.size, 0, none⟩))) (fun i _ => 2 - (intOf i).toNat)
    case atStart => exact ⟨0, by omega, rfl, H3.out, HZ.out⟩
    case round =>
      obtain ⟨j, hj, rfl, hd, hz⟩ := hrel
      have HN := Lib.hid hd
      have HZ2 := Lib.hid hz
      clear hd hz
      by_cases h2 : j < 2
      · have p1 : (j : Int) < 2 := by omega
        have r := HN.out.r
        have c0 := (hp_cell (i := 0) r).trans rfl
        have c1 := (hp_cell (i := 1) r).trans rfl
        have c2 := (hp_cell (i := 2) r).trans rfl
        have c3 := (hp_cell (i := 3) r).trans rfl
        clear r
        rcases (by omega : j = 0 ∨ j = 1) with rfl | rfl
        · go_wp2_with (first
            | (go_at_call 70; refine (dget_dead _ 25 A n c f _ HN.out.d HN.out.l (by omega)).mono ?_; rintro e w8 ⟨rfl, hb8⟩; have HB8 := Lib.hid hb8; clear hb8; unfold dv0)
            | (go_at_call 69; refine (dset_dead _ 25 A n c x y z _ HN.out.d).mono ?_; rintro e w7 ⟨rfl, rfl⟩))
          exact ⟨⟨1, by omega, rfl, HN.out.step HB8.out, HZ2.out.below HB8.out⟩, by simp [intOf]⟩
        · go_wp2_with (first
            | (go_at_call 70; refine (dget_dead _ 25 A n c f _ HZ2.out HN.out.l (by omega)).mono ?_; rintro e w8 ⟨rfl, hb8⟩; have HB8 := Lib.hid hb8; clear hb8; unfold dv0)
            | (go_at_call 69; refine (dset_dead _ 25 A n c x y z _ HZ2.out).mono ?_; rintro e w7 ⟨rfl, rfl⟩))
          exact ⟨⟨2, by omega, rfl, HN.out.step HB8.out, HZ2.out.below HB8.out⟩, by simp [intOf]⟩
      · have p1 : ¬ (j : Int) < 2 := by omega
        go_wp2_with (go_at_call 68; refine (lives28_walk _).mono ?_; rintro e w9 ⟨rfl, hb9⟩; have HB9 := Lib.hid hb9; clear hb9)
        go_ret
        exact ⟨rfl, HN.out.bl.trans (HB9.out.mono HN.out.bl.size)⟩
  · rw [decide_eq_false hn5] at HLt
    go_enter Try.func12, Try.ntmps12
    go_wp2_with (first
      | (go_at_call 68; refine (lives28_walk _).mono ?_; rintro e w9 ⟨rfl, hb9⟩; have HB9 := Lib.hid hb9; clear hb9)
      | (go_at_call 67; refine HLt.out.mono ?_; rintro e w2 ⟨rfl, hb2⟩; have H2 := Lib.hid (H0.out.step hb2); clear hb2))
    go_ret
    exact ⟨rfl, H2.out.bl.trans (HB9.out.mono H2.out.bl.size)⟩
end Go.Proofs.Ythikpemdgmmcaaa
