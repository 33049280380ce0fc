/- The law DelayNone, walked from its box. -/
import Derived.Test.YtedkhpnlhkjjgaaTH
namespace Go.Proofs.Ytedkhpnlhkjjgaa
open Go.RowKit Go.Maps

set_option maxRecDepth 100000 in
set_option maxHeartbeats 400000 in
theorem dset_dead (p : Value) (t : Int) (A : Option Addr) (n c : Nat) (x y z : Int) (w : World) (h : SDead w p) : Calls Try.prog 57 #[p, .int .i64 t, .slice A n c, .int .i64 x, .int .i64 y, .int .i64 z] w fun e w' => e = .returned (.int .i64 1) ∧ w = w' := by
  have HM := Lib.hid (made_dead p w h)
  clear h
  go_enter Try.func57, Try.ntmps57
  go_wp2_with (go_at_call 27; refine HM.out.mono ?_; rintro e w1 ⟨rfl, rfl⟩)
  go_ret
  exact ⟨rfl, rfl⟩
set_option maxRecDepth 100000 in
set_option maxHeartbeats 1000000 in
theorem light28_walk (g : Nat) (A : Option Addr) (n c : Nat) (x y z : Int) (w : World) (hr : w.heap[g]? = some (.cells #[.slice A n c, .int .i64 x, .int .i64 y, .int .i64 z] 93 (0, 0))) (hn : (n : Int) ≤ 9223372036854775807) :
    Calls Try.prog 55 #[.slice (some ⟨g, 0, none⟩) 1 1] w fun e w' => e = .returned (.bool (decide (n ≤ 5))) ∧ Below w.heap.size w w' := by
  obtain ⟨B, hB⟩ : ∃ B, B = decide (n ≤ 5) := ⟨_, rfl⟩
  rw [← hB]
  have HBe := Lib.hid hB
  have HR := Lib.hid hr
  clear hB hr
  go_enter Try.func55, Try.ntmps55
  go_wp2
  go_loopw [10] (fun i wr => ∃ j : Nat, j ≤ 1 ∧ i = .int .i64 (j : Nat) ∧ Below w.heap.size w wr ∧ (j = 1 → n ≤ 5)) (fun i _ => 1 - (intOf i).toNat)
  case atStart => exact ⟨0, by omega, rfl, Below.refl _ _, fun h => by omega⟩
  case round =>
    obtain ⟨j, hj, rfl, hb, h5⟩ := hrel
    have HB := Lib.hid hb
    have H5 := Lib.hid h5
    have rr := (hb.block g (hp_lt HR.out)).trans HR.out
    have c0 := (hp_cell (i := 0) rr).trans rfl
    have c1 := (hp_cell (i := 1) rr).trans rfl
    have c2 := (hp_cell (i := 2) rr).trans rfl
    have c3 := (hp_cell (i := 3) rr).trans rfl
    clear hb h5 rr
    rcases (by omega : j = 0 ∨ j = 1) with rfl | rfl
    · by_cases hn5 : n ≤ 5
      · have p1 : ¬ (5 : Int) < (n : Int) := by omega
        go_wp2
        exact ⟨⟨1, by omega, rfl, HB.out.alloc HB.out.size _, fun _ => hn5⟩, by simp [intOf]⟩
      · have p1 : (5 : Int) < (n : Int) := by omega
        have e0 : B = false := by rw [HBe.out]; exact decide_eq_false hn5
        subst e0
        go_wp2
        go_ret
        exact ⟨rfl, HB.out.alloc HB.out.size _⟩
    · have e0 : B = true := by rw [HBe.out]; exact decide_eq_true (H5.out rfl)
      subst e0
      go_wp2
      go_ret
      exact ⟨rfl, HB.out⟩
/-- the law's world: its box, the store z, the id -/
structure DNAt (W w : World) (s : Value) (A : Option Addr) (n c : Nat) (f : Nat → Int) (x y z : Int) : Prop where
  bl : Below W.heap.size W w
  r : w.heap[W.heap.size]? = some (.cells #[.slice A n c, .int .i64 x, .int .i64 y, .int .i64 z] 93 (0, 0))
  l : Il w A n f
  d : SDead w s
theorem DNAt.step {W w w' : World} {s : Value} {A : Option Addr} {n c : Nat} {f : Nat → Int} {x y z : Int} (h : DNAt W w s A n c f x y z) (hb : Below w.heap.size w w') : DNAt W w' s A n c f x y z :=
  ⟨h.bl.trans (hb.mono h.bl.size), (hb.block _ (hp_lt h.r)).trans h.r, h.l.below hb, h.d.below hb⟩
theorem DNAt.nil {W w : World} {s : Value} {A : Option Addr} {n c : Nat} {f : Nat → Int} {x y z : Int} (h : DNAt W w s A n c f x y z) : DNAt W w (.pointer none) A n c f x y z := ⟨h.bl, h.r, h.l, .inl rfl⟩
end Go.Proofs.Ytedkhpnlhkjjgaa
