/- The law FifoNone, walked from its box. -/
import Derived.Test.YtjpikgfplfgcfaaG17
import Derived.Test.YtjpikgfplfgcfaaG00
import Derived.OpenShut
import Derived.ChangeOld
import Derived.ChangeSlices
import Derived.Carry
import Derived.Deep.Slices
import Derived.ChangeSame
import Derived.Laws.IdiomArrays
namespace Go.Proofs.Ytjpikgfplfgcfaa
open Go.RowKit Go.Maps Go.Sort

theorem fsidx0 (a b : Value) (w : World) : (Instr.index 55 (.agg #[a, b]) (.int .i64 0)).run Try.prog w = .ok a w := by kernel_rfl
theorem fsidx1 (a b : Value) (w : World) : (Instr.index 55 (.agg #[a, b]) (.int .i64 1)).run Try.prog w = .ok b w := by kernel_rfl
set_option maxRecDepth 100000 in
set_option maxHeartbeats 1000000 in
theorem light12_walk (g : Nat) (p : Bool) (A : Option Addr) (n c : Nat) (A2 : Option Addr) (n2 cz2 : Nat) (w : World) (hr : w.heap[g]? = some (.cells #[.bool p, .slice A n c, .slice A2 n2 cz2] 93 (0, 0))) (hn : (n : Int) ≤ 9223372036854775807) (hn2 : (n2 : Int) ≤ 9223372036854775807) :
    Calls Try.prog 54 #[.slice (some ⟨g, 0, none⟩) 1 1] w fun e w' => e = .returned (.bool (decide (n ≤ 5 ∧ n2 ≤ 10))) ∧ Below w.heap.size w w' := by
  obtain ⟨B, hB⟩ : ∃ B, B = decide (n ≤ 5 ∧ n2 ≤ 10) := ⟨_, rfl⟩
  rw [← hB]
  have HBe := Lib.hid hB
  have HR := Lib.hid hr
  clear hB hr
  go_enter Try.func54, Try.ntmps54
  go_wp2
  go_loopw [10] (fun i wr => ∃ j : Nat, j ≤ 1 ∧ i = .int .i64 (j : Nat) ∧ Below w.heap.size w wr ∧ (j = 1 → n ≤ 5 ∧ n2 ≤ 10)) (fun i _ => 1 - (intOf i).toNat)
  case atStart => exact ⟨0, by omega, rfl, Below.refl _ _, fun h => by omega⟩
  case round =>
    obtain ⟨j, hj, rfl, hb, h5⟩ := hrel
    have HB := Lib.hid hb
    have H5 := Lib.hid h5
    have rr := (hb.block g (hp_lt HR.out)).trans HR.out
    have c0 := (hp_cell (i := 0) rr).trans rfl
    have c1 := (hp_cell (i := 1) rr).trans rfl
    have c2 := (hp_cell (i := 2) rr).trans rfl
    clear hb h5 rr
    rcases (by omega : j = 0 ∨ j = 1) with rfl | rfl
    · by_cases hn5 : n ≤ 5
      · have p1 : ¬ (5 : Int) < (n : Int) := by omega
        by_cases hn10 : n2 ≤ 10
        · have p2 : ¬ (10 : Int) < (n2 : Int) := by omega
          go_wp2
          exact ⟨⟨1, by omega, rfl, HB.out.alloc HB.out.size _, fun _ => ⟨hn5, hn10⟩⟩, by simp [intOf]⟩
        · have p2 : (10 : Int) < (n2 : Int) := by omega
          have e0 : B = false := by rw [HBe.out]; exact decide_eq_false (fun h => hn10 h.2)
          subst e0
          go_wp2
          go_ret
          exact ⟨rfl, HB.out.alloc HB.out.size _⟩
      · have p1 : (5 : Int) < (n : Int) := by omega
        have e0 : B = false := by rw [HBe.out]; exact decide_eq_false (fun h => hn5 h.1)
        subst e0
        go_wp2
        go_ret
        exact ⟨rfl, HB.out.alloc HB.out.size _⟩
    · have e0 : B = true := by rw [HBe.out]; exact decide_eq_true (H5.out rfl)
      subst e0
      go_wp2
      go_ret
      exact ⟨rfl, HB.out⟩
/-- the law's world: its box, the store, the id -/
structure FNAt (W w : World) (s : Value) (p : Bool) (A : Option Addr) (n c : Nat) (f : Nat → Int) (A2 : Option Addr) (n2 cz2 : Nat) : Prop where
  bl : Below W.heap.size W w
  r : w.heap[W.heap.size]? = some (.cells #[.bool p, .slice A n c, .slice A2 n2 cz2] 93 (0, 0))
  l : Il w A n f
  d : SDead w s
theorem FNAt.step {W w w' : World} {s : Value} {p : Bool} {A : Option Addr} {n c : Nat} {f : Nat → Int} {A2 : Option Addr} {n2 cz2 : Nat} (h : FNAt W w s p A n c f A2 n2 cz2) (hb : Below w.heap.size w w') : FNAt W w' s p A n c f A2 n2 cz2 :=
  ⟨h.bl.trans (hb.mono h.bl.size), (hb.block _ (hp_lt h.r)).trans h.r, h.l.below hb, h.d.below hb⟩
theorem FNAt.al {W w : World} {s : Value} {p : Bool} {A : Option Addr} {n c : Nat} {f : Nat → Int} {A2 : Option Addr} {n2 cz2 : Nat} (h : FNAt W w s p A n c f A2 n2 cz2) (o : Obj) : FNAt W (w.alloc o) s p A n c f A2 n2 cz2 := h.step ((Below.refl _ _).alloc (Nat.le_refl _) o)
set_option maxRecDepth 100000 in
set_option maxHeartbeats 4000000 in
theorem fifoNone_walk (p : Bool) (A : Option Addr) (n c : Nat) (f : Nat → Int) (A2 : Option Addr) (n2 cz2 : Nat) (w : World) (hl : Il w A n f) (hz : A = none → n = 0 ∧ c = 0) (hn : (n : Int) ≤ 9223372036854775807) (hn2 : (n2 : Int) ≤ 9223372036854775807) : Calls Try.prog 10 #[.agg #[.bool p, .slice A n c, .slice A2 n2 cz2]] w fun e w' => e = .returned (.bool true) ∧ Below w.heap.size w w' := by
  have hx0 := fsidx0
  have hx1 := fsidx1
  have h0 : FNAt w ((w.alloc (.cells #[.bool p, .slice A n c, .slice A2 n2 cz2] 93)).alloc (.cells #[.bool p, .slice A n c, .slice A2 n2 cz2] 93)) (.pointer none) p A n c f A2 n2 cz2 := by
    have hb := ((Below.refl w.heap.size w).alloc (Nat.le_refl _) (.cells #[.bool p, .slice A n c, .slice A2 n2 cz2] 93)).alloc (by simp) (.cells #[.bool p, .slice A n c, .slice A2 n2 cz2] 93)
    exact ⟨hb, (heap_alloc_old _ _ (by simp)).trans (heap_alloc_new _ _), hl.below hb, .inl rfl⟩
  have HLt := Lib.hid (light12_walk (w.heap.size + 1) p A n c A2 n2 cz2 ((w.alloc (.cells #[.bool p, .slice A n c, .slice A2 n2 cz2] 93)).alloc (.cells #[.bool p, .slice A n c, .slice A2 n2 cz2] 93)) (by have := heap_alloc_new (w.alloc (.cells #[.bool p, .slice A n c, .slice A2 n2 cz2] 93)) (.cells #[.bool p, .slice A n c, .slice A2 n2 cz2] 93); simpa using this) hn hn2)
  have H0 := Lib.hid h0
  have HZ0 := Lib.hid hz
  clear h0 hl hn hn2 hz
  by_cases hn5 : n ≤ 5 ∧ n2 ≤ 10
  · rw [decide_eq_true hn5] at HLt
    have HN5 := Lib.hid (show n ≤ 20 by omega)
    clear hn5
    go_enter Try.func10, Try.ntmps10
    go_wp2_with (go_at_call 54; refine HLt.out.mono ?_; rintro e w2 ⟨rfl, hb2⟩; have H2 := Lib.hid (H0.out.step hb2); clear hb2)
    have H3 := Lib.hid (H2.out.al (.cells #[.map none, .slice none 0 0, .slice none 0 0] 54))
    have hz : SDead (w2.alloc (.cells #[.map none, .slice none 0 0, .slice none 0 0] 54)) (.pointer (some ⟨w2.heap.size, 0, none⟩)) := .inr ⟨_, rfl, by simp, by simp⟩
    have HZ := Lib.hid hz
    clear hz
    go_loopw [16] (fun i wr => ∃ j : Nat, j ≤ 2 ∧ i = .int .i64 (j : Nat) ∧ FNAt w wr (.pointer none) p A n c f A2 n2 cz2 ∧ SDead wr (.pointer (some ⟨w2.heap.size, 0, none⟩))) (fun i _ => 2 - (intOf i).toNat)
    case atStart => exact ⟨0, by omega, rfl, H3.out, HZ.out⟩
    case round =>
      obtain ⟨j, hj, rfl, hd, hz⟩ := hrel
      have HN := Lib.hid hd
      have HZ2 := Lib.hid hz
      clear hd hz
      by_cases h2 : j < 2
      · have p1 : (j : Int) < 2 := by omega
        have r := HN.out.r
        have c0 := (hp_cell (i := 0) r).trans rfl
        have c1 := (hp_cell (i := 1) r).trans rfl
        have c2 := (hp_cell (i := 2) r).trans rfl
        clear r
        rcases (by omega : j = 0 ∨ j = 1) with rfl | rfl
        · have N0 := Lib.hid (And.intro HN.out (And.intro (show SDead wr (.pointer none) from .inl rfl) HZ2.out))
          go_upto_region 9 with (first
            | (go_at_call 57; have g5 := N1; clear g5; refine (pop_none (none : Option Addr) 3 A n c _ (peek_dead (none : Option Addr) 3 A n c f _ N1.out.2.1 N1.out.1.l HZ0.out HN5.out)).mono ?_; rintro e w6 ⟨rfl, hb6⟩; have N2 := Lib.hid (And.intro (N1.out.1.step hb6) (And.intro (N1.out.2.1.below hb6) (N1.out.2.2.below hb6))); clear hb6)
            | (go_at_call 56; refine (peek_dead (none : Option Addr) 3 A n c f _ N0.out.2.1 N0.out.1.l HZ0.out HN5.out).mono ?_; rintro e w5 ⟨rfl, hb5⟩; have N1 := Lib.hid (And.intro (N0.out.1.step hb5) (And.intro (N0.out.2.1.below hb5) (N0.out.2.2.below hb5))); have r := N1.out.1.r; have c0 := (hp_cell (i := 0) r).trans rfl; have c1 := (hp_cell (i := 1) r).trans rfl; have c2 := (hp_cell (i := 2) r).trans rfl; clear hb5 r))
          have D0 := Lib.hid (fun (dq : Nat) (osq : Array Obj) => (fpush_dead (none : Option Addr) 3 A n c 5 A2 n2 cz2 (grow (redrawn w6 dq) osq) (N2.out.2.1.below (below_regrown w6 dq osq))).mono (R' := fun e w' => e = .returned (.int .i64 1) ∧ Below (grow (redrawn w6 dq) osq).heap.size (grow (redrawn w6 dq) osq) w') fun e w' hh => ⟨hh.1, by rw [← hh.2]; exact Below.refl _ _⟩)
          have D1 := Lib.hid (fun (dq : Nat) (osq : Array Obj) => qlen_walk (none : Option Addr) 3 A n c 0 0 (by decide) (by decide) (by decide) (grow (redrawn w6 dq) osq) (ends_dead (none : Option Addr) 3 A n c f _ (N2.out.2.1.below (below_regrown w6 dq osq)) (N2.out.1.l.below (below_regrown w6 dq osq)) HN5.out))
          have D2 := Lib.hid (fun (dq : Nat) (osq : Array Obj) => fall_none (none : Option Addr) 3 A n c (grow (redrawn w6 dq) osq) (ends_dead (none : Option Addr) 3 A n c f _ (N2.out.2.1.below (below_regrown w6 dq osq)) (N2.out.1.l.below (below_regrown w6 dq osq)) HN5.out))
          have rr := N2.out.1.r
          have f0 := fun (dq : Nat) (osq : Array Obj) => cell_regrown (w := w6) (a := ⟨w.heap.size, 0, none⟩) ((hp_cell (i := 0) rr).trans rfl) dq osq
          have f1 := fun (dq : Nat) (osq : Array Obj) => cell_regrown (w := w6) (a := ⟨w.heap.size, 1, none⟩) ((hp_cell (i := 1) rr).trans rfl) dq osq
          have f2 := fun (dq : Nat) (osq : Array Obj) => cell_regrown (w := w6) (a := ⟨w.heap.size, 2, none⟩) ((hp_cell (i := 2) rr).trans rfl) dq osq
          clear rr
          refine wp_region_quiet_below (by kernel_rfl) (by kernel_rfl) ?_
          repeat (quiet_step (first
            | (go_at_call 58; with_reducible exact Calls.regrown_of (D0.out _ _))
            | (go_at_call 59; with_reducible exact Calls.regrown_of (D1.out _ _))
            | (go_at_call 60; with_reducible exact Calls.regrown_of (D2.out _ _))))
          refine wpQuiet_nil ?_
          intro _ hw'
          obtain ⟨⟨dq, osq⟩, hw''⟩ := hw'
          subst hw''
          have HG := Lib.hid (And.intro (N2.out.1.step (below_regrown w6 dq osq)) (N2.out.2.2.below (below_regrown w6 dq osq)))
          go_wp2
          exact ⟨⟨1, by omega, rfl, HG.out.1, HG.out.2⟩, by simp [intOf]⟩
        · have N0 := Lib.hid (And.intro HN.out (And.intro HZ2.out HZ2.out))
          go_upto_region 9 with (first
            | (go_at_call 57; have g5 := N1; clear g5; refine (pop_none (some ⟨w2.heap.size, 0, none⟩ : Option Addr) 3 A n c _ (peek_dead (some ⟨w2.heap.size, 0, none⟩ : Option Addr) 3 A n c f _ N1.out.2.1 N1.out.1.l HZ0.out HN5.out)).mono ?_; rintro e w6 ⟨rfl, hb6⟩; have N2 := Lib.hid (And.intro (N1.out.1.step hb6) (And.intro (N1.out.2.1.below hb6) (N1.out.2.2.below hb6))); clear hb6)
            | (go_at_call 56; refine (peek_dead (some ⟨w2.heap.size, 0, none⟩ : Option Addr) 3 A n c f _ N0.out.2.1 N0.out.1.l HZ0.out HN5.out).mono ?_; rintro e w5 ⟨rfl, hb5⟩; have N1 := Lib.hid (And.intro (N0.out.1.step hb5) (And.intro (N0.out.2.1.below hb5) (N0.out.2.2.below hb5))); have r := N1.out.1.r; have c0 := (hp_cell (i := 0) r).trans rfl; have c1 := (hp_cell (i := 1) r).trans rfl; have c2 := (hp_cell (i := 2) r).trans rfl; clear hb5 r))
          have D0 := Lib.hid (fun (dq : Nat) (osq : Array Obj) => (fpush_dead (some ⟨w2.heap.size, 0, none⟩ : Option Addr) 3 A n c 5 A2 n2 cz2 (grow (redrawn w6 dq) osq) (N2.out.2.1.below (below_regrown w6 dq osq))).mono (R' := fun e w' => e = .returned (.int .i64 1) ∧ Below (grow (redrawn w6 dq) osq).heap.size (grow (redrawn w6 dq) osq) w') fun e w' hh => ⟨hh.1, by rw [← hh.2]; exact Below.refl _ _⟩)
          have D1 := Lib.hid (fun (dq : Nat) (osq : Array Obj) => qlen_walk (some ⟨w2.heap.size, 0, none⟩ : Option Addr) 3 A n c 0 0 (by decide) (by decide) (by decide) (grow (redrawn w6 dq) osq) (ends_dead (some ⟨w2.heap.size, 0, none⟩ : Option Addr) 3 A n c f _ (N2.out.2.1.below (below_regrown w6 dq osq)) (N2.out.1.l.below (below_regrown w6 dq osq)) HN5.out))
          have D2 := Lib.hid (fun (dq : Nat) (osq : Array Obj) => fall_none (some ⟨w2.heap.size, 0, none⟩ : Option Addr) 3 A n c (grow (redrawn w6 dq) osq) (ends_dead (some ⟨w2.heap.size, 0, none⟩ : Option Addr) 3 A n c f _ (N2.out.2.1.below (below_regrown w6 dq osq)) (N2.out.1.l.below (below_regrown w6 dq osq)) HN5.out))
          have rr := N2.out.1.r
          have f0 := fun (dq : Nat) (osq : Array Obj) => cell_regrown (w := w6) (a := ⟨w.heap.size, 0, none⟩) ((hp_cell (i := 0) rr).trans rfl) dq osq
          have f1 := fun (dq : Nat) (osq : Array Obj) => cell_regrown (w := w6) (a := ⟨w.heap.size, 1, none⟩) ((hp_cell (i := 1) rr).trans rfl) dq osq
          have f2 := fun (dq : Nat) (osq : Array Obj) => cell_regrown (w := w6) (a := ⟨w.heap.size, 2, none⟩) ((hp_cell (i := 2) rr).trans rfl) dq osq
          clear rr
          refine wp_region_quiet_below (by kernel_rfl) (by kernel_rfl) ?_
          repeat (quiet_step (first
            | (go_at_call 58; with_reducible exact Calls.regrown_of (D0.out _ _))
            | (go_at_call 59; with_reducible exact Calls.regrown_of (D1.out _ _))
            | (go_at_call 60; with_reducible exact Calls.regrown_of (D2.out _ _))))
          refine wpQuiet_nil ?_
          intro _ hw'
          obtain ⟨⟨dq, osq⟩, hw''⟩ := hw'
          subst hw''
          have HG := Lib.hid (And.intro (N2.out.1.step (below_regrown w6 dq osq)) (N2.out.2.2.below (below_regrown w6 dq osq)))
          go_wp2
          exact ⟨⟨2, by omega, rfl, HG.out.1, HG.out.2⟩, by simp [intOf]⟩
      · have p1 : ¬ (j : Int) < 2 := by omega
        go_wp2_with (go_at_call 55; refine (lives12_walk _).mono ?_; rintro e w9 ⟨rfl, hb9⟩; have HB9 := Lib.hid hb9; clear hb9)
        go_ret
        exact ⟨rfl, HN.out.bl.trans (HB9.out.mono HN.out.bl.size)⟩
  · rw [decide_eq_false hn5] at HLt
    go_enter Try.func10, Try.ntmps10
    go_wp2_with (first
      | (go_at_call 55; refine (lives12_walk _).mono ?_; rintro e w9 ⟨rfl, hb9⟩; have HB9 := Lib.hid hb9; clear hb9)
      | (go_at_call 54; refine HLt.out.mono ?_; rintro e w2 ⟨rfl, hb2⟩; have H2 := Lib.hid (H0.out.step hb2); clear hb2))
    go_ret
    exact ⟨rfl, H2.out.bl.trans (HB9.out.mono H2.out.bl.size)⟩
end Go.Proofs.Ytjpikgfplfgcfaa

namespace Go.Proofs.Ytjpikgfplfgcfaa
open Go.ChangeShapes Go.WideShapes Go.ChangeAt Go.RowKit

theorem cells_act12 : Try.prog.cellsOf 93 = 3 := by kernel_rfl
theorem cells_act12_bool : Try.prog.cellsOf 4 = 1 := by kernel_rfl
theorem cells_act12_il : Try.prog.cellsOf 67 = 1 := by kernel_rfl
theorem list_act12 {α : Type} (l : List α) (h : l.length = 3) : ∃ b0 b1 b2, l = [b0, b1, b2] := by
  match l, h with
  | [b0, b1, b2], _ => exact ⟨b0, b1, b2, rfl⟩
section
variable {H : Type} {enc : TypeId × Value → H} {W : World} {base : Nat}
set_option maxRecDepth 100000 in
theorem open_il_act12 {b : Value} {m : Nat} {y : DataW H × List MemPlace} (hf : DataW.trod enc Try.prog W 0 (fun _ => true) true m 67 [b] = some y) :
    ∃ A n c f, b = .slice A n c ∧ (n : Int) ≤ 9223372036854775807 ∧ Il W A n f ∧ (A = none → n = 0 ∧ c = 0) := by
  rcases open_ints Try.underlying67 Try.underlying3 (show Try.prog.cellsOf 3 = 1 by kernel_rfl) hf with ⟨hcs, hx⟩ | ⟨a, n, c, zs, hcs, _, hl, hm, hz, hx, hcell, hwz⟩
  · simp only [List.cons.injEq, and_true] at hcs
    subst hcs
    exact ⟨none, 0, 0, fun _ => 0, rfl, by decide, ⟨fun _ => by show (0 : Int) < 2 ^ 63; decide, fun h => absurd h (by omega)⟩, fun _ => ⟨rfl, rfl⟩⟩
  · simp only [List.cons.injEq, and_true] at hcs
    subst hcs
    simp only [if_true] at hz
    refine ⟨some a, n, c, fun i => zs.getD i 0, rfl, ?_, ⟨fun i => ?_, fun hn => ?_⟩, fun h => by cases h⟩
    · have hh := hm
      simp [maxLen] at hh
      omega
    · rcases Nat.lt_or_ge i zs.length with hi | hi
      · have := bounds_i64 (hwz (zs.getD i 0) (by simp [List.getD, List.getElem?_eq_getElem hi]))
        show zs.getD i 0 < 2 ^ 63
        omega
      · simp only [List.getD, List.getElem?_eq_none hi, Option.getD_none]; decide
    · have hc0 := hcell 0 (by omega)
      have hlt := World.block_lt_of_cell? W _ hc0
      obtain ⟨g, o, sp⟩ := a
      have hspot : sp = none := by simpa [Addr.add] using World.cell?_spot hc0
      subst hspot
      exact ⟨g, o, rfl, hlt, fun i hi => by rw [← add_plain]; exact hcell i (by omega)⟩
set_option maxRecDepth 100000 in
theorem open_act12 {v : Value} {d : DataW H} {p : List MemPlace} (hv : Value.okWide Try.prog W .any base 93 v) (h : DataW.Trod enc Try.prog W 0 (fun _ => true) true 93 v d p) :
    ∃ x0 A1 k1 c1 f51 A2 k2 c2 f52, v = .agg #[.bool x0, .slice A1 k1 c1, .slice A2 k2 c2] ∧ ((k1 : Int) ≤ 9223372036854775807) ∧ (Il W A1 k1 f51) ∧ (A1 = none → k1 = 0 ∧ c1 = 0) ∧ ((k2 : Int) ≤ 9223372036854775807) ∧ (Il W A2 k2 f52) ∧ (A2 = none → k2 = 0 ∧ c2 = 0) := by
  obtain ⟨cs, rfl, hsz, _⟩ : ∃ cs, v = .agg cs ∧ cs.size = Try.prog.cellsOf 93 ∧ Row.okWide Try.prog W .any base 93 cs := by
    simpa [Value.okWide, Try.underlying93] using hv
  rw [cells_act12] at hsz
  obtain ⟨l⟩ := cs
  obtain ⟨b0, b1, b2, rfl⟩ := list_act12 l hsz
  obtain ⟨fuel, hf⟩ := h
  obtain ⟨ys, n2, _, _, _, hyl, hf⟩ := DataW.trod_struct Try.underlying93 hf
  obtain ⟨y0, y1, y2, rfl⟩ := list_act12 ys hyl
  have f0 : DataW.trod enc Try.prog W 0 (fun _ => true) true n2 4 (([b0, b1, b2].drop 0).take (Try.prog.cellsOf 4)) = some y0 := hf 0 _ rfl
  rw [cells_act12_bool] at f0
  replace f0 : DataW.trod enc Try.prog W 0 (fun _ => true) true n2 4 [b0] = some y0 := f0
  have f1 : DataW.trod enc Try.prog W 0 (fun _ => true) true n2 67 (([b0, b1, b2].drop 1).take (Try.prog.cellsOf 67)) = some y1 := hf 1 _ rfl
  rw [cells_act12_il] at f1
  replace f1 : DataW.trod enc Try.prog W 0 (fun _ => true) true n2 67 [b1] = some y1 := f1
  have f2 : DataW.trod enc Try.prog W 0 (fun _ => true) true n2 67 (([b0, b1, b2].drop 2).take (Try.prog.cellsOf 67)) = some y2 := hf 2 _ rfl
  rw [cells_act12_il] at f2
  replace f2 : DataW.trod enc Try.prog W 0 (fun _ => true) true n2 67 [b2] = some y2 := f2
  obtain ⟨x0, e0, _⟩ := DataW.trod_bool Try.underlying4 f0
  simp at e0
  subst e0
  obtain ⟨A1, k1, c1, f51, rfl, hn1, hl1, hz1⟩ := open_il_act12 f1
  obtain ⟨A2, k2, c2, f52, rfl, hn2, hl2, hz2⟩ := open_il_act12 f2
  exact ⟨x0, A1, k1, c1, f51, A2, k2, c2, f52, rfl, hn1, hl1, hz1, hn2, hl2, hz2⟩
end
end Go.Proofs.Ytjpikgfplfgcfaa
