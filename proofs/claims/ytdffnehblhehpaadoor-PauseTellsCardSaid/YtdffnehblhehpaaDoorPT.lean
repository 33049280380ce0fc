/- The law PauseTells, walked from its arguments. -/
import Derived.Test.YtdffnehblhehpaaDoorWT
namespace Go.Proofs.YtdffnehblhehpaaDoor
open Go.RowKit Go.Maps Go.Sort

set_option maxRecDepth 100000 in
set_option maxHeartbeats 4000000 in
theorem pauseTells_walk (o p u d t c a k f : Int) (w : World) (hv : Vp w) : Calls Tryd.prog 3 #[.agg #[.int .i64 o, .int .i64 p, .int .i64 u, .int .i64 d, .int .i64 t, .int .i64 c, .int .i64 a], .int .i64 k, .int .i64 f] w fun e w' => e = .returned (.bool true) ∧ Below w.heap.size w w' := by
  have hb1 := (Below.refl w.heap.size w).alloc (Nat.le_refl _) (.cells #[.int .i64 o, .int .i64 p, .int .i64 u, .int .i64 d, .int .i64 t, .int .i64 c, .int .i64 a] 23)
  have r1 : (w.alloc (.cells #[.int .i64 o, .int .i64 p, .int .i64 u, .int .i64 d, .int .i64 t, .int .i64 c, .int .i64 a] 23)).heap[w.heap.size]? = some (.cells #[.int .i64 o, .int .i64 p, .int .i64 u, .int .i64 d, .int .i64 t, .int .i64 c, .int .i64 a] 23 (0, 0)) := heap_alloc_new _ _
  have hv1 := hv.below hb1
  have HG := Lib.hid (fun w => pgood_walk o p u d t c a w)
  have HR := Lib.hid (fun w => rgood_walk o p u d t c a w)
  have HK := Lib.hid (fun (w : World) (h : Vp w) => show Calls Tryd.prog 9 #[.int .i64 k] w fun e w' => e = .returned (.int .i64 (bitV k : Nat)) ∧ Below w.heap.size w w' from (bit_walk k w h).mono fun e w' hh => ⟨hh.1, by rw [← hh.2]; exact Below.refl _ _⟩)
  have HKr := Lib.hid (fun w => rbit_walk k w)
  have HW := Lib.hid (fun (w : World) => show Calls Tryd.prog 11 #[.int .i64 k] w fun e w' => e = .returned (.int .i64 (whoV k : Nat)) ∧ Below w.heap.size w w' from (who_walk k w).mono fun e w' hh => ⟨hh.1, by rw [← hh.2]; exact Below.refl _ _⟩)
  have HWr := Lib.hid (fun (w : World) => show Calls Tryd.prog 12 #[.int .i64 k] w fun e w' => e = .returned (.int .i64 (whoV k : Nat)) ∧ Below w.heap.size w w' from (rwho_walk k w).mono fun e w' hh => ⟨hh.1, by rw [← hh.2]; exact Below.refl _ _⟩)
  have HM := Lib.hid (fun w => may_walk o p u d t c a k f w)
  have HMr := Lib.hid (fun w => rmay_walk o p u d t c a k f w)
  have HL := Lib.hid (fun (w : World) (h : Vp w) => lives35_walk w h)
  obtain ⟨G, hGe⟩ : ∃ x, x = goodV o p u d t c a := ⟨_, rfl⟩
  obtain ⟨v, hve⟩ : ∃ x, x = bitV k := ⟨_, rfl⟩
  obtain ⟨wh, hwe⟩ : ∃ x, x = whoV k := ⟨_, rfl⟩
  obtain ⟨m, hme⟩ : ∃ x, x = mayV o p u k f := ⟨_, rfl⟩
  rw [← hGe] at HG HR
  rw [← hve] at HK HKr
  rw [← hwe] at HW HWr
  rw [← hme] at HM HMr
  have Hfin : Hid (∀ dq osq, Below w.heap.size w (grow (redrawn (w.alloc (.cells #[.int .i64 o, .int .i64 p, .int .i64 u, .int .i64 d, .int .i64 t, .int .i64 c, .int .i64 a] 23)) dq) osq)) := Lib.hid fun dq osq => hb1.trans ((below_regrown (w.alloc (.cells #[.int .i64 o, .int .i64 p, .int .i64 u, .int .i64 d, .int .i64 t, .int .i64 c, .int .i64 a] 23)) dq osq).mono hb1.size)
  have HV : Hid (∀ dq osq, Vp (grow (redrawn (w.alloc (.cells #[.int .i64 o, .int .i64 p, .int .i64 u, .int .i64 d, .int .i64 t, .int .i64 c, .int .i64 a] 23)) dq) osq)) := Lib.hid fun dq osq => hv1.below (below_regrown (w.alloc (.cells #[.int .i64 o, .int .i64 p, .int .i64 u, .int .i64 d, .int .i64 t, .int .i64 c, .int .i64 a] 23)) dq osq)
  have f0 := fun (dq : Nat) (osq : Array Obj) => cell_regrown (w := (w.alloc (.cells #[.int .i64 o, .int .i64 p, .int .i64 u, .int .i64 d, .int .i64 t, .int .i64 c, .int .i64 a] 23))) (a := ⟨w.heap.size, 0, none⟩) (v := .int .i64 o) ((hp_cell (i := 0) r1).trans rfl) dq osq
  have f1 := fun (dq : Nat) (osq : Array Obj) => cell_regrown (w := (w.alloc (.cells #[.int .i64 o, .int .i64 p, .int .i64 u, .int .i64 d, .int .i64 t, .int .i64 c, .int .i64 a] 23))) (a := ⟨w.heap.size, 1, none⟩) (v := .int .i64 p) ((hp_cell (i := 1) r1).trans rfl) dq osq
  have f2 := fun (dq : Nat) (osq : Array Obj) => cell_regrown (w := (w.alloc (.cells #[.int .i64 o, .int .i64 p, .int .i64 u, .int .i64 d, .int .i64 t, .int .i64 c, .int .i64 a] 23))) (a := ⟨w.heap.size, 2, none⟩) (v := .int .i64 u) ((hp_cell (i := 2) r1).trans rfl) dq osq
  have f3 := fun (dq : Nat) (osq : Array Obj) => cell_regrown (w := (w.alloc (.cells #[.int .i64 o, .int .i64 p, .int .i64 u, .int .i64 d, .int .i64 t, .int .i64 c, .int .i64 a] 23))) (a := ⟨w.heap.size, 3, none⟩) (v := .int .i64 d) ((hp_cell (i := 3) r1).trans rfl) dq osq
  have f4 := fun (dq : Nat) (osq : Array Obj) => cell_regrown (w := (w.alloc (.cells #[.int .i64 o, .int .i64 p, .int .i64 u, .int .i64 d, .int .i64 t, .int .i64 c, .int .i64 a] 23))) (a := ⟨w.heap.size, 4, none⟩) (v := .int .i64 t) ((hp_cell (i := 4) r1).trans rfl) dq osq
  have f5 := fun (dq : Nat) (osq : Array Obj) => cell_regrown (w := (w.alloc (.cells #[.int .i64 o, .int .i64 p, .int .i64 u, .int .i64 d, .int .i64 t, .int .i64 c, .int .i64 a] 23))) (a := ⟨w.heap.size, 5, none⟩) (v := .int .i64 c) ((hp_cell (i := 5) r1).trans rfl) dq osq
  have f6 := fun (dq : Nat) (osq : Array Obj) => cell_regrown (w := (w.alloc (.cells #[.int .i64 o, .int .i64 p, .int .i64 u, .int .i64 d, .int .i64 t, .int .i64 c, .int .i64 a] 23))) (a := ⟨w.heap.size, 6, none⟩) (v := .int .i64 a) ((hp_cell (i := 6) r1).trans rfl) dq osq
  clear hb1 r1 hv1 hv hGe hve hwe hme
  go_enter Tryd.func3, Tryd.ntmps3
  go_wp2
  refine wp_region_quiet_below (by kernel_rfl) (by kernel_rfl) ?_
  repeat (quiet_step (first
    | (go_at_call 7; with_reducible exact Calls.regrown_of (HG.out _))
    | (go_at_call 8; with_reducible exact Calls.regrown_of (HR.out _))
    | (go_at_call 9; with_reducible exact Calls.regrown_of (HK.out _ (HV.out _ _)))
    | (go_at_call 10; with_reducible exact Calls.regrown_of (HKr.out _))
    | (go_at_call 11; with_reducible exact Calls.regrown_of (HW.out _))
    | (go_at_call 12; with_reducible exact Calls.regrown_of (HWr.out _))
    | (go_at_call 13; with_reducible exact Calls.regrown_of (HM.out _))
    | (go_at_call 14; with_reducible exact Calls.regrown_of (HMr.out _))
    | (go_at_call 15; with_reducible exact Calls.regrown_of (HL.out _ (HV.out _ _)))))
  refine wpQuiet_nil ?_
  intro _ hw'
  obtain ⟨⟨dq, osq⟩, hw''⟩ := hw'
  subst hw''
  go_wp2
  go_ret
  exact ⟨rfl, Hfin.out _ _⟩
end Go.Proofs.YtdffnehblhehpaaDoor
