/- The law RosterNone, walked from its box. -/
import Derived.Test.YtfoppgbbjmoofaaRU
import Derived.Lib.QuietBelow
import Derived.Deep.Quiet
import Derived.Deep.QuietTactic
namespace Go.Proofs.Ytfoppgbbjmoofaa
open Go.RowKit Go.Maps Go.Sort

theorem nrosterNone0 (a b : Value) (w : World) : (Instr.index 33 (.agg #[a, b]) (.int .i64 0)).run Try.prog w = .ok a w := by kernel_rfl
theorem nrosterNone1 (a b : Value) (w : World) : (Instr.index 33 (.agg #[a, b]) (.int .i64 1)).run Try.prog w = .ok b w := by kernel_rfl
theorem rosterNone_b {f : FuncId} {args : Array Value} {w : World} {v : Value} (h : Calls Try.prog f args w fun e w' => e = .returned v ∧ w = w') : Calls Try.prog f args w fun e w' => e = .returned v ∧ Below w.heap.size w w' := h.mono fun _ _ h => ⟨h.1, by rw [← h.2]; exact Below.refl _ _⟩
/-- the law's world: its box, and the store z -/
structure RosterNoneAt (W w : World) (s : Value) (a : Int) (b : Int) (c : Int) : Prop where
  bl : Below W.heap.size W w
  r : w.heap[W.heap.size]? = some (.cells #[.int .i64 a, .int .i64 b, .int .i64 c] 43 (0, 0))
  d : SDead w s
  z : SDead w (.pointer (some ⟨W.heap.size + 1, 0, none⟩))
theorem RosterNoneAt.step {W w w' : World} {s : Value} {a : Int} {b : Int} {c : Int} (h : RosterNoneAt W w s a b c) (hb : Below w.heap.size w w') : RosterNoneAt W w' s a b c :=
  ⟨h.bl.trans (hb.mono h.bl.size), (hb.block _ (hp_lt h.r)).trans h.r, h.d.below hb, h.z.below hb⟩
theorem RosterNoneAt.nil {W w : World} {s : Value} {a : Int} {b : Int} {c : Int} (h : RosterNoneAt W w s a b c) : RosterNoneAt W w (.pointer none) a b c := ⟨h.bl, h.r, .inl rfl, h.z⟩
theorem RosterNoneAt.back {W w : World} {s : Value} {a : Int} {b : Int} {c : Int} (h : RosterNoneAt W w s a b c) : RosterNoneAt W w (.pointer (some ⟨W.heap.size + 1, 0, none⟩)) a b c := ⟨h.bl, h.r, h.z, h.z⟩

set_option maxRecDepth 100000 in
set_option maxHeartbeats 4000000 in
theorem rosterNone_walk (a : Int) (b : Int) (c : Int) (w : World) (hb : b < 2 ^ 63) : Calls Try.prog 4 #[.agg #[.int .i64 a, .int .i64 b, .int .i64 c]] w fun e w' => e = .returned (.bool true) ∧ Below w.heap.size w w' := by
  have hx0 := nrosterNone0
  have hx1 := nrosterNone1
  have h0 : RosterNoneAt w ((w.alloc (.cells #[.int .i64 a, .int .i64 b, .int .i64 c] 43)).alloc (.cells #[.map none, .slice none 0 0, .slice none 0 0] 31)) (.pointer (some ⟨w.heap.size + 1, 0, none⟩)) a b c := by
    refine ⟨((Below.refl _ _).alloc (Nat.le_refl _) _).alloc (by simp) _, (heap_alloc_old _ _ (by simp)).trans (heap_alloc_new _ _), .inr ⟨_, rfl, by simp, by simp⟩, .inr ⟨_, rfl, by simp, by simp⟩⟩
  have H0 := Lib.hid h0
  clear h0
  go_enter Try.func4, Try.ntmps4
  go_wp2
  go_loopw [7] (fun i wr => ∃ j : Nat, j ≤ 2 ∧ i = .int .i64 (j : Nat) ∧ RosterNoneAt w wr (.pointer (some ⟨w.heap.size + 1, 0, none⟩)) a b c) (fun i _ => 2 - (intOf i).toNat)
  case atStart => exact ⟨0, by omega, rfl, H0.out⟩
  case round =>
    obtain ⟨j, hj, rfl, hn⟩ := hrel
    have HN := Lib.hid hn
    clear hn
    by_cases h2 : j < 2
    · have p1 : (j : Int) < 2 := by omega
      rcases (by omega : j = 0 ∨ j = 1) with rfl | rfl
      · have N0 := Lib.hid HN.out.nil
        go_wp2
        have D0 := Lib.hid (fun (dq : Nat) (osq : Array Obj) => show Calls Try.prog 11 #[.pointer (none : Option Addr), .int .i64 b] (grow (redrawn wr dq) osq) fun e w' => e = .returned (.int .i64 1) ∧ Below (grow (redrawn wr dq) osq).heap.size (grow (redrawn wr dq) osq) w' from rosterNone_b (reg_dead _ b _ (N0.out.d.below (below_regrown wr dq osq))))
        have D1 := Lib.hid (fun (dq : Nat) (osq : Array Obj) => show Calls Try.prog 12 #[.pointer (none : Option Addr), .int .i64 b, .int .i64 c] (grow (redrawn wr dq) osq) fun e w' => e = .returned (.int .i64 1) ∧ Below (grow (redrawn wr dq) osq).heap.size (grow (redrawn wr dq) osq) w' from rosterNone_b (choose_dead _ b c _ (N0.out.d.below (below_regrown wr dq osq))))
        have D2 := Lib.hid (fun (dq : Nat) (osq : Array Obj) => show Calls Try.prog 13 #[.pointer (none : Option Addr), .int .i64 b] (grow (redrawn wr dq) osq) fun e w' => e = .returned (.int .i64 1) ∧ Below (grow (redrawn wr dq) osq).heap.size (grow (redrawn wr dq) osq) w' from rosterNone_b (leave_dead _ b _ (N0.out.d.below (below_regrown wr dq osq))))
        have D3 := Lib.hid (fun (dq : Nat) (osq : Array Obj) => show Calls Try.prog 14 #[.pointer (none : Option Addr), .int .i64 b] (grow (redrawn wr dq) osq) fun e w' => e = .returned (.bool false) ∧ Below (grow (redrawn wr dq) osq).heap.size (grow (redrawn wr dq) osq) w' from ris_dead _ b _ (N0.out.d.below (below_regrown wr dq osq)) hb)
        have D4 := Lib.hid (fun (dq : Nat) (osq : Array Obj) => show Calls Try.prog 15 #[.pointer (none : Option Addr), .int .i64 b] (grow (redrawn wr dq) osq) fun e w' => e = .returned (.int .i64 0) ∧ Below (grow (redrawn wr dq) osq).heap.size (grow (redrawn wr dq) osq) w' from rof_dead _ b _ (N0.out.d.below (below_regrown wr dq osq)) hb)
        have D5 := Lib.hid (fun (dq : Nat) (osq : Array Obj) => show Calls Try.prog 16 #[.pointer (none : Option Addr), .int .i64 c] (grow (redrawn wr dq) osq) fun e w' => e = .returned (.slice none 0 0) ∧ Below (grow (redrawn wr dq) osq).heap.size (grow (redrawn wr dq) osq) w' from stakers_dead (none : Option Addr) c _ (N0.out.d.below (below_regrown wr dq osq)))
        have D6 := Lib.hid (fun (dq : Nat) (osq : Array Obj) => show Calls Try.prog 17 #[.pointer (none : Option Addr)] (grow (redrawn wr dq) osq) fun e w' => e = .returned (.slice none 0 0) ∧ Below (grow (redrawn wr dq) osq).heap.size (grow (redrawn wr dq) osq) w' from operators_dead (none : Option Addr) _ (N0.out.d.below (below_regrown wr dq osq)))
        have rr := N0.out.r
        have f0 := fun (dq : Nat) (osq : Array Obj) => cell_regrown (w := wr) (a := ⟨w.heap.size, 0, none⟩) ((hp_cell (i := 0) rr).trans rfl) dq osq
        have f1 := fun (dq : Nat) (osq : Array Obj) => cell_regrown (w := wr) (a := ⟨w.heap.size, 1, none⟩) ((hp_cell (i := 1) rr).trans rfl) dq osq
        have f2 := fun (dq : Nat) (osq : Array Obj) => cell_regrown (w := wr) (a := ⟨w.heap.size, 2, none⟩) ((hp_cell (i := 2) rr).trans rfl) dq osq
        clear rr
        refine wp_region_quiet_below (by kernel_rfl) (by kernel_rfl) ?_
        repeat (quiet_step (first
          | (go_at_call 11; with_reducible exact Calls.regrown_of (D0.out _ _))
          | (go_at_call 12; with_reducible exact Calls.regrown_of (D1.out _ _))
          | (go_at_call 13; with_reducible exact Calls.regrown_of (D2.out _ _))
          | (go_at_call 14; with_reducible exact Calls.regrown_of (D3.out _ _))
          | (go_at_call 15; with_reducible exact Calls.regrown_of (D4.out _ _))
          | (go_at_call 16; with_reducible exact Calls.regrown_of (D5.out _ _))
          | (go_at_call 17; with_reducible exact Calls.regrown_of (D6.out _ _))))
        refine wpQuiet_nil ?_
        intro _ hw'
        obtain ⟨⟨dq, osq⟩, hw''⟩ := hw'
        subst hw''
        have HG := Lib.hid (N0.out.step (below_regrown wr dq osq))
        go_wp2
        exact ⟨⟨1, by omega, rfl, HG.out.back⟩, by simp [intOf]⟩
      · have N0 := Lib.hid HN.out
        go_wp2
        have D0 := Lib.hid (fun (dq : Nat) (osq : Array Obj) => show Calls Try.prog 11 #[.pointer (some ⟨w.heap.size + 1, 0, none⟩ : Option Addr), .int .i64 b] (grow (redrawn wr dq) osq) fun e w' => e = .returned (.int .i64 1) ∧ Below (grow (redrawn wr dq) osq).heap.size (grow (redrawn wr dq) osq) w' from rosterNone_b (reg_dead _ b _ (N0.out.d.below (below_regrown wr dq osq))))
        have D1 := Lib.hid (fun (dq : Nat) (osq : Array Obj) => show Calls Try.prog 12 #[.pointer (some ⟨w.heap.size + 1, 0, none⟩ : Option Addr), .int .i64 b, .int .i64 c] (grow (redrawn wr dq) osq) fun e w' => e = .returned (.int .i64 1) ∧ Below (grow (redrawn wr dq) osq).heap.size (grow (redrawn wr dq) osq) w' from rosterNone_b (choose_dead _ b c _ (N0.out.d.below (below_regrown wr dq osq))))
        have D2 := Lib.hid (fun (dq : Nat) (osq : Array Obj) => show Calls Try.prog 13 #[.pointer (some ⟨w.heap.size + 1, 0, none⟩ : Option Addr), .int .i64 b] (grow (redrawn wr dq) osq) fun e w' => e = .returned (.int .i64 1) ∧ Below (grow (redrawn wr dq) osq).heap.size (grow (redrawn wr dq) osq) w' from rosterNone_b (leave_dead _ b _ (N0.out.d.below (below_regrown wr dq osq))))
        have D3 := Lib.hid (fun (dq : Nat) (osq : Array Obj) => show Calls Try.prog 14 #[.pointer (some ⟨w.heap.size + 1, 0, none⟩ : Option Addr), .int .i64 b] (grow (redrawn wr dq) osq) fun e w' => e = .returned (.bool false) ∧ Below (grow (redrawn wr dq) osq).heap.size (grow (redrawn wr dq) osq) w' from ris_dead _ b _ (N0.out.d.below (below_regrown wr dq osq)) hb)
        have D4 := Lib.hid (fun (dq : Nat) (osq : Array Obj) => show Calls Try.prog 15 #[.pointer (some ⟨w.heap.size + 1, 0, none⟩ : Option Addr), .int .i64 b] (grow (redrawn wr dq) osq) fun e w' => e = .returned (.int .i64 0) ∧ Below (grow (redrawn wr dq) osq).heap.size (grow (redrawn wr dq) osq) w' from rof_dead _ b _ (N0.out.d.below (below_regrown wr dq osq)) hb)
        have D5 := Lib.hid (fun (dq : Nat) (osq : Array Obj) => show Calls Try.prog 16 #[.pointer (some ⟨w.heap.size + 1, 0, none⟩ : Option Addr), .int .i64 c] (grow (redrawn wr dq) osq) fun e w' => e = .returned (.slice none 0 0) ∧ Below (grow (redrawn wr dq) osq).heap.size (grow (redrawn wr dq) osq) w' from stakers_dead (some ⟨w.heap.size + 1, 0, none⟩ : Option Addr) c _ (N0.out.d.below (below_regrown wr dq osq)))
        have D6 := Lib.hid (fun (dq : Nat) (osq : Array Obj) => show Calls Try.prog 17 #[.pointer (some ⟨w.heap.size + 1, 0, none⟩ : Option Addr)] (grow (redrawn wr dq) osq) fun e w' => e = .returned (.slice none 0 0) ∧ Below (grow (redrawn wr dq) osq).heap.size (grow (redrawn wr dq) osq) w' from operators_dead (some ⟨w.heap.size + 1, 0, none⟩ : Option Addr) _ (N0.out.d.below (below_regrown wr dq osq)))
        have rr := N0.out.r
        have f0 := fun (dq : Nat) (osq : Array Obj) => cell_regrown (w := wr) (a := ⟨w.heap.size, 0, none⟩) ((hp_cell (i := 0) rr).trans rfl) dq osq
        have f1 := fun (dq : Nat) (osq : Array Obj) => cell_regrown (w := wr) (a := ⟨w.heap.size, 1, none⟩) ((hp_cell (i := 1) rr).trans rfl) dq osq
        have f2 := fun (dq : Nat) (osq : Array Obj) => cell_regrown (w := wr) (a := ⟨w.heap.size, 2, none⟩) ((hp_cell (i := 2) rr).trans rfl) dq osq
        clear rr
        refine wp_region_quiet_below (by kernel_rfl) (by kernel_rfl) ?_
        repeat (quiet_step (first
          | (go_at_call 11; with_reducible exact Calls.regrown_of (D0.out _ _))
          | (go_at_call 12; with_reducible exact Calls.regrown_of (D1.out _ _))
          | (go_at_call 13; with_reducible exact Calls.regrown_of (D2.out _ _))
          | (go_at_call 14; with_reducible exact Calls.regrown_of (D3.out _ _))
          | (go_at_call 15; with_reducible exact Calls.regrown_of (D4.out _ _))
          | (go_at_call 16; with_reducible exact Calls.regrown_of (D5.out _ _))
          | (go_at_call 17; with_reducible exact Calls.regrown_of (D6.out _ _))))
        refine wpQuiet_nil ?_
        intro _ hw'
        obtain ⟨⟨dq, osq⟩, hw''⟩ := hw'
        subst hw''
        have HG := Lib.hid (N0.out.step (below_regrown wr dq osq))
        go_wp2
        exact ⟨⟨2, by omega, rfl, HG.out⟩, by simp [intOf]⟩
    · have p1 : ¬ (j : Int) < 2 := by omega
      go_wp2_with (go_at_call 18; refine (lives21_walk _).mono ?_; rintro e w9 ⟨rfl, hb9⟩; have HB9 := Lib.hid hb9; clear hb9)
      go_ret
      exact ⟨rfl, HN.out.bl.trans (HB9.out.mono HN.out.bl.size)⟩
end Go.Proofs.Ytfoppgbbjmoofaa
