/- The law PauseNone, walked from its arguments. -/
import Derived.Test.YtdffnehblhehpaaDoorWP
namespace Go.Proofs.YtdffnehblhehpaaDoor
open Go.RowKit

theorem sidx0 (a b : Value) (w : World) : (Instr.index 51 (.agg #[a, b]) (.int .i64 0)).run Tryd.prog w = .ok a w := by kernel_rfl
theorem sidx1 (a b : Value) (w : World) : (Instr.index 51 (.agg #[a, b]) (.int .i64 1)).run Tryd.prog w = .ok b w := by kernel_rfl
/-- the law's world: the store z, the listed variable -/
structure PNAt (W w : World) (s : Value) : Prop where
  bl : Below W.heap.size W w
  v : Vp w
  d : SDead w s
  z : SDead w (.pointer (some ⟨W.heap.size, 0, none⟩))
theorem PNAt.step {W w w' : World} {s : Value} (h : PNAt W w s) (hb : Below w.heap.size w w') : PNAt W w' s :=
  ⟨h.bl.trans (hb.mono h.bl.size), h.v.below hb, h.d.below hb, h.z.below hb⟩
theorem PNAt.nil {W w : World} {s : Value} (h : PNAt W w s) : PNAt W w (.pointer none) := ⟨h.bl, h.v, .inl rfl, h.z⟩
theorem PNAt.back {W w : World} {s : Value} (h : PNAt W w s) : PNAt W w (.pointer (some ⟨W.heap.size, 0, none⟩)) := ⟨h.bl, h.v, h.z, h.z⟩
set_option maxRecDepth 100000 in
set_option maxHeartbeats 2000000 in
theorem pauseNone_walk (n k : Int) (w : World) (hv : Vp w) : Calls Tryd.prog 6 #[.int .i64 n, .int .i64 k] w fun e w' => e = .returned (.bool true) ∧ Below w.heap.size w w' := by
  have hx0 := sidx0
  have hx1 := sidx1
  have h0 : PNAt w (w.alloc (.cells #[.map none, .slice none 0 0, .slice none 0 0] 50)) (.pointer (some ⟨w.heap.size, 0, none⟩)) := by
    have hb := (Below.refl w.heap.size w).alloc (Nat.le_refl _) (.cells #[.map none, .slice none 0 0, .slice none 0 0] 50)
    exact ⟨hb, hv.below hb, .inr ⟨_, rfl, by simp, by simp⟩, .inr ⟨_, rfl, by simp, by simp⟩⟩
  have H0 := Lib.hid h0
  clear h0 hv
  go_enter Tryd.func6, Tryd.ntmps6
  go_wp2
  go_loopw [9] (fun i wr => ∃ j : Nat, j ≤ 2 ∧ i = .int .i64 (j : Nat) ∧ PNAt w wr (.pointer (some ⟨w.heap.size, 0, none⟩))) (fun i _ => 2 - (intOf i).toNat)
  case atStart => exact ⟨0, by omega, rfl, H0.out⟩
  case round =>
    obtain ⟨j, hj, rfl, hn⟩ := hrel
    have HN := Lib.hid hn
    clear hn
    by_cases h2 : j < 2
    · have p1 : (j : Int) < 2 := by omega
      rcases (by omega : j = 0 ∨ j = 1) with rfl | rfl
      · have N0 := Lib.hid HN.out.nil
        go_wp2_with (first
          | (go_at_call 21; refine (paused_dead _ k _ N1.out.d N1.out.v).mono ?_; rintro e w8 ⟨rfl, hb8⟩; have N2 := Lib.hid (N1.out.step hb8); clear hb8)
          | (go_at_call 19; refine (pflags_dead _ _ N0.out.d).mono ?_; rintro e w7 ⟨rfl, hb7⟩; have N1 := Lib.hid (N0.out.step hb7); clear hb7)
          | (go_at_call 17; refine (pset_dead _ n _ N0.out.d).mono ?_; rintro e w6 ⟨rfl, rfl⟩))
        exact ⟨⟨1, by omega, rfl, N2.out.back⟩, by simp [intOf]⟩
      · have N0 := Lib.hid HN.out
        go_wp2_with (first
          | (go_at_call 21; refine (paused_dead _ k _ N1.out.d N1.out.v).mono ?_; rintro e w8 ⟨rfl, hb8⟩; have N2 := Lib.hid (N1.out.step hb8); clear hb8)
          | (go_at_call 19; refine (pflags_dead _ _ N0.out.d).mono ?_; rintro e w7 ⟨rfl, hb7⟩; have N1 := Lib.hid (N0.out.step hb7); clear hb7)
          | (go_at_call 17; refine (pset_dead _ n _ N0.out.d).mono ?_; rintro e w6 ⟨rfl, rfl⟩))
        exact ⟨⟨2, by omega, rfl, N2.out⟩, by simp [intOf]⟩
    · have p1 : ¬ (j : Int) < 2 := by omega
      go_wp2_with (go_at_call 15; refine (lives35_walk _ HN.out.v).mono ?_; rintro e w9 ⟨rfl, hb9⟩; have HB9 := Lib.hid hb9; clear hb9)
      go_ret
      exact ⟨rfl, HN.out.bl.trans (HB9.out.mono HN.out.bl.size)⟩
end Go.Proofs.YtdffnehblhehpaaDoor
