/- The law StoreNone, walked from its box. -/
import Derived.Test.YthikpemdgmmcaaaT9
import Derived.Deep.Quiet
import Derived.Deep.QuietTactic
namespace Go.Proofs.Ythikpemdgmmcaaa
open Go.RowKit

theorem sidx0 (a b : Value) (w : World) : (Instr.index 30 (.agg #[a, b]) (.int .i64 0)).run Try.prog w = .ok a w := by kernel_rfl
theorem sidx1 (a b : Value) (w : World) : (Instr.index 30 (.agg #[a, b]) (.int .i64 1)).run Try.prog w = .ok b w := by kernel_rfl
/-- the law's world: its box, and the store z -/
structure TNAt (W w : World) (s : Value) (c : Int) (k v : ByteArray) (n : Int) : Prop where
  bl : Below W.heap.size W w
  r : w.heap[W.heap.size]? = some (.cells #[.int .i64 c, .string k, .string v, .int .i64 n] 23 (0, 0))
  d : SDead w s
  z : SDead w (.pointer (some ⟨W.heap.size + 1, 0, none⟩))
theorem same_of {f : FuncId} {args : Array Value} {w : World} {v : Value} (h : Calls Try.prog f args w fun e w' => e = .returned v ∧ w = w') : Calls Try.prog f args w fun e w' => e = .returned v ∧ w' = w := h.mono fun _ _ h => ⟨h.1, h.2.symm⟩
theorem SDead.drewN {w : World} {p : Value} (h : SDead w p) (n : Nat) : SDead (w.drewN n) p := h
theorem TNAt.step {W w w' : World} {s : Value} {c : Int} {k v : ByteArray} {n : Int} (h : TNAt W w s c k v n) (hb : Below w.heap.size w w') : TNAt W w' s c k v n :=
  ⟨h.bl.trans (hb.mono h.bl.size), (hb.block _ (hp_lt h.r)).trans h.r, h.d.below hb, h.z.below hb⟩
theorem TNAt.drewN {W w : World} {s : Value} {c : Int} {k v : ByteArray} {n : Int} (h : TNAt W w s c k v n) (q : Nat) : TNAt W (w.drewN q) s c k v n :=
  h.step (show Below w.heap.size w (w.drewN q) from have b := Below.refl w.heap.size w; ⟨b.os, b.tape, b.output, b.size, b.block⟩)
theorem TNAt.nil {W w : World} {s : Value} {c : Int} {k v : ByteArray} {n : Int} (h : TNAt W w s c k v n) : TNAt W w (.pointer none) c k v n := ⟨h.bl, h.r, .inl rfl, h.z⟩
theorem TNAt.back {W w : World} {s : Value} {c : Int} {k v : ByteArray} {n : Int} (h : TNAt W w s c k v n) : TNAt W w (.pointer (some ⟨W.heap.size + 1, 0, none⟩)) c k v n := ⟨h.bl, h.r, h.z, h.z⟩
set_option maxRecDepth 100000 in
set_option maxHeartbeats 2000000 in
theorem storeNone_walk (c : Int) (k v : ByteArray) (n : Int) (w : World) : Calls Try.prog 3 #[.agg #[.int .i64 c, .string k, .string v, .int .i64 n]] w fun e w' => e = .returned (.bool true) ∧ Below w.heap.size w w' := by
  have hx0 := sidx0
  have hx1 := sidx1
  have h0 : TNAt w ((w.alloc (.cells #[.int .i64 c, .string k, .string v, .int .i64 n] 23)).alloc (.cells #[.map none, .slice none 0 0, .slice none 0 0] 28)) (.pointer (some ⟨w.heap.size + 1, 0, none⟩)) c k v n := by
    refine ⟨((Below.refl _ _).alloc (Nat.le_refl _) _).alloc (by simp) _, (heap_alloc_old _ _ (by simp)).trans (heap_alloc_new _ _), .inr ⟨_, rfl, by simp, by simp⟩, .inr ⟨_, rfl, by simp, by simp⟩⟩
  have H0 := Lib.hid h0
  clear h0
  go_enter Try.func3, Try.ntmps3
  go_wp2
  go_loopw [9] (fun i wr => ∃ j : Nat, j ≤ 2 ∧ i = .int .i64 (j : Nat) ∧ TNAt w wr (.pointer (some ⟨w.heap.size + 1, 0, none⟩)) c k v n) (fun i _ => 2 - (intOf i).toNat)
  case atStart => exact ⟨0, by omega, rfl, H0.out⟩
  case round =>
    obtain ⟨j, hj, rfl, hn⟩ := hrel
    have HN := Lib.hid hn
    clear hn
    by_cases h2 : j < 2
    · have p1 : (j : Int) < 2 := by omega
      rcases (by omega : j = 0 ∨ j = 1) with rfl | rfl
      · have N0 := Lib.hid HN.out.nil
        have r := N0.out.r
        have c0 := (hp_cell (i := 0) r).trans rfl
        have c1 := (hp_cell (i := 1) r).trans rfl
        have c2 := (hp_cell (i := 2) r).trans rfl
        have c3 := (hp_cell (i := 3) r).trans rfl
        clear r
        have DSet := Lib.hid (fun q => same_of (set_dead _ k v _ (N0.out.d.drewN q)))
        have DDelete := Lib.hid (fun q => same_of (delete_dead _ k _ (N0.out.d.drewN q)))
        have DUndo := Lib.hid (fun q => same_of (undo_dead _ 0 _ (N0.out.d.drewN q)))
        have DMade := Lib.hid (fun q => same_of (made_dead _  _ (N0.out.d.drewN q)))
        have DMark := Lib.hid (fun q => same_of (mark_dead _  _ (N0.out.d.drewN q)))
        have DLen := Lib.hid (fun q => same_of (len_dead _  _ (N0.out.d.drewN q)))
        have DAll := Lib.hid (fun q => same_of (all_dead _  _ (N0.out.d.drewN q)))
        have DUnder := Lib.hid (fun q => same_of (under_dead _ k _ (N0.out.d.drewN q)))
        have DCopy := Lib.hid (fun q => same_of (copy_dead _  _ (N0.out.d.drewN q)))
        go_wp2_with (first
          | (go_at_call 14; refine (settle_dead _ _ N0.out.d).mono ?_; rintro e w7 ⟨rfl, rfl⟩)
          | (go_at_call 15; refine (sget_dead _ _ _ N0.out.d).mono ?_; rintro e w7 ⟨rfl, rfl⟩))
        go_quiet ((first
          | (go_at_call 16; with_reducible exact Calls.quiet_of_same (DSet.out _))
          | (go_at_call 17; with_reducible exact Calls.quiet_of_same (DDelete.out _))
          | (go_at_call 18; with_reducible exact Calls.quiet_of_same (DUndo.out _))
          | (go_at_call 19; with_reducible exact Calls.quiet_of_same (DMade.out _))
          | (go_at_call 20; with_reducible exact Calls.quiet_of_same (DMark.out _))
          | (go_at_call 21; with_reducible exact Calls.quiet_of_same (DLen.out _))
          | (go_at_call 22; with_reducible exact Calls.quiet_of_same (DAll.out _))
          | (go_at_call 23; with_reducible exact Calls.quiet_of_same (DUnder.out _))
          | (go_at_call 24; with_reducible exact Calls.quiet_of_same (DCopy.out _))))
        go_wp2
        exact ⟨⟨1, by omega, rfl, (N0.out.drewN _).back⟩, by simp [intOf]⟩
      · have N0 := Lib.hid HN.out
        have r := N0.out.r
        have c0 := (hp_cell (i := 0) r).trans rfl
        have c1 := (hp_cell (i := 1) r).trans rfl
        have c2 := (hp_cell (i := 2) r).trans rfl
        have c3 := (hp_cell (i := 3) r).trans rfl
        clear r
        have DSet := Lib.hid (fun q => same_of (set_dead _ k v _ (N0.out.d.drewN q)))
        have DDelete := Lib.hid (fun q => same_of (delete_dead _ k _ (N0.out.d.drewN q)))
        have DUndo := Lib.hid (fun q => same_of (undo_dead _ 0 _ (N0.out.d.drewN q)))
        have DMade := Lib.hid (fun q => same_of (made_dead _  _ (N0.out.d.drewN q)))
        have DMark := Lib.hid (fun q => same_of (mark_dead _  _ (N0.out.d.drewN q)))
        have DLen := Lib.hid (fun q => same_of (len_dead _  _ (N0.out.d.drewN q)))
        have DAll := Lib.hid (fun q => same_of (all_dead _  _ (N0.out.d.drewN q)))
        have DUnder := Lib.hid (fun q => same_of (under_dead _ k _ (N0.out.d.drewN q)))
        have DCopy := Lib.hid (fun q => same_of (copy_dead _  _ (N0.out.d.drewN q)))
        go_wp2_with (first
          | (go_at_call 14; refine (settle_dead _ _ N0.out.d).mono ?_; rintro e w7 ⟨rfl, rfl⟩)
          | (go_at_call 15; refine (sget_dead _ _ _ N0.out.d).mono ?_; rintro e w7 ⟨rfl, rfl⟩))
        go_quiet ((first
          | (go_at_call 16; with_reducible exact Calls.quiet_of_same (DSet.out _))
          | (go_at_call 17; with_reducible exact Calls.quiet_of_same (DDelete.out _))
          | (go_at_call 18; with_reducible exact Calls.quiet_of_same (DUndo.out _))
          | (go_at_call 19; with_reducible exact Calls.quiet_of_same (DMade.out _))
          | (go_at_call 20; with_reducible exact Calls.quiet_of_same (DMark.out _))
          | (go_at_call 21; with_reducible exact Calls.quiet_of_same (DLen.out _))
          | (go_at_call 22; with_reducible exact Calls.quiet_of_same (DAll.out _))
          | (go_at_call 23; with_reducible exact Calls.quiet_of_same (DUnder.out _))
          | (go_at_call 24; with_reducible exact Calls.quiet_of_same (DCopy.out _))))
        go_wp2
        exact ⟨⟨2, by omega, rfl, N0.out.drewN _⟩, by simp [intOf]⟩
    · have p1 : ¬ (j : Int) < 2 := by omega
      go_wp2_with (go_at_call 25; refine (lives08_walk _).mono ?_; rintro e w9 ⟨rfl, hb9⟩; have HB9 := Lib.hid hb9; clear hb9)
      go_ret
      exact ⟨rfl, HN.out.bl.trans (HB9.out.mono HN.out.bl.size)⟩
end Go.Proofs.Ythikpemdgmmcaaa
