/- The law SplitNone, walked from its box. -/
import Derived.Test.YtcodlbfomfjmfaaSN
import Derived.Test.YtcodlbfomfjmfaaSPL
namespace Go.Proofs.Ytcodlbfomfjmfaa
open Go.RowKit

theorem sidx0 (a b : Value) (w : World) : (Instr.index 102 (.agg #[a, b]) (.int .i64 0)).run Try.prog w = .ok a w := by kernel_rfl
theorem sidx1 (a b : Value) (w : World) : (Instr.index 102 (.agg #[a, b]) (.int .i64 1)).run Try.prog w = .ok b w := by kernel_rfl
/-- the law's world: its box, and the store z -/
structure SNAt (W w : World) (s : Value) (o v b k t : Int) : Prop where
  bl : Below W.heap.size W w
  r : w.heap[W.heap.size]? = some (.cells #[.int .i64 o, .int .i64 v, .int .i64 b, .int .i64 k, .int .i64 t] 117 (0, 0))
  d : SDead w s
  z : SDead w (.pointer (some ⟨W.heap.size + 1, 0, none⟩))
theorem SNAt.step {W w w' : World} {s : Value} {o v b k t : Int} (h : SNAt W w s o v b k t) (hb : Below w.heap.size w w') : SNAt W w' s o v b k t :=
  ⟨h.bl.trans (hb.mono h.bl.size), (hb.block _ (hp_lt h.r)).trans h.r, h.d.below hb, h.z.below hb⟩
theorem SNAt.nil {W w : World} {s : Value} {o v b k t : Int} (h : SNAt W w s o v b k t) : SNAt W w (.pointer none) o v b k t := ⟨h.bl, h.r, .inl rfl, h.z⟩
theorem SNAt.back {W w : World} {s : Value} {o v b k t : Int} (h : SNAt W w s o v b k t) : SNAt W w (.pointer (some ⟨W.heap.size + 1, 0, none⟩)) o v b k t := ⟨h.bl, h.r, h.z, h.z⟩
set_option maxRecDepth 100000 in
set_option maxHeartbeats 2000000 in
theorem splitNone_walk (o v b k t : Int) (w : World) (ho : o < 2 ^ 63) (hv : v < 2 ^ 63) : Calls Try.prog 16 #[.agg #[.int .i64 o, .int .i64 v, .int .i64 b, .int .i64 k, .int .i64 t]] w fun e w' => e = .returned (.bool true) ∧ Below w.heap.size w w' := by
  have hx0 := sidx0
  have hx1 := sidx1
  have Ho := Lib.hid ho
  have Hv := Lib.hid hv
  have h0 : SNAt w ((w.alloc (.cells #[.int .i64 o, .int .i64 v, .int .i64 b, .int .i64 k, .int .i64 t] 117)).alloc (.cells #[.map none, .slice none 0 0, .slice none 0 0] 100)) (.pointer (some ⟨w.heap.size + 1, 0, none⟩)) o v b k t := by
    refine ⟨((Below.refl _ _).alloc (Nat.le_refl _) _).alloc (by simp) _, (heap_alloc_old _ _ (by simp)).trans (heap_alloc_new _ _), .inr ⟨_, rfl, by simp, by simp⟩, .inr ⟨_, rfl, by simp, by simp⟩⟩
  have H0 := Lib.hid h0
  clear h0 ho hv
  go_enter Try.func16, Try.ntmps16
  go_wp2
  go_loopw [7] (fun i wr => ∃ j : Nat, j ≤ 2 ∧ i = .int .i64 (j : Nat) ∧ SNAt w wr (.pointer (some ⟨w.heap.size + 1, 0, none⟩)) o v b k t) (fun i _ => 2 - (intOf i).toNat)
  case atStart => exact ⟨0, by omega, rfl, H0.out⟩
  case round =>
    obtain ⟨j, hj, rfl, hn⟩ := hrel
    have HN := Lib.hid hn
    clear hn
    by_cases h2 : j < 2
    · have p1 : (j : Int) < 2 := by omega
      rcases (by omega : j = 0 ∨ j = 1) with rfl | rfl
      · have N0 := Lib.hid HN.out.nil
        have r := N0.out.r
        have c0 := (hp_cell (i := 0) r).trans rfl
        have c1 := (hp_cell (i := 1) r).trans rfl
        have c2 := (hp_cell (i := 2) r).trans rfl
        have c3 := (hp_cell (i := 3) r).trans rfl
        have c4 := (hp_cell (i := 4) r).trans rfl
        clear r
        go_wp2_with (first
          | (go_at_call 91; refine (splitGet_dead _ o v k _ N0.out.d Ho.out Hv.out).mono ?_; rintro e w8 ⟨rfl, hb8⟩; have N8 := Lib.hid (N0.out.step hb8); clear hb8)
          | (go_at_call 90; refine (splitSet_dead _ o v b k t _ N0.out.d).mono ?_; rintro e w7 ⟨rfl, rfl⟩))
        exact ⟨⟨1, by omega, rfl, N8.out.back⟩, by simp [intOf]⟩
      · have N0 := Lib.hid HN.out
        have r := N0.out.r
        have c0 := (hp_cell (i := 0) r).trans rfl
        have c1 := (hp_cell (i := 1) r).trans rfl
        have c2 := (hp_cell (i := 2) r).trans rfl
        have c3 := (hp_cell (i := 3) r).trans rfl
        have c4 := (hp_cell (i := 4) r).trans rfl
        clear r
        go_wp2_with (first
          | (go_at_call 91; refine (splitGet_dead _ o v k _ N0.out.d Ho.out Hv.out).mono ?_; rintro e w8 ⟨rfl, hb8⟩; have N8 := Lib.hid (N0.out.step hb8); clear hb8)
          | (go_at_call 90; refine (splitSet_dead _ o v b k t _ N0.out.d).mono ?_; rintro e w7 ⟨rfl, rfl⟩))
        exact ⟨⟨2, by omega, rfl, N8.out⟩, by simp [intOf]⟩
    · have p1 : ¬ (j : Int) < 2 := by omega
      go_wp2_with (go_at_call 89; refine (lives34_walk _).mono ?_; rintro e w9 ⟨rfl, hb9⟩; have HB9 := Lib.hid hb9; clear hb9)
      go_ret
      exact ⟨rfl, HN.out.bl.trans (HB9.out.mono HN.out.bl.size)⟩
end Go.Proofs.Ytcodlbfomfjmfaa
