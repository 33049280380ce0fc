/- A state that no call made; the document's example of layer 5: walked. -/
import Derived.Test.YtjemgoifemdoeaaHr
import Derived.Lib.SlBytesConst
import Derived.Lib.SmallJoins
namespace Go.Proofs.Ytjemgoifemdoeaa
open Go.RowKit

set_option maxRecDepth 100000 in
theorem write_dead (p b : Value) (w : World) (h : NotMade w p) : Calls Try.prog 24 #[p, b] w fun e w' => e = .returned (.tuple #[]) ∧ w = w' := by
  have HM := Lib.hid (isMade_dead p w h)
  clear h
  go_enter Try.func24, Try.ntmps24
  go_wp2_with (go_at_call 61; (with_reducible refine HM.out.mono ?_); rintro e w1 ⟨rfl, rfl⟩)
  exact bodyPost_ret (results_none rfl _ _ _) rfl ⟨rfl, rfl⟩
set_option maxRecDepth 100000 in
theorem reset_dead (p : Value) (w : World) (h : NotMade w p) : Calls Try.prog 28 #[p] w fun e w' => e = .returned (.tuple #[]) ∧ w = w' := by
  have HM := Lib.hid (isMade_dead p w h)
  clear h
  go_enter Try.func28, Try.ntmps28
  go_wp2_with (go_at_call 61; (with_reducible refine HM.out.mono ?_); rintro e w1 ⟨rfl, rfl⟩)
  go_end0
  exact ⟨rfl, rfl⟩
set_option maxRecDepth 100000 in
theorem len_dead (p : Value) (w : World) (h : NotMade w p) : Calls Try.prog 27 #[p] w fun e w' => e = .returned (.int .i64 0) ∧ w = w' := by
  have HM := Lib.hid (isMade_dead p w h)
  clear h
  go_enter Try.func27, Try.ntmps27
  go_wp2_with (go_at_call 61; (with_reducible refine HM.out.mono ?_); rintro e w1 ⟨rfl, rfl⟩)
  go_ret
  exact ⟨rfl, rfl⟩
set_option maxRecDepth 100000 in
theorem copy_dead (p : Value) (w : World) (h : NotMade w p) : Calls Try.prog 25 #[p] w fun e w' => e = .returned (.pointer none) ∧ w = w' := by
  have HM := Lib.hid (isMade_dead p w h)
  clear h
  go_enter Try.func25, Try.ntmps25
  go_wp2_with (go_at_call 61; (with_reducible refine HM.out.mono ?_); rintro e w1 ⟨rfl, rfl⟩)
  go_ret
  exact ⟨rfl, rfl⟩
set_option maxRecDepth 100000 in
theorem sum_dead (p : Value) (w : World) (h : NotMade w p) : Calls Try.prog 26 #[p] w fun e w' => e = .returned (.agg h32) ∧ Below w.heap.size w w' := by
  have HM := Lib.hid (isMade_dead p (w.alloc (.cells h32 25)) (h.below ((Below.refl _ _).alloc (Nat.le_refl _) _)))
  have HB := Lib.hid (below_setRow ((Below.refl w.heap.size w).alloc (Nat.le_refl _) (.cells h32 25)) (Nat.le_refl _) h32)
  clear h
  go_enter Try.func26, Try.ntmps26
  go_wp2_with fail
  refine HM.out.mono ?_
  rintro e w1 ⟨rfl, rfl⟩
  go_wp2_with ((with_reducible refine wpList_store_row rfl 25 (.tmp 2) (.tmp 8) rfl w.heap.size h32 ?_ ?_ 25 h32 ?_ ?_ ?_ ?_ ?_); (· rfl); (· rfl); (· exact heap_alloc_new _ _); (· exact h32_info); (· rfl); (· exact bys_all _ _))
  exact bodyPost_ret (v := .agg h32) (results_cell_row rfl _ _ w.heap.size 25 h32 (0, 0) _ rfl (setRow_heap _ _ h32 _ _ _ (heap_alloc_new _ _)) Try.underlying25 rfl h32_info) rfl ⟨rfl, HB.out⟩
set_option maxRecDepth 100000 in
theorem lives05_walk (w : World) : Calls Try.prog 15 #[] w fun e w' => e = .returned (.bool true) ∧ Below w.heap.size w w' := by
  obtain ⟨w1, e1⟩ : ∃ w1, w1 = w.alloc (.cells #[.int .u8 97, .int .u8 98,   .int .u8 99] 5 (3, 4)) := ⟨_, rfl⟩
  have hsl : Sl w1 (some ⟨w.heap.size, 0, none⟩) 3 abcF := by
    rw [e1]
    refine ⟨fun i => ?_, fun _ => ⟨w.heap.size, 0, rfl, by simp, fun i hi => ?_⟩⟩
    · unfold abcF; split; decide; split; decide; split <;> decide
    · rw [World.cell?_alloc_mark]
      rcases (by omega : i = 0 ∨ i = 1 ∨ i = 2) with rfl | rfl | rfl <;> rfl
  have hb1 : Below w.heap.size w w1 := by rw [e1]; exact (Below.refl _ _).alloc (Nat.le_refl _) _
  have HS := Lib.hid (sum_walk w1 _ 3 3 abcF hsl (by omega) (by omega) (by omega))
  have HX := Lib.hid (fun w => hex_walk (shaF 3 abcF) (shaF_lt _ _) w)
  rw [abc_text] at HX
  obtain ⟨cz, ecz⟩ : ∃ cz, cz = (bys (shaF 3 abcF) 32).toArray := ⟨_, rfl⟩
  rw [← ecz] at HS HX
  have HB1 := Lib.hid hb1
  have HE1 := Lib.hid e1
  have kc := fun (w : World) (C : Array Value) (n c : Nat) => Lib.run_convert_bytes_const (P := Try.prog) w 22 5 C n c Try.underlying22 Try.underlying5
  clear hsl hb1 ecz e1
  go_enter Try.func15, Try.ntmps15
  go_wp2_with fail
  show Calls Try.prog _ _ (w.alloc (.cells #[.int .u8 97, .int .u8 98, .int .u8 99] 5 (3, 4))) _
  rw [← HE1.out]
  refine HS.out.mono ?_
  rintro e w2 ⟨rfl, hb2⟩
  have HB2 := Lib.hid (HB1.out.trans (hb2.mono HB1.out.size))
  clear hb2
  go_wp2_with fail
  refine (HX.out w2).mono ?_
  rintro e w3 ⟨rfl, hb3⟩
  have HB3 := Lib.hid (HB2.out.trans (hb3.mono HB2.out.size))
  clear hb3
  go_wp2
  go_ret
  exact ⟨rfl, HB3.out⟩
end Go.Proofs.Ytjemgoifemdoeaa
