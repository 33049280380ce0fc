/- Roots: the law's examples. -/
import Derived.Test.YthloohoefjmmoaaG14
import Derived.Test.YthloohoefjmmoaaG00
import Derived.Test.YthloohoefjmmoaaG01
import Derived.Test.YthloohoefjmmoaaG02
import Derived.Deep.MidRow
import Derived.OpenShut
import Derived.ChangeOld
import Derived.ChangeSlices
import Derived.Carry
import Derived.Deep.Slices
import Derived.ChangeSame
import Derived.Laws.IdiomArrays
namespace Go.Proofs.Ythloohoefjmmoaa
open Go.RowKit Go.Maps

def f1h (i : Nat) : Nat := if i = 0 then 1 else 0
def c1h : Array Value := #[.int .u8 1, .int .u8 0, .int .u8 0, .int .u8 0, .int .u8 0, .int .u8 0, .int .u8 0, .int .u8 0, .int .u8 0, .int .u8 0, .int .u8 0, .int .u8 0, .int .u8 0, .int .u8 0, .int .u8 0, .int .u8 0, .int .u8 0, .int .u8 0, .int .u8 0, .int .u8 0, .int .u8 0, .int .u8 0, .int .u8 0, .int .u8 0, .int .u8 0, .int .u8 0, .int .u8 0, .int .u8 0, .int .u8 0, .int .u8 0, .int .u8 0, .int .u8 0]
theorem hc1h : hc f1h = c1h := rfl
theorem f1h_lt (i : Nat) : f1h i < 256 := by unfold f1h; split <;> decide
def KA6 : ByteArray := keyStr 36 (fun _ => 0) 0
def KA7 : ByteArray := keyStr 37 (fun _ => ((0 : Nat) : Int)) 1
def KA8 : ByteArray := keyStr 38 (fun _ => ((0 : Nat) : Int)) 1
def LR1 : SL := setL (setL (setL [] KA6 (numStr (((0 : Nat) : Int) + 1))) KA7 (rowV (two2 1 (5 + 3)) 2)) KA8 (hstr f1h)
theorem LR1_7 : sget LR1 KA7 = some (rowV (two2 1 8) 2) := by decide +kernel
theorem LR1_8 : sget LR1 KA8 = some (hstr f1h) := by decide +kernel
theorem KA_ne : KA6 ≠ ⟨#[]⟩ ∧ KA7 ≠ ⟨#[]⟩ ∧ KA8 ≠ ⟨#[]⟩ := by decide +kernel
theorem KA_size : KA6.size ≤ maxLen ∧ KA7.size ≤ maxLen ∧ KA8.size ≤ maxLen := by decide +kernel
theorem LR1_len : LR1.length ≤ 3 := by decide +kernel
set_option maxRecDepth 100000 in
set_option maxHeartbeats 2000000 in
theorem lives32_walk (w : World) : Calls Try.prog 6 #[] w fun e w' => e = .returned (.bool true) ∧ Below w.heap.size w w' := by
  have HPo := Lib.hid (fun (V : World) (b : Nat) (F : List Nat) (hs : SNew w V b F [] 0 []) => rpost_ok hs 0 KA6 KA7 KA8 rfl rfl rfl KA_ne.1 KA_ne.2.1 KA_ne.2.2 KA_size.1 KA_size.2.1 KA_size.2.2 (.inl ⟨rfl, rfl⟩) (by omega) 5 3 (by decide) (by decide) f1h (by simp) (by omega))
  have HUs := Lib.hid (fun (V : World) (b : Nat) (F : List Nat) (q : Nat) (qs : List Value) (hs : SNew w V b F LR1 q qs) => rusable_ok hs 0 KA7 KA8 rfl rfl (by decide) KA_size.2.1 KA_size.2.2 8 (by decide) f1h f1h_lt LR1_7 LR1_8 8 (by decide))
  have HDs := Lib.hid (fun (V : World) (b : Nat) (F : List Nat) (q : Nat) (qs : List Value) (hs : SNew w V b F LR1 q qs) => rdisable_state hs 0 KA7 KA8 rfl rfl (by decide) KA_size.2.1 KA_size.2.2 8 (by decide) f1h f1h_lt LR1_7 LR1_8 8 (by decide))
  have HDo := Lib.hid (fun (V : World) (b : Nat) (F : List Nat) (q : Nat) (qs : List Value) (hs : SNew w V b F LR1 q qs) (hq : q < 1000000) => rdisable_ok hs 0 KA7 KA8 rfl rfl (by decide) KA_size.2.1 KA_size.2.2 KA_ne.2.1 8 (by decide) f1h f1h_lt LR1_7 LR1_8 7 (by decide) (by have := LR1_len; omega) hq)
  rw [hc1h] at HPo HUs
  change Hid (∀ (V : World) (b : Nat) (F : List Nat), SNew w V b F [] 0 [] → Calls Try.prog 17 #[.pointer (some ⟨b, 0, none⟩), .agg c1h, .int .i64 5, .int .i64 3] V fun e W' => e = .returned (.tuple #[.int .i64 0, .int .i64 0]) ∧ LiveTo w V W' b F LR1 (0 + 3)) at HPo
  obtain ⟨L1, eL1⟩ : ∃ z, z = LR1 := ⟨_, rfl⟩
  rw [← eL1] at HPo HUs HDs HDo
  clear eL1
  have HI := Lib.hid (show (Try.prog.info? 32).map (·.size) = some c1h.size from hi_info)
  have HOne := Lib.hid (show c1h.all (·.oneCell') = true by rw [← hc1h]; exact hc_one f1h)
  go_enter Try.func6, Try.ntmps6
  go_upto_region 3 with (first
    | (go_at_call 17; refine (HPo.out _ _ _ H3.out).mono ?_; rintro e w4 ⟨rfl, h4⟩; obtain ⟨F4, q4, qs4, hs4, hq4, _⟩ := h4; have H4 := Lib.hid (And.intro hs4 (show q4 < 1000000 by omega)); clear hs4 hq4)
    | (go_at_call 7; with_reducible refine (SNew.new w _ (Below.refl _ _)).mono ?_; rintro e w3 ⟨b, F1, rfl, hs1, _, _⟩; have H3 := Lib.hid hs1; clear hs1))
  go_upto_region 4 with (first
    | (go_at_call 13; refine (HUs.out _ _ _ _ _ H4.out.1).mono ?_; rintro e w5 ⟨rfl, hb5⟩; have H5 := Lib.hid (H4.out.1.below hb5); clear hb5)
    | ((with_reducible refine wpList_store_row rfl 32 (.tmp 4) (.tmp 18) rfl w5.heap.size c1h ?_ ?_ 32 hz ?_ ?_ ?_ ?_ ?_); (· rfl); (· rfl); (· exact heap_alloc_new _ _); (· exact HI.out); (· rfl); (· exact HOne.out)))
  have hb6 := below_setRow ((Below.refl w5.heap.size w5).alloc (Nat.le_refl _) (.cells hz 32)) (Nat.le_refl _) c1h
  obtain ⟨W6, eW6⟩ : ∃ z, z = (w5.alloc (.cells hz 32)).setRow w5.heap.size c1h := ⟨_, rfl⟩
  rw [← eW6] at hb6
  have H6 := Lib.hid (H5.out.below hb6)
  unfold hz at eW6
  rw [← eW6]
  clear eW6 hb6
  go_wp2_with (first
    | (go_at_call 18; have g5 := H7; clear g5; refine (HDo.out _ _ _ _ _ H7.out H4.out.2).mono ?_; rintro e w8 ⟨rfl, h8⟩; have H8 := Lib.hid h8; clear h8)
    | (go_at_call 18; refine (HDs.out _ _ _ _ _ H6.out).mono ?_; rintro e w7 ⟨rfl, hb7⟩; have H7 := Lib.hid (H6.out.below hb7); clear hb7))
  go_ret
  exact ⟨rfl, H8.out.l⟩
end Go.Proofs.Ythloohoefjmmoaa

namespace Go.Proofs.Ythloohoefjmmoaa
open Go.RowKit Go.Maps

theorem sidx32a (a b : Value) (w : World) : (Instr.index 56 (.agg #[a, b]) (.int .i64 0)).run Try.prog w = .ok a w := by kernel_rfl
theorem sidx32b (a b : Value) (w : World) : (Instr.index 56 (.agg #[a, b]) (.int .i64 1)).run Try.prog w = .ok b w := by kernel_rfl
/-- an act's cells -/
def RC (d : Bool) (i bl wt : Int) (f : Nat → Nat) : Array Value := ([Value.bool d, Value.int .i64 i, Value.int .i64 bl, Value.int .i64 wt] ++ bys f 32).toArray
/-- a block that is an act's box reads so -/
structure RBox (w : World) (X : Nat) (i bl wt : Int) (f : Nat → Nat) : Prop where
  lt : X < w.heap.size
  c1 : w.cell? ⟨X, 1, none⟩ = some (.int .i64 i)
  c2 : w.cell? ⟨X, 2, none⟩ = some (.int .i64 bl)
  c3 : w.cell? ⟨X, 3, none⟩ = some (.int .i64 wt)
  rg : w.rangeAt X 4 (bys f 32)
theorem RBox.of {w : World} {X : Nat} {d : Bool} {i bl wt : Int} {f : Nat → Nat} (h : w.heap[X]? = some (.cells (RC d i bl wt f) 34 (0, 0))) : RBox w X i bl wt f :=
  ⟨hp_lt h, (hp_cell (i := 1) h).trans rfl, (hp_cell (i := 2) h).trans rfl, (hp_cell (i := 3) h).trans rfl, fun j v hv => by
    refine (hp_cell (i := 4 + j) h).trans ?_
    unfold RC
    rw [List.getElem?_toArray, List.getElem?_append_right (by simp)]
    simpa using hv⟩
theorem RBox.below {w w' : World} {X : Nat} {i bl wt : Int} {f : Nat → Nat} (h : RBox w X i bl wt f) (hb : Below w.heap.size w w') : RBox w' X i bl wt f :=
  ⟨Nat.lt_of_lt_of_le h.lt hb.size, (World.cell?_of_block (hb.block _ h.lt)).trans h.c1, (World.cell?_of_block (hb.block _ h.lt)).trans h.c2, (World.cell?_of_block (hb.block _ h.lt)).trans h.c3, fun j v hv => (World.cell?_of_block (hb.block _ h.lt)).trans (h.rg j v hv)⟩
structure RNAt (W w : World) (s : Value) (X : Nat) (i bl wt : Int) (f : Nat → Nat) : Prop where
  low : Below W.heap.size W w
  r : RBox w X i bl wt f
  d : SDead w s
theorem RNAt.step {W w w' : World} {s : Value} {X : Nat} {i bl wt : Int} {f : Nat → Nat} (h : RNAt W w s X i bl wt f) (hb : Below w.heap.size w w') : RNAt W w' s X i bl wt f :=
  ⟨h.low.trans (hb.mono h.low.size), h.r.below hb, h.d.below hb⟩
theorem RNAt.other {W w : World} {s s' : Value} {X : Nat} {i bl wt : Int} {f : Nat → Nat} (h : RNAt W w s X i bl wt f) (h' : SDead w s') : RNAt W w s' X i bl wt f := ⟨h.low, h.r, h'⟩
theorem hload_info : (Try.prog.info? 32).map (·.size) = some 32 := hi_info
set_option maxRecDepth 100000 in
set_option maxHeartbeats 4000000 in
theorem rootsNone_walk (d : Bool) (i bl wt : Int) (f : Nat → Nat) (w : World) (hi : i < 2 ^ 63) :
    Calls Try.prog 5 #[.agg (RC d i bl wt f)] w fun e w' => e = .returned (.bool true) ∧ Below w.heap.size w w' := by
  have hx0 := sidx32a
  have hx1 := sidx32b
  have HLv := Lib.hid (fun w => lives32_walk w)
  have HIi := Lib.hid hi
  obtain ⟨cs, ecs⟩ : ∃ z, z = RC d i bl wt f := ⟨_, rfl⟩
  rw [← ecs]
  have h0 : RNAt w ((w.alloc (.cells cs 34)).alloc (.cells #[.map none, .slice none 0 0, .slice none 0 0] 55)) (.pointer none) w.heap.size i bl wt f := by
    refine ⟨((Below.refl _ _).alloc (Nat.le_refl _) _).alloc (by simp) _, ?_, .inl rfl⟩
    refine RBox.below (w := w.alloc (.cells cs 34)) (RBox.of (d := d) ?_) ((Below.refl _ _).alloc (Nat.le_refl _) _)
    rw [← ecs]
    exact heap_alloc_new _ _
  have hz : SDead ((w.alloc (.cells cs 34)).alloc (.cells #[.map none, .slice none 0 0, .slice none 0 0] 55)) (.pointer (some ⟨w.heap.size + 1, 0, none⟩)) := .inr ⟨_, rfl, by simp, by simp⟩
  have H0 := Lib.hid h0
  have HZ := Lib.hid hz
  clear h0 hz ecs hi
  go_enter Try.func5, Try.ntmps5
  go_wp2
  obtain ⟨X, hX⟩ : ∃ X, X = w.heap.size := ⟨_, rfl⟩
  obtain ⟨Y, hY⟩ : ∃ Y, Y = w.heap.size + 1 := ⟨_, rfl⟩
  rw [← hY] at HZ ⊢
  rw [← hX] at H0 ⊢
  clear hX hY
  go_loopw [15] (fun i' wr => ∃ j : Nat, j ≤ 2 ∧ i' = .int .i64 (j : Nat) ∧ RNAt w wr (.pointer none) X i bl wt f ∧ SDead wr (.pointer (some ⟨Y, 0, none⟩))) (fun i' _ => 2 - (intOf i').toNat)
  case atStart => exact ⟨0, by omega, rfl, H0.out, HZ.out⟩
  case round =>
    obtain ⟨j, hj, rfl, hd, hz⟩ := hrel
    have HN := Lib.hid hd
    have HZ2 := Lib.hid hz
    clear hd hz
    by_cases h2 : j < 2
    · have p1 : (j : Int) < 2 := by omega
      have c1 := HN.out.r.c1
      have c2 := HN.out.r.c2
      have c3 := HN.out.r.c3
      rcases (by omega : j = 0 ∨ j = 1) with rfl | rfl
      · have HD := Lib.hid HN.out.d
        go_upto_region 7 with (first
          | ((with_reducible refine wpList_load_mid rfl 32 (.tmp 20) rfl X 4 ?_ (bys f 32) _ ?_ Try.underlying32 rfl ?_ ?_); (· rfl); (· exact HN.out.r.rg); (· rw [bys_length]; exact hload_info))
          | (go_at_call 17; refine (rpost_dead _ f bl wt _ HD.out).mono ?_; rintro e w1 ⟨rfl, hb1⟩; have B1 := Lib.hid hb1; clear hb1 c1 c2 c3; have c1 := (HN.out.step B1.out).r.c1; have c2 := (HN.out.step B1.out).r.c2; have c3 := (HN.out.step B1.out).r.c3)
          | (go_at_call 13; refine (rusable_dead _ i bl _ (HD.out.below B1.out) HIi.out).mono ?_; rintro e w2 ⟨rfl, hb2⟩; have B2 := Lib.hid (B1.out.trans (hb2.mono B1.out.size)); clear hb2)
          | ((with_reducible refine wpList_store_row rfl 32 (.tmp 8) (.tmp 36) rfl w2.heap.size hz ?_ ?_ 32 hz ?_ ?_ ?_ ?_ ?_); (· rfl); (· rfl); (· exact heap_alloc_new _ _); (· exact hz_info); (· rfl); (· exact hz_one)))
        have hbW3 := below_setRow (B2.out.alloc B2.out.size (.cells hz 32)) B2.out.size hz
        obtain ⟨W3, eW3⟩ : ∃ z, z = (w2.alloc (.cells hz 32)).setRow w2.heap.size hz := ⟨_, rfl⟩
        rw [← eW3] at hbW3
        have B3 := Lib.hid hbW3
        change W3 = (w2.alloc (.cells #[.int .u8 0, .int .u8 0, .int .u8 0, .int .u8 0, .int .u8 0, .int .u8 0, .int .u8 0, .int .u8 0, .int .u8 0, .int .u8 0, .int .u8 0, .int .u8 0, .int .u8 0, .int .u8 0, .int .u8 0, .int .u8 0, .int .u8 0, .int .u8 0, .int .u8 0, .int .u8 0, .int .u8 0, .int .u8 0, .int .u8 0, .int .u8 0, .int .u8 0, .int .u8 0, .int .u8 0, .int .u8 0, .int .u8 0, .int .u8 0, .int .u8 0, .int .u8 0] 32)).setRow w2.heap.size hz at eW3
        rw [← eW3]
        clear eW3 hbW3
        clear c1 c2 c3
        have c1 := (HN.out.step B3.out).r.c1
        have c2 := (HN.out.step B3.out).r.c2
        have c3 := (HN.out.step B3.out).r.c3
        go_upto_region 8 with (first
          | (go_at_call 11; refine (rget_dead _ i _ (HD.out.below B3.out) HIi.out).mono ?_; rintro e w4 ⟨rfl, hb4⟩; have B4 := Lib.hid (B3.out.trans (hb4.mono B3.out.size)); clear hb4)
          | ((with_reducible refine wpList_store_row rfl 32 (.tmp 10) (.tmp 43) rfl w4.heap.size hz ?_ ?_ 32 hz ?_ ?_ ?_ ?_ ?_); (· rfl); (· rfl); (· exact heap_alloc_new _ _); (· exact hz_info); (· rfl); (· exact hz_one)))
        have hbW5 := below_setRow (B4.out.alloc B4.out.size (.cells hz 32)) B4.out.size hz
        obtain ⟨W5, eW5⟩ : ∃ z, z = (w4.alloc (.cells hz 32)).setRow w4.heap.size hz := ⟨_, rfl⟩
        rw [← eW5] at hbW5
        have B5 := Lib.hid hbW5
        change W5 = (w4.alloc (.cells #[.int .u8 0, .int .u8 0, .int .u8 0, .int .u8 0, .int .u8 0, .int .u8 0, .int .u8 0, .int .u8 0, .int .u8 0, .int .u8 0, .int .u8 0, .int .u8 0, .int .u8 0, .int .u8 0, .int .u8 0, .int .u8 0, .int .u8 0, .int .u8 0, .int .u8 0, .int .u8 0, .int .u8 0, .int .u8 0, .int .u8 0, .int .u8 0, .int .u8 0, .int .u8 0, .int .u8 0, .int .u8 0, .int .u8 0, .int .u8 0, .int .u8 0, .int .u8 0] 32)).setRow w4.heap.size hz at eW5
        rw [← eW5]
        clear eW5 hbW5
        clear c1 c2 c3
        have c1 := (HN.out.step B5.out).r.c1
        have c2 := (HN.out.step B5.out).r.c2
        have c3 := (HN.out.step B5.out).r.c3
        go_wp2_with (first
          | (go_at_call 9; have g5 := B6; clear g5; refine (rcount_dead _ _ (HD.out.below B6.out)).mono ?_; rintro e w7 ⟨rfl, hb7⟩; have BE := Lib.hid (B6.out.trans (hb7.mono B6.out.size)); clear hb7)
          | (go_at_call 18; refine (rdisable_dead _ i bl _ (HD.out.below B5.out) HIi.out).mono ?_; rintro e w6 ⟨rfl, hb6⟩; have B6 := Lib.hid (B5.out.trans (hb6.mono B5.out.size)); clear hb6))
        exact ⟨⟨1, by omega, rfl, HN.out.step BE.out, HZ2.out.below BE.out⟩, by simp [intOf]⟩
      · have HD := Lib.hid HZ2.out
        go_upto_region 7 with (first
          | ((with_reducible refine wpList_load_mid rfl 32 (.tmp 20) rfl X 4 ?_ (bys f 32) _ ?_ Try.underlying32 rfl ?_ ?_); (· rfl); (· exact HN.out.r.rg); (· rw [bys_length]; exact hload_info))
          | (go_at_call 17; refine (rpost_dead _ f bl wt _ HD.out).mono ?_; rintro e w1 ⟨rfl, hb1⟩; have B1 := Lib.hid hb1; clear hb1 c1 c2 c3; have c1 := (HN.out.step B1.out).r.c1; have c2 := (HN.out.step B1.out).r.c2; have c3 := (HN.out.step B1.out).r.c3)
          | (go_at_call 13; refine (rusable_dead _ i bl _ (HD.out.below B1.out) HIi.out).mono ?_; rintro e w2 ⟨rfl, hb2⟩; have B2 := Lib.hid (B1.out.trans (hb2.mono B1.out.size)); clear hb2)
          | ((with_reducible refine wpList_store_row rfl 32 (.tmp 8) (.tmp 36) rfl w2.heap.size hz ?_ ?_ 32 hz ?_ ?_ ?_ ?_ ?_); (· rfl); (· rfl); (· exact heap_alloc_new _ _); (· exact hz_info); (· rfl); (· exact hz_one)))
        have hbW3 := below_setRow (B2.out.alloc B2.out.size (.cells hz 32)) B2.out.size hz
        obtain ⟨W3, eW3⟩ : ∃ z, z = (w2.alloc (.cells hz 32)).setRow w2.heap.size hz := ⟨_, rfl⟩
        rw [← eW3] at hbW3
        have B3 := Lib.hid hbW3
        change W3 = (w2.alloc (.cells #[.int .u8 0, .int .u8 0, .int .u8 0, .int .u8 0, .int .u8 0, .int .u8 0, .int .u8 0, .int .u8 0, .int .u8 0, .int .u8 0, .int .u8 0, .int .u8 0, .int .u8 0, .int .u8 0, .int .u8 0, .int .u8 0, .int .u8 0, .int .u8 0, .int .u8 0, .int .u8 0, .int .u8 0, .int .u8 0, .int .u8 0, .int .u8 0, .int .u8 0, .int .u8 0, .int .u8 0, .int .u8 0, .int .u8 0, .int .u8 0, .int .u8 0, .int .u8 0] 32)).setRow w2.heap.size hz at eW3
        rw [← eW3]
        clear eW3 hbW3
        clear c1 c2 c3
        have c1 := (HN.out.step B3.out).r.c1
        have c2 := (HN.out.step B3.out).r.c2
        have c3 := (HN.out.step B3.out).r.c3
        go_upto_region 8 with (first
          | (go_at_call 11; refine (rget_dead _ i _ (HD.out.below B3.out) HIi.out).mono ?_; rintro e w4 ⟨rfl, hb4⟩; have B4 := Lib.hid (B3.out.trans (hb4.mono B3.out.size)); clear hb4)
          | ((with_reducible refine wpList_store_row rfl 32 (.tmp 10) (.tmp 43) rfl w4.heap.size hz ?_ ?_ 32 hz ?_ ?_ ?_ ?_ ?_); (· rfl); (· rfl); (· exact heap_alloc_new _ _); (· exact hz_info); (· rfl); (· exact hz_one)))
        have hbW5 := below_setRow (B4.out.alloc B4.out.size (.cells hz 32)) B4.out.size hz
        obtain ⟨W5, eW5⟩ : ∃ z, z = (w4.alloc (.cells hz 32)).setRow w4.heap.size hz := ⟨_, rfl⟩
        rw [← eW5] at hbW5
        have B5 := Lib.hid hbW5
        change W5 = (w4.alloc (.cells #[.int .u8 0, .int .u8 0, .int .u8 0, .int .u8 0, .int .u8 0, .int .u8 0, .int .u8 0, .int .u8 0, .int .u8 0, .int .u8 0, .int .u8 0, .int .u8 0, .int .u8 0, .int .u8 0, .int .u8 0, .int .u8 0, .int .u8 0, .int .u8 0, .int .u8 0, .int .u8 0, .int .u8 0, .int .u8 0, .int .u8 0, .int .u8 0, .int .u8 0, .int .u8 0, .int .u8 0, .int .u8 0, .int .u8 0, .int .u8 0, .int .u8 0, .int .u8 0] 32)).setRow w4.heap.size hz at eW5
        rw [← eW5]
        clear eW5 hbW5
        clear c1 c2 c3
        have c1 := (HN.out.step B5.out).r.c1
        have c2 := (HN.out.step B5.out).r.c2
        have c3 := (HN.out.step B5.out).r.c3
        go_wp2_with (first
          | (go_at_call 9; have g5 := B6; clear g5; refine (rcount_dead _ _ (HD.out.below B6.out)).mono ?_; rintro e w7 ⟨rfl, hb7⟩; have BE := Lib.hid (B6.out.trans (hb7.mono B6.out.size)); clear hb7)
          | (go_at_call 18; refine (rdisable_dead _ i bl _ (HD.out.below B5.out) HIi.out).mono ?_; rintro e w6 ⟨rfl, hb6⟩; have B6 := Lib.hid (B5.out.trans (hb6.mono B5.out.size)); clear hb6))
        exact ⟨⟨2, by omega, rfl, HN.out.step BE.out, HZ2.out.below BE.out⟩, by simp [intOf]⟩
    · have p1 : ¬ (j : Int) < 2 := by omega
      go_wp2_with (go_at_call 6; refine (HLv.out _).mono ?_; rintro e w9 ⟨rfl, hb9⟩; have HB9 := Lib.hid hb9; clear hb9)
      go_ret
      exact ⟨rfl, HN.out.low.trans (HB9.out.mono HN.out.low.size)⟩
end Go.Proofs.Ythloohoefjmmoaa

namespace Go.Proofs.Ythloohoefjmmoaa
open Go.ChangeShapes Go.WideShapes Go.ChangeAt Go.RowKit

theorem cells_act32 : Try.prog.cellsOf 34 = 36 := by kernel_rfl
theorem cells_act32_bool : Try.prog.cellsOf 4 = 1 := by kernel_rfl
theorem cells_act32_hash : Try.prog.cellsOf 32 = 32 := by kernel_rfl
theorem cells_act32_int : Try.prog.cellsOf 3 = 1 := by kernel_rfl
theorem list_act32 {α : Type} (l : List α) (h : l.length = 36) : ∃ b0 b1 b2 b3 r, r.length = 32 ∧ l = b0 :: b1 :: b2 :: b3 :: r := by
  match l, h with
  | b0 :: b1 :: b2 :: b3 :: r, h => exact ⟨b0, b1, b2, b3, r, by simpa using h, rfl⟩
theorem listy_act32 {α : Type} (l : List α) (h : l.length = 5) : ∃ y0 y1 y2 y3 y4, l = [y0, y1, y2, y3, y4] := by
  match l, h with
  | [y0, y1, y2, y3, y4], _ => exact ⟨y0, y1, y2, y3, y4, rfl⟩
section
variable {H : Type} {enc : TypeId × Value → H} {W : World} {base : Nat}
set_option maxRecDepth 100000 in
theorem open_act32 {v : Value} {d : DataW H} {p : List MemPlace} (hv : Value.okWide Try.prog W .any base 34 v) (h : DataW.Trod enc Try.prog W 0 (fun _ => true) true 34 v d p) :
    ∃ x0 x1 x2 x3 g4, v = .agg ([Value.bool x0, Value.int .i64 x1, Value.int .i64 x2, Value.int .i64 x3] ++ bys g4 32).toArray ∧ (-9223372036854775808 ≤ x1 ∧ x1 < 2 ^ 63) ∧ (-9223372036854775808 ≤ x2 ∧ x2 < 2 ^ 63) ∧ (-9223372036854775808 ≤ x3 ∧ x3 < 2 ^ 63) ∧ (∀ i, g4 i < 256) := by
  obtain ⟨cs, rfl, hsz, _⟩ : ∃ cs, v = .agg cs ∧ cs.size = Try.prog.cellsOf 34 ∧ Row.okWide Try.prog W .any base 34 cs := by
    simpa [Value.okWide, Try.underlying34] using hv
  rw [cells_act32] at hsz
  obtain ⟨l⟩ := cs
  obtain ⟨b0, b1, b2, b3, r, hr32, rfl⟩ := list_act32 l hsz
  obtain ⟨fuel, hf⟩ := h
  obtain ⟨ys, n2, _, _, _, hyl, hf⟩ := DataW.trod_struct Try.underlying34 hf
  obtain ⟨y0, y1, y2, y3, y4, rfl⟩ := listy_act32 ys hyl
  have f0 : DataW.trod enc Try.prog W 0 (fun _ => true) true n2 4 (((b0 :: b1 :: b2 :: b3 :: r).drop 0).take (Try.prog.cellsOf 4)) = some y0 := hf 0 _ rfl
  rw [cells_act32_bool] at f0
  replace f0 : DataW.trod enc Try.prog W 0 (fun _ => true) true n2 4 [b0] = some y0 := f0
  have f1 : DataW.trod enc Try.prog W 0 (fun _ => true) true n2 3 (((b0 :: b1 :: b2 :: b3 :: r).drop 1).take (Try.prog.cellsOf 3)) = some y1 := hf 1 _ rfl
  rw [cells_act32_int] at f1
  replace f1 : DataW.trod enc Try.prog W 0 (fun _ => true) true n2 3 [b1] = some y1 := f1
  have f2 : DataW.trod enc Try.prog W 0 (fun _ => true) true n2 3 (((b0 :: b1 :: b2 :: b3 :: r).drop 2).take (Try.prog.cellsOf 3)) = some y2 := hf 2 _ rfl
  rw [cells_act32_int] at f2
  replace f2 : DataW.trod enc Try.prog W 0 (fun _ => true) true n2 3 [b2] = some y2 := f2
  have f3 : DataW.trod enc Try.prog W 0 (fun _ => true) true n2 3 (((b0 :: b1 :: b2 :: b3 :: r).drop 3).take (Try.prog.cellsOf 3)) = some y3 := hf 3 _ rfl
  rw [cells_act32_int] at f3
  replace f3 : DataW.trod enc Try.prog W 0 (fun _ => true) true n2 3 [b3] = some y3 := f3
  have f4 : DataW.trod enc Try.prog W 0 (fun _ => true) true n2 32 (((b0 :: b1 :: b2 :: b3 :: r).drop 4).take (Try.prog.cellsOf 32)) = some y4 := hf 4 _ rfl
  rw [cells_act32_hash] at f4
  replace f4 : DataW.trod enc Try.prog W 0 (fun _ => true) true n2 32 r = some y4 := by
    have e : (List.drop 4 (b0 :: b1 :: b2 :: b3 :: r)).take 32 = r := List.take_of_length_le (Nat.le_of_eq hr32)
    rwa [e] at f4
  obtain ⟨x0, e0, _⟩ := DataW.trod_bool Try.underlying4 f0
  simp at e0
  subst e0
  obtain ⟨x1, e1, _, w1⟩ := DataW.trod_int Try.underlying3 f1
  simp at e1
  subst e1
  have h1 := bounds_i64 w1
  obtain ⟨x2, e2, _, w2⟩ := DataW.trod_int Try.underlying3 f2
  simp at e2
  subst e2
  have h2 := bounds_i64 w2
  obtain ⟨x3, e3, _, w3⟩ := DataW.trod_int Try.underlying3 f3
  simp at e3
  subst e3
  have h3 := bounds_i64 w3
  obtain ⟨g4, hg4, hq4⟩ := trod_hash hr32 f4
  exact ⟨x0, x1, x2, x3, g4, by rw [← hq4]; rfl, ⟨by omega, by omega⟩, ⟨by omega, by omega⟩, ⟨by omega, by omega⟩, hg4⟩
end
end Go.Proofs.Ythloohoefjmmoaa
