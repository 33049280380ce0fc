/- A live state: Write, Len, Copy, Reset, walked. -/
import Derived.Test.YtjemgoifemdoeaaHt
namespace Go.Proofs.Ytjemgoifemdoeaa
open Go.RowKit

theorem StAt.lt {w : World} {sp L : Nat} {g : Nat → Nat} (h : StAt w sp g L) : sp < w.heap.size := by
  obtain ⟨_, q, _⟩ := h.ex; exact row_lt q
theorem StAt.below {w w' : World} {sp L : Nat} {g : Nat → Nat} (h : StAt w sp g L) (hb : Below w.heap.size w w') : StAt w' sp g L := by
  obtain ⟨b, q1, q2, q3⟩ := h.ex
  exact ⟨b, (hb.block sp (row_lt q1)).trans q1, q2, q3⟩
theorem StAt.only {w w' : World} {sp q L : Nat} {g : Nat → Nat} (h : StAt w sp g L) (hb : Only q w w') (hn : sp ≠ q) : StAt w' sp g L := by
  obtain ⟨b, q1, q2, q3⟩ := h.ex
  exact ⟨b, (hb.row sp (row_lt q1) hn).trans q1, q2, q3⟩
set_option maxRecDepth 100000 in
theorem live_len (w : World) (sp L : Nat) (g : Nat → Nat) (hs : StAt w sp g L) : Calls Try.prog 27 #[.pointer (some ⟨sp, 0, none⟩)] w fun e w' => e = .returned (.int .i64 (L : Nat)) ∧ w = w' := by
  obtain ⟨blk, hr, _, _⟩ := hs.ex
  have HM := Lib.hid (isMade_yes sp w ((row_cell hr).trans (stC_made _ _ _ _)))
  have y0 : w.cell? ⟨sp, 73, none⟩ = some (.int .i64 (L : Nat)) := (row_cell hr).trans (stC_len _ _ _ _)
  clear hr hs
  go_enter Try.func27, Try.ntmps27
  go_wp2_with (go_at_call 61; (with_reducible refine HM.out.mono ?_); rintro e w1 ⟨rfl, rfl⟩)
  go_ret
  exact ⟨rfl, rfl⟩
set_option maxRecDepth 100000 in
theorem live_copy (w : World) (sp L : Nat) (g : Nat → Nat) (hs : StAt w sp g L) : Calls Try.prog 25 #[.pointer (some ⟨sp, 0, none⟩)] w fun e w' => e = .returned (.pointer (some ⟨w.heap.size, 0, none⟩)) ∧ StAt w' w.heap.size g L ∧ Below w.heap.size w w' := by
  obtain ⟨blk, hr, hbl, hbe⟩ := hs.ex
  have HM := Lib.hid (isMade_yes sp w ((row_cell hr).trans (stC_made _ _ _ _)))
  have si : (Try.prog.info? 43).map (·.size) = some (stC (.bool true) (hashN g (L / 64)) blk (.int .i64 (L : Nat))).toArray.size := by rw [List.size_toArray, stC_length]; exact st_info
  have ssz : Try.zeroCells43.size = (stC (.bool true) (hashN g (L / 64)) blk (.int .i64 (L : Nat))).toArray.size := by rw [zst_size, List.size_toArray, stC_length]
  have sone := stC_all (hashN g (L / 64)) blk (L : Nat)
  have hfin : ∀ (W : World) (p : Nat), W.heap[p]? = some (.cells (stC (.bool true) (hashN g (L / 64)) blk (.int .i64 (L : Nat))).toArray 43 (0, 0)) → StAt W p g L := fun W p h => ⟨blk, h, hbl, hbe⟩
  obtain ⟨cs, ecs⟩ : ∃ cs, cs = (stC (.bool true) (hashN g (L / 64)) blk (.int .i64 (L : Nat))).toArray := ⟨_, rfl⟩
  rw [← ecs] at hr si ssz sone hfin
  have SI := Lib.hid si
  have SZ := Lib.hid ssz
  have SO := Lib.hid sone
  have HF := Lib.hid hfin
  have HR := Lib.hid hr
  clear hs hr hbl hbe si ssz sone hfin ecs
  go_enter Try.func25, Try.ntmps25
  go_wp2_with (first
    | (go_at_call 61; (with_reducible refine HM.out.mono ?_); rintro e w1 ⟨rfl, rfl⟩)
    | ((with_reducible refine wpList_load_row rfl 43 (.tmp 8) rfl sp ?_ 43 cs (0, 0) _ ?_ Try.underlying43 ?_ ?_ ?_); (· rfl); (· exact HR.out); (· rfl); (· exact SI.out))
    | ((with_reducible refine wpList_store_row rfl 43 (.tmp 3) (.tmp 9) rfl w.heap.size cs ?_ ?_ 43 Try.zeroCells43 ?_ ?_ ?_ ?_ ?_); (· rfl); (· rfl); (· exact heap_alloc_new _ _); (· exact SI.out); (· exact SZ.out); (· exact SO.out)))
  go_ret
  refine ⟨rfl, HF.out _ _ (setRow_heap _ _ _ _ _ _ (heap_alloc_new _ _)), below_setRow ((Below.refl _ _).alloc (Nat.le_refl _) _) (Nat.le_refl _) _⟩
set_option maxRecDepth 100000 in
theorem live_reset (w : World) (sp L : Nat) (g g' : Nat → Nat) (hs : StAt w sp g L) : Calls Try.prog 28 #[.pointer (some ⟨sp, 0, none⟩)] w fun e w' => e = .returned (.tuple #[]) ∧ StAt w' sp g' 0 ∧ Only sp w w' := by
  have hlt := hs.lt
  have HS := Lib.hid hs
  obtain ⟨blk, hr, hbl, hbe⟩ := hs.ex
  have HM := Lib.hid (isMade_yes sp w ((row_cell hr).trans (stC_made _ _ _ _)))
  have HN := Lib.hid (new_walk g' w)
  clear hs hr hbl hbe
  go_enter Try.func28, Try.ntmps28
  go_wp2_with fail
  refine HM.out.mono ?_
  rintro e w1 ⟨rfl, rfl⟩
  go_wp2_with fail
  refine HN.out.mono ?_
  rintro e w2 ⟨np, rfl, hnp, hst, hb⟩
  obtain ⟨blk, hr, hbl, hbe⟩ := hst.ex
  obtain ⟨blk0, hr0, _, _⟩ := (HS.out.below hb).ex
  have si : (Try.prog.info? 43).map (·.size) = some (stC (.bool true) (hashN g' (0 / 64)) blk (.int .i64 (0 : Nat))).toArray.size := by rw [List.size_toArray, stC_length]; exact st_info
  have ssz : (stC (.bool true) (hashN g (L / 64)) blk0 (.int .i64 (L : Nat))).toArray.size = (stC (.bool true) (hashN g' (0 / 64)) blk (.int .i64 (0 : Nat))).toArray.size := by rw [List.size_toArray, List.size_toArray, stC_length, stC_length]
  have sone := stC_all (hashN g' (0 / 64)) blk (0 : Nat)
  have hfin : ∀ (W : World) (p : Nat), W.heap[p]? = some (.cells (stC (.bool true) (hashN g' (0 / 64)) blk (.int .i64 (0 : Nat))).toArray 43 (0, 0)) → StAt W p g' 0 := fun W p h => ⟨blk, h, hbl, hbe⟩
  obtain ⟨cs, ecs⟩ : ∃ cs, cs = (stC (.bool true) (hashN g' (0 / 64)) blk (.int .i64 (0 : Nat))).toArray := ⟨_, rfl⟩
  obtain ⟨co, eco⟩ : ∃ cs, cs = (stC (.bool true) (hashN g (L / 64)) blk0 (.int .i64 (L : Nat))).toArray := ⟨_, rfl⟩
  rw [← ecs] at hr si ssz sone hfin
  rw [← eco] at hr0 ssz
  have SI := Lib.hid si
  have SZ := Lib.hid ssz
  have SO := Lib.hid sone
  have HF := Lib.hid hfin
  have HR := Lib.hid hr
  have HR0 := Lib.hid hr0
  have HO := Lib.hid ((Only.of_below (sp := sp) hb).setRow cs)
  clear hst hr hr0 hbl hbe si ssz sone hfin ecs eco hb hnp
  go_wp2_with (first
    | ((with_reducible refine wpList_load_row rfl 43 (.tmp 6) rfl np ?_ 43 cs (0, 0) _ ?_ Try.underlying43 ?_ ?_ ?_); (· rfl); (· exact HR.out); (· rfl); (· exact SI.out))
    | ((with_reducible refine wpList_store_row rfl 43 (.tmp 8) (.tmp 7) rfl sp cs ?_ ?_ 43 co ?_ ?_ ?_ ?_ ?_); (· rfl); (· rfl); (· exact HR0.out); (· exact SI.out); (· exact SZ.out); (· exact SO.out)))
  go_end0
  exact ⟨rfl, HF.out _ _ (setRow_heap _ _ _ _ _ _ HR0.out), HO.out⟩
set_option maxRecDepth 100000 in
set_option maxHeartbeats 2000000 in
theorem live_write (w : World) (sp L n c : Nat) (A : Option Addr) (f g : Nat → Nat) (hl : Sl w A n f) (hnc : n ≤ c) (hcm : c ≤ 9223372036854775807) (hap : 0 < n → ∀ a, A = some a → a.block ≠ sp) (hs : StAt w sp g L) (hLn : L + n ≤ 4611686018427387904) :
    Calls Try.prog 24 #[.pointer (some ⟨sp, 0, none⟩), .slice A n c] w fun e w' => e = .returned (.tuple #[]) ∧ StAt w' sp (cat g L f) (L + n) ∧ Only sp w w' := by
  obtain ⟨blk, hr, _, _⟩ := hs.ex
  have HM := Lib.hid (isMade_yes sp w ((row_cell hr).trans (stC_made _ _ _ _)))
  have hlt := hs.lt
  obtain ⟨w1, e1⟩ : ∃ w1, w1 = w.alloc (.cells wz 84) := ⟨_, rfl⟩
  have hb1 : Below w.heap.size w w1 := by rw [e1]; exact (Below.refl _ _).alloc (Nat.le_refl _) _
  have hs1 := hs.below hb1
  have hz1 : w1.heap[w.heap.size]? = some (.cells wz 84 (0, 0)) := by rw [e1]; exact heap_alloc_new _ _
  have y0 : w1.cell? ⟨sp, 73, none⟩ = some (.int .i64 (L : Nat)) := by
    obtain ⟨b, q, _, _⟩ := hs1.ex
    exact (row_cell q).trans (stC_len _ _ _ _)
  have HL := Lib.hid hl
  have HAP := Lib.hid hap
  have HS := Lib.hid hs
  have HS1 := Lib.hid hs1
  have HB1 := Lib.hid hb1
  have HZ1 := Lib.hid hz1
  have HE1 := Lib.hid e1
  obtain ⟨r, er⟩ : ∃ r, r = L % 64 := ⟨_, rfl⟩
  have v1 : (L : Int) % 64 = (r : Int) := by omega
  have hr64 : r < 64 := by omega
  by_cases hsh : 64 ≤ r + n
  · have p1 : 64 - (r : Int) ≤ (n : Int) := by omega
    have HCB := Lib.hid (cubeRoots_walk w1)
    obtain ⟨kv, ekv⟩ : ∃ kv, kv = (vals .u32 cubeK 64).toArray := ⟨_, rfl⟩
    rw [← ekv] at HCB
    have HK := Lib.hid ekv
    have ki := Lib.hid (show (Try.prog.info? 84).map (·.size) = some kv.size by rw [ekv, List.size_toArray, vals_length]; exact wz_info)
    have ksz := Lib.hid (show wz.size = kv.size by rw [ekv, wz_vals, List.size_toArray, List.size_toArray, vals_length, vals_length])
    have kone := Lib.hid (show kv.all (·.oneCell') = true by rw [ekv]; exact vals_all _ _ _)
    clear hl hap hs hs1 hb1 hz1 e1 hr er ekv
    go_enter Try.func24, Try.ntmps24
    go_wp2_with fail
    refine HM.out.mono ?_
    rintro e w2 ⟨rfl, rfl⟩
    go_upto_region 2 with fail
    show Code.wp _ _ _ _ (w.alloc (.cells wz 84))
    rw [← HE1.out]
    go_wp2_with fail
    refine HCB.out.mono ?_
    rintro e w3 ⟨rfl, hb3⟩
    have R3 := Lib.hid ((hb3.block _ (row_lt HZ1.out)).trans HZ1.out)
    have HB3 := Lib.hid (HB1.out.trans (hb3.mono HB1.out.size))
    clear hb3
    go_upto_region 4 with ((with_reducible refine wpList_store_row rfl 84 (.tmp 4) (.tmp 17) rfl w.heap.size kv ?_ ?_ 84 wz ?_ ?_ ?_ ?_ ?_); (· rfl); (· rfl); (· exact R3.out); (· exact ki.out); (· exact ksz.out); (· exact kone.out))
    obtain ⟨w4, e4⟩ : ∃ w4, w4 = w3.setRow w.heap.size kv := ⟨_, rfl⟩
    rw [← e4]
    have h4 : Below w.heap.size w w4 := by rw [e4]; exact below_setRow HB3.out (Nat.le_refl _) _
    have hk4 : w4.heap[w.heap.size]? = some (.cells kv 84 (0, 0)) := by rw [e4]; exact setRow_heap _ _ wz _ _ _ R3.out
    have HW := Lib.hid (write_walk w4 sp w.heap.size L n c A f g (HL.out.below h4) hnc hcm HAP.out (HS.out.below h4) hLn (fun _ => consts_arr (by rw [hk4, HK.out])) (row_lt hk4) (by omega))
    have HO4 := Lib.hid (Only.of_below (sp := sp) h4)
    clear e4 h4 hk4
    go_wp2_with fail
    refine HW.out.mono ?_
    rintro e w5 ⟨rfl, hs5, ho5⟩
    have HS5 := Lib.hid hs5
    have HO5 := Lib.hid (HO4.out.trans ho5)
    clear hs5 ho5
    go_wp2
    go_end0
    exact ⟨rfl, HS5.out, HO5.out⟩
  · have p1 : ¬ 64 - (r : Int) ≤ (n : Int) := by omega
    have HW := Lib.hid (write_walk w1 sp w.heap.size L n c A f g (hl.below hb1) hnc hcm hap hs1 hLn (fun h => by omega) (row_lt hz1) (by omega))
    have HO4 := Lib.hid (Only.of_below (sp := sp) hb1)
    clear hl hap hs hs1 hb1 hz1 e1 hr er
    go_enter Try.func24, Try.ntmps24
    go_wp2_with fail
    refine HM.out.mono ?_
    rintro e w2 ⟨rfl, rfl⟩
    go_upto_region 2 with fail
    show Code.wp _ _ _ _ (w.alloc (.cells wz 84))
    rw [← HE1.out]
    go_wp2_with fail
    refine HW.out.mono ?_
    rintro e w5 ⟨rfl, hs5, ho5⟩
    have HS5 := Lib.hid hs5
    have HO5 := Lib.hid (HO4.out.trans ho5)
    clear hs5 ho5
    go_wp2
    go_end0
    exact ⟨rfl, HS5.out, HO5.out⟩
end Go.Proofs.Ytjemgoifemdoeaa
