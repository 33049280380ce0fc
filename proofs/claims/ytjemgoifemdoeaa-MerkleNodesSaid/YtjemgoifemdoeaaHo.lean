/- sha.New, isMade, and the sum of bytes, walked. -/
import Derived.Test.YtjemgoifemdoeaaHm
namespace Go.Proofs.Ytjemgoifemdoeaa
open Go.RowKit

theorem new_cells (h : Nat → Nat) : Array.foldl (fun (cs : Array Value) (x : Value × Nat) => cs.setIfInBounds (1 + x.snd) x.fst) (Try.zeroCells43.setIfInBounds 0 (.bool true)) (vals .u32 h 8).toArray.zipIdx 0 8 = (stC (.bool true) h (fun _ => 0) (.int .i64 0)).toArray := by kernel_rfl
set_option maxRecDepth 100000 in
set_option maxHeartbeats 1000000 in
theorem new_walk (g : Nat → Nat) (w : World) : Calls Try.prog 23 #[] w fun e w' => ∃ sp, e = .returned (.pointer (some ⟨sp, 0, none⟩)) ∧ w.heap.size ≤ sp ∧ StAt w' sp g 0 ∧ Below w.heap.size w w' := by
  have HQ := Lib.hid (squareRoots_walk w)
  obtain ⟨hv, ehv⟩ : ∃ hv, hv = (vals .u32 sqH 8).toArray := ⟨_, rfl⟩
  rw [← ehv] at HQ
  have hsz : hv.size = 8 := by rw [ehv, List.size_toArray, vals_length]
  have HE := Lib.hid ehv
  clear ehv
  go_enter Try.func23, Try.ntmps23
  go_wp2_with (go_at_call 60; (with_reducible refine HQ.out.mono ?_); rintro e w1 ⟨rfl, hb1⟩)
  go_ret
  refine ⟨w1.heap.size, rfl, hb1.size, ⟨fun _ => 0, ?_, fun _ => (by decide : 0 < 256), fun i hi => absurd hi (by omega)⟩, hb1.alloc hb1.size _⟩
  refine (heap_alloc_new _ _).trans ?_
  rw [HE.out, new_cells]; rfl
/-- no call made it -/
def NotMade (w : World) (p : Value) : Prop := p = .pointer none ∨ ∃ z, p = .pointer (some ⟨z, 0, none⟩) ∧ z < w.heap.size ∧ w.cell? ⟨z, 0, none⟩ = some (.bool false)
theorem NotMade.below {w w' : World} {p : Value} (h : NotMade w p) (hb : Below w.heap.size w w') : NotMade w' p := by
  rcases h with h | ⟨z, h1, h2, h3⟩
  · exact .inl h
  · exact .inr ⟨z, h1, Nat.lt_of_lt_of_le h2 hb.size, (hb.cell (p := ⟨z, 0, none⟩) h2).trans h3⟩
set_option maxRecDepth 100000 in
theorem isMade_dead (p : Value) (w : World) (h : NotMade w p) : Calls Try.prog 61 #[p] w fun e w' => e = .returned (.bool false) ∧ w = w' := by
  rcases h with rfl | ⟨z, rfl, _, hc⟩
  · go_enter Try.func61, Try.ntmps61
    go_wp2
    go_ret
    exact ⟨rfl, rfl⟩
  · go_enter Try.func61, Try.ntmps61
    go_wp2
    go_ret
    exact ⟨rfl, rfl⟩
set_option maxRecDepth 100000 in
theorem isMade_yes (z : Nat) (w : World) (hc : w.cell? ⟨z, 0, none⟩ = some (.bool true)) : Calls Try.prog 61 #[.pointer (some ⟨z, 0, none⟩)] w fun e w' => e = .returned (.bool true) ∧ w = w' := by
  go_enter Try.func61, Try.ntmps61
  go_wp2
  go_ret
  exact ⟨rfl, rfl⟩
theorem cat_zero (g f : Nat → Nat) : cat g 0 f = f := by funext i; unfold cat; rw [if_neg (by omega), Nat.sub_zero]
theorem wz_rows : (wz : Array Value) = (vals .u32 (fun _ => 0) 64).toArray := wz_vals
theorem consts_info : (Try.prog.info? 84).map (·.size) = some 64 := wz_info
theorem consts_arr {w : World} {p : Nat} (h : w.heap[p]? = some (.cells (vals .u32 cubeK 64).toArray 84 (0, 0))) : Arr .u32 w p 64 cubeK :=
  ⟨fun i hi => (row_cell h).trans (by rw [List.getElem?_toArray]; exact vals_get _ _ hi), fun i _ => row_free h⟩
set_option maxRecDepth 100000 in
set_option maxHeartbeats 4000000 in
theorem sum_walk (w : World) (A : Option Addr) (n c : Nat) (f : Nat → Nat) (hl : Sl w A n f) (hnc : n ≤ c) (hcm : c ≤ 9223372036854775807) (hnm : n ≤ 1152921504606846976) :
    Calls Try.prog 16 #[.slice A n c] w fun e w' => e = .returned (.agg (bys (shaF n f) 32).toArray) ∧ Below w.heap.size w w' := by
  have HL := Lib.hid hl
  obtain ⟨w1, e1⟩ : ∃ w1, w1 = w.alloc (.cells h32 25) := ⟨_, rfl⟩
  have hb1 : Below w.heap.size w w1 := by rw [e1]; exact (Below.refl _ _).alloc (Nat.le_refl _) _
  have hs1 : w1.heap.size = w.heap.size + 1 := by rw [e1]; simp
  have hr1 : w1.heap[w.heap.size]? = some (.cells h32 25 (0, 0)) := by rw [e1]; exact heap_alloc_new _ _
  have HN := Lib.hid (new_walk f w1)
  have HCB := Lib.hid (fun w => cubeRoots_walk w)
  obtain ⟨kv, ekv⟩ : ∃ kv, kv = (vals .u32 cubeK 64).toArray := ⟨_, rfl⟩
  rw [← ekv] at HCB
  have HK := Lib.hid ekv
  have HB1 := Lib.hid hb1
  have HS1 := Lib.hid hs1
  have HR1 := Lib.hid hr1
  have hi := Lib.hid (show (Try.prog.info? 84).map (·.size) = some kv.size by rw [ekv, List.size_toArray, vals_length]; exact wz_info)
  have hsz := Lib.hid (show wz.size = kv.size by rw [ekv, wz_vals, List.size_toArray, List.size_toArray, vals_length, vals_length])
  have hone := Lib.hid (show kv.all (·.oneCell') = true by rw [ekv]; exact vals_all _ _ _)
  have HE1 := Lib.hid e1
  clear hl hb1 hs1 hr1 ekv e1
  go_enter Try.func16, Try.ntmps16
  go_wp2_with fail
  show Calls Try.prog _ _ (w.alloc (.cells h32 25)) _
  rw [← HE1.out]
  refine HN.out.mono ?_
  rintro e w2 ⟨sp, rfl, hsp, hst, hb2⟩
  have HSP := Lib.hid hsp
  have HST := Lib.hid hst
  have HB2 := Lib.hid hb2
  clear hsp hst hb2
  go_wp2_with fail
  refine (HCB.out _).mono ?_
  rintro e w3 ⟨rfl, hb3⟩
  obtain ⟨w4, e4⟩ : ∃ w4, w4 = (w3.alloc (.cells wz 84)).setRow w3.heap.size kv := ⟨_, rfl⟩
  have hb4 : Below w3.heap.size w3 w4 := by rw [e4]; exact below_setRow ((Below.refl _ _).alloc (Nat.le_refl _) _) (Nat.le_refl _) _
  have hk4 : w4.heap[w3.heap.size]? = some (.cells kv 84 (0, 0)) := by rw [e4]; exact setRow_heap _ _ wz _ _ _ (heap_alloc_new _ _)
  have h24 : Below w2.heap.size w2 w4 := hb3.trans (hb4.mono hb3.size)
  have hst2 : StAt w4 sp f 0 := by
    obtain ⟨b, q1, q2, q3⟩ := HST.out.ex
    exact ⟨b, (h24.block sp (row_lt q1)).trans q1, q2, q3⟩
  have hsp2 : sp < w2.heap.size := by obtain ⟨b, q1, _⟩ := HST.out.ex; exact row_lt q1
  have h04 : Below w.heap.size w w4 := (HB1.out.trans (HB2.out.mono HB1.out.size)).trans (h24.mono (Nat.le_trans HB1.out.size HB2.out.size))
  have hne : w3.heap.size ≠ sp := by have := hb3.size; omega
  have HSl := Lib.hid (show w.heap.size < sp + 1 by have := HSP.out; have := HS1.out; omega)
  have hkarr : Arr .u32 w4 w3.heap.size 64 cubeK := consts_arr (by rw [hk4, HK.out])
  have HW := Lib.hid (write_walk w4 sp w3.heap.size 0 n c A f f (HL.out.below h04) hnc (by omega) (fun h0 a ha => by
    obtain ⟨g, o, e, hg, _⟩ := HL.out.at_ h0
    rw [e] at ha; cases ha
    have := HSP.out; have := HS1.out
    show g ≠ sp; omega) hst2 (by omega) (fun _ => hkarr) (row_lt hk4) hne)
  rw [cat_zero, Nat.zero_add] at HW
  have HE4 := Lib.hid e4
  have H04 := Lib.hid h04
  have HK4 := Lib.hid hkarr
  have HR4 := Lib.hid ((h24.block _ (by have := HB2.out.size; have := row_lt HR1.out; omega)).trans ((HB2.out.block _ (row_lt HR1.out)).trans HR1.out))
  have HK5 := Lib.hid (row_lt hk4)
  clear e4 hb4 hk4 h24 hst2 h04 hkarr hb3
  go_upto_region 2 with ((with_reducible refine wpList_store_row rfl 84 (.tmp 4) (.tmp 6) rfl w3.heap.size kv ?_ ?_ 84 wz ?_ ?_ ?_ ?_ ?_); (· rfl); (· rfl); (· exact heap_alloc_new _ _); (· exact hi.out); (· exact hsz.out); (· exact hone.out))
  show Code.wp _ _ _ _ ((w3.alloc (.cells wz 84)).setRow w3.heap.size kv)
  rw [← HE4.out]
  go_wp2_with fail
  refine HW.out.mono ?_
  rintro e w5 ⟨rfl, hs5, ho5⟩
  have HC := Lib.hid (close_walk w5 sp w3.heap.size n f hs5 (by omega) (HK4.out.only ho5 HK5.out hne) (Nat.lt_of_lt_of_le HK5.out ho5.size) hne)
  have HO5 := Lib.hid ho5
  clear hs5 ho5
  go_upto_region 3 with fail
  go_wp2_with fail
  refine HC.out.mono ?_
  rintro e w6 ⟨rfl, ho6⟩
  obtain ⟨cz, hcz⟩ : ∃ cs, cs = (bys (shaF n f) 32).toArray := ⟨_, rfl⟩
  rw [← hcz]
  have hsz6 : cz.size = 32 := by rw [hcz, List.size_toArray, bys_length]
  have R6 := Lib.hid (show w6.heap[w.heap.size]? = some (.cells h32 25 (0, 0)) by
    have q5 := row_lt HR4.out
    rw [(HO5.out.trans ho6).row _ q5 (by have := HSl.out; have := HSP.out; have := HS1.out; omega)]; exact HR4.out)
  have Hi := Lib.hid (show (Try.prog.info? 25).map (·.size) = some cz.size by rw [hsz6]; exact h32_info)
  have Hsz := Lib.hid (show h32.size = cz.size by rw [hsz6]; rfl)
  have Hone := Lib.hid (show cz.all (·.oneCell') = true by rw [hcz]; exact bys_all _ _)
  have Hcs := Lib.hid hcz
  have HO := Lib.hid (((HO5.out.trans ho6).below H04.out (by have := HSP.out; have := HS1.out; omega) (Nat.le_refl _)))
  clear hcz hsz6 ho6
  go_wp2_with ((with_reducible refine wpList_store_row rfl 25 (.tmp 2) (.tmp 11) rfl w.heap.size cz ?_ ?_ 25 h32 ?_ ?_ ?_ ?_ ?_); (· rfl); (· rfl); (· exact R6.out); (· exact Hi.out); (· exact Hsz.out); (· exact Hone.out))
  refine bodyPost_ret (v := .agg cz) (results_cell_row rfl _ _ w.heap.size 25 cz (0, 0) _ rfl (setRow_heap _ _ h32 _ _ _ R6.out) Try.underlying25 rfl Hi.out) rfl ?_
  exact ⟨by rw [Hcs.out], below_setRow HO.out (Nat.le_refl _) _⟩
end Go.Proofs.Ytjemgoifemdoeaa
