/- merkle.Levels and Root of one leaf. -/
import Derived.Test.YtjemgoifemdoeaaMc
import Derived.Great.BuildSlice
namespace Go.Proofs.Ytjemgoifemdoeaa
open Go.RowKit

set_option maxRecDepth 100000 in
theorem hash_fill (f : Nat → Nat) : Instr.fill (fun i => some (i * 32, 32)) ((Array.range (1 * 32)).map (h32[· % h32.size]!)) [(0, .agg (bys f 32).toArray)] = some (bys f 32).toArray := by
  kernel_rfl
theorem wpList_hash_lit {ops : Array Oper} {rest : List Oper} {o : Oper} {a : Act} {w : World} {Q : Exit → Act → World → Prop} (hg : o.guard = none) (x : Operand) (ho : o.op = .buildSlice 67 1 #[(0, x)]) (f : Nat → Nat) (cs : Array Value) (hcs : cs = (bys f 32).toArray) (hx : a.eval x = .agg cs)
    (h : wpList Try.prog ops Q rest (a.put o.dst (.slice (some ⟨w.heap.size, 0, none⟩) 1 1)) (w.alloc (.cells cs 25))) : wpList Try.prog ops Q (o :: rest) a w := by
  obtain ⟨i0, hi, hz0, hz1, hz2⟩ := info_parts oinfoHash
  refine wpList_buildSlice hg 67 25 1 _ ho cs i0 (.agg h32) Try.underlying67 hi hz0 (by rw [hz1]; omega) (by rw [hz1]; omega) ?_ h
  rw [hz1, hcs]
  have e : (#[(0, x)].map fun (i, x) => (i, a.eval x)).toList = [(0, Value.agg (bys f 32).toArray)] := by simp [hx, hcs]
  rw [e]
  exact hash_fill f
set_option maxRecDepth 100000 in
set_option maxHeartbeats 2000000 in
theorem levels_one (k : Int) (hk : isK k) (L : Nat) (A : Option Addr) (n c : Nat) (f : Nat → Nat) (w : World) (hL : w.heap[L]? = some (.cells #[.slice A n c] 22 (0, 0))) (hl : Sl w A n f) (hz : A = none → n = 0 ∧ c = 0) (hn : n ≤ 1048576) :
    Calls Try.prog 34 #[.int .i64 k, .slice (some ⟨L, 0, none⟩) 1 1] w fun e w' => (∃ R G, e = .returned (.slice (some ⟨R, 0, none⟩) 1 1) ∧ w'.heap[R]? = some (.cells #[.slice (some ⟨G, 0, none⟩) 1 1] 67 (0, 0)) ∧ w'.heap[G]? = some (.cells (bys (leafV k n f) 32).toArray 25 (0, 0))) ∧ Below w.heap.size w w' := by
  obtain ⟨w1, e1⟩ : ∃ w1, w1 = w.alloc (.cells #[.int .i64 k] 3) := ⟨_, rfl⟩
  have HB1 := Lib.hid (show Below w.heap.size w w1 by rw [e1]; exact (Below.refl _ _).alloc (Nat.le_refl _) _)
  have K1 := Lib.hid (show w1.heap[w.heap.size]? = some (.cells #[.int .i64 k] 3 (0, 0)) by rw [e1]; exact heap_alloc_new _ _)
  have E1 := Lib.hid e1
  have HKd := Lib.hid (fun w => isKind_yes k hk w)
  have HEm := Lib.hid (fun w => empty_walk k w)
  have HDp := Lib.hid (fun w => show Calls Try.prog 36 #[.int .i64 1] w fun e w' => e = .returned (.int .i64 0) ∧ w = w' from depth_walk 1 (by decide) w)
  have HL := Lib.hid (fun W (hb : Below w.heap.size w W) => leaf_walk k A n c f W (hl.below hb) hz hn)
  have HL0 := Lib.hid hL
  have HLL := Lib.hid (row_lt hL)
  obtain ⟨ce, ece⟩ : ∃ ce, ce = (bys (leafV k 0 (fun _ => 0)) 32).toArray := ⟨_, rfl⟩
  obtain ⟨cz, ecz⟩ : ∃ ce, ce = (bys (leafV k n f) 32).toArray := ⟨_, rfl⟩
  rw [← ece] at HEm
  rw [← ecz] at HL ⊢
  have HCE := Lib.hid ece
  have hse : ce.size = 32 := by rw [ece, List.size_toArray, bys_length]
  have hoe : ∀ v ∈ ce.toList, v.oneCell' = true := by rw [ece]; exact bys_one _ _
  obtain ⟨i1, i2, i3⟩ := hash_out ecz
  have I1 := Lib.hid i1
  have HSZ := Lib.hid (show ce.size = cz.size by rw [hse, ← i2]; exact h32_sz.symm)
  have I3 := Lib.hid i3
  have HSE := Lib.hid hse
  have HOE := Lib.hid hoe
  have hk1 : w1.cell? ⟨w.heap.size, 0, none⟩ = some (.int .i64 k) := by simp [World.cell?, K1.out]
  clear e1 hL hl hz hk i1 i2 i3 ece ecz hse hoe
  go_enter Try.func34, Try.ntmps34
  go_upto_region 1 with fail
  show Code.wp _ _ _ _ (w.alloc (.cells #[.int .i64 k] 3))
  rw [← E1.out]
  go_wp2_with fail
  refine (HKd.out _).mono ?_
  rintro e wM ⟨rfl, hw⟩
  rw [← hw]
  clear hw wM
  go_wp2_with fail
  refine (HEm.out _).mono ?_
  rintro e w3 ⟨rfl, hb⟩
  have HB3 := Lib.hid (HB1.out.trans (hb.mono HB1.out.size))
  have hk3 : w3.cell? ⟨w.heap.size, 0, none⟩ = some (.int .i64 k) := by simp [World.cell?, hb.block _ (row_lt K1.out), K1.out]
  have K3 := Lib.hid ((hb.block _ (row_lt K1.out)).trans K1.out)
  clear hb hk1
  go_wp2_with ((with_reducible refine wpList_hash_lit rfl (.tmp 26) rfl _ ce HCE.out ?_ ?_); (· rfl))
  obtain ⟨w4, e4⟩ : ∃ w4, w4 = w3.alloc (.cells ce 25) := ⟨_, rfl⟩
  rw [← e4]
  have h34 : Below w3.heap.size w3 w4 := by rw [e4]; exact (Below.refl _ _).alloc (Nat.le_refl _) _
  have HB4 := Lib.hid (HB3.out.trans (h34.mono HB3.out.size))
  have X4 := Lib.hid (show w4.heap[w3.heap.size]? = some (.cells ce 25 (0, 0)) by rw [e4]; exact heap_alloc_new _ _)
  have K4 := Lib.hid ((h34.block _ (row_lt K3.out)).trans K3.out)
  have HRp := Lib.hid (repeat_one w3.heap.size ce w4 X4.out HSE.out HOE.out)
  clear e4 h34 hk3
  refine (HDp.out _).mono ?_
  rintro e wM ⟨rfl, hw⟩
  rw [← hw]
  clear hw wM
  go_wp2_with fail
  refine HRp.out.mono ?_
  rintro e w5 ⟨rfl, h5, hb⟩
  have HB5 := Lib.hid (HB4.out.trans (hb.mono HB4.out.size))
  have R5 := Lib.hid h5
  have K5 := Lib.hid ((hb.block _ (row_lt K4.out)).trans K4.out)
  have L5 := Lib.hid (show w5.heap[L]? = some (.cells #[.slice A n c] 22 (0, 0)) from (HB5.out.block _ HLL.out).trans HL0.out)
  have hwG := Lib.hid (show w.heap.size + 1 ≤ w4.heap.size from row_lt K4.out)
  obtain ⟨G, eG⟩ : ∃ G, G = w4.heap.size := ⟨_, rfl⟩
  rw [← eG] at R5 hwG ⊢
  clear h5 hb eG
  go_upto_region 5 with fail
  go_loopw [35] (fun i wr => ∃ j : Nat, j ≤ 1 ∧ i = .int .i64 (j : Nat) ∧ wr.heap[G]? = some (.cells (if j = 0 then ce else cz) 25 (0, 0)) ∧ Below (w.heap.size + 1) w5 wr) (fun i _ => 1 - (intOf i).toNat)
  case atStart => exact ⟨0, by decide, rfl, R5.out, Below.refl _ _⟩
  case round =>
    obtain ⟨j, hj, rfl, hG, hb5⟩ := hrel
    have HBr := Lib.hid (HB5.out.trans (hb5.mono (by omega)))
    have Kr := Lib.hid ((hb5.block _ (Nat.lt_succ_self _)).trans K5.out)
    have Lr := Lib.hid ((hb5.block _ (Nat.lt_succ_of_lt HLL.out)).trans L5.out)
    have H5r := Lib.hid hb5
    clear hb5
    rcases (by omega : j = 0 ∨ j = 1) with rfl | rfl
    · have hc1 : wr.cell? ⟨L, 0, none⟩ = some (.slice A n c) := by simp [World.cell?, Lr.out]
      have hc2 : wr.cell? ⟨w.heap.size, 0, none⟩ = some (.int .i64 k) := by simp [World.cell?, Kr.out]
      have Gr := Lib.hid (show wr.heap[G]? = some (.cells ce 25 (0, 0)) from hG)
      have HLr := Lib.hid (HL.out wr HBr.out)
      clear hG
      go_wp2_with fail
      refine HLr.out.mono ?_
      rintro e w6 ⟨rfl, hb⟩
      have HB6 := Lib.hid (H5r.out.trans (hb.mono (Nat.lt_of_lt_of_le (Nat.lt_succ_self _) (by have := row_lt Kr.out; omega))))
      have G6 := Lib.hid ((hb.block _ (row_lt Gr.out)).trans Gr.out)
      clear hb hc1 hc2
      go_wp2_with ((with_reducible refine wpList_store_row rfl 25 (.tmp 45) (.tmp 44) rfl G cz ?_ ?_ 25 ce ?_ ?_ ?_ ?_ ?_); (· rfl); (· rfl); (· exact G6.out); (· exact I1.out); (· exact HSZ.out); (· exact I3.out))
      exact ⟨⟨1, by decide, rfl, setRow_heap _ _ _ _ _ _ G6.out, below_setRow HB6.out hwG.out _⟩, by decide⟩
    · have Gr := Lib.hid (show wr.heap[G]? = some (.cells cz 25 (0, 0)) from hG)
      clear hG
      go_upto_region 10 with fail
      obtain ⟨w8, e8⟩ : ∃ w8, w8 = wr.alloc (.cells #[.slice (some ⟨G, 0, none⟩) 1 1] 67) := ⟨_, rfl⟩
      have X8 := Lib.hid (show w8.heap[wr.heap.size]? = some (.cells #[.slice (some ⟨G, 0, none⟩) 1 1] 67 (0, 0)) by rw [e8]; exact heap_alloc_new _ _)
      have G8 := Lib.hid (show w8.heap[G]? = some (.cells cz 25 (0, 0)) by rw [e8]; exact (heap_alloc_old _ _ (row_lt Gr.out)).trans Gr.out)
      have HB8 := Lib.hid (show Below w.heap.size w w8 by rw [e8]; exact HBr.out.alloc HBr.out.size _)
      have E8 := Lib.hid e8
      clear e8
      show Code.wp _ _ _ _ (wr.alloc (.cells #[.slice (some ⟨G, 0, none⟩) 1 1] 67))
      rw [← E8.out]
      go_loopw [5, 8] (fun r s wq => r = .slice (some ⟨G, 0, none⟩) 1 1 ∧ s = .slice (some ⟨wr.heap.size, 0, none⟩) 1 1 ∧ w8 = wq) (fun _ _ _ => 0)
      case atStart => exact ⟨rfl, rfl, rfl⟩
      case round =>
        obtain ⟨rfl, rfl, rfl⟩ := hrel
        go_wp2
        go_ret
        exact ⟨⟨_, G, rfl, X8.out, G8.out⟩, HB8.out⟩
end Go.Proofs.Ytjemgoifemdoeaa
