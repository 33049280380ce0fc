/- sha.Parse, walked. -/
import Derived.Test.YtjemgoifemdoeaaHp
namespace Go.Proofs.Ytjemgoifemdoeaa
open Go.RowKit

theorem results_cell_row_tmp {P : Program} {fn : Func} {p q : Tmp} {ty : TypeId} (h : fn.results = #[.cell p ty, .tmp q]) (tmps : Array Value) (w : World) (g : Nat) (t : TypeId) (cs : Array Value) (fr : Nat × Nat) (d : TypeDesc) (v : Value)
    (hp : tmps.getD p undef = .pointer (some ⟨g, 0, none⟩)) (hq : tmps.getD q undef = v) (hg : w.heap[g]? = some (.cells cs t fr))
    (hu : P.underlying ty = some d) (hd : (match d with | .struct _ | .array _ _ => true | _ => false) = true) (hi : (P.info? ty).map (·.size) = some cs.size) :
    (results fn tmps).run P w = .ok (.tuple #[.agg cs, v]) w := by
  have hp' : tmps[p]?.getD undef = .pointer (some ⟨g, 0, none⟩) := by simpa using hp
  have hq' : tmps[q]?.getD undef = v := by simpa using hq
  simp [results, h, hp', hq', asAddr, run_loadVar_row w g t ty cs fr d hg hu hd hi]
/-- a text's k-th byte -/
def sb (s : ByteArray) (k : Nat) : Nat := (s.data.toList.getD k 0).toNat
theorem sb_lt (s : ByteArray) (k : Nat) : sb s k < 256 := UInt8.toNat_lt _
theorem sidx {s : ByteArray} {k : Nat} (hk : k < s.size) {i : Int} (hi : i = (k : Int)) (w : World) : (Instr.index 9 (.string s) (.int .i64 i)).run Try.prog w = .ok (.int .u8 (sb s k : Nat)) w := by
  subst hi
  rw [run_index_string w _ _ _ _ Try.underlying9, dif_pos ⟨by omega, by omega⟩]
  congr 2
  show ((s[k] : UInt8).toNat : Int) = _
  unfold sb
  rw [List.getD, List.getElem?_eq_getElem (by simpa using hk), Option.getD_some]
  rfl
/-- digits of a hash -/
def okP (s : ByteArray) : Prop := s.size = 64 ∧ ∀ k, k < 64 → 0 ≤ dgI (sb s k)
def prsF (s : ByteArray) (i : Nat) : Nat := (16 * dgI (sb s (2 * i)) + dgI (sb s (2 * i + 1))).toNat
theorem prsF_lt (s : ByteArray) (i : Nat) : prsF s i < 256 := by
  have h1 := dgI_lt (sb s (2 * i))
  have h2 := dgI_lt (sb s (2 * i + 1))
  unfold prsF; omega
def PrsPost (s : ByteArray) (w : World) (e : Ending) (w' : World) : Prop :=
  ((okP s ∧ e = .returned (.tuple #[.agg (bys (prsF s) 32).toArray, .bool true])) ∨ (¬ okP s ∧ e = .returned (.tuple #[.agg (bys (fun _ => 0) 32).toArray, .bool false]))) ∧ Below w.heap.size w w'
theorem bys0 : (bys (fun _ => 0) 32).toArray = h32 := rfl
set_option maxRecDepth 100000 in
set_option maxHeartbeats 4000000 in
theorem parse_walk (s : ByteArray) (w : World) : Calls Try.prog 17 #[.string s] w (PrsPost s w) := by
  have hi32 := h32_info
  have H32 := Lib.hid hi32
  clear hi32
  by_cases h64 : s.size = 64
  · have q1 : ((s.size : Int) != 64) = false := by rw [h64]; rfl
    have H64 := Lib.hid h64
    clear h64
    go_enter Try.func17, Try.ntmps17
    go_wp2
    go_loopw [12] (fun i wr => ∃ k : Nat, k ≤ 32 ∧ i = .int .i64 (k : Nat) ∧ (∀ j, j < 2 * k → 0 ≤ dgI (sb s j)) ∧ wr.heap[w.heap.size + 1]? = some (.cells (bys (upTo8 (prsF s) k) 32).toArray 25 (0, 0)) ∧ wr.heap[w.heap.size]? = some (.cells h32 25 (0, 0)) ∧ Below w.heap.size w wr) (fun i _ => 32 - (intOf i).toNat)
    case atStart =>
      refine ⟨0, by omega, rfl, fun j hj => absurd hj (by omega), ?_, ?_, ((Below.refl _ _).alloc (Nat.le_refl _) _).alloc (by simp) _⟩
      · exact (heap_alloc2_new _ _ _).trans rfl
      · exact (heap_alloc_old _ _ (by simp)).trans (heap_alloc_new _ _)
    case round =>
      obtain ⟨k, hk, rfl, hdg, h1, h2, hb⟩ := hrel
      have K1 := Lib.hid h1
      have K2 := Lib.hid h2
      have KB := Lib.hid hb
      have KD := Lib.hid hdg
      by_cases hlt : k < 32
      · have p1 : (k : Int) < 32 := by omega
        have hsz : s.size = 64 := H64.out
        have i1 := sidx (s := s) (k := 2 * k) (by omega) (i := 2 * (k : Int)) (by omega)
        have i2 := sidx (s := s) (k := 2 * k + 1) (by omega) (i := 2 * (k : Int) + 1) (by omega)
        obtain ⟨ca, eca⟩ : ∃ c, c = sb s (2 * k) := ⟨_, rfl⟩
        obtain ⟨cb, ecb⟩ : ∃ c, c = sb s (2 * k + 1) := ⟨_, rfl⟩
        have hca : ca < 256 := by rw [eca]; exact sb_lt _ _
        have hcb : cb < 256 := by rw [ecb]; exact sb_lt _ _
        rw [← eca] at i1
        rw [← ecb] at i2
        have D1 := Lib.hid (fun w => (digit_walk ca hca w).mono (R' := fun e w' => e = .returned (.int .i64 (dgI ca)) ∧ w' = w) fun _ _ ⟨h, e⟩ => ⟨h, e.symm⟩)
        have D2 := Lib.hid (fun w => (digit_walk cb hcb w).mono (R' := fun e w' => e = .returned (.int .i64 (dgI cb)) ∧ w' = w) fun _ _ ⟨h, e⟩ => ⟨h, e.symm⟩)
        have hx := dgI_lt ca
        have hx' := dgI_ge ca
        have hy := dgI_lt cb
        have hy' := dgI_ge cb
        obtain ⟨x, ex⟩ : ∃ x, x = dgI ca := ⟨_, rfl⟩
        obtain ⟨y, ey⟩ : ∃ y, y = dgI cb := ⟨_, rfl⟩
        rw [← ex] at D1 hx hx'
        rw [← ey] at D2 hy hy'
        have HX := Lib.hid (show x = dgI (sb s (2 * k)) by rw [ex, eca])
        have HY := Lib.hid (show y = dgI (sb s (2 * k + 1)) by rw [ey, ecb])
        have t1 : IntKind.i64.wrap (2 * (k : Int)) = 2 * (k : Int) := IntWalk.i64_in _ (by omega)
        have t2 : IntKind.i64.wrap (2 * (k : Int) + 1) = 2 * (k : Int) + 1 := IntWalk.i64_in _ (by omega)
        have f1 : wr.frozen? ⟨w.heap.size + 1, k, none⟩ = false := row_free h1
        have c1 : wr.cell? ⟨w.heap.size + 1, k, none⟩ = some (.int .u8 (upTo8 (prsF s) k k : Nat)) := (row_cell h1).trans (by rw [List.getElem?_toArray]; exact bys_get _ hlt)
        clear h1 h2 hb hdg ex ey eca ecb hsz
        by_cases hx0 : 0 ≤ x
        · by_cases hy0 : 0 ≤ y
          · obtain ⟨q, eq⟩ : ∃ q : Nat, q = (16 * x + y).toNat := ⟨_, rfl⟩
            have v1 : 16 * x + y = (q : Int) := by omega
            have hq : q < 256 := by omega
            have v2 : IntKind.u8.wrap (q : Int) = (q : Int) := by rw [IntKind.wrap_u8]; omega
            have HQ := Lib.hid (show q = prsF s k by rw [eq, HX.out, HY.out]; rfl)
            have n1 : ¬ x < 0 := by omega
            have n2 : ¬ y < 0 := by omega
            clear eq
            go_upto_region 7 with fail
            go_quiet ((first | (go_at_call 22; with_reducible exact Calls.quiet_of_same (D1.out _)) | (go_at_call 22; with_reducible exact Calls.quiet_of_same (D2.out _))))
            clear t1 t2 i1 i2
            go_wp2
            refine ⟨⟨k + 1, by omega, by simp, fun j hj => ?_, ?_, ?_, (show Below w.heap.size w (wr.drewN _) from ⟨KB.out.os, KB.out.tape, KB.out.output, KB.out.size, KB.out.block⟩).setCell (by show w.heap.size ≤ w.heap.size + 1; omega) _⟩, by simp [intOf]; omega⟩
            · by_cases j2 : j < 2 * k
              · exact KD.out j j2
              · by_cases j3 : j = 2 * k
                · rw [j3, ← HX.out]; exact hx0
                · rw [show j = 2 * k + 1 by omega, ← HY.out]; exact hy0
            · show (wr.setCell ⟨w.heap.size + 1, k, none⟩ (.int .u8 (q : Nat))).heap[w.heap.size + 1]? = _
              rw [row_set K1.out, bys_set _ _ hlt, HQ.out, upTo8_put]
            · show (wr.setCell ⟨w.heap.size + 1, k, none⟩ (.int .u8 (q : Nat))).heap[w.heap.size]? = _
              rw [row_far (by omega)]; exact K2.out
          · have n1 : ¬ x < 0 := by omega
            have n2 : y < 0 := by omega
            have HNo := Lib.hid (show ¬ okP s from fun h => by have := h.2 (2 * k + 1) (by omega); rw [← HY.out] at this; omega)
            go_upto_region 7 with fail
            go_quiet ((first | (go_at_call 22; with_reducible exact Calls.quiet_of_same (D1.out _)) | (go_at_call 22; with_reducible exact Calls.quiet_of_same (D2.out _))))
            clear t1 t2 i1 i2
            go_wp2_with ((with_reducible refine wpList_store_row rfl 25 (.tmp 2) (.tmp 32) rfl w.heap.size h32 ?_ ?_ 25 h32 ?_ ?_ ?_ ?_ ?_); (· rfl); (· rfl); (· exact K2.out); (· exact h32_info); (· rfl); (· exact bys_all _ _))
            exact bodyPost_ret (v := .tuple #[.agg h32, .bool false]) (results_cell_row_tmp rfl _ _ w.heap.size 25 h32 (0, 0) _ _ rfl rfl (setRow_heap _ _ h32 _ _ _ K2.out) Try.underlying25 rfl h32_info) rfl
              ⟨.inr ⟨HNo.out, by rw [bys0]⟩, below_setRow (w := wr.drewN _) ⟨KB.out.os, KB.out.tape, KB.out.output, KB.out.size, KB.out.block⟩ (Nat.le_refl _) _⟩
        · have n1 : x < 0 := by omega
          have HNo := Lib.hid (show ¬ okP s from fun h => by have := h.2 (2 * k) (by omega); rw [← HX.out] at this; omega)
          go_upto_region 7 with fail
          go_quiet ((first | (go_at_call 22; with_reducible exact Calls.quiet_of_same (D1.out _)) | (go_at_call 22; with_reducible exact Calls.quiet_of_same (D2.out _))))
          clear t1 t2 i1 i2
          go_wp2_with ((with_reducible refine wpList_store_row rfl 25 (.tmp 2) (.tmp 32) rfl w.heap.size h32 ?_ ?_ 25 h32 ?_ ?_ ?_ ?_ ?_); (· rfl); (· rfl); (· exact K2.out); (· exact h32_info); (· rfl); (· exact bys_all _ _))
          exact bodyPost_ret (v := .tuple #[.agg h32, .bool false]) (results_cell_row_tmp rfl _ _ w.heap.size 25 h32 (0, 0) _ _ rfl rfl (setRow_heap _ _ h32 _ _ _ K2.out) Try.underlying25 rfl h32_info) rfl
            ⟨.inr ⟨HNo.out, by rw [bys0]⟩, below_setRow (w := wr.drewN _) ⟨KB.out.os, KB.out.tape, KB.out.output, KB.out.size, KB.out.block⟩ (Nat.le_refl _) _⟩
      · obtain rfl : k = 32 := by omega
        have p1 : ¬ ((32 : Nat) : Int) < 32 := by omega
        obtain ⟨cz, hcz⟩ : ∃ cs, cs = (bys (prsF s) 32).toArray := ⟨_, rfl⟩
        have hr : wr.heap[w.heap.size + 1]? = some (.cells cz 25 (0, 0)) := by
          rw [hcz, show bys (prsF s) 32 = bys (upTo8 (prsF s) 32) 32 from bys_congr fun i hi => by unfold upTo8; rw [if_pos hi]]; exact h1
        have hsz : cz.size = 32 := by rw [hcz, List.size_toArray, bys_length]
        have R1 := Lib.hid hr
        have Hi := Lib.hid (show (Try.prog.info? 25).map (·.size) = some cz.size by rw [hsz]; exact h32_info)
        have Hsz := Lib.hid (show h32.size = cz.size by rw [hsz]; rfl)
        have Hone := Lib.hid (show cz.all (·.oneCell') = true by rw [hcz]; exact bys_all _ _)
        have HYes := Lib.hid (show okP s ∧ cz = (bys (prsF s) 32).toArray from ⟨⟨H64.out, fun j hj => KD.out j (by omega)⟩, hcz⟩)
        clear hr hcz hsz h1 h2 hb hdg
        go_upto_region 12 with fail
        refine wp_region_lit (wpList_load_row rfl 25 (.tmp 4) rfl (w.heap.size + 1) rfl _ cz (0, 0) _ R1.out Try.underlying25 rfl Hi.out ?_)
        refine wpList_store_row rfl 25 (.tmp 2) (.tmp 41) rfl w.heap.size cz rfl rfl _ h32 K2.out Hi.out Hsz.out Hone.out ?_
        go_wp2
        exact bodyPost_ret (v := .tuple #[.agg cz, .bool true]) (results_cell_row_tmp rfl _ _ w.heap.size 25 cz (0, 0) _ _ rfl rfl (setRow_heap _ _ h32 _ _ _ K2.out) Try.underlying25 rfl Hi.out) rfl
          ⟨.inl ⟨HYes.out.1, by rw [HYes.out.2]⟩, below_setRow KB.out (Nat.le_refl _) _⟩
  · have q1 : ((s.size : Int) != 64) = true := by rw [bne_iff_ne]; omega
    have HF := Lib.hid (show PrsPost s w (.returned (.tuple #[.agg h32, .bool false])) (((w.alloc (.cells h32 25)).alloc (.cells h32 25)).setRow w.heap.size h32) from
      ⟨.inr ⟨fun h => h64 h.1, by rw [bys0]⟩, below_setRow (((Below.refl _ _).alloc (Nat.le_refl _) _).alloc (by simp) _) (Nat.le_refl _) _⟩)
    clear h64
    go_enter Try.func17, Try.ntmps17
    go_wp2_with ((with_reducible refine wpList_store_row rfl 25 (.tmp 2) (.tmp 11) rfl w.heap.size h32 ?_ ?_ 25 h32 ?_ ?_ ?_ ?_ ?_); (· rfl); (· rfl); (· exact (heap_alloc_old _ _ (by simp)).trans (heap_alloc_new _ _)); (· exact h32_info); (· rfl); (· exact bys_all _ _))
    refine bodyPost_ret (v := .tuple #[.agg h32, .bool false]) (results_cell_row_tmp rfl _ _ w.heap.size 25 h32 (0, 0) _ _ rfl rfl (setRow_heap _ _ h32 _ _ _ ((heap_alloc_old _ _ (by simp)).trans (heap_alloc_new _ _))) Try.underlying25 rfl h32_info) rfl HF.out
end Go.Proofs.Ytjemgoifemdoeaa
