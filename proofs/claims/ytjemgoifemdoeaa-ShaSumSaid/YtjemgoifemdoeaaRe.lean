/- The document's Bytes and Parse, walked. -/
import Derived.Test.YtjemgoifemdoeaaRd
namespace Go.Proofs.Ytjemgoifemdoeaa
open Go.RowKit

/-- digits of so many bytes -/
def okB (s : ByteArray) : Prop := s.size % 2 = 0 ∧ ∀ k, k < s.size → 0 ≤ dgI (sb s k)
def BytPost (s : ByteArray) (w : World) (e : Ending) (w' : World) : Prop :=
  ((okB s ∧ ∃ A c, e = .returned (.tuple #[.slice A (s.size / 2) c, .bool true]) ∧ Sl w' A (s.size / 2) (prsF s) ∧ ∀ a, A = some a → w.heap.size ≤ a.block) ∨ (¬ okB s ∧ e = .returned (.tuple #[.slice none 0 0, .bool false]))) ∧ Below w.heap.size w w'
theorem prsF_more (s : ByteArray) (k : Nat) {x : Nat} (hx : x = prsF s k) : bys (prsF s) k ++ bys (fun _ => x) 1 = bys (prsF s) (k + 1) := by
  rw [bys_cat]
  refine bys_congr fun i hi => ?_
  unfold cat
  by_cases h : i < k
  · rw [if_pos h]
  · rw [if_neg h, hx, show i = k by omega]
set_option maxRecDepth 100000 in
set_option maxHeartbeats 4000000 in
theorem rbytes_walk (s : ByteArray) (w : World) (hs : s.size ≤ 1000) : Calls Try.prog 56 #[.string s] w (BytPost s w) := by
  by_cases h2 : s.size % 2 = 0
  · have q1 : ((s.size : Int) % 2 != 0) = false := by rw [bne_eq_false_iff_eq]; omega
    have q2 : ((s.size : Int).tmod 2 != 0) = false := by rw [Int.tmod_eq_emod_of_nonneg (by omega)]; exact q1
    have H2 := Lib.hid h2
    clear h2
    go_enter Try.func56, Try.ntmps56
    go_wp2
    go_loopw [4, 5] (fun v i wr => ∃ k : Nat, 2 * k ≤ s.size ∧ i = .int .i64 ((2 * k : Nat) : Int) ∧ (∀ j, j < 2 * k → 0 ≤ dgI (sb s j)) ∧ wr.ownsRow w.heap.size 5 1 v k (bys (prsF s) k) ∧ Below w.heap.size w wr) (fun _ i _ => s.size - (intOf i).toNat)
    case atStart => exact ⟨0, by omega, rfl, fun j hj => absurd hj (by omega), ⟨rfl, .inl ⟨rfl, rfl⟩⟩, Below.refl _ _⟩
    case round =>
      obtain ⟨k, hk, rfl, hdg, ho, hb⟩ := hrel
      have KD := Lib.hid hdg
      have KO := Lib.hid ho
      have KB := Lib.hid hb
      obtain ⟨p, ep⟩ : ∃ p, p = 2 * k := ⟨_, rfl⟩
      have EP := Lib.hid ep
      rw [← ep]
      have hp : p ≤ s.size := by omega
      by_cases hlt : 2 * k < s.size
      · have p1 : (p : Int) + 1 < (s.size : Int) := by have := H2.out; omega
        have p2 : (p : Int) < (s.size : Int) := by omega
        have i1 := sidx (s := s) (k := p) (by omega) (i := (p : Int)) rfl
        have i2 := sidx (s := s) (k := p + 1) (by omega) (i := (p : Int) + 1) (by omega)
        obtain ⟨ca, eca⟩ : ∃ c, c = sb s p := ⟨_, rfl⟩
        obtain ⟨cb, ecb⟩ : ∃ c, c = sb s (p + 1) := ⟨_, rfl⟩
        have hca : ca < 256 := by rw [eca]; exact sb_lt _ _
        have hcb : cb < 256 := by rw [ecb]; exact sb_lt _ _
        rw [← eca] at i1
        rw [← ecb] at i2
        have D1 := Lib.hid (fun w => (rdigit_walk ca hca w).mono (R' := fun e w' => e = .returned (.int .i64 (dgI ca)) ∧ w' = w) fun _ _ ⟨h, e⟩ => ⟨h, e.symm⟩)
        have D2 := Lib.hid (fun w => (rdigit_walk cb hcb w).mono (R' := fun e w' => e = .returned (.int .i64 (dgI cb)) ∧ w' = w) fun _ _ ⟨h, e⟩ => ⟨h, e.symm⟩)
        have hx := dgI_lt ca
        have hx' := dgI_ge ca
        have hy := dgI_lt cb
        have hy' := dgI_ge cb
        obtain ⟨x, ex⟩ : ∃ x, x = dgI ca := ⟨_, rfl⟩
        obtain ⟨y, ey⟩ : ∃ y, y = dgI cb := ⟨_, rfl⟩
        rw [← ex] at D1 hx hx'
        rw [← ey] at D2 hy hy'
        have HX := Lib.hid (show x = dgI (sb s p) by rw [ex, eca])
        have HY := Lib.hid (show y = dgI (sb s (p + 1)) by rw [ey, ecb])
        have t2 : IntKind.i64.wrap ((p : Int) + 1) = (p : Int) + 1 := IntWalk.i64_in _ (by omega)
        clear ho hb hdg ex ey eca ecb ep
        by_cases hx0 : 0 ≤ x
        · by_cases hy0 : 0 ≤ y
          · obtain ⟨q, eq⟩ : ∃ q : Nat, q = (16 * x + y).toNat := ⟨_, rfl⟩
            have v1 : 16 * x + y = (q : Int) := by omega
            have hq : q < 256 := by omega
            have v2 : IntKind.u8.wrap (q : Int) = (q : Int) := by rw [IntKind.wrap_u8]; omega
            have HQ := Lib.hid (show q = prsF s k by rw [eq, HX.out, HY.out, EP.out]; rfl)
            have n1 : ¬ x < 0 := by omega
            have n2 : ¬ y < 0 := by omega
            have hk1000 : k ≤ 1000 := by omega
            clear eq
            go_upto_region 7 with fail
            go_quiet ((first | (go_at_call 72; with_reducible exact Calls.quiet_of_same (D1.out _)) | (go_at_call 72; with_reducible exact Calls.quiet_of_same (D2.out _))))
            clear t2 i1 i2
            go_upto_region 10 with fail
            refine ((?_ : ∀ W : World, W.heap = wr.heap → Below w.heap.size w W → Code.wp _ _ _ _ W) _ rfl ⟨KB.out.os, KB.out.tape, KB.out.output, KB.out.size, KB.out.block⟩)
            intro W hW hWB
            have KB := Lib.hid hWB
            have KO := Lib.hid (show W.ownsRow w.heap.size 5 1 _ k (bys (prsF s) k) by
              have h := KO.out
              unfold World.ownsRow at h ⊢
              rw [hW]; exact h)
            have HOne := Lib.hid (show Sl (W.alloc (.cells #[.int .u8 (q : Nat)] 5)) (some ⟨W.heap.size, 0, none⟩) 1 (fun _ => q) from ⟨fun _ => hq, fun _ => ⟨W.heap.size, 0, rfl, by simp, fun i hi => by rw [World.cell?_alloc_new, show 0 + i = 0 by omega]; rfl⟩⟩)
            clear hW hWB
            go_wp2_with (refine wpList_append_bys rfl (.tmp 34) (.tmp 40) rfl w.heap.size _ k (bys (prsF s) k) (by simp [Act.eval]) (KO.out.alloc _) (some ⟨W.heap.size, 0, none⟩) 1 1 (fun _ => q) (by simp [Act.eval]) HOne.out (fun h => by cases h) (by omega) (KB.out.alloc KB.out.size _).size ?_; intro v2 w8' hv2 hg2; have HX3 := Lib.hid (own_grown (KO.out.alloc _) (KB.out.alloc KB.out.size _) hg2 (KB.out.alloc KB.out.size _).size); have HV3 := Lib.hid hv2; clear hv2 hg2)
            have hv := HV3.out
            rw [prsF_more s k HQ.out] at hv
            refine ⟨⟨k + 1, by have := EP.out; have := H2.out; omega, by have := EP.out; congr 1; omega, fun j hj => ?_, hv, HX3.out⟩, by have := EP.out; simp [intOf]; omega⟩
            by_cases j2 : j < 2 * k
            · exact KD.out j j2
            · by_cases j3 : j = p
              · rw [j3, ← HX.out]; exact hx0
              · rw [show j = p + 1 by have := EP.out; omega, ← HY.out]; exact hy0
          · have n1 : ¬ x < 0 := by omega
            have n2 : y < 0 := by omega
            have HNo := Lib.hid (show ¬ okB s from fun h => by have := h.2 (p + 1) (by omega); rw [← HY.out] at this; omega)
            go_upto_region 7 with fail
            go_quiet ((first | (go_at_call 72; with_reducible exact Calls.quiet_of_same (D1.out _)) | (go_at_call 72; with_reducible exact Calls.quiet_of_same (D2.out _))))
            clear t2 i1 i2
            go_wp2
            go_ret2
            exact ⟨.inr ⟨HNo.out, rfl⟩, ⟨KB.out.os, KB.out.tape, KB.out.output, KB.out.size, KB.out.block⟩⟩
        · have n1 : x < 0 := by omega
          have HNo := Lib.hid (show ¬ okB s from fun h => by have := h.2 p (by omega); rw [← HX.out] at this; omega)
          go_upto_region 7 with fail
          go_quiet ((first | (go_at_call 72; with_reducible exact Calls.quiet_of_same (D1.out _)) | (go_at_call 72; with_reducible exact Calls.quiet_of_same (D2.out _))))
          clear t2 i1 i2
          go_wp2
          go_ret2
          exact ⟨.inr ⟨HNo.out, rfl⟩, ⟨KB.out.os, KB.out.tape, KB.out.output, KB.out.size, KB.out.block⟩⟩
      · have p1 : ¬ (p : Int) + 1 < (s.size : Int) := by omega
        have hkk : k = s.size / 2 := by omega
        obtain ⟨A, c, hv, hsl, _⟩ := own_sl KO.out (prsF_lt s)
        have hab : ∀ a, A = some a → w.heap.size ≤ a.block := fun a ha => by
          rcases KO.out.2 with ⟨h1, _⟩ | ⟨gb, cap, cur, h1, hbase, _⟩
          · rw [hv] at h1; injection h1 with q1 _ _; rw [q1] at ha; cases ha
          · rw [hv] at h1; injection h1 with q1 _ _; rw [q1] at ha; cases ha; exact hbase
        have HFin := Lib.hid (show BytPost s w (.returned (.tuple #[.slice A k c, .bool true])) wr from ⟨.inl ⟨⟨H2.out, fun j hj => KD.out j (by omega)⟩, A, c, by rw [hkk], by rw [← hkk]; exact hsl, hab⟩, KB.out⟩)
        subst hv
        clear ho hb hdg ep hkk hsl
        go_wp2
        go_ret2
        exact HFin.out
  · have q1 : ((s.size : Int) % 2 != 0) = true := by rw [bne_iff_ne]; omega
    have q2 : ((s.size : Int).tmod 2 != 0) = true := by rw [Int.tmod_eq_emod_of_nonneg (by omega)]; exact q1
    have HFin := Lib.hid (show BytPost s w (.returned (.tuple #[.slice none 0 0, .bool false])) w from ⟨.inr ⟨fun h => h2 h.1, rfl⟩, Below.refl _ _⟩)
    clear h2
    go_enter Try.func56, Try.ntmps56
    go_wp2
    go_ret2
    exact HFin.out
set_option maxRecDepth 100000 in
set_option maxHeartbeats 4000000 in
theorem rparse_walk (s : ByteArray) (w : World) (hs : s.size ≤ 1000) : Calls Try.prog 18 #[.string s] w (PrsPost s w) := by
  obtain ⟨w1, e1⟩ : ∃ w1, w1 = (w.alloc (.cells h32 25)).alloc (.cells h32 25) := ⟨_, rfl⟩
  have HB1 := Lib.hid (show Below w.heap.size w w1 by rw [e1]; exact ((Below.refl _ _).alloc (Nat.le_refl _) _).alloc (by simp) _)
  have R1 := Lib.hid (show w1.heap[w.heap.size]? = some (.cells h32 25 (0, 0)) by rw [e1]; exact (heap_alloc_old _ _ (by simp)).trans (heap_alloc_new _ _))
  have S1 := Lib.hid (show w1.heap[w.heap.size + 1]? = some (.cells h32 25 (0, 0)) by rw [e1]; exact heap_alloc2_new _ _ _)
  have E1 := Lib.hid e1
  have HY := Lib.hid (rbytes_walk s w1 hs)
  clear e1
  go_enter Try.func18, Try.ntmps18
  go_upto_region 2 with fail
  show Code.wp _ _ _ _ ((w.alloc (.cells h32 25)).alloc (.cells h32 25))
  rw [← E1.out]
  go_wp2_with fail
  refine HY.out.mono ?_
  rintro e w2 ⟨hp, hb2⟩
  have HB2 := Lib.hid (HB1.out.trans (hb2.mono HB1.out.size))
  have R2 := Lib.hid ((hb2.block _ (row_lt R1.out)).trans R1.out)
  have S2 := Lib.hid ((hb2.block _ (row_lt S1.out)).trans S1.out)
  have fin : ∀ W : World, W = w2 → ¬ okP s → PrsPost s w (.returned (.tuple #[.agg h32, .bool false])) (W.setRow w.heap.size h32) := fun W hW hno => ⟨.inr ⟨hno, by rw [bys0]⟩, below_setRow (by rw [hW]; exact HB2.out) (Nat.le_refl _) _⟩
  clear hb2
  rcases hp with ⟨hok, A, c, rfl, hsl, hab⟩ | ⟨hno, rfl⟩
  · have HOK := Lib.hid hok
    have HSl := Lib.hid hsl
    obtain ⟨n, en⟩ : ∃ n, n = s.size / 2 := ⟨_, rfl⟩
    rw [← en] at HSl ⊢
    have EN := Lib.hid en
    by_cases h32n : n = 32
    · have h64 : s.size = 64 := by have := hok.1; omega
      have hyes := Lib.hid (show okP s from ⟨h64, fun k hk => hok.2 k (by omega)⟩)
      clear hok hsl fin en h64
      subst h32n
      go_wp2
      go_loopw [21] (fun i wr => ∃ k : Nat, k ≤ 32 ∧ i = .int .i64 (k : Nat) ∧ wr.heap[w.heap.size + 1]? = some (.cells (bys (upTo8 (prsF s) k) 32).toArray 25 (0, 0)) ∧ wr.heap[w.heap.size]? = some (.cells h32 25 (0, 0)) ∧ Sl wr A 32 (prsF s) ∧ (∀ a, A = some a → a.block ≠ w.heap.size + 1) ∧ Below w.heap.size w wr) (fun i _ => 32 - (intOf i).toNat)
      case atStart =>
        have hs1 : w1.heap.size = w.heap.size + 2 := by rw [E1.out]; simp
        exact ⟨0, by omega, rfl, S2.out, R2.out, HSl.out, fun a ha => by have := hab a ha; omega, HB2.out⟩
      case round =>
        obtain ⟨k, hk, rfl, h1, h2, hsl, hap, hb⟩ := hrel
        have K1 := Lib.hid h1
        have K2 := Lib.hid h2
        have K3 := Lib.hid hsl
        have K4 := Lib.hid hap
        have KB := Lib.hid hb
        by_cases hlt : k < 32
        · have p1 : (k : Int) < 32 := by omega
          obtain ⟨gb, ob, rfl, hgb, hcb⟩ := hsl.at_ (by omega)
          have y1 := hcb k hlt
          obtain ⟨q, eq⟩ : ∃ q, q = prsF s k := ⟨_, rfl⟩
          rw [← eq] at y1
          have HQ := Lib.hid eq
          have c1 : wr.cell? ⟨w.heap.size + 1, k, none⟩ = some (.int .u8 (upTo8 (prsF s) k k : Nat)) := (row_cell h1).trans (by rw [List.getElem?_toArray]; exact bys_get _ hlt)
          have f1 : wr.frozen? ⟨w.heap.size + 1, k, none⟩ = false := row_free h1
          have hne := Lib.hid (hap _ rfl)
          clear h1 h2 hsl hap hb hcb eq
          go_wp2
          refine ⟨⟨k + 1, by omega, by simp, ?_, ?_, ?_, K4.out, KB.out.setCell (by show w.heap.size ≤ w.heap.size + 1; omega) _⟩, by simp [intOf]; omega⟩
          · rw [row_set K1.out, bys_set _ _ hlt, HQ.out, upTo8_put]
          · rw [row_far (by omega)]; exact K2.out
          · exact K3.out.only ((Only.refl (w.heap.size + 1) wr).setCell _) (fun _ => K4.out)
        · obtain rfl : k = 32 := by omega
          have p1 : ¬ ((32 : Nat) : Int) < 32 := by omega
          obtain ⟨cz, hcz⟩ : ∃ cs, cs = (bys (prsF s) 32).toArray := ⟨_, rfl⟩
          have hr : wr.heap[w.heap.size + 1]? = some (.cells cz 25 (0, 0)) := by
            rw [hcz, show bys (prsF s) 32 = bys (upTo8 (prsF s) 32) 32 from bys_congr fun i hi => by unfold upTo8; rw [if_pos hi]]; exact h1
          have hsz : cz.size = 32 := by rw [hcz, List.size_toArray, bys_length]
          have Rz := Lib.hid hr
          have Hi := Lib.hid (show (Try.prog.info? 25).map (·.size) = some cz.size by rw [hsz]; exact h32_info)
          have Hsz := Lib.hid (show h32.size = cz.size by rw [hsz]; rfl)
          have Hone := Lib.hid (show cz.all (·.oneCell') = true by rw [hcz]; exact bys_all _ _)
          have Hcs := Lib.hid hcz
          clear hr hcz hsz h1 h2 hb hsl hap
          go_upto_region 10 with fail
          refine wp_region_lit (wpList_load_row rfl 25 (.tmp 4) rfl (w.heap.size + 1) rfl _ cz (0, 0) _ Rz.out Try.underlying25 rfl Hi.out ?_)
          refine wpList_store_row rfl 25 (.tmp 2) (.tmp 31) rfl w.heap.size cz rfl rfl _ h32 K2.out Hi.out Hsz.out Hone.out ?_
          go_wp2
          exact bodyPost_ret (v := .tuple #[.agg cz, .bool true]) (results_cell_row_tmp rfl _ _ w.heap.size 25 cz (0, 0) _ _ rfl rfl (setRow_heap _ _ h32 _ _ _ K2.out) Try.underlying25 rfl Hi.out) rfl
            ⟨.inl ⟨hyes.out, by rw [Hcs.out]⟩, below_setRow KB.out (Nat.le_refl _) _⟩
    · have q1 : ((n : Int) != 32) = true := by rw [bne_iff_ne]; omega
      have HF := Lib.hid (fin w2 rfl (fun h => by have := h.1; omega))
      clear hok hsl fin en hab
      go_wp2_with (first
        | ((with_reducible refine wpList_load_row rfl 25 (.tmp 4) rfl (w.heap.size + 1) ?_ 25 h32 (0, 0) _ ?_ Try.underlying25 ?_ ?_ ?_); (· rfl); (· exact S2.out); (· rfl); (· rw [h32_size]; exact h32_info))
        | ((with_reducible refine wpList_store_row rfl 25 (.tmp 2) (.tmp 20) rfl w.heap.size h32 ?_ ?_ 25 h32 ?_ ?_ ?_ ?_ ?_); (· rfl); (· rfl); (· exact R2.out); (· rw [h32_size]; exact h32_info); (· rfl); (· exact bys_all _ _)))
      exact bodyPost_ret (v := .tuple #[.agg h32, .bool false]) (results_cell_row_tmp rfl _ _ w.heap.size 25 h32 (0, 0) _ _ rfl rfl (setRow_heap _ _ h32 _ _ _ R2.out) Try.underlying25 rfl (by rw [h32_size]; exact h32_info)) rfl HF.out
  · have HF := Lib.hid (fin w2 rfl (fun h => hno ⟨by have := h.1; omega, fun k hk => h.2 k (by have := h.1; omega)⟩))
    clear hno fin
    go_wp2_with (first
      | ((with_reducible refine wpList_load_row rfl 25 (.tmp 4) rfl (w.heap.size + 1) ?_ 25 h32 (0, 0) _ ?_ Try.underlying25 ?_ ?_ ?_); (· rfl); (· exact S2.out); (· rfl); (· rw [h32_size]; exact h32_info))
      | ((with_reducible refine wpList_store_row rfl 25 (.tmp 2) (.tmp 20) rfl w.heap.size h32 ?_ ?_ 25 h32 ?_ ?_ ?_ ?_ ?_); (· rfl); (· rfl); (· exact R2.out); (· rw [h32_size]; exact h32_info); (· rfl); (· exact bys_all _ _)))
    exact bodyPost_ret (v := .tuple #[.agg h32, .bool false]) (results_cell_row_tmp rfl _ _ w.heap.size 25 h32 (0, 0) _ _ rfl rfl (setRow_heap _ _ h32 _ _ _ R2.out) Try.underlying25 rfl (by rw [h32_size]; exact h32_info)) rfl HF.out
end Go.Proofs.Ytjemgoifemdoeaa
