/- The document's sum, walked. -/
import Derived.Test.YtjemgoifemdoeaaRb
import Derived.StillTailTactics
namespace Go.Proofs.Ytjemgoifemdoeaa
open Go.RowKit

set_option maxRecDepth 100000 in
set_option maxHeartbeats 8000000 in
theorem rsum_walk (w : World) (A : Option Addr) (n c : Nat) (f : Nat → Nat) (hl : Sl w A n f) (hz : A = none → n = 0 ∧ c = 0) (hnm : n ≤ 1048576) :
    Calls Try.prog 19 #[.slice A n c] w fun e w' => e = .returned (.agg (bys (shaF n f) 32).toArray) ∧ Below w.heap.size w w' := by
  have HL := Lib.hid hl
  have HZ := Lib.hid hz
  have HBg := Lib.hid (fun w => begins_walk w)
  have HCn := Lib.hid (fun w => constants_walk w)
  have hi8 := Lib.hid (show (Try.prog.info? 40).map (·.size) = some (vals .u32 sqH 8).toArray.size by rw [List.size_toArray, vals_length]; exact w8_info)
  have hi64 := Lib.hid (show (Try.prog.info? 84).map (·.size) = some (vals .u32 cubeK 64).toArray.size by rw [List.size_toArray, vals_length]; exact wz_info)
  have hs8 := Lib.hid (show w8.size = (vals .u32 sqH 8).toArray.size by rw [w8_vals, List.size_toArray, List.size_toArray, vals_length, vals_length])
  have hs64 := Lib.hid (show wz.size = (vals .u32 cubeK 64).toArray.size by rw [wz_vals, List.size_toArray, List.size_toArray, vals_length, vals_length])
  have ho8 := Lib.hid (vals_all .u32 sqH 8)
  have ho64 := Lib.hid (vals_all .u32 cubeK 64)
  have HKl := Lib.hid cubeK_lt
  obtain ⟨hv, ehv⟩ : ∃ hv, hv = (vals .u32 sqH 8).toArray := ⟨_, rfl⟩
  obtain ⟨kv, ekv⟩ : ∃ kv, kv = (vals .u32 cubeK 64).toArray := ⟨_, rfl⟩
  rw [← ehv] at HBg hi8 hs8 ho8
  rw [← ekv] at HCn hi64 hs64 ho64
  have EHV := Lib.hid ehv
  have EKV := Lib.hid ekv
  clear hl hz ehv ekv
  go_enter Try.func19, Try.ntmps19
  go_wp2_with fail
  show Calls Try.prog _ _ (w.alloc (.cells h32 25)) _
  obtain ⟨w1, e1⟩ : ∃ w1, w1 = w.alloc (.cells h32 25) := ⟨_, rfl⟩
  rw [← e1]
  have HB1 := Lib.hid (show Below w.heap.size w w1 by rw [e1]; exact (Below.refl _ _).alloc (Nat.le_refl _) _)
  have R1 := Lib.hid (show w1.heap[w.heap.size]? = some (.cells h32 25 (0, 0)) by rw [e1]; exact heap_alloc_new _ _)
  clear e1
  refine (HBg.out w1).mono ?_
  rintro e w2 ⟨rfl, hb⟩
  have HB2 := Lib.hid (HB1.out.trans (hb.mono HB1.out.size))
  have R2 := Lib.hid ((hb.block _ (row_lt R1.out)).trans R1.out)
  clear hb
  go_wp2_with fail
  refine (HCn.out w2).mono ?_
  rintro e w3 ⟨rfl, hb⟩
  have HB3 := Lib.hid (HB2.out.trans (hb.mono HB2.out.size))
  have R3 := Lib.hid ((hb.block _ (row_lt R2.out)).trans R2.out)
  clear hb
  obtain ⟨w4, e4⟩ : ∃ w4, w4 = ((w3.alloc (.cells w8 40)).alloc (.cells wz 84)).setRow w3.heap.size hv := ⟨_, rfl⟩
  obtain ⟨w5, e5⟩ : ∃ w5, w5 = w4.setRow (w3.heap.size + 1) kv := ⟨_, rfl⟩
  have z4 : ((w3.alloc (.cells w8 40)).alloc (.cells wz 84)).heap[w3.heap.size + 1]? = some (.cells wz 84 (0, 0)) := heap_alloc2_new _ _ _
  have y4 : ((w3.alloc (.cells w8 40)).alloc (.cells wz 84)).heap[w3.heap.size]? = some (.cells w8 40 (0, 0)) := (heap_alloc_old _ _ (by simp)).trans (heap_alloc_new _ _)
  have hk4 : w4.heap[w3.heap.size + 1]? = some (.cells wz 84 (0, 0)) := by rw [e4]; exact (setRow_other _ _ _ _ (by omega)).trans z4
  have hh4 : w4.heap[w3.heap.size]? = some (.cells hv 40 (0, 0)) := by rw [e4]; exact setRow_heap _ _ _ _ _ _ y4
  have h5 : Below w3.heap.size w3 w5 := by rw [e5, e4]; exact below_setRow (below_setRow (((Below.refl _ _).alloc (Nat.le_refl _) _).alloc (by simp) _) (Nat.le_refl _) _) (by omega) _
  have HB5 := Lib.hid (HB3.out.trans (h5.mono HB3.out.size))
  have R5 := Lib.hid ((h5.block _ (row_lt R3.out)).trans R3.out)
  have K5 := Lib.hid (show w5.heap[w3.heap.size + 1]? = some (.cells kv 84 (0, 0)) by rw [e5]; exact setRow_heap _ _ _ _ _ _ hk4)
  have H5 := Lib.hid (show w5.heap[w3.heap.size]? = some (.cells hv 40 (0, 0)) by rw [e5]; exact (setRow_other _ _ _ _ (by omega)).trans hh4)
  have Y4 := Lib.hid y4
  have K4 := Lib.hid hk4
  have E4 := Lib.hid e4
  have E5 := Lib.hid e5
  obtain ⟨hp, ehp⟩ : ∃ hp, hp = w3.heap.size := ⟨_, rfl⟩
  have hrp : w.heap.size < hp := by rw [ehp]; exact row_lt R3.out
  have EHP := Lib.hid ehp
  rw [← ehp] at K5 H5
  clear z4 y4 hk4 hh4 h5 e4 e5 ehp
  go_upto_region 2 with (first
    | ((with_reducible refine wpList_store_row rfl 40 (.tmp 3) (.tmp 22) rfl w3.heap.size hv ?_ ?_ 40 w8 ?_ ?_ ?_ ?_ ?_); (· rfl); (· rfl); (· exact Y4.out); (· exact hi8.out); (· exact hs8.out); (· exact ho8.out))
    | ((with_reducible refine wpList_store_row rfl 84 (.tmp 4) (.tmp 23) rfl (w3.heap.size + 1) kv ?_ ?_ 84 wz ?_ ?_ ?_ ?_ ?_); (· rfl); (· rfl); (· exact (congrArg (fun z : World => z.heap[w3.heap.size + 1]?) E4.out.symm).trans K4.out); (· exact hi64.out); (· exact hs64.out); (· exact ho64.out)))
  show Code.wp _ _ _ _ ((((w3.alloc (.cells w8 40)).alloc (.cells wz 84)).setRow w3.heap.size hv).setRow (w3.heap.size + 1) kv)
  rw [← E4.out, ← E5.out, ← EHP.out]
  have HPl := Lib.hid (show hp + 1 < w5.heap.size from row_lt K5.out)
  clear Y4 K4 E4 E5 EHP HBg HCn hi64 hs64 ho64 hi8 hs8 ho8 HB3 HB2 HB1 R1 R2 R3
  have HM := Lib.hid (show (w5.alloc (.cells #[] 5)).ownsRow w5.heap.size 5 1 (.slice (some ⟨w5.heap.size, 0, none⟩) 0 0) 0 [] from World.ownsRow_made w5 #[] 0 (Nat.le_refl _) (Nat.zero_le _) (by simp))
  have HB6 := Lib.hid ((Below.refl w5.heap.size w5).alloc (Nat.le_refl _) (.cells #[] 5))
  go_upto_block 0 with (first
    | (refine wpList_append_bys rfl (.tmp 26) (.tmp 27) rfl w5.heap.size v1 n (bys f n) (by simp [Act.eval]) (HV1.out.alloc _) (some ⟨w7.heap.size, 0, none⟩) 1 1 (fun _ => 128) (by simp [Act.eval]) HOne.out (fun h => by cases h) (by omega) (HX1.out.alloc HX1.out.size _).size ?_; intro v2 w8' hv2 hg2; have HX2 := Lib.hid (own_grown (HV1.out.alloc _) (HX1.out.alloc HX1.out.size _) hg2 (HX1.out.alloc HX1.out.size _).size); have HV2 := Lib.hid hv2; clear hv2 hg2)
    | (refine wpList_append_bys rfl (.tmp 24) (.tmp 25) rfl w5.heap.size _ 0 [] (by simp [Act.eval]) HM.out A n c f (by simp [Act.eval]) (HL.out.below (HB5.out.trans (HB6.out.mono HB5.out.size))) HZ.out (by omega) HB6.out.size ?_; intro v1 w7 hv1 hg1; have HX1 := Lib.hid (own_grown HM.out HB6.out hg1 HB6.out.size); have HV1 := Lib.hid (show w7.ownsRow w5.heap.size 5 1 v1 n (bys f n) by rw [Nat.zero_add, List.nil_append] at hv1; exact hv1); have HOne := Lib.hid (show Sl (w7.alloc (.cells #[.int .u8 128] 5)) (some ⟨w7.heap.size, 0, none⟩) 1 (fun _ => 128) from ⟨fun _ => (by decide : 128 < 256), fun _ => ⟨w7.heap.size, 0, rfl, by simp, fun i hi => by rw [World.cell?_alloc_new, show 0 + i = 0 by omega]; rfl⟩⟩); clear hv1 hg1))
  obtain ⟨z, ez⟩ : ∃ z, z = (119 - n % 64) % 64 := ⟨_, rfl⟩
  have hz64 : z < 64 := by omega
  have hT : n + 9 + z = padLen n := by rw [ez]; unfold padLen; omega
  have hTm := padLen_mod n
  have EZ := Lib.hid ez
  have ET := Lib.hid hT
  have hv := HV2.out
  rw [pz_one] at hv
  obtain ⟨A2, c2, rfl, _, _, _⟩ := own_sl2 hv (pz_lt HL.out.small)
  have HV := Lib.hid hv
  clear hv ez HM HB6 HX1 HV1 HOne HV2
  go_wp2
  go_loopw [5] (fun v wr => ∃ j : Nat, ∃ A' c', j ≤ z ∧ v = .slice A' (n + 1 + j) c' ∧ wr.ownsRow w5.heap.size 5 1 (.slice A' (n + 1 + j) c') (n + 1 + j) (bys (pz n f) (n + 1 + j)) ∧ Below w5.heap.size w5 wr) (fun v _ => match v with | .slice _ l _ => n + 1 + z - l | _ => 0)
  case atStart => exact ⟨0, A2, c2, by omega, rfl, HV.out, HX2.out⟩
  case round =>
    obtain ⟨j, A', c', hj, rfl, ho, hb⟩ := hrel
    have HO := Lib.hid ho
    have HB := Lib.hid hb
    have hsm : n + 1 + j ≤ 1049000 := by omega
    obtain ⟨l, el⟩ : ∃ l, l = n + 1 + j := ⟨_, rfl⟩
    have EL := Lib.hid el
    rw [← el] at HO ho ⊢
    have hl2 : l ≤ 1049000 := by omega
    by_cases hlt : j < z
    · have p1 : ((l : Int) % 64 != 56) = true := by rw [bne_iff_ne]; have := EZ.out; omega
      have p2 : ((l : Int).tmod 64 != 56) = true := by rw [Int.tmod_eq_emod_of_nonneg (by omega)]; exact p1
      have HOne := Lib.hid (show Sl (wr.alloc (.cells #[.int .u8 0] 5)) (some ⟨wr.heap.size, 0, none⟩) 1 (fun _ => 0) from ⟨fun _ => (by decide : 0 < 256), fun _ => ⟨wr.heap.size, 0, rfl, by simp, fun i hi => by rw [World.cell?_alloc_new, show 0 + i = 0 by omega]; rfl⟩⟩)
      clear ho hb hTm hT el
      go_wp2_with (refine wpList_append_bys rfl (.tmp 33) (.tmp 34) rfl w5.heap.size (.slice A' l c') l (bys (pz n f) l) (by simp [Act.eval]) (HO.out.alloc _) (some ⟨wr.heap.size, 0, none⟩) 1 1 (fun _ => 0) (by simp [Act.eval]) HOne.out (fun h => by cases h) (by omega) (HB.out.alloc HB.out.size _).size ?_; intro v2 w8' hv2 hg2; have HX3 := Lib.hid (own_grown (HO.out.alloc _) (HB.out.alloc HB.out.size _) hg2 (HB.out.alloc HB.out.size _).size); have HV3 := Lib.hid hv2; clear hv2 hg2)
      have hv := HV3.out
      rw [EL.out, pz_more] at hv
      obtain ⟨A3, c3, rfl, _, _, _⟩ := own_sl2 hv (pz_lt HL.out.small)
      refine ⟨⟨j + 1, A3, c3, by omega, rfl, hv, HX3.out⟩, ?_⟩
      show n + 1 + z - (n + 1 + (j + 1)) < n + 1 + z - l
      have := EL.out
      omega
    · obtain rfl : j = z := by omega
      have p1 : ((l : Int) % 64 != 56) = false := by rw [bne_eq_false_iff_eq]; have := EZ.out; omega
      have p2 : ((l : Int).tmod 64 != 56) = false := by rw [Int.tmod_eq_emod_of_nonneg (by omega)]; exact p1
      have hv := HO.out
      rw [EL.out, pz_pad n f EZ.out, ← EL.out] at hv
      have HV4 := Lib.hid hv
      clear ho hb hv HO el
      obtain ⟨z, rfl⟩ : ∃ z, z = j := ⟨_, rfl⟩
      obtain ⟨wa, rfl⟩ : ∃ wa, wa = wr := ⟨_, rfl⟩
      obtain ⟨D, eD⟩ : ∃ D, D = n * 8 := ⟨_, rfl⟩
      have hD : D < 18446744073709551616 := by omega
      have e3 : IntKind.u64.wrap ((n : Int) * 8) = (D : Int) := by rw [IntKind.wrap_u64]; omega
      have e3' : (n : Int) * 8 = (D : Int) := by omega
      have ED := Lib.hid eD
      have HBa := Lib.hid HB.out
      clear eD HB hlt
      go_wp2
      go_loopw [5, 6] (fun v i wr => ∃ j : Nat, ∃ A' c', j ≤ 8 ∧ i = .int .i64 (7 - (j : Int)) ∧ v = .slice A' (n + 1 + z + j) c' ∧ wr.ownsRow w5.heap.size 5 1 (.slice A' (n + 1 + z + j) c') (n + 1 + z + j) (bys (padB n f) (n + 1 + z + j)) ∧ Below w5.heap.size w5 wr) (fun _ i _ => (intOf i + 1).toNat)
      case atStart => exact ⟨0, A', c', by omega, rfl, by rw [EL.out]; rfl, by rw [EL.out] at HV4; exact HV4.out, HBa.out⟩
      case round =>
        obtain ⟨j, A3, c3, hj, rfl, rfl, ho, hb⟩ := hrel
        have HO := Lib.hid ho
        have HB := Lib.hid hb
        obtain ⟨l2, el2⟩ : ∃ l, l = n + 1 + z + j := ⟨_, rfl⟩
        have EL2 := Lib.hid el2
        rw [← el2] at HO ho ⊢
        have hl3 : l2 ≤ 1049000 := by omega
        by_cases hlt : j < 8
        · obtain ⟨q, eq⟩ : ∃ q, q = 7 - j := ⟨_, rfl⟩
          have v0 : 7 - (j : Int) = (q : Int) := by omega
          have hq : q ≤ 7 := by omega
          obtain ⟨sh, esh⟩ : ∃ sh, sh = 8 * q := ⟨_, rfl⟩
          have hsh : sh ≤ 56 := by omega
          have v1 : 8 * (q : Int) = (sh : Int) := by omega
          obtain ⟨y, ey⟩ : ∃ y, y = D >>> sh := ⟨_, rfl⟩
          have v2 : (D : Int) / 2 ^ sh = (y : Int) := by rw [ey]; exact shr_run D sh
          obtain ⟨x, ex⟩ : ∃ x, x = y % 256 := ⟨_, rfl⟩
          have v3 : (y : Int) % 256 = (x : Int) := by omega
          have v4 : IntKind.u8.wrap (y : Int) = (x : Int) := by rw [IntKind.wrap_u8]; omega
          have hx256 : x < 256 := by omega
          have HX := Lib.hid (show x = (n * 8) >>> (8 * (7 - j)) % 256 by rw [ex, ey, ED.out, esh, eq])
          have EQ := Lib.hid eq
          have HOne := Lib.hid (show Sl (wr.alloc (.cells #[.int .u8 (x : Nat)] 5)) (some ⟨wr.heap.size, 0, none⟩) 1 (fun _ => x) from ⟨fun _ => hx256, fun _ => ⟨wr.heap.size, 0, rfl, by simp, fun i hi => by rw [World.cell?_alloc_new, show 0 + i = 0 by omega]; rfl⟩⟩)
          clear ho hb hTm hT ex ey esh el2 eq
          rw [v0]
          go_wp2_with (refine wpList_append_bys rfl (.tmp 40) (.tmp 50) rfl w5.heap.size (.slice A3 l2 c3) l2 (bys (padB n f) l2) (by simp [Act.eval]) (HO.out.alloc _) (some ⟨wr.heap.size, 0, none⟩) 1 1 (fun _ => x) (by simp [Act.eval]) HOne.out (fun h => by cases h) (by omega) (HB.out.alloc HB.out.size _).size ?_; intro v2 w8' hv2 hg2; have HX3 := Lib.hid (own_grown (HO.out.alloc _) (HB.out.alloc HB.out.size _) hg2 (HB.out.alloc HB.out.size _).size); have HV3 := Lib.hid hv2; clear hv2 hg2)
          have hv := HV3.out
          rw [EL2.out, pad_more n f EZ.out hlt HX.out] at hv
          obtain ⟨A4, c4, rfl, _, _, _⟩ := own_sl2 hv (padB_lt HL.out.small)
          refine ⟨⟨j + 1, A4, c4, by omega, ?_, rfl, hv, HX3.out⟩, by have := EQ.out; simp [intOf] <;> omega⟩
          have := EQ.out
          congr 1
          omega
        · obtain rfl : j = 8 := by omega
          have p3 : ¬ (0 : Int) ≤ 7 - ((8 : Nat) : Int) := by omega
          obtain ⟨AA, cc, hAA, hsl, hcc, hcm⟩ := own_sl2 HO.out (padB_lt HL.out.small)
          have hT2 : l2 = padLen n := by have := ET.out; omega
          have hob : ∃ gb, AA = some ⟨gb, 0, none⟩ ∧ w5.heap.size ≤ gb := by
            rcases HO.out.2 with ⟨h1, _⟩ | ⟨gb, cap, cur, h1, hbase, _⟩
            · rw [hAA] at h1; injection h1 with q1 q2 q3; omega
            · rw [hAA] at h1; injection h1 with q1 q2 q3
              exact ⟨gb, q1, hbase⟩
          obtain ⟨gb, rfl, hgb⟩ := hob
          injection hAA with q1 q2 q3
          subst q1 q3
          obtain ⟨wc, rfl⟩ : ∃ wc, wc = wr := ⟨_, rfl⟩
          obtain ⟨gp, egp⟩ : ∃ gp, gp = padB n f := ⟨_, rfl⟩
          rw [← egp] at hsl
          have HGp := Lib.hid (show ∀ i, gp i < 256 by rw [egp]; exact padB_lt HL.out.small)
          have EGP := Lib.hid egp
          have HSl := Lib.hid hsl
          have HT2 := Lib.hid (show l2 = padLen n ∧ l2 % 64 = 0 by rw [hT2]; exact ⟨rfl, hTm⟩)
          have hT64 : l2 % 64 = 0 := HT2.out.2
          have HBc := Lib.hid (HB5.out.trans (HB.out.mono HB5.out.size))
          have Rc := Lib.hid ((HB.out.block _ (row_lt R5.out)).trans R5.out)
          have Kc := Lib.hid ((HB.out.block _ (row_lt K5.out)).trans K5.out)
          have Hc := Lib.hid ((HB.out.block _ (row_lt H5.out)).trans H5.out)
          have hgp : gb ≠ hp := by have := HPl.out; omega
          clear ho hb hT hTm el2 hT2 egp hsl HO HB HV4 HBa HB5 R5 K5 H5 HV HX2 hl2 ET EL e3 e3' hD
          go_wp2
          go_loopw [7] (fun i wr => ∃ q : Nat, q ≤ l2 / 64 ∧ i = .int .i64 ((64 * q : Nat) : Int) ∧ wr.heap[hp]? = some (.cells (vals .u32 (hashN gp q) 8).toArray 40 (0, 0)) ∧ Only hp wc wr) (fun i _ => l2 - (intOf i).toNat)
          case atStart => exact ⟨0, Nat.zero_le _, rfl, by rw [Hc.out, EHV.out]; rfl, Only.refl _ _⟩
          case round =>
            obtain ⟨q, hq, rfl, hr, hon⟩ := hrel
            have HR := Lib.hid hr
            have HOn := Lib.hid hon
            obtain ⟨a0, ea0⟩ : ∃ a, a = 64 * q := ⟨_, rfl⟩
            rw [← ea0]
            have EA0 := Lib.hid ea0
            have ha0 : a0 ≤ 1049000 := by omega
            by_cases hlt : q < l2 / 64
            · have p4 : (a0 : Int) < l2 := by omega
              have hal : a0 + 64 ≤ l2 := by omega
              obtain ⟨wb, rfl⟩ : ∃ wb, wb = wr := ⟨_, rfl⟩
              obtain ⟨gq, egq⟩ : ∃ gq : Nat → Nat, gq = fun k => gp (a0 + k) := ⟨_, rfl⟩
              have HGq := Lib.hid (show ∀ i, gq i < 256 by rw [egq]; exact fun i => HGp.out _)
              have EGQ := Lib.hid egq
              have HSb := Lib.hid (HSl.out.only hon (fun _ a ha => by cases ha; exact hgp))
              have hpb : hp < wb.heap.size := row_lt hr
              clear hr hon ea0 egq hq
              go_wp2
              go_loopw [9] (fun i wr => ∃ j : Nat, j ≤ 64 ∧ i = .int .i64 (j : Nat) ∧ wr.heap[wb.heap.size]? = some (.cells (vals .u32 (fun i => (msg gq j).getD i 0) 64).toArray 84 (0, 0)) ∧ Below wb.heap.size wb wr) (fun i _ => 64 - (intOf i).toNat)
              case atStart =>
                refine ⟨0, by omega, rfl, ?_, (Below.refl _ _).alloc (Nat.le_refl _) _⟩
                exact (heap_alloc_new _ _).trans (by kernel_rfl)
              case round =>
                obtain ⟨j, hj, rfl, hr, hb⟩ := hrel
                have J1 := Lib.hid hr
                have JB := Lib.hid hb
                by_cases hlt : j < 64
                · have p5 : (j : Int) < 64 := by omega
                  by_cases h16 : j < 16
                  · have p6 : (j : Int) < 16 := by omega
                    clear hr hb
                    obtain ⟨wj, rfl⟩ : ∃ wj, wj = wr := ⟨_, rfl⟩
                    go_wp2
                    go_loopw [10] (fun i wr => ∃ k : Nat, k ≤ 4 ∧ i = .int .i64 (k : Nat) ∧ wr.heap[wb.heap.size]? = some (.cells (vals .u32 (upd (fun i => (msg gq j).getD i 0) j (pw gq j k)) 64).toArray 84 (0, 0)) ∧ Below wb.heap.size wb wr) (fun i _ => 4 - (intOf i).toNat)
                    case atStart => exact ⟨0, by omega, rfl, by rw [upd_self (fun i => (msg gq j).getD i 0) j (show (msg gq j).getD j 0 = pw gq j 0 from msg_getD0 gq)]; exact J1.out, JB.out⟩
                    case round =>
                      obtain ⟨k, hk, rfl, hr, hb⟩ := hrel
                      have L1 := Lib.hid hr
                      have LB := Lib.hid hb
                      by_cases hk4 : k < 4
                      · have p7 : (k : Int) < 4 := by omega
                        have c1 : wr.cell? ⟨wb.heap.size, j, none⟩ = some (.int .u32 (pw gq j k : Nat)) := (row_cell hr).trans (by rw [List.getElem?_toArray, vals_get _ _ hlt, upd_same])
                        have f1 : wr.frozen? ⟨wb.heap.size, j, none⟩ = false := row_free hr
                        obtain ⟨g', o', ega, hgl, hcc'⟩ := HSb.out.at_ (by omega)
                        injection ega with ega
                        injection ega with ega1 ega2 ega3
                        subst ega1 ega2
                        have c2 : wr.cell? ⟨gb, a0 + 4 * j + k, none⟩ = some (.int .u8 (gp (a0 + 4 * j + k) : Nat)) := (hb.cell (p := ⟨gb, _, none⟩) hgl).trans (by have := hcc' (a0 + 4 * j + k) (by omega); rw [Nat.zero_add] at this; exact this)
                        obtain ⟨x, ex⟩ : ∃ x, x = pw gq j k := ⟨_, rfl⟩
                        obtain ⟨y, ey⟩ : ∃ y, y = gp (a0 + 4 * j + k) := ⟨_, rfl⟩
                        rw [← ex] at c1
                        rw [← ey] at c2
                        have hx : x < 2 ^ 24 := by rw [ex]; exact Nat.lt_of_lt_of_le (pw_lt HGq.out j k (by omega)) (Nat.pow_le_pow_right (by decide) (by omega))
                        have hy : y < 256 := by rw [ey]; exact HGp.out _
                        obtain ⟨s, es⟩ : ∃ s, s = x <<< 8 := ⟨_, rfl⟩
                        have es2 : s = x * 256 := by rw [es, Nat.shiftLeft_eq]
                        have hs : s < 2 ^ 32 := by omega
                        have v1 : IntKind.u32.wrap ((x : Int) * 256) = (s : Int) := by rw [es2, IntKind.wrap_u32]; omega
                        have v2 : IntKind.u32.wrap (y : Int) = (y : Int) := wrap_u32 (by omega)
                        obtain ⟨r, er⟩ : ∃ r, r = s ||| y := ⟨_, rfl⟩
                        have v3 : bits .or .u32 (s : Int) (y : Int) = (r : Int) := by rw [er]; exact bits_or32 hs (by omega)
                        have HRr := Lib.hid (show r = pw gq j (k + 1) by rw [er, es, ex, ey]; show _ = pw gq j k <<< 8 ||| gq (4 * j + k); rw [EGQ.out, Nat.add_assoc])
                        have n1 : ((a0 : Int) + 4 * (j : Int) + (k : Int)).toNat = a0 + 4 * j + k := by omega
                        have n2 : (0 : Int) ≤ (a0 : Int) + 4 * (j : Int) + (k : Int) := by omega
                        have n3 : (a0 : Int) + 4 * (j : Int) + (k : Int) < (l2 : Int) := by omega
                        have m1 : IntKind.i64.wrap (4 * (j : Int)) = 4 * (j : Int) := IntWalk.i64_in _ (by omega)
                        have m2 : IntKind.i64.wrap ((a0 : Int) + 4 * (j : Int)) = (a0 : Int) + 4 * (j : Int) := IntWalk.i64_in _ (by omega)
                        have m3 : IntKind.i64.wrap ((a0 : Int) + 4 * (j : Int) + (k : Int)) = (a0 : Int) + 4 * (j : Int) + (k : Int) := IntWalk.i64_in _ (by omega)
                        clear hr hb hcc' ex ey es es2 er
                        go_upto_region 20 with fail
                        go_still_tail 17, (by kernel_rfl)
                        clear m1 m2 m3 n1 n2 n3
                        go_wp2
                        refine ⟨⟨k + 1, by omega, by simp, ?_, (LB.out.setCell (Nat.le_refl _) _).drew⟩, by simp [intOf]; omega⟩
                        show (wr.setCell ⟨wb.heap.size, j, none⟩ (.int .u32 (r : Nat))).heap[wb.heap.size]? = _
                        rw [row_set L1.out, vals_set _ _ _ hlt, upd_upd, HRr.out]
                      · obtain rfl : k = 4 := by omega
                        have p7 : ¬ ((4 : Nat) : Int) < 4 := by omega
                        clear hr hb
                        go_wp2
                        refine ⟨⟨j + 1, by omega, by simp, ?_, LB.out⟩, by simp [intOf]; omega⟩
                        have h := L1.out
                        rw [msg_put gq (by rw [if_pos h16]; exact pw_word gq j)] at h
                        exact h
                  · have p6 : ¬ (j : Int) < 16 := by omega
                    have h16' : 16 ≤ j := by omega
                    obtain ⟨wj, rfl⟩ : ∃ wj, wj = wr := ⟨_, rfl⟩
                    have q16 : (16 : Int) ≤ (j : Int) := by omega
                    have q15 : (15 : Int) ≤ (j : Int) := by omega
                    have q7 : (7 : Int) ≤ (j : Int) := by omega
                    have q2 : (2 : Int) ≤ (j : Int) := by omega
                    have i16 : IntKind.i64.wrap ((j : Int) - 16) = (j : Int) - 16 := IntWalk.i64_in _ (by omega)
                    have n16 : ((j : Int) - 16).toNat = j - 16 := by omega
                    have z16 : (0 : Int) ≤ (j : Int) - 16 := by omega
                    have b16 : (j : Int) - 16 < 64 := by omega
                    have i15 : IntKind.i64.wrap ((j : Int) - 15) = (j : Int) - 15 := IntWalk.i64_in _ (by omega)
                    have n15 : ((j : Int) - 15).toNat = j - 15 := by omega
                    have z15 : (0 : Int) ≤ (j : Int) - 15 := by omega
                    have b15 : (j : Int) - 15 < 64 := by omega
                    have i7 : IntKind.i64.wrap ((j : Int) - 7) = (j : Int) - 7 := IntWalk.i64_in _ (by omega)
                    have n7 : ((j : Int) - 7).toNat = j - 7 := by omega
                    have z7 : (0 : Int) ≤ (j : Int) - 7 := by omega
                    have b7 : (j : Int) - 7 < 64 := by omega
                    have i2 : IntKind.i64.wrap ((j : Int) - 2) = (j : Int) - 2 := IntWalk.i64_in _ (by omega)
                    have n2 : ((j : Int) - 2).toNat = j - 2 := by omega
                    have z2 : (0 : Int) ≤ (j : Int) - 2 := by omega
                    have b2 : (j : Int) - 2 < 64 := by omega
                    have cw : ∀ m, m < 64 → wj.cell? ⟨wb.heap.size, m, none⟩ = some (.int .u32 ((msg gq j).getD m 0 : Nat)) := fun m hm => (row_cell hr).trans (by rw [List.getElem?_toArray]; exact vals_get _ _ hm)
                    have y16 := cw (j - 16) (by omega)
                    have y15 := cw (j - 15) (by omega)
                    have y7 := cw (j - 7) (by omega)
                    have y2 := cw (j - 2) (by omega)
                    have cl := cw j hlt
                    have gl : wj.frozen? ⟨wb.heap.size, j, none⟩ = false := row_free hr
                    obtain ⟨x16, e16⟩ : ∃ x, x = (msg gq j).getD (j - 16) 0 := ⟨_, rfl⟩
                    obtain ⟨x15, e15⟩ : ∃ x, x = (msg gq j).getD (j - 15) 0 := ⟨_, rfl⟩
                    obtain ⟨x7, e7⟩ : ∃ x, x = (msg gq j).getD (j - 7) 0 := ⟨_, rfl⟩
                    obtain ⟨x2, e2⟩ : ∃ x, x = (msg gq j).getD (j - 2) 0 := ⟨_, rfl⟩
                    rw [← e16] at y16
                    rw [← e15] at y15
                    rw [← e7] at y7
                    rw [← e2] at y2
                    have l16 : x16 < 2 ^ 32 := by rw [e16]; exact msg_lt HGq.out _ _
                    have l15 : x15 < 2 ^ 32 := by rw [e15]; exact msg_lt HGq.out _ _
                    have l7 : x7 < 2 ^ 32 := by rw [e7]; exact msg_lt HGq.out _ _
                    have l2 : x2 < 2 ^ 32 := by rw [e2]; exact msg_lt HGq.out _ _
                    have T7 := Lib.hid (fun w => turn_walk x15 7 7 w rfl l15 (by omega) (by omega))
                    have T18 := Lib.hid (fun w => turn_walk x15 18 18 w rfl l15 (by omega) (by omega))
                    have T17 := Lib.hid (fun w => turn_walk x2 17 17 w rfl l2 (by omega) (by omega))
                    have T19 := Lib.hid (fun w => turn_walk x2 19 19 w rfl l2 (by omega) (by omega))
                    obtain ⟨ra, ea⟩ : ∃ x, x = rotr x15 7 := ⟨_, rfl⟩
                    obtain ⟨rb, eb⟩ : ∃ x, x = rotr x15 18 := ⟨_, rfl⟩
                    obtain ⟨rc, ec⟩ : ∃ x, x = rotr x2 17 := ⟨_, rfl⟩
                    obtain ⟨rd, ed⟩ : ∃ x, x = rotr x2 19 := ⟨_, rfl⟩
                    rw [← ea] at T7
                    rw [← eb] at T18
                    rw [← ec] at T17
                    rw [← ed] at T19
                    obtain ⟨sa, esa⟩ : ∃ x, x = x15 >>> 3 := ⟨_, rfl⟩
                    obtain ⟨sb, esb⟩ : ∃ x, x = x2 >>> 10 := ⟨_, rfl⟩
                    have v1 : (x15 : Int) / 8 = (sa : Int) := by rw [esa, Nat.shiftRight_eq_div_pow]; omega
                    have v2 : (x2 : Int) / 1024 = (sb : Int) := by rw [esb, Nat.shiftRight_eq_div_pow]; omega
                    have la : ra < 2 ^ 32 := by rw [ea]; exact rotr_lt l15 _
                    have lb : rb < 2 ^ 32 := by rw [eb]; exact rotr_lt l15 _
                    have lc : rc < 2 ^ 32 := by rw [ec]; exact rotr_lt l2 _
                    have ld : rd < 2 ^ 32 := by rw [ed]; exact rotr_lt l2 _
                    have lsa : sa < 2 ^ 32 := by rw [esa]; exact shr_lt l15 _
                    have lsb : sb < 2 ^ 32 := by rw [esb]; exact shr_lt l2 _
                    obtain ⟨xa1, f1⟩ : ∃ x, x = ra ^^^ rb := ⟨_, rfl⟩
                    obtain ⟨xb1, f2⟩ : ∃ x, x = rc ^^^ rd := ⟨_, rfl⟩
                    have la1 : xa1 < 2 ^ 32 := by rw [f1]; exact xor_lt32 la lb
                    have lb1 : xb1 < 2 ^ 32 := by rw [f2]; exact xor_lt32 lc ld
                    have v3 : bits .xor .u32 (ra : Int) (rb : Int) = (xa1 : Int) := by rw [f1]; exact bits_xor32 la lb
                    have v4 : bits .xor .u32 (rc : Int) (rd : Int) = (xb1 : Int) := by rw [f2]; exact bits_xor32 lc ld
                    obtain ⟨xa, f3⟩ : ∃ x, x = xa1 ^^^ sa := ⟨_, rfl⟩
                    obtain ⟨xb, f4⟩ : ∃ x, x = xb1 ^^^ sb := ⟨_, rfl⟩
                    have lxa : xa < 2 ^ 32 := by rw [f3]; exact xor_lt32 la1 lsa
                    have lxb : xb < 2 ^ 32 := by rw [f4]; exact xor_lt32 lb1 lsb
                    have v5 : bits .xor .u32 (xa1 : Int) (sa : Int) = (xa : Int) := by rw [f3]; exact bits_xor32 la1 lsa
                    have v6 : bits .xor .u32 (xb1 : Int) (sb : Int) = (xb : Int) := by rw [f4]; exact bits_xor32 lb1 lsb
                    obtain ⟨c1, g1⟩ : ∃ x, x = (x16 + xa) % 2 ^ 32 := ⟨_, rfl⟩
                    obtain ⟨c2, g2⟩ : ∃ x, x = (c1 + x7) % 2 ^ 32 := ⟨_, rfl⟩
                    obtain ⟨c3, g3⟩ : ∃ x, x = (c2 + xb) % 2 ^ 32 := ⟨_, rfl⟩
                    have v7 : IntKind.u32.wrap ((x16 : Int) + (xa : Int)) = (c1 : Int) := by rw [g1, IntKind.wrap_u32]; omega
                    have v8 : IntKind.u32.wrap ((c1 : Int) + (x7 : Int)) = (c2 : Int) := by rw [g2, IntKind.wrap_u32]; omega
                    have v9 : IntKind.u32.wrap ((c2 : Int) + (xb : Int)) = (c3 : Int) := by rw [g3, IntKind.wrap_u32]; omega
                    have HW := Lib.hid (show c3 = if j < 16 then wordAt gq j else nextW (msg gq j) j by
                      rw [if_neg (by omega)]
                      unfold nextW
                      rw [← e16, ← e15, ← e7, ← e2, show small0 x15 = xa by unfold small0; rw [← ea, ← eb, ← esa, ← f1, ← f3], show small1 x2 = xb by unfold small1; rw [← ec, ← ed, ← esb, ← f2, ← f4], g3, g2, g1]
                      omega)
                    have TT7 := Lib.hid (fun W => (T7.out W).mono (R' := fun e w' => e = .returned (.int .u32 (ra : Nat)) ∧ w' = W) fun _ _ ⟨h, q⟩ => ⟨h, q.symm⟩)
                    have TT18 := Lib.hid (fun W => (T18.out W).mono (R' := fun e w' => e = .returned (.int .u32 (rb : Nat)) ∧ w' = W) fun _ _ ⟨h, q⟩ => ⟨h, q.symm⟩)
                    have TT17 := Lib.hid (fun W => (T17.out W).mono (R' := fun e w' => e = .returned (.int .u32 (rc : Nat)) ∧ w' = W) fun _ _ ⟨h, q⟩ => ⟨h, q.symm⟩)
                    have TT19 := Lib.hid (fun W => (T19.out W).mono (R' := fun e w' => e = .returned (.int .u32 (rd : Nat)) ∧ w' = W) fun _ _ ⟨h, q⟩ => ⟨h, q.symm⟩)
                    clear hr hb cw e16 e15 e7 e2 ea eb ec ed esa esb f1 f2 f3 f4 g1 g2 g3 la lb lc ld lsa lsb la1 lb1
                    go_upto_region 21 with fail
                    go_quiet (fail)
                    go_upto_region 22 with fail
                    refine ((?_ : ∀ W : World, W.heap = wj.heap → Below wb.heap.size wb W → Code.wp _ _ _ _ W) _ rfl ⟨JB.out.os, JB.out.tape, JB.out.output, JB.out.size, JB.out.block⟩)
                    intro W hW hWB
                    have HWB := Lib.hid hWB
                    have HWR := Lib.hid ((show W.heap[wb.heap.size]? = wj.heap[wb.heap.size]? by rw [hW]).trans J1.out)
                    have cW : ∀ p, W.cell? p = wj.cell? p := fun p => World.cell?_of_block (w := wj) (by rw [hW])
                    have fW : ∀ p, W.frozen? p = wj.frozen? p := fun p => World.frozen?_of_block (w := wj) (by rw [hW])
                    rw [← cW] at y16 y7 cl
                    rw [← fW] at gl
                    clear hW hWB cW fW y15 y2
                    refine wp_region_still_tail 29 (by kernel_rfl) (by kernel_rfl) ?_
                    simp only [List.take_succ_cons, List.take_zero, List.drop_succ_cons, List.drop_zero]
                    repeat (refine wpStill_step (fun K hK => ?_); go_simp; (first | (with_reducible refine hK _ ?_) | (with_reducible refine ⟨_, TT7.out _, hK _ ?_⟩) | (with_reducible refine ⟨_, TT18.out _, hK _ ?_⟩) | (with_reducible refine ⟨_, TT17.out _, hK _ ?_⟩) | (with_reducible refine ⟨_, TT19.out _, hK _ ?_⟩)); clear hK K)
                    try refine wpStill_nil ?_
                    go_wp2
                    refine ⟨⟨j + 1, by omega, by simp, ?_, (HWB.out.setCell (Nat.le_refl _) _).drew⟩, by simp [intOf]; omega⟩
                    show (World.setCell _ ⟨wb.heap.size, j, none⟩ (.int .u32 (c3 : Nat))).heap[wb.heap.size]? = _
                    rw [row_set HWR.out, vals_set _ _ _ hlt, msg_put gq HW.out]
                · obtain rfl : j = 64 := by omega
                  have p5 : ¬ ((64 : Nat) : Int) < 64 := by omega
                  clear hr hb
                  obtain ⟨wm, rfl⟩ : ∃ wm, wm = wr := ⟨_, rfl⟩
                  obtain ⟨hq, ehq⟩ : ∃ hq, hq = hashN gp q := ⟨_, rfl⟩
                  have HHb := Lib.hid (show ∀ i, hq i < 2 ^ 32 by rw [ehq]; exact hashN_lt _ _)
                  have HRm := Lib.hid (show wm.heap[hp]? = some (.cells (vals .u32 hq 8).toArray 40 (0, 0)) by rw [ehq]; exact (JB.out.block _ hpb).trans HR.out)
                  have HKm := Lib.hid (show Arr .u32 wm (hp + 1) 64 cubeK by
                    have k1 := (HOn.out.row _ (row_lt Kc.out) (by omega)).trans Kc.out
                    have k2 := (JB.out.block _ (row_lt k1)).trans k1
                    exact consts_arr (by rw [k2, EKV.out]))
                  have hkl : hp + 1 < wm.heap.size := by
                    have k1 := (HOn.out.row _ (row_lt Kc.out) (by omega)).trans Kc.out
                    exact Nat.lt_of_lt_of_le (row_lt k1) JB.out.size
                  have HOm := Lib.hid (HOn.out.trans (Only.of_below (sp := hp) JB.out))
                  have EHQ := Lib.hid ehq
                  have hqi := Lib.hid (show (Try.prog.info? 40).map (·.size) = some (vals .u32 hq 8).toArray.size by rw [List.size_toArray, vals_length]; exact w8_info)
                  have hqs := Lib.hid (show w8.size = (vals .u32 hq 8).toArray.size by rw [w8_vals, List.size_toArray, List.size_toArray, vals_length, vals_length])
                  clear ehq
                  go_upto_region 24 with (first
                    | ((with_reducible refine wpList_load_row rfl 40 (.tmp 3) rfl hp ?_ 40 (vals .u32 hq 8).toArray (0, 0) _ ?_ Try.underlying40 ?_ ?_ ?_); (· rfl); (· exact HRm.out); (· rfl); (· exact hqi.out))
                    | ((with_reducible refine wpList_store_row rfl 40 (.tmp 13) (.tmp 122) rfl wm.heap.size (vals .u32 hq 8).toArray ?_ ?_ 40 w8 ?_ ?_ ?_ ?_ ?_); (· rfl); (· rfl); (· exact heap_alloc_new _ _); (· exact hqi.out); (· exact hqs.out); (· exact vals_all _ _ _)))
                  go_wp2
                  go_loopw [14] (fun i wx => ∃ n : Nat, n ≤ 64 ∧ i = .int .i64 (n : Nat) ∧ wx.heap[wm.heap.size]? = some (.cells (vals .u32 (rnds cubeK (msg gq 64) (St.of hq) n).at 8).toArray 40 (0, 0)) ∧ Below wm.heap.size wm wx) (fun i _ => 64 - (intOf i).toNat)
                  case atStart =>
                    refine ⟨0, by omega, rfl, ?_, below_setRow ((Below.refl _ _).alloc (Nat.le_refl _) _) (Nat.le_refl _) _⟩
                    exact (setRow_heap _ _ w8 _ _ _ (heap_alloc_new _ _)).trans (by rfl)
                  case round =>
                    obtain ⟨n, hn, rfl, ha, hx⟩ := hrel
                    have hok := rnds_ok cubeK (msg gq 64) (s := St.of hq) ⟨HHb.out _, HHb.out _, HHb.out _, HHb.out _, HHb.out _, HHb.out _, HHb.out _, HHb.out _⟩ n
                    by_cases hlt : n < 64
                    · have p3 : (n : Int) < 64 := by omega
                      have z3 : (0 : Int) ≤ (n : Int) := by omega
                      have HX := Lib.hid hx
                      obtain ⟨s, es⟩ : ∃ s, s = rnds cubeK (msg gq 64) (St.of hq) n := ⟨_, rfl⟩
                      rw [← es] at hok ha
                      obtain ⟨a, b, c, d, e, f', g, hh⟩ := s
                      have cl : ∀ i, i < 8 → wr.cell? ⟨wm.heap.size, i, none⟩ = some (.int .u32 ((⟨a, b, c, d, e, f', g, hh⟩ : St).at i : Nat)) := fun i hi => (row_cell ha).trans (by rw [List.getElem?_toArray]; exact vals_get _ _ hi)
                      have y0 := cl 0 (by omega)
                      have y1 := cl 1 (by omega)
                      have y2 := cl 2 (by omega)
                      have y3 := cl 3 (by omega)
                      have y4 := cl 4 (by omega)
                      have y5 := cl 5 (by omega)
                      have y6 := cl 6 (by omega)
                      have y7 := cl 7 (by omega)
                      simp only [St.at] at y0 y1 y2 y3 y4 y5 y6 y7
                      obtain ⟨la, lb, lc, ld, le, lf, lg, lh⟩ := hok
                      simp only at la lb lc ld le lf lg lh
                      have HES := Lib.hid es
                      obtain ⟨k, ek⟩ : ∃ x, x = cubeK n := ⟨_, rfl⟩
                      obtain ⟨m, em⟩ : ∃ x, x = (msg gq 64).getD n 0 := ⟨_, rfl⟩
                      have lk : k < 2 ^ 32 := by rw [ek]; exact HKl.out _
                      have lm : m < 2 ^ 32 := by rw [em]; exact msg_lt HGq.out _ _
                      have yk : wr.cell? ⟨hp + 1, n, none⟩ = some (.int .u32 (k : Nat)) := by rw [ek]; exact (hx.cell (p := ⟨hp + 1, n, none⟩) hkl).trans (HKm.out.cell n hlt)
                      have ym : wr.cell? ⟨wb.heap.size, n, none⟩ = some (.int .u32 (m : Nat)) := by rw [em]; exact (hx.cell (p := ⟨wb.heap.size, n, none⟩) (row_lt J1.out)).trans ((row_cell J1.out).trans (by rw [List.getElem?_toArray]; exact vals_get _ _ hlt))
                      have T2 := Lib.hid (turn_q2 a la)
                      obtain ⟨o2, eo2⟩ : ∃ x, x = rotr a 2 := ⟨_, rfl⟩
                      rw [← eo2] at T2
                      have lo2 : o2 < 2 ^ 32 := by rw [eo2]; exact rotr_lt la _
                      have T13 := Lib.hid (turn_q13 a la)
                      obtain ⟨o13, eo13⟩ : ∃ x, x = rotr a 13 := ⟨_, rfl⟩
                      rw [← eo13] at T13
                      have lo13 : o13 < 2 ^ 32 := by rw [eo13]; exact rotr_lt la _
                      have T22 := Lib.hid (turn_q22 a la)
                      obtain ⟨o22, eo22⟩ : ∃ x, x = rotr a 22 := ⟨_, rfl⟩
                      rw [← eo22] at T22
                      have lo22 : o22 < 2 ^ 32 := by rw [eo22]; exact rotr_lt la _
                      have T6 := Lib.hid (turn_q6 e le)
                      obtain ⟨o6, eo6⟩ : ∃ x, x = rotr e 6 := ⟨_, rfl⟩
                      rw [← eo6] at T6
                      have lo6 : o6 < 2 ^ 32 := by rw [eo6]; exact rotr_lt le _
                      have T11 := Lib.hid (turn_q11 e le)
                      obtain ⟨o11, eo11⟩ : ∃ x, x = rotr e 11 := ⟨_, rfl⟩
                      rw [← eo11] at T11
                      have lo11 : o11 < 2 ^ 32 := by rw [eo11]; exact rotr_lt le _
                      have T25 := Lib.hid (turn_q25 e le)
                      obtain ⟨o25, eo25⟩ : ∃ x, x = rotr e 25 := ⟨_, rfl⟩
                      rw [← eo25] at T25
                      have lo25 : o25 < 2 ^ 32 := by rw [eo25]; exact rotr_lt le _
                      obtain ⟨x1, ex1⟩ : ∃ x, x = o2 ^^^ o13 := ⟨_, rfl⟩
                      have lx1 : x1 < 2 ^ 32 := by rw [ex1]; exact xor_lt32 lo2 lo13
                      have vx1 : bits .xor .u32 (o2 : Int) (o13 : Int) = (x1 : Int) := by rw [ex1]; exact bits_xor32 lo2 lo13
                      obtain ⟨B0, eB0⟩ : ∃ x, x = x1 ^^^ o22 := ⟨_, rfl⟩
                      have lB0 : B0 < 2 ^ 32 := by rw [eB0]; exact xor_lt32 lx1 lo22
                      have vB0 : bits .xor .u32 (x1 : Int) (o22 : Int) = (B0 : Int) := by rw [eB0]; exact bits_xor32 lx1 lo22
                      obtain ⟨x2, ex2⟩ : ∃ x, x = o6 ^^^ o11 := ⟨_, rfl⟩
                      have lx2 : x2 < 2 ^ 32 := by rw [ex2]; exact xor_lt32 lo6 lo11
                      have vx2 : bits .xor .u32 (o6 : Int) (o11 : Int) = (x2 : Int) := by rw [ex2]; exact bits_xor32 lo6 lo11
                      obtain ⟨B1, eB1⟩ : ∃ x, x = x2 ^^^ o25 := ⟨_, rfl⟩
                      have lB1 : B1 < 2 ^ 32 := by rw [eB1]; exact xor_lt32 lx2 lo25
                      have vB1 : bits .xor .u32 (x2 : Int) (o25 : Int) = (B1 : Int) := by rw [eB1]; exact bits_xor32 lx2 lo25
                      obtain ⟨ne, ene⟩ : ∃ x, x = 4294967295 - e := ⟨_, rfl⟩
                      have lne : ne < 2 ^ 32 := by omega
                      have vne : bits .xor .u32 (if IntKind.u32.signed = true then -1 else IntKind.u32.max) (e : Int) = (ne : Int) := by rw [ene]; exact not32 le
                      have lf' := lf
                      obtain ⟨p1x, ep1x⟩ : ∃ x, x = e &&& f' := ⟨_, rfl⟩
                      have lp1x : p1x < 2 ^ 32 := by rw [ep1x]; exact and_lt32 le lf'
                      have vp1x : bits .and .u32 (e : Int) (f' : Int) = (p1x : Int) := by rw [ep1x]; exact bits_and32 le lf'
                      obtain ⟨p2x, ep2x⟩ : ∃ x, x = ne &&& g := ⟨_, rfl⟩
                      have lp2x : p2x < 2 ^ 32 := by rw [ep2x]; exact and_lt32 lne lg
                      have vp2x : bits .and .u32 (ne : Int) (g : Int) = (p2x : Int) := by rw [ep2x]; exact bits_and32 lne lg
                      obtain ⟨ch, ech⟩ : ∃ x, x = p1x ^^^ p2x := ⟨_, rfl⟩
                      have lch : ch < 2 ^ 32 := by rw [ech]; exact xor_lt32 lp1x lp2x
                      have vch : bits .xor .u32 (p1x : Int) (p2x : Int) = (ch : Int) := by rw [ech]; exact bits_xor32 lp1x lp2x
                      obtain ⟨q1, eq1⟩ : ∃ x, x = a &&& b := ⟨_, rfl⟩
                      have lq1 : q1 < 2 ^ 32 := by rw [eq1]; exact and_lt32 la lb
                      have vq1 : bits .and .u32 (a : Int) (b : Int) = (q1 : Int) := by rw [eq1]; exact bits_and32 la lb
                      obtain ⟨q2, eq2⟩ : ∃ x, x = a &&& c := ⟨_, rfl⟩
                      have lq2 : q2 < 2 ^ 32 := by rw [eq2]; exact and_lt32 la lc
                      have vq2 : bits .and .u32 (a : Int) (c : Int) = (q2 : Int) := by rw [eq2]; exact bits_and32 la lc
                      obtain ⟨q3, eq3⟩ : ∃ x, x = q1 ^^^ q2 := ⟨_, rfl⟩
                      have lq3 : q3 < 2 ^ 32 := by rw [eq3]; exact xor_lt32 lq1 lq2
                      have vq3 : bits .xor .u32 (q1 : Int) (q2 : Int) = (q3 : Int) := by rw [eq3]; exact bits_xor32 lq1 lq2
                      obtain ⟨q4, eq4⟩ : ∃ x, x = b &&& c := ⟨_, rfl⟩
                      have lq4 : q4 < 2 ^ 32 := by rw [eq4]; exact and_lt32 lb lc
                      have vq4 : bits .and .u32 (b : Int) (c : Int) = (q4 : Int) := by rw [eq4]; exact bits_and32 lb lc
                      obtain ⟨mj, emj⟩ : ∃ x, x = q3 ^^^ q4 := ⟨_, rfl⟩
                      have lmj : mj < 2 ^ 32 := by rw [emj]; exact xor_lt32 lq3 lq4
                      have vmj : bits .xor .u32 (q3 : Int) (q4 : Int) = (mj : Int) := by rw [emj]; exact bits_xor32 lq3 lq4
                      obtain ⟨t1, et1⟩ : ∃ x, x = (hh + B1) % 2 ^ 32 := ⟨_, rfl⟩
                      have vt1 : IntKind.u32.wrap ((hh : Int) + (B1 : Int)) = (t1 : Int) := by rw [et1, IntKind.wrap_u32]; omega
                      obtain ⟨t2, et2⟩ : ∃ x, x = (t1 + ch) % 2 ^ 32 := ⟨_, rfl⟩
                      have vt2 : IntKind.u32.wrap ((t1 : Int) + (ch : Int)) = (t2 : Int) := by rw [et2, IntKind.wrap_u32]; omega
                      obtain ⟨t3, et3⟩ : ∃ x, x = (t2 + k) % 2 ^ 32 := ⟨_, rfl⟩
                      have vt3 : IntKind.u32.wrap ((t2 : Int) + (k : Int)) = (t3 : Int) := by rw [et3, IntKind.wrap_u32]; omega
                      obtain ⟨t4, et4⟩ : ∃ x, x = (t3 + m) % 2 ^ 32 := ⟨_, rfl⟩
                      have vt4 : IntKind.u32.wrap ((t3 : Int) + (m : Int)) = (t4 : Int) := by rw [et4, IntKind.wrap_u32]; omega
                      obtain ⟨u1, eu1⟩ : ∃ x, x = (B0 + mj) % 2 ^ 32 := ⟨_, rfl⟩
                      have vu1 : IntKind.u32.wrap ((B0 : Int) + (mj : Int)) = (u1 : Int) := by rw [eu1, IntKind.wrap_u32]; omega
                      obtain ⟨u2, eu2⟩ : ∃ x, x = (t4 + u1) % 2 ^ 32 := ⟨_, rfl⟩
                      have vu2 : IntKind.u32.wrap ((t4 : Int) + (u1 : Int)) = (u2 : Int) := by rw [eu2, IntKind.wrap_u32]; omega
                      obtain ⟨z, ez⟩ : ∃ x, x = (d + t4) % 2 ^ 32 := ⟨_, rfl⟩
                      have vz : IntKind.u32.wrap ((d : Int) + (t4 : Int)) = (z : Int) := by rw [ez, IntKind.wrap_u32]; omega
                      have HT := Lib.hid (show (⟨u2, a, b, c, z, e, f', g⟩ : St) = (⟨a, b, c, d, e, f', g, hh⟩ : St).turn k m by
                        have h1 : t4 = (⟨a, b, c, d, e, f', g, hh⟩ : St).t k m := by
                          show t4 = (hh + big1 e + choice e f' g + k + m) % 2 ^ 32
                          rw [show big1 e = B1 by unfold big1; rw [← eo6, ← eo11, ← eo25, ← ex2, ← eB1], show choice e f' g = ch by unfold choice; rw [← ene, ← ep1x, ← ep2x, ← ech]]
                          omega
                        unfold St.turn
                        rw [← h1]
                        simp only [St.mk.injEq, true_and, and_true]
                        refine ⟨?_, ez⟩
                        rw [show big0 a = B0 by unfold big0; rw [← eo2, ← eo13, ← eo22, ← ex1, ← eB0], show major a b c = mj by unfold major; rw [← eq1, ← eq2, ← eq3, ← eq4, ← emj]]
                        omega)
                      have HE := Lib.hid (show k = cubeK n ∧ m = (msg gq 64).getD n 0 from ⟨ek, em⟩)
                      clear eo2 eo13 eo22 eo6 eo11 eo25 ex1 eB0 ex2 eB1 ene ep1x ep2x ech eq1 eq2 eq3 eq4 emj et1 et2 et3 et4 eu1 eu2 ez ek em es
                      have HAr := Lib.hid ha
                      clear ha hx cl
                      go_upto_region 27 with fail
                      go_quiet (fail)
                      go_upto_region 28 with fail
                      refine ((?_ : ∀ W : World, W.heap = wr.heap → Below wm.heap.size wm W → Code.wp _ _ _ _ W) _ rfl ⟨HX.out.os, HX.out.tape, HX.out.output, HX.out.size, HX.out.block⟩)
                      intro W1 hW hWB
                      have HX := Lib.hid hWB
                      have HAr := Lib.hid ((show W1.heap[wm.heap.size]? = wr.heap[wm.heap.size]? by rw [hW]).trans HAr.out)
                      have cW : ∀ p, W1.cell? p = wr.cell? p := fun p => World.cell?_of_block (w := wr) (by rw [hW])
                      rw [← cW] at y0 y1 y2 y3 y4 y5 y6 y7 yk ym
                      clear hW hWB cW
                      go_quiet ((first | (go_at_call 59; with_reducible exact Calls.quiet_of_same (T6.out _)) | (go_at_call 59; with_reducible exact Calls.quiet_of_same (T11.out _)) | (go_at_call 59; with_reducible exact Calls.quiet_of_same (T25.out _))))
                      go_upto_region 29 with fail
                      refine ((?_ : ∀ W : World, W.heap = W1.heap → Below wm.heap.size wm W → Code.wp _ _ _ _ W) _ rfl ⟨HX.out.os, HX.out.tape, HX.out.output, HX.out.size, HX.out.block⟩)
                      intro W2 hW hWB
                      have HX := Lib.hid hWB
                      have HAr := Lib.hid ((show W2.heap[wm.heap.size]? = W1.heap[wm.heap.size]? by rw [hW]).trans HAr.out)
                      have cW : ∀ p, W2.cell? p = W1.cell? p := fun p => World.cell?_of_block (w := W1) (by rw [hW])
                      rw [← cW] at y0 y1 y2 y3 y4 y5 y6 y7
                      clear hW hWB cW
                      go_quiet ((first | (go_at_call 59; with_reducible exact Calls.quiet_of_same (T2.out _)) | (go_at_call 59; with_reducible exact Calls.quiet_of_same (T13.out _)) | (go_at_call 59; with_reducible exact Calls.quiet_of_same (T22.out _))))
                      go_wp2_with ((with_reducible refine wpList_store_row rfl 40 (.tmp 13) (.tmp 204) rfl wm.heap.size (vals .u32 (⟨u2, a, b, c, z, e, f', g⟩ : St).at 8).toArray ?_ ?_ 40 (vals .u32 (⟨a, b, c, d, e, f', g, hh⟩ : St).at 8).toArray ?_ ?_ ?_ ?_ ?_); (· rfl); (· rfl); (· exact HAr.out); (· rfl); (· rfl); (· exact vals_all _ _ _))
                      refine ⟨⟨n + 1, by omega, by simp, ?_, ?_⟩, by simp [intOf]; omega⟩
                      · refine (setRow_heap _ _ _ _ _ _ HAr.out).trans ?_
                        show _ = some (Obj.cells (vals .u32 ((rnds cubeK (msg gq 64) (St.of hq) n).turn (cubeK n) ((msg gq 64).getD n 0)).at 8).toArray _ _)
                        rw [← HES.out, ← HE.out.1, ← HE.out.2, ← HT.out]
                      · exact below_setRow (w := World.drewN W2 _) ⟨HX.out.os, HX.out.tape, HX.out.output, HX.out.size, HX.out.block⟩ (Nat.le_refl _) _
                    · obtain rfl : n = 64 := by omega
                      have p3 : ¬ ((64 : Nat) : Int) < 64 := by omega
                      obtain ⟨F, eF⟩ : ∃ F, F = (rnds cubeK (msg gq 64) (St.of hq) 64).at := ⟨_, rfl⟩
                      have hFl : ∀ i, F i < 2 ^ 32 := fun i => by rw [eF]; exact hok.at i
                      rw [← eF] at ha
                      obtain ⟨M, eM⟩ : ∃ M, M = mix cubeK gq hq := ⟨_, rfl⟩
                      have HG := Lib.hid (show ∀ i, M i = (hq i + F i) % 2 ^ 32 from fun i => by rw [eM, eF]; rfl)
                      have HMm := Lib.hid eM
                      have HF := Lib.hid hFl
                      have HV6 := Lib.hid ha
                      obtain ⟨wv, rfl⟩ : ∃ wv, wv = wr := ⟨_, rfl⟩
                      have HO6 := Lib.hid (HOm.out.trans (Only.of_below (sp := hp) hx))
                      have HQ6 := Lib.hid ((hx.block hp (by omega)).trans HRm.out)
                      have hvl : hp < wm.heap.size := by omega
                      clear ha hx hFl hok eF eM
                      go_wp2
                      go_loopw [205] (fun i wz => ∃ j : Nat, j ≤ 8 ∧ i = .int .i64 (j : Nat) ∧ wz.heap[hp]? = some (.cells (vals .u32 (putV hq M j) 8).toArray 40 (0, 0)) ∧ wz.heap[wm.heap.size]? = some (.cells (vals .u32 F 8).toArray 40 (0, 0)) ∧ Only hp wc wz) (fun i _ => 8 - (intOf i).toNat)
                      case atStart => exact ⟨0, by omega, rfl, by rw [show putV hq M 0 = hq from rfl]; exact HQ6.out, HV6.out, HO6.out⟩
                      case round =>
                        obtain ⟨j, hj, rfl, hr, hv6, ho⟩ := hrel
                        have H1 := Lib.hid hr
                        have H2 := Lib.hid hv6
                        have H3 := Lib.hid ho
                        by_cases hlt : j < 8
                        · have p4' : (j : Int) < 8 := by omega
                          have z4 : (0 : Int) ≤ (j : Int) := by omega
                          have y1 : wr.cell? ⟨hp, j, none⟩ = some (.int .u32 (hq j : Nat)) := (row_cell hr).trans (by rw [List.getElem?_toArray, vals_get _ _ hlt]; unfold putV; rw [if_neg (Nat.lt_irrefl _)])
                          have y2 : wr.cell? ⟨wm.heap.size, j, none⟩ = some (.int .u32 (F j : Nat)) := (row_cell hv6).trans (by rw [List.getElem?_toArray]; exact vals_get _ _ hlt)
                          have y3 : wr.frozen? ⟨hp, j, none⟩ = false := row_free hr
                          obtain ⟨x, ex⟩ : ∃ x, x = hq j := ⟨_, rfl⟩
                          obtain ⟨y, ey⟩ : ∃ y, y = F j := ⟨_, rfl⟩
                          obtain ⟨q', eq⟩ : ∃ q, q = M j := ⟨_, rfl⟩
                          have v1' : IntKind.u32.wrap ((x : Int) + (y : Int)) = (q' : Int) := by rw [eq, HG.out, ex, ey, IntKind.wrap_u32]; omega
                          rw [← ex] at y1
                          rw [← ey] at y2
                          have HEQ := Lib.hid eq
                          clear hr hv6 ho ex ey eq
                          go_upto_region 34 with fail
                          go_still_tail 8, (by kernel_rfl)
                          go_wp2
                          refine ⟨⟨j + 1, by omega, by simp, ?_, ?_, (H3.out.setCell _).drewN 1⟩, by simp [intOf]; omega⟩
                          · show (wr.setCell ⟨hp, j, none⟩ (.int .u32 (q' : Nat))).heap[hp]? = _
                            rw [row_set H1.out, vals_set _ _ _ hlt, HEQ.out, putV_put]
                          · show (wr.setCell ⟨hp, j, none⟩ (.int .u32 (q' : Nat))).heap[wm.heap.size]? = _
                            rw [row_far (by omega)]; exact H2.out
                        · obtain rfl : j = 8 := by omega
                          have p4' : ¬ ((8 : Nat) : Int) < 8 := by omega
                          clear hr hv6 ho
                          go_wp2
                          refine ⟨⟨q + 1, by omega, ?_, ?_, H3.out⟩, by have := EA0.out; simp [intOf]; omega⟩
                          · have := EA0.out
                            congr 1
                            omega
                          · rw [H1.out, vals_congr (f := putV hq M 8) (g := hashN gp (q + 1)) fun i hi => by
                              unfold putV
                              rw [if_pos hi, HMm.out, EHQ.out, EGQ.out, EA0.out]; rfl]
            · obtain rfl : q = l2 / 64 := by omega
              have p4 : ¬ (a0 : Int) < l2 := by omega
              obtain ⟨wd, rfl⟩ : ∃ wd, wd = wr := ⟨_, rfl⟩
              obtain ⟨F, eF⟩ : ∃ F, F = shaF n f := ⟨_, rfl⟩
              obtain ⟨hN, ehN⟩ : ∃ hN, hN = hashN gp (l2 / 64) := ⟨_, rfl⟩
              have HFF := Lib.hid (show ∀ k, F k = hN (k / 4) >>> (24 - k % 4 * 8) % 256 from fun k => by rw [eF, ehN, EGP.out, HT2.out.1]; rfl)
              have HNl := Lib.hid (show ∀ k, hN k < 2 ^ 32 from fun k => by rw [ehN]; exact hashN_lt _ _ _)
              have HRd := Lib.hid (show wd.heap[hp]? = some (.cells (vals .u32 hN 8).toArray 40 (0, 0)) by rw [ehN]; exact hr)
              have HEF := Lib.hid eF
              have hpd : hp < wd.heap.size := row_lt hr
              have Rd := Lib.hid ((hon.row _ (row_lt Rc.out) (by omega)).trans Rc.out)
              have HBd := Lib.hid (hon.below HBc.out (by omega) (Nat.le_refl _))
              have hle4 : w.heap.size < wd.heap.size := row_lt Rd.out
              clear hr hon eF ehN HR HOn hT64 hgb hgp hcc hcm p1 p2 hl3
              go_wp2
              go_loopw [217] (fun i wz => ∃ k : Nat, k ≤ 32 ∧ i = .int .i64 (k : Nat) ∧ wz.heap[wd.heap.size]? = some (.cells (bys (upTo8 F k) 32).toArray 25 (0, 0)) ∧ Below wd.heap.size wd wz) (fun i _ => 32 - (intOf i).toNat)
              case atStart =>
                refine ⟨0, by omega, rfl, ?_, (Below.refl _ _).alloc (Nat.le_refl _) _⟩
                exact (heap_alloc_new _ _).trans (by kernel_rfl)
              case round =>
                obtain ⟨k, hk, rfl, h1, hb⟩ := hrel
                have K1 := Lib.hid h1
                have KB := Lib.hid hb
                by_cases hlt : k < 32
                · have p1' : (k : Int) < 32 := by omega
                  obtain ⟨d, ed⟩ : ∃ d, d = k / 4 := ⟨_, rfl⟩
                  obtain ⟨q, eq⟩ : ∃ q, q = k % 4 := ⟨_, rfl⟩
                  have hd8 : d < 8 := by omega
                  have hq4 : q < 4 := by omega
                  have v1 : (k : Int) / 4 = (d : Int) := by omega
                  have v2 : (k : Int) % 4 = (q : Int) := by omega
                  obtain ⟨sh, esh⟩ : ∃ sh, sh = 24 - q * 8 := ⟨_, rfl⟩
                  have hsh : sh ≤ 24 := by omega
                  have v3 : 24 - 8 * (q : Int) = (sh : Int) := by omega
                  obtain ⟨x, ex⟩ : ∃ x, x = hN d := ⟨_, rfl⟩
                  have c1 : wr.cell? ⟨hp, d, none⟩ = some (.int .u32 (x : Nat)) := by rw [ex]; exact (hb.cell (p := ⟨hp, d, none⟩) hpd).trans ((row_cell HRd.out).trans (by rw [List.getElem?_toArray]; exact vals_get _ _ hd8))
                  have c2 : wr.cell? ⟨wd.heap.size, k, none⟩ = some (.int .u8 (upTo8 F k k : Nat)) := (row_cell h1).trans (by rw [List.getElem?_toArray]; exact bys_get _ hlt)
                  have f2 : wr.frozen? ⟨wd.heap.size, k, none⟩ = false := row_free h1
                  have hx : x < 2 ^ 32 := by rw [ex]; exact HNl.out d
                  obtain ⟨y, ey⟩ : ∃ y, y = x >>> sh := ⟨_, rfl⟩
                  have v4 : (x : Int) / 2 ^ sh = (y : Int) := by rw [ey]; exact shr_run x sh
                  obtain ⟨u, eu⟩ : ∃ u, u = y % 256 := ⟨_, rfl⟩
                  have v5 : (y : Int) % 256 = (u : Int) := by omega
                  have v6 : IntKind.u8.wrap (y : Int) = (u : Int) := by rw [IntKind.wrap_u8]; omega
                  have HU := Lib.hid (show u = F k by rw [HFF.out, eu, ey, ex, esh, ed, eq])
                  clear h1 hb ed eq esh ex ey eu
                  go_wp2
                  refine ⟨⟨k + 1, by omega, by simp, ?_, KB.out.setCell (Nat.le_refl _) _⟩, by simp [intOf]; omega⟩
                  rw [row_set K1.out, bys_set _ _ hlt, HU.out, upTo8_put]
                · obtain rfl : k = 32 := by omega
                  have p1' : ¬ ((32 : Nat) : Int) < 32 := by omega
                  obtain ⟨cz, hcz⟩ : ∃ cs, cs = (bys F 32).toArray := ⟨_, rfl⟩
                  have hr : wr.heap[wd.heap.size]? = some (.cells cz 25 (0, 0)) := by
                    rw [hcz, show bys F 32 = bys (upTo8 F 32) 32 from bys_congr fun i hi => by unfold upTo8; rw [if_pos hi]]; exact h1
                  have hr0 : wr.heap[w.heap.size]? = some (.cells h32 25 (0, 0)) := (hb.block _ hle4).trans Rd.out
                  have hsz : cz.size = 32 := by rw [hcz, List.size_toArray, bys_length]
                  have R1 := Lib.hid hr
                  have R0 := Lib.hid hr0
                  have Hi := Lib.hid (show (Try.prog.info? 25).map (·.size) = some cz.size by rw [hsz]; exact h32_info)
                  have Hsz := Lib.hid (show h32.size = cz.size by rw [hsz]; rfl)
                  have Hone := Lib.hid (show cz.all (·.oneCell') = true by rw [hcz]; exact bys_all _ _)
                  have Hcs := Lib.hid hcz
                  clear hr hr0 hcz hsz h1 hb K1
                  go_upto_region 42 with fail
                  refine wp_region_lit (wpList_load_row rfl 25 (.tmp 20) rfl wd.heap.size rfl _ cz (0, 0) _ R1.out Try.underlying25 rfl Hi.out ?_)
                  refine wpList_store_row rfl 25 (.tmp 2) (.tmp 234) rfl w.heap.size cz rfl rfl _ h32 R0.out Hi.out Hsz.out Hone.out ?_
                  refine wpList_nil ?_
                  go_wp2
                  refine bodyPost_ret (v := .agg cz) (results_cell_row rfl _ _ w.heap.size 25 cz (0, 0) _ rfl (setRow_heap _ _ h32 _ _ _ R0.out) Try.underlying25 rfl Hi.out) rfl ?_
                  exact ⟨by rw [Hcs.out, HEF.out], below_setRow (HBd.out.trans (KB.out.mono HBd.out.size)) (Nat.le_refl _) _⟩
end Go.Proofs.Ytjemgoifemdoeaa
