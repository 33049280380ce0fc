/- The law DelayWaits, walked. -/
import Derived.Test.YtedkhpnlhkjjgaaDW
import Derived.Deep.Cut
import Derived.Deep.CutBlock
import Derived.Deep.RegionHeld3
namespace Go.Proofs.Ytedkhpnlhkjjgaa
open Go.RowKit Go.Maps

/-- the box of the last act stays -/
theorem dw_box {w w' : World} {A1 : Option Addr} {k1 cq : Nat} {xv xb xw : Int} (h : Below (w.alloc (.cells #[.slice A1 k1 cq, .int .i64 xv, .int .i64 xb, .int .i64 xw] 93)).heap.size (w.alloc (.cells #[.slice A1 k1 cq, .int .i64 xv, .int .i64 xb, .int .i64 xw] 93)) w') :
    w'.heap[w.heap.size]? = some (.cells #[.slice A1 k1 cq, .int .i64 xv, .int .i64 xb, .int .i64 xw] 93 (0, 0)) :=
  (h.block _ (by rw [World.size_alloc]; omega)).trans (heap_alloc_new _ _)
set_option maxRecDepth 100000 in
set_option maxHeartbeats 4000000 in
theorem delayWaits_go (A : Option Addr) (N C : Nat) (A0 : Nat → Option Addr) (k0 c0 : Nat → Nat) (x1 x2 x3 : Nat → Int) (A1 : Option Addr) (k1 cq : Nat) (xv xb xw m : Int) (w : World) (hr : RowsV w A N 4 (fun i => [.slice (A0 i) (k0 i) (c0 i), .int .i64 (x1 i), .int .i64 (x2 i), .int .i64 (x3 i)]))
    (hN : N ≤ 100) (hk : ∀ i, i < N → k0 i ≤ 5) (h1 : k1 ≤ 5) (hv : 0 ≤ xv ∧ xv ≤ 1073741824) (hb : 0 ≤ xb ∧ xb ≤ 1073741824) (hw : 0 ≤ xw ∧ xw ≤ 1073741824) (hm : 0 ≤ m ∧ m < 65536) :
    Calls Try.prog 10 #[.slice A N C, .agg #[.slice A1 k1 cq, .int .i64 xv, .int .i64 xb, .int .i64 xw], .int .u16 m] w fun e w' => e = .returned (.bool true) ∧ Below w.heap.size w w' := by
  have hb0 := (Below.refl w.heap.size w).alloc (Nat.le_refl _) (.cells #[.slice A1 k1 cq, .int .i64 xv, .int .i64 xb, .int .i64 xw] 93)
  have HL1 := Lib.hid (light28_rows A N C A0 k0 c0 x1 x2 x3 _ (hr.below hb0) (by omega) (fun i hi => by have := hk i hi; omega) true ⟨fun _ => ⟨hN, hk⟩, fun _ => rfl⟩)
  have HL2 := Lib.hid (fun w1 : World => by
    have h := light28_walk w1.heap.size A1 k1 cq xv xb xw (w1.alloc (.cells #[.slice A1 k1 cq, .int .i64 xv, .int .i64 xb, .int .i64 xw] 93)) (heap_alloc_new _ _) (by omega)
    rwa [decide_eq_true h1] at h)
  have HR := Lib.hid hr
  have HB0 := Lib.hid hb0
  have HX := Lib.hid (And.intro hv (And.intro hb (And.intro hw (And.intro hm hN))))
  have HLv := Lib.hid (fun w => lives28_walk w)
  have hN' : (N : Int) ≤ 100 := by omega
  have q1 : ¬ xb < 0 := by omega
  have q2 : ¬ (1073741824 : Int) < xb := by omega
  have q3 : ¬ xw < 0 := by omega
  have q4 : ¬ (1073741824 : Int) < xw := by omega
  have q5 : ¬ xv < 0 := by omega
  have q6 : ¬ (1073741824 : Int) < xv := by omega
  clear hr hb0 hk h1 hN
  go_enter Try.func10, Try.ntmps10
  go_wp2_with (first
    | (go_at_call 13; with_reducible refine (SNew.new (w.alloc (.cells #[.slice A1 k1 cq, .int .i64 xv, .int .i64 xb, .int .i64 xw] 93)) _ H2.out).mono ?_; rintro e w3 ⟨b, F1, rfl, hs1, _, _⟩; have H3 := Lib.hid hs1; clear hs1)
    | (go_at_call 55; have g5 := H1; clear g5; with_reducible refine (HL2.out w1).mono ?_; rintro e w2 ⟨rfl, hb2⟩; have hbx := H1.out.alloc H1.out.size (.cells #[.slice A1 k1 cq, .int .i64 xv, .int .i64 xb, .int .i64 xw] 93); have H2 := Lib.hid (hbx.trans (hb2.mono hbx.size)); have rb := dw_box H2.out; have y1 := (hp_cell (i := 1) rb).trans rfl; have y2 := (hp_cell (i := 2) rb).trans rfl; have y3 := (hp_cell (i := 3) rb).trans rfl; clear hb2 hbx rb)
    | (go_at_call 55; with_reducible refine HL1.out.mono ?_; rintro e w1 ⟨rfl, hb1⟩; have H1 := Lib.hid hb1; have rb := dw_box hb1; have y0 := (hp_cell (i := 0) rb).trans rfl; have y1 := (hp_cell (i := 1) rb).trans rfl; have y2 := (hp_cell (i := 2) rb).trans rfl; have y3 := (hp_cell (i := 3) rb).trans rfl; clear hb1 rb))
  have HD0 := Lib.hid (show DWs (w.alloc (.cells #[.slice A1 k1 cq, .int .i64 xv, .int .i64 xb, .int .i64 xw] 93)) w3 b (keyStr 25 (fun _ => 1) 1) 0 DV.none from ⟨⟨F1, [], 0, [], H3.out, Nat.le_refl _, .inl ⟨rfl, rfl⟩⟩, DV.ok_none⟩)
  go_loopw [63] (fun i wr => ∃ j : Nat, j ≤ N ∧ i = .int .i64 (j : Nat) ∧ ∃ v, DWs (w.alloc (.cells #[.slice A1 k1 cq, .int .i64 xv, .int .i64 xb, .int .i64 xw] 93)) wr b (keyStr 25 (fun _ => 1) 1) j v) (fun i _ => N - (intOf i).toNat)
  case atStart => exact ⟨0, by omega, rfl, _, HD0.out⟩
  case round =>
    obtain ⟨j, hj, rfl, v, hd⟩ := hrel
    have HD := Lib.hid hd
    by_cases hlt : j < N
    · have p2 : (j : Int) < (N : Int) := by omega
      obtain ⟨g, o, rfl, hg, hc⟩ := (HR.out.below (HB0.out.trans (hd.l.mono HB0.out.size))) (by omega)
      have d0 := hc j hlt 0 _ rfl
      have d1 := hc j hlt 1 _ rfl
      have d2 := hc j hlt 2 _ rfl
      have d3 := hc j hlt 3 _ rfl
      simp only [Nat.add_zero] at d0
      have HJ := Lib.hid (show j < 1000000 by have := HX.out.2.2.2.2; omega)
      have hbx := (Below.refl wr.heap.size wr).alloc (Nat.le_refl _) (.cells #[.slice (A0 j) (k0 j) (c0 j), .int .i64 (x1 j), .int .i64 (x2 j), .int .i64 (x3 j)] 93)
      have hst := dset_law_any (hd.below (hbx.alloc hbx.size (.cells #[.int .i64 1] 3))) HJ.out _ 1 (il1 1 (wr.alloc (.cells #[.slice (A0 j) (k0 j) (c0 j), .int .i64 (x1 j), .int .i64 (x2 j), .int .i64 (x3 j)] 93)) 3 (by decide)) (x1 j) (x2 j) (x3 j)
      simp only [World.size_alloc] at hst
      have HSt := Lib.hid hst
      clear hd hc hst hbx
      go_wp2_with (go_at_call 57; with_reducible refine HSt.out.mono ?_; rintro e w5 ⟨⟨r, rfl⟩, v', h5⟩; have H5 := Lib.hid h5; clear h5)
      exact ⟨⟨j + 1, by omega, by go_num, v', H5.out⟩, by simp [intOf]; omega⟩
    · obtain rfl : j = N := by omega
      have p2 : ¬ (j : Int) < (j : Int) := by omega
      have hA := (Below.refl wr.heap.size wr).alloc (Nat.le_refl _) (.cells #[.int .i64 1] 3)
      have HA := Lib.hid hA
      have HAn := Lib.hid (heap_alloc_new wr (.cells #[.int .i64 1] 3))
      have HG := Lib.hid (fun (W1 : World) (hb : Below wr.heap.size wr W1) (hn : W1.heap[wr.heap.size]? = some (.cells #[.int .i64 1] 3 (0, 0))) => dget_law (hd.below hb) (some ⟨wr.heap.size, 0, none⟩) 1 ⟨fun _ => by decide, fun _ => ⟨wr.heap.size, 0, rfl, hp_lt hn, fun i hi => by obtain rfl : i = 0 := (by omega); exact (hp_cell (i := 0) hn).trans rfl⟩⟩)
      have HO := Lib.hid (fun w => of_any v xb w)
      have HCx := Lib.hid (fun (W1 : World) (hb : Below wr.heap.size wr W1) => (hp_cell (i := 2) (dw_box (hd.l.trans (hb.mono hd.l.size)))).trans rfl)
      have z2 := (hp_cell (i := 2) (dw_box hd.l)).trans rfl
      obtain ⟨wn, hwn⟩ : ∃ z, z = (settleD v xb).n := ⟨_, rfl⟩
      obtain ⟨wh, hwh⟩ : ∃ z, z = (settleD v xb).h := ⟨_, rfl⟩
      obtain ⟨Vv, hVv⟩ : ∃ z, z = v.val := ⟨_, rfl⟩
      rw [← hVv] at HG HO
      rw [← hwn, ← hwh] at HO
      have HE := Lib.hid (And.intro hwn hwh)
      have HR9 := Lib.hid (show wr.heap.size < (wr.alloc (.cells #[.int .i64 1] 3)).heap.size by rw [World.size_alloc]; omega)
      clear hd hA hwn hwh hVv
      go_upto_region 9 with (fail)
      go_cut [10, 11] (fun p k wx => p = .int .i64 wn ∧ k = .bool wh ∧ DWs (w.alloc (.cells #[.slice A1 k1 cq, .int .i64 xv, .int .i64 xb, .int .i64 xw] 93)) wx b (keyStr 25 (fun _ => 1) 1) j v)
      case first =>
        go_region_held3 (fun w' => w'.cell? ⟨w.heap.size, 2, none⟩ = some (.int .i64 xb) ∧ Below wr.heap.size wr w')
          (first | exact ⟨z2, (Below.refl _ _).drew⟩ | exact ⟨HCx.out _ HA.out.drew, HA.out.drew⟩ | exact ⟨HCx.out _ H6.out, H6.out⟩ | exact ⟨HCx.out _ H5.out, H5.out⟩)
          (first
            | (go_at_call 58; with_reducible refine (HO.out _).mono ?_; rintro e w6 ⟨rfl, hb6⟩; have H6 := Lib.hid (H5.out.trans (hb6.mono H5.out.size)); clear hb6)
            | (go_at_call 59; refine (HG.out _ HA.out.drew HAn.out).mono ?_; rintro e w5 ⟨rfl, hb5⟩; have H5 := Lib.hid (HA.out.drew.trans (hb5.mono HA.out.drew.size)); clear hb5))
        all_goals
          go_wp2
          go_meet
          case rel => exact ⟨rfl, rfl, HD.out.below H6.out⟩
      case rest =>
        obtain ⟨rfl, rfl, hd⟩ := hcut
        clear HG HO HA HAn HCx HR9 z2
        have bx := dw_box hd.l
        have b1 := (hp_cell (i := 1) bx).trans rfl
        have b2 := (hp_cell (i := 2) bx).trans rfl
        have b3 := (hp_cell (i := 3) bx).trans rfl
        have lz := hp_lt bx
        obtain ⟨hv, hb, hw, hm, hN⟩ := HX.out
        have hset := fun W1 (hb1 : Below wc.heap.size wc W1) => dset_law (hd.below (hb1.alloc hb1.size (.cells #[.int .i64 1] 3))) (by omega) _ 1 (il1 1 W1 3 (by decide)) xv xb xw (by omega) (by omega) (by omega)
        have HSet := Lib.hid (hset wc (Below.refl _ _))
        have HGet := Lib.hid (fun (W1 : World) (c : Nat) (v : DV) (h : DWs (w.alloc (.cells #[.slice A1 k1 cq, .int .i64 xv, .int .i64 xb, .int .i64 xw] 93)) W1 b (keyStr 25 (fun _ => 1) 1) c v) => dget_law (h.below ((Below.refl W1.heap.size W1).alloc (Nat.le_refl _) (.cells #[.int .i64 1] 3))) _ 1 (il1 1 W1 3 (by decide)))
        have O1 := Lib.hid (fun w => of_any (stepD v xv xb xw) (xb + xw) w)
        have O2 := Lib.hid (fun w => of_any (stepD v xv xb xw) (xb + xw + m) w)
        have O3 := Lib.hid (fun w => of_any (stepD v xv xb xw) (xb + xw - 1) w)
        rw [(stepD_later (v := v) (x := xv) (blk := xb) hw.1 (Int.le_refl _)).1, (stepD_later (v := v) (x := xv) (blk := xb) hw.1 (Int.le_refl _)).2] at O1
        rw [(stepD_later (v := v) (x := xv) (blk := xb) (b := xb + xw + m) hw.1 (by omega)).1, (stepD_later (v := v) (x := xv) (blk := xb) (b := xb + xw + m) hw.1 (by omega)).2] at O2
        have HU := Lib.hid (fun hw0 : 0 < xw => stepD_until (v := v) (x := xv) (blk := xb) (b := xb + xw - 1) hw0 (by omega))
        obtain ⟨pn, hpn⟩ : ∃ z, z = (settleD (stepD v xv xb xw) (xb + xw - 1)).n := ⟨_, rfl⟩
        obtain ⟨ph, hph⟩ : ∃ z, z = (settleD (stepD v xv xb xw) (xb + xw - 1)).h := ⟨_, rfl⟩
        rw [← hpn, ← hph] at O3 HU
        rw [← HE.out.1, ← HE.out.2] at HU
        obtain ⟨V2, hV2⟩ : ∃ z, z = (stepD v xv xb xw).val := ⟨_, rfl⟩
        rw [← hV2] at O1 O2 O3
        obtain ⟨v2, hv2⟩ : ∃ z, z = stepD v xv xb xw := ⟨_, rfl⟩
        rw [← hv2] at HSet hV2
        have HGv := Lib.hid (fun (W1 : World) (h : DWs (w.alloc (.cells #[.slice A1 k1 cq, .int .i64 xv, .int .i64 xb, .int .i64 xw] 93)) W1 b (keyStr 25 (fun _ => 1) 1) (j + 1) v2) => by have := HGet.out W1 (j + 1) v2 h; rwa [← hV2] at this)
        have s0 : 0 ≤ xb := hb.1
        have s1 : xb ≤ 1073741824 := hb.2
        have s2 : 0 ≤ xw := hw.1
        have s3 : xw ≤ 1073741824 := hw.2
        have s4 : 0 ≤ m := hm.1
        have s5 : m < 65536 := hm.2
        clear hd bx hset HGet hpn hph hV2 hv2 hv hb hw hm hN HX HR HL1 HL2 HB0 HD
        have fin : ∀ W1, DWs (w.alloc (.cells #[.slice A1 k1 cq, .int .i64 xv, .int .i64 xb, .int .i64 xw] 93)) W1 b (keyStr 25 (fun _ => 1) 1) (j + 1) v2 → Below w.heap.size w W1 := fun W1 h => ((Below.refl w.heap.size w).alloc (Nat.le_refl _) (.cells #[.slice A1 k1 cq, .int .i64 xv, .int .i64 xb, .int .i64 xw] 93)).trans (h.l.mono (by rw [World.size_alloc]; omega))
        have Fin := Lib.hid fin
        clear fin
        by_cases hw0 : 0 < xw
        · obtain ⟨rfl, rfl⟩ := HU.out hw0
          have t1 : ¬ xw = 0 := by omega
          clear HU
          go_wp2_with (first
            | (go_at_call 56; with_reducible refine (HLv.out _).mono ?_; rintro e w10 ⟨rfl, hb10⟩; have HBl := Lib.hid hb10; clear hb10)
            | (go_at_call 58; have g5 := D8; clear g5; with_reducible refine (O3.out _).mono ?_; rintro e w9 ⟨rfl, hb9⟩; have D9 := Lib.hid (D8.out.below hb9); have bx := dw_box D9.out.l; have b31 := (hp_cell (i := 3) bx).trans rfl; clear hb9 bx)
            | (go_at_call 59; have g5 := D7; clear g5; with_reducible refine (HGv.out _ D7.out).mono ?_; rintro e w8 ⟨rfl, hb8⟩; have hbx := (Below.refl w7.heap.size w7).alloc (Nat.le_refl _) (.cells #[.int .i64 1] 3); have D8 := Lib.hid (D7.out.below (hbx.trans (hb8.mono hbx.size))); clear hb8 hbx)
            | (go_at_call 58; have g5 := D6; clear g5; with_reducible refine (O2.out _).mono ?_; rintro e w7 ⟨rfl, hb7⟩; have D7 := Lib.hid (D6.out.below hb7); have bx := dw_box D7.out.l; have b27 := (hp_cell (i := 1) bx).trans rfl; clear hb7 bx)
            | (go_at_call 59; have g5 := D5; clear g5; with_reducible refine (HGv.out _ D5.out).mono ?_; rintro e w6 ⟨rfl, hb6⟩; have hbx := (Below.refl w5.heap.size w5).alloc (Nat.le_refl _) (.cells #[.int .i64 1] 3); have D6 := Lib.hid (D5.out.below (hbx.trans (hb6.mono hbx.size))); clear hb6 hbx)
            | (go_at_call 58; with_reducible refine (O1.out _).mono ?_; rintro e w5 ⟨rfl, hb5⟩; have D5 := Lib.hid (D4.out.below hb5); clear hb5)
            | (go_at_call 59; with_reducible refine (HGv.out _ D3.out).mono ?_; rintro e w4 ⟨rfl, hb4⟩; have hbx := (Below.refl w3'.heap.size w3').alloc (Nat.le_refl _) (.cells #[.int .i64 1] 3); have D4 := Lib.hid (D3.out.below (hbx.trans (hb4.mono hbx.size))); clear hb4 hbx)
            | (go_at_call 57; with_reducible refine HSet.out.mono ?_; rintro e w3' ⟨rfl, h3⟩; have D3 := Lib.hid h3; have bx := dw_box h3.l; have b23 := (hp_cell (i := 2) bx).trans rfl; have b33 := (hp_cell (i := 3) bx).trans rfl; clear h3 bx))
          go_ret
          exact ⟨rfl, (Fin.out _ D9.out).trans (HBl.out.mono (Fin.out _ D9.out).size)⟩
        · clear HU
          go_wp2_with (first
            | (go_at_call 56; with_reducible refine (HLv.out _).mono ?_; rintro e w10 ⟨rfl, hb10⟩; have HBl := Lib.hid hb10; clear hb10)
            | (go_at_call 58; have g5 := D8; clear g5; with_reducible refine (O3.out _).mono ?_; rintro e w9 ⟨rfl, hb9⟩; have D9 := Lib.hid (D8.out.below hb9); have bx := dw_box D9.out.l; have b31 := (hp_cell (i := 3) bx).trans rfl; clear hb9 bx)
            | (go_at_call 59; have g5 := D7; clear g5; with_reducible refine (HGv.out _ D7.out).mono ?_; rintro e w8 ⟨rfl, hb8⟩; have hbx := (Below.refl w7.heap.size w7).alloc (Nat.le_refl _) (.cells #[.int .i64 1] 3); have D8 := Lib.hid (D7.out.below (hbx.trans (hb8.mono hbx.size))); clear hb8 hbx)
            | (go_at_call 58; have g5 := D6; clear g5; with_reducible refine (O2.out _).mono ?_; rintro e w7 ⟨rfl, hb7⟩; have D7 := Lib.hid (D6.out.below hb7); have bx := dw_box D7.out.l; have b27 := (hp_cell (i := 1) bx).trans rfl; clear hb7 bx)
            | (go_at_call 59; have g5 := D5; clear g5; with_reducible refine (HGv.out _ D5.out).mono ?_; rintro e w6 ⟨rfl, hb6⟩; have hbx := (Below.refl w5.heap.size w5).alloc (Nat.le_refl _) (.cells #[.int .i64 1] 3); have D6 := Lib.hid (D5.out.below (hbx.trans (hb6.mono hbx.size))); clear hb6 hbx)
            | (go_at_call 58; with_reducible refine (O1.out _).mono ?_; rintro e w5 ⟨rfl, hb5⟩; have D5 := Lib.hid (D4.out.below hb5); clear hb5)
            | (go_at_call 59; with_reducible refine (HGv.out _ D3.out).mono ?_; rintro e w4 ⟨rfl, hb4⟩; have hbx := (Below.refl w3'.heap.size w3').alloc (Nat.le_refl _) (.cells #[.int .i64 1] 3); have D4 := Lib.hid (D3.out.below (hbx.trans (hb4.mono hbx.size))); clear hb4 hbx)
            | (go_at_call 57; with_reducible refine HSet.out.mono ?_; rintro e w3' ⟨rfl, h3⟩; have D3 := Lib.hid h3; have bx := dw_box h3.l; have b23 := (hp_cell (i := 2) bx).trans rfl; have b33 := (hp_cell (i := 3) bx).trans rfl; clear h3 bx))
          all_goals first
            | (exfalso; omega)
            | (go_ret
               exact ⟨rfl, (Fin.out _ D9.out).trans (HBl.out.mono (Fin.out _ D9.out).size)⟩)
end Go.Proofs.Ytedkhpnlhkjjgaa
