/- tallagelaw03.WadReckons, walked: it returns true. -/
import Derived.Test.YtiofphpdonlaoaaW6
import Derived.Test.YtiofphpdonlaoaaW4
import Derived.Test.YtiofphpdonlaoaaBK
namespace Go.Proofs.Ytiofphpdonlaoaa
open Go.RowKit Go.Sort

theorem goodE_c (a : Nat) (g : Bool) (w : World) (ha : a < 2 ^ 256) (h : g = decide (a ≤ WAD)) : Calls Try.prog 61 #[.agg #[.int .u64 (limb a 0 : Nat), .int .u64 (limb a 1 : Nat), .int .u64 (limb a 2 : Nat), .int .u64 (limb a 3 : Nat)]] w fun e w' => e = .returned (.bool g) ∧ Below w.heap.size w w' := by rw [h]; exact good_walk a w ha
theorem rgoodE_c (a : Nat) (g : Bool) (w : World) (ha : a < 2 ^ 256) (h : g = decide (a ≤ WAD)) : Calls Try.prog 62 #[.agg #[.int .u64 (limb a 0 : Nat), .int .u64 (limb a 1 : Nat), .int .u64 (limb a 2 : Nat), .int .u64 (limb a 3 : Nat)]] w fun e w' => e = .returned (.bool g) ∧ Below w.heap.size w w' := by rw [h]; exact rgood_walk a w ha
theorem amountE_c (a : Nat) (g : Bool) (w : World) (ha : a < 2 ^ 256) (h : g = decide (a ≤ MOST)) : Calls Try.prog 63 #[.agg #[.int .u64 (limb a 0 : Nat), .int .u64 (limb a 1 : Nat), .int .u64 (limb a 2 : Nat), .int .u64 (limb a 3 : Nat)]] w fun e w' => e = .returned (.bool g) ∧ Below w.heap.size w w' := by rw [h]; exact amount_walk a w ha
theorem ramountE_c (a : Nat) (g : Bool) (w : World) (ha : a < 2 ^ 256) (h : g = decide (a ≤ MOST)) : Calls Try.prog 64 #[.agg #[.int .u64 (limb a 0 : Nat), .int .u64 (limb a 1 : Nat), .int .u64 (limb a 2 : Nat), .int .u64 (limb a 3 : Nat)]] w fun e w' => e = .returned (.bool g) ∧ Below w.heap.size w w' := by rw [h]; exact ramount_walk a w ha
theorem squareE_c (w : World) : Calls Try.prog 65 #[] w fun e w' => e = .returned (.agg #[.int .u64 (limb SQ 0 : Nat), .int .u64 (limb SQ 1 : Nat), .int .u64 (limb SQ 2 : Nat), .int .u64 (limb SQ 3 : Nat)]) ∧ Below w.heap.size w w' := square_walk w
theorem rsquareE_c (w : World) : Calls Try.prog 66 #[] w fun e w' => e = .returned (.agg #[.int .u64 (limb SQ 0 : Nat), .int .u64 (limb SQ 1 : Nat), .int .u64 (limb SQ 2 : Nat), .int .u64 (limb SQ 3 : Nat)]) ∧ Below w.heap.size w w' := rsquare_walk w
theorem mostE_c (w : World) : Calls Try.prog 67 #[] w fun e w' => e = .returned (.agg #[.int .u64 (limb MOST 0 : Nat), .int .u64 (limb MOST 1 : Nat), .int .u64 (limb MOST 2 : Nat), .int .u64 (limb MOST 3 : Nat)]) ∧ Below w.heap.size w w' := most_walk w
theorem rmostE_c (w : World) : Calls Try.prog 68 #[] w fun e w' => e = .returned (.agg #[.int .u64 (limb MOST 0 : Nat), .int .u64 (limb MOST 1 : Nat), .int .u64 (limb MOST 2 : Nat), .int .u64 (limb MOST 3 : Nat)]) ∧ Below w.heap.size w w' := rmost_walk w

set_option maxRecDepth 100000 in
set_option maxHeartbeats 8000000 in
theorem wadReckons_walk (a b c : Nat) (w : World) (hal : a < 2 ^ 256) (hbl : b < 2 ^ 256) (hcl : c < 2 ^ 256) :
    Calls Try.prog 11 #[U a, U b, U c] w fun e w' => e = .returned (.bool true) ∧ Below w.heap.size w w' := by
  obtain ⟨p, hp⟩ : ∃ s, s = qv a b WAD := ⟨_, rfl⟩
  obtain ⟨ok, hok⟩ : ∃ s, s = qok a b WAD := ⟨_, rfl⟩
  obtain ⟨s, hs⟩ : ∃ s, s = uv a b WAD := ⟨_, rfl⟩
  obtain ⟨may, hmay⟩ : ∃ s, s = uok a b WAD := ⟨_, rfl⟩
  obtain ⟨x, hx⟩ : ∃ s, s = qv a WAD b := ⟨_, rfl⟩
  obtain ⟨yes, hyes⟩ : ∃ s, s = qok a WAD b := ⟨_, rfl⟩
  obtain ⟨d, hd⟩ : ∃ s, s = qv a b c := ⟨_, rfl⟩
  obtain ⟨fits, hfits⟩ : ∃ s, s = sok a b c := ⟨_, rfl⟩
  obtain ⟨f, hf⟩ : ∃ s, s = uv a b c := ⟨_, rfl⟩
  obtain ⟨does, hdoes⟩ : ∃ s, s = suok a b c := ⟨_, rfl⟩
  obtain ⟨gd, hgd⟩ : ∃ s, s = decide (a ≤ WAD) := ⟨_, rfl⟩
  obtain ⟨am, ham⟩ : ∃ s, s = decide (a ≤ MOST) := ⟨_, rfl⟩
  have heqp := fun w => eq_run (a := p) (b := p) (by rw [hp]; exact qv_lt _ _ _) (by rw [hp]; exact qv_lt _ _ _) w
  have heqs := fun w => eq_run (a := s) (b := s) (by rw [hs]; exact uv_lt _ _ _) (by rw [hs]; exact uv_lt _ _ _) w
  have heqx := fun w => eq_run (a := x) (b := x) (by rw [hx]; exact qv_lt _ _ _) (by rw [hx]; exact qv_lt _ _ _) w
  have heqd := fun w => eq_run (a := d) (b := d) (by rw [hd]; exact qv_lt _ _ _) (by rw [hd]; exact qv_lt _ _ _) w
  have heqf := fun w => eq_run (a := f) (b := f) (by rw [hf]; exact uv_lt _ _ _) (by rw [hf]; exact uv_lt _ _ _) w
  have heqS := fun w => eq_run (a := SQ) (b := SQ) SQ_lt SQ_lt w
  have heqM := fun w => eq_run (a := MOST) (b := MOST) MOST_lt MOST_lt w
  have HP := Lib.hid (show qv a b WAD = p ∧ qok a b WAD = ok from ⟨hp.symm, hok.symm⟩)
  have HS := Lib.hid (show uv a b WAD = s ∧ uok a b WAD = may from ⟨hs.symm, hmay.symm⟩)
  have HX := Lib.hid (show qv a WAD b = x ∧ qok a WAD b = yes from ⟨hx.symm, hyes.symm⟩)
  have HD := Lib.hid (show qv a b c = d ∧ sok a b c = fits from ⟨hd.symm, hfits.symm⟩)
  have HF := Lib.hid (show uv a b c = f ∧ suok a b c = does from ⟨hf.symm, hdoes.symm⟩)
  have HG := Lib.hid hgd
  have HA := Lib.hid ham
  have Hal := Lib.hid hal
  have Hbl := Lib.hid hbl
  have Hcl := Lib.hid hcl
  clear hp hok hs hmay hx hyes hd hfits hf hdoes hgd ham hal hbl hcl
  have K0 := Lib.hid (Bk.three (a := a) (b := b) (c := c) (w := w) (t1 := 24) (t2 := 24) (t3 := 24))
  unfold U
  unfold U at heqS heqM
  go_enter Try.func11, Try.ntmps11
  go_upto_region 13 with (first
      | (go_at_call 60; refine (rscaleUp_walk a b c _ Hal.out Hbl.out Hcl.out).mono ?_; rintro e w10 ⟨rfl, hb10⟩; rw [HF.out.1, HF.out.2]; have k10 := (k9.push f).call hb10; obtain ⟨⟨a100, a101, a102, a103⟩, la10⟩ := k10.cells (w.heap.size) a (by simp); obtain ⟨⟨b100, b101, b102, b103⟩, lb10⟩ := k10.cells (w.heap.size + 1) b (by simp); obtain ⟨⟨c100, c101, c102, c103⟩, lc10⟩ := k10.cells (w.heap.size + 1 + 1) c (by simp); unfold U)
      | (go_at_call 59; refine (scaleUpA_walk a b c _ Hal.out Hbl.out Hcl.out).mono ?_; rintro e w9 ⟨rfl, hb9⟩; rw [HF.out.1, HF.out.2]; have k9 := (k8.push d).call hb9; obtain ⟨⟨a90, a91, a92, a93⟩, la9⟩ := k9.cells (w.heap.size) a (by simp); obtain ⟨⟨b90, b91, b92, b93⟩, lb9⟩ := k9.cells (w.heap.size + 1) b (by simp); obtain ⟨⟨c90, c91, c92, c93⟩, lc9⟩ := k9.cells (w.heap.size + 1 + 1) c (by simp); unfold U)
      | (go_at_call 58; refine (rscale_walk a b c _ Hal.out Hbl.out Hcl.out).mono ?_; rintro e w8 ⟨rfl, hb8⟩; rw [HD.out.1, HD.out.2]; have k8 := (k7.push d).call hb8; obtain ⟨⟨a80, a81, a82, a83⟩, la8⟩ := k8.cells (w.heap.size) a (by simp); obtain ⟨⟨b80, b81, b82, b83⟩, lb8⟩ := k8.cells (w.heap.size + 1) b (by simp); obtain ⟨⟨c80, c81, c82, c83⟩, lc8⟩ := k8.cells (w.heap.size + 1 + 1) c (by simp); unfold U)
      | (go_at_call 57; refine (scaleA_walk a b c _ Hal.out Hbl.out Hcl.out).mono ?_; rintro e w7 ⟨rfl, hb7⟩; rw [HD.out.1, HD.out.2]; have k7 := (k6.push x).call hb7; obtain ⟨⟨a70, a71, a72, a73⟩, la7⟩ := k7.cells (w.heap.size) a (by simp); obtain ⟨⟨b70, b71, b72, b73⟩, lb7⟩ := k7.cells (w.heap.size + 1) b (by simp); obtain ⟨⟨c70, c71, c72, c73⟩, lc7⟩ := k7.cells (w.heap.size + 1 + 1) c (by simp); unfold U)
      | (go_at_call 56; refine (rratio_walk a b _ Hal.out Hbl.out).mono ?_; rintro e w6 ⟨rfl, hb6⟩; rw [HX.out.1, HX.out.2]; have k6 := (k5.push x).call hb6; obtain ⟨⟨a60, a61, a62, a63⟩, la6⟩ := k6.cells (w.heap.size) a (by simp); obtain ⟨⟨b60, b61, b62, b63⟩, lb6⟩ := k6.cells (w.heap.size + 1) b (by simp); obtain ⟨⟨c60, c61, c62, c63⟩, lc6⟩ := k6.cells (w.heap.size + 1 + 1) c (by simp); obtain ⟨⟨p60, p61, p62, p63⟩, lp6⟩ := k6.cells (w1.heap.size) p (by simp); obtain ⟨⟨q60, q61, q62, q63⟩, lq6⟩ := k6.cells (w2.heap.size) p (by simp); obtain ⟨⟨s60, s61, s62, s63⟩, ls6⟩ := k6.cells (w3.heap.size) s (by simp); obtain ⟨⟨t60, t61, t62, t63⟩, lt6⟩ := k6.cells (w4.heap.size) s (by simp); obtain ⟨⟨x60, x61, x62, x63⟩, lx6⟩ := k6.cells (w5.heap.size) x (by simp); unfold U)
      | (go_at_call 55; refine (ratio_walk a b _ Hal.out Hbl.out).mono ?_; rintro e w5 ⟨rfl, hb5⟩; rw [HX.out.1, HX.out.2]; have k5 := (k4.push s).call hb5; obtain ⟨⟨a50, a51, a52, a53⟩, la5⟩ := k5.cells (w.heap.size) a (by simp); obtain ⟨⟨b50, b51, b52, b53⟩, lb5⟩ := k5.cells (w.heap.size + 1) b (by simp); unfold U)
      | (go_at_call 54; refine (rpartUp_walk a b _ Hal.out Hbl.out).mono ?_; rintro e w4 ⟨rfl, hb4⟩; rw [HS.out.1, HS.out.2]; have k4 := (k3.push s).call hb4; obtain ⟨⟨a40, a41, a42, a43⟩, la4⟩ := k4.cells (w.heap.size) a (by simp); obtain ⟨⟨b40, b41, b42, b43⟩, lb4⟩ := k4.cells (w.heap.size + 1) b (by simp); unfold U)
      | (go_at_call 53; refine (partUp_walk a b _ Hal.out Hbl.out).mono ?_; rintro e w3 ⟨rfl, hb3⟩; rw [HS.out.1, HS.out.2]; have k3 := (k2.push p).call hb3; obtain ⟨⟨a30, a31, a32, a33⟩, la3⟩ := k3.cells (w.heap.size) a (by simp); obtain ⟨⟨b30, b31, b32, b33⟩, lb3⟩ := k3.cells (w.heap.size + 1) b (by simp); unfold U)
      | (go_at_call 52; refine (rpart_walk a b _ Hal.out Hbl.out).mono ?_; rintro e w2 ⟨rfl, hb2⟩; rw [HP.out.1, HP.out.2]; have k2 := (k1.push p).call hb2; obtain ⟨⟨a20, a21, a22, a23⟩, la2⟩ := k2.cells (w.heap.size) a (by simp); obtain ⟨⟨b20, b21, b22, b23⟩, lb2⟩ := k2.cells (w.heap.size + 1) b (by simp); unfold U)
      | (go_at_call 51; refine (part_walk a b _ Hal.out Hbl.out).mono ?_; rintro e w1 ⟨rfl, hb1⟩; rw [HP.out.1, HP.out.2]; have k1 := K0.out.call hb1; obtain ⟨⟨a10, a11, a12, a13⟩, la1⟩ := k1.cells (w.heap.size) a (by simp); obtain ⟨⟨b10, b11, b12, b13⟩, lb1⟩ := k1.cells (w.heap.size + 1) b (by simp); unfold U))
  have k11 := k10.push (t := 24) f
  obtain ⟨W, hW⟩ : ∃ W, W = w10.alloc (.cells #[.int .u64 (limb f 0 : Nat), .int .u64 (limb f 1 : Nat), .int .u64 (limb f 2 : Nat), .int .u64 (limb f 3 : Nat)] 24) := ⟨_, rfl⟩
  rw [← hW] at k11
  rw [← hW]
  have bel := k11.l
  have hfin : ∀ dq osq, Below w.heap.size w (grow (redrawn W dq) osq) := fun dq osq => bel.trans ((below_regrown W dq osq).mono bel.size)
  have Hfin := Lib.hid hfin
  clear hfin
  obtain ⟨u00, u01, u02, u03⟩ := (k11.b (w.heap.size, a) (by simp)).a.grow4
  obtain ⟨u10, u11, u12, u13⟩ := (k11.b (w7.heap.size, d) (by simp)).a.grow4
  obtain ⟨u20, u21, u22, u23⟩ := (k11.b (w8.heap.size, d) (by simp)).a.grow4
  obtain ⟨u30, u31, u32, u33⟩ := (k11.b (w9.heap.size, f) (by simp)).a.grow4
  obtain ⟨u40, u41, u42, u43⟩ := (k11.b (w10.heap.size, f) (by simp)).a.grow4
  clear hW bel k1 k2 k3 k4 k5 k6 k7 k8 k9 k10 k11 hb1 hb2 hb3 hb4 hb5 hb6 hb7 hb8 hb9 hb10
  refine wp_region_quiet_below (by kernel_rfl) (by kernel_rfl) ?_
  repeat (quiet_step (first | (go_at_call 61; exact Calls.regrown_of (goodE_c a gd _ Hal.out HG.out)) | (go_at_call 62; exact Calls.regrown_of (rgoodE_c a gd _ Hal.out HG.out)) | (go_at_call 63; exact Calls.regrown_of (amountE_c a am _ Hal.out HA.out)) | (go_at_call 64; exact Calls.regrown_of (ramountE_c a am _ Hal.out HA.out)) | (go_at_call 65; exact Calls.regrown_of (squareE_c _)) | (go_at_call 66; exact Calls.regrown_of (rsquareE_c _)) | (go_at_call 67; exact Calls.regrown_of (mostE_c _)) | (go_at_call 68; exact Calls.regrown_of (rmostE_c _)) | (go_at_call 69; exact Calls.regrown_of (lives3_walk _))))
  refine wpQuiet_nil ?_
  intro _ hw'
  obtain ⟨⟨dq, osq⟩, hw''⟩ := hw'
  subst hw''
  go_wp2
  go_ret
  exact ⟨rfl, Hfin.out _ _⟩
end Go.Proofs.Ytiofphpdonlaoaa
