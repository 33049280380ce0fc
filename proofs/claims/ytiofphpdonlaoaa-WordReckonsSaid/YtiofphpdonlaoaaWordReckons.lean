/- tallagelaw01.WordReckons, walked: it returns true. -/
import Derived.Test.YtiofphpdonlaoaaRD
import Derived.Test.YtiofphpdonlaoaaBK
import Derived.Test.YtiofphpdonlaoaaLives1
namespace Go.Proofs.Ytiofphpdonlaoaa
open Go.RowKit Go.Sort

theorem sub_c (a b : Nat) (w : World) (ha : a < 2 ^ 256) (hb : b < 2 ^ 256) : Calls Try.prog 17 #[U a, U b] w fun e w' => e = .returned (.tuple #[U (subv a b), .bool (subk a b)]) ∧ Below w.heap.size w w' := sub_walk a b w ha hb
theorem min_eq_b {a b : Nat} (h : cmpU b a < 0) : minv a b = b := by
  have h1 : b < a := by
    rcases Nat.lt_or_ge b a with h1 | h1
    · exact h1
    · have := (cmpU_ge' b a).2 h1; omega
  unfold minv; rw [if_pos]; rw [cmpU_gt h1]; decide
theorem min_eq_a {a b : Nat} (h : ¬ cmpU b a < 0) : minv a b = a := by
  have h1 : a ≤ b := (cmpU_ge' b a).1 (by omega)
  unfold minv; rw [if_neg]
  rcases Nat.eq_or_lt_of_le h1 with e | e
  · rw [cmpU_eq e]; decide
  · rw [cmpU_lt e]; decide

theorem cmpE_c (a b : Nat) (c : Int) (w : World) (ha : a < 2 ^ 256) (hb : b < 2 ^ 256) (h : c = cmpU a b) : Calls Try.prog 24 #[U a, U b] w fun e w' => e = .returned (.int .i64 c) ∧ Below w.heap.size w w' := by rw [h]; exact cmp_c a b w ha hb
theorem rcmpE_c (a b : Nat) (c : Int) (w : World) (ha : a < 2 ^ 256) (hb : b < 2 ^ 256) (h : c = cmpU a b) : Calls Try.prog 23 #[U a, U b] w fun e w' => e = .returned (.int .i64 c) ∧ Below w.heap.size w w' := by rw [h]; exact rcmp_walk a b w ha hb
theorem minE_c (a b n : Nat) (w : World) (ha : a < 2 ^ 256) (hb : b < 2 ^ 256) (h : n = minv a b) : Calls Try.prog 25 #[U a, U b] w fun e w' => e = .returned (.agg #[.int .u64 (limb n 0 : Nat), .int .u64 (limb n 1 : Nat), .int .u64 (limb n 2 : Nat), .int .u64 (limb n 3 : Nat)]) ∧ Below w.heap.size w w' := by rw [h]; exact min_walk a b w ha hb

set_option maxRecDepth 100000 in
set_option maxHeartbeats 8000000 in
theorem wordReckons_walk (a b : Nat) (w : World) (hal : a < 2 ^ 256) (hbl : b < 2 ^ 256) :
    Calls Try.prog 3 #[U a, U b] w fun e w' => e = .returned (.bool true) ∧ Below w.heap.size w w' := by
  obtain ⟨s, hs⟩ : ∃ s, s = addv a b := ⟨_, rfl⟩
  obtain ⟨ok, hok⟩ : ∃ s, s = addk a b := ⟨_, rfl⟩
  obtain ⟨d, hd⟩ : ∃ s, s = subv a b := ⟨_, rfl⟩
  obtain ⟨may, hmay⟩ : ∃ s, s = subk a b := ⟨_, rfl⟩
  obtain ⟨p, hp⟩ : ∃ s, s = mulv a b := ⟨_, rfl⟩
  obtain ⟨fits, hfits⟩ : ∃ s, s = mulk a b := ⟨_, rfl⟩
  obtain ⟨x, hx⟩ : ∃ s, s = if b = 0 then 0 else a / b := ⟨_, rfl⟩
  obtain ⟨y, hy⟩ : ∃ s, s = if b = 0 then 0 else a % b := ⟨_, rfl⟩
  obtain ⟨yes, hyes⟩ : ∃ s, s = decide (b ≠ 0) := ⟨_, rfl⟩
  obtain ⟨c, hc⟩ : ∃ s, s = cmpU b a := ⟨_, rfl⟩
  obtain ⟨c2, hc2⟩ : ∃ s, s = cmpU a b := ⟨_, rfl⟩
  obtain ⟨mn, hmn⟩ : ∃ s, s = minv a b := ⟨_, rfl⟩
  have hxl : x < 2 ^ 256 := by rw [hx]; split; decide; exact Nat.lt_of_le_of_lt (Nat.div_le_self _ _) hal
  have hyl : y < 2 ^ 256 := by rw [hy]; split; decide; exact Nat.lt_of_le_of_lt (Nat.mod_le _ _) hal
  have hmnl : mn < 2 ^ 256 := by rw [hmn]; exact minv_lt hal hbl
  have heqs := fun w => eq_run (a := s) (b := s) (by rw [hs]; exact addv_lt _ _) (by rw [hs]; exact addv_lt _ _) w
  have heqd := fun w => eq_run (a := d) (b := d) (by rw [hd]; exact subv_lt _ hal) (by rw [hd]; exact subv_lt _ hal) w
  have heqp := fun w => eq_run (a := p) (b := p) (by rw [hp]; exact mulv_lt _ _) (by rw [hp]; exact mulv_lt _ _) w
  have heqx := fun w => eq_run (a := x) (b := x) hxl hxl w
  have heqy := fun w => eq_run (a := y) (b := y) hyl hyl w
  have heqma := fun w => eq_run (a := mn) (b := a) hmnl hal w
  have heqmb := fun w => eq_run (a := mn) (b := b) hmnl hbl w
  have HS := Lib.hid (show addv a b = s ∧ addk a b = ok from ⟨hs.symm, hok.symm⟩)
  have HDf := Lib.hid (show subv a b = d ∧ subk a b = may from ⟨hd.symm, hmay.symm⟩)
  have HP := Lib.hid (show mulv a b = p ∧ mulk a b = fits from ⟨hp.symm, hfits.symm⟩)
  have HDv := Lib.hid (show (if b = 0 then 0 else a / b) = x ∧ (if b = 0 then 0 else a % b) = y ∧ decide (b ≠ 0) = yes from ⟨hx.symm, hy.symm, hyes.symm⟩)
  have Hc := Lib.hid hc
  have Hc2 := Lib.hid hc2
  have Hmn := Lib.hid hmn
  have Hal := Lib.hid hal
  have Hbl := Lib.hid hbl
  clear hs hok hd hmay hp hfits hx hy hyes hc hc2 hmn hxl hyl hmnl hal hbl
  have K0 := Lib.hid (Bk.two (a := a) (b := b) (w := w) (t1 := 24) (t2 := 24))
  unfold U
  by_cases hc0 : c < 0
  · have dmb : decide (mn = b) = true := decide_eq_true (by rw [Hmn.out]; exact min_eq_b (by rw [← Hc.out]; exact hc0))
    go_enter Try.func3, Try.ntmps3
    go_upto_region 14 with (first
      | (go_at_call 23; refine (rcmp_walk b a _ Hbl.out Hal.out).mono ?_; rintro e w9 ⟨rfl, hb9⟩; rw [← Hc.out]; have k9 := (((k8.push x).push y).push a).call hb9; simp only [World.size_alloc] at k9; obtain ⟨⟨b90, b91, b92, b93⟩, lb9⟩ := k9.cells (w.heap.size + 1) b (by simp); obtain ⟨f90, f91, f92, f93⟩ := (k9.b (w8.heap.size + 1 + 1, a) (by simp)).a.frees4; obtain ⟨⟨m90, m91, m92, m93⟩, lm9⟩ := k9.cells (w8.heap.size + 1 + 1) a (by simp))
      | (go_at_call 22; refine (rdiv_walk a b _ Hal.out Hbl.out).mono ?_; rintro e w8 ⟨rfl, hb8⟩; rw [HDv.out.1, HDv.out.2.1, HDv.out.2.2]; have k8 := ((k7.push x).push y).call hb8; simp only [World.size_alloc] at k8; have hk8 := k8.l.size; obtain ⟨⟨a80, a81, a82, a83⟩, la8⟩ := k8.cells (w.heap.size) a (by simp); obtain ⟨⟨b80, b81, b82, b83⟩, lb8⟩ := k8.cells (w.heap.size + 1) b (by simp); have ga8 : w.heap.size < w8.heap.size + 1 := (by omega); have ga8' : w.heap.size < w8.heap.size + 1 + 1 := (by omega); have gb8 : w.heap.size + 1 < w8.heap.size + 1 := (by omega); have gb8' : w.heap.size + 1 < w8.heap.size + 1 + 1 := (by omega); unfold U)
      | (go_at_call 21; refine (div_walk a b _ Hal.out Hbl.out).mono ?_; rintro e w7 ⟨rfl, hb7⟩; rw [HDv.out.1, HDv.out.2.1, HDv.out.2.2]; have k7 := (k6.push p).call hb7; obtain ⟨⟨a70, a71, a72, a73⟩, la7⟩ := k7.cells (w.heap.size) a (by simp); obtain ⟨⟨b70, b71, b72, b73⟩, lb7⟩ := k7.cells (w.heap.size + 1) b (by simp); unfold U)
      | (go_at_call 20; refine (rmul_walk a b _ Hal.out Hbl.out).mono ?_; rintro e w6 ⟨rfl, hb6⟩; rw [HP.out.1, HP.out.2]; have k6 := (k5.push p).call hb6; obtain ⟨⟨a60, a61, a62, a63⟩, la6⟩ := k6.cells (w.heap.size) a (by simp); obtain ⟨⟨b60, b61, b62, b63⟩, lb6⟩ := k6.cells (w.heap.size + 1) b (by simp); obtain ⟨⟨s60, s61, s62, s63⟩, ls6⟩ := k6.cells (w1.heap.size) s (by simp); obtain ⟨⟨t60, t61, t62, t63⟩, lt6⟩ := k6.cells (w2.heap.size) s (by simp); obtain ⟨⟨d60, d61, d62, d63⟩, ld6⟩ := k6.cells (w3.heap.size) d (by simp); obtain ⟨⟨e60, e61, e62, e63⟩, le6⟩ := k6.cells (w4.heap.size) d (by simp); obtain ⟨⟨p60, p61, p62, p63⟩, lp6⟩ := k6.cells (w5.heap.size) p (by simp); unfold U)
      | (go_at_call 19; refine (mul_c a b _ Hal.out Hbl.out).mono ?_; rintro e w5 ⟨rfl, hb5⟩; rw [HP.out.1, HP.out.2]; have k5 := (k4.push d).call hb5; obtain ⟨⟨a50, a51, a52, a53⟩, la5⟩ := k5.cells (w.heap.size) a (by simp); obtain ⟨⟨b50, b51, b52, b53⟩, lb5⟩ := k5.cells (w.heap.size + 1) b (by simp); unfold U)
      | (go_at_call 18; refine (rsub_walk a b _ Hal.out Hbl.out).mono ?_; rintro e w4 ⟨rfl, hb4⟩; rw [HDf.out.1, HDf.out.2]; have k4 := (k3.push d).call hb4; obtain ⟨⟨a40, a41, a42, a43⟩, la4⟩ := k4.cells (w.heap.size) a (by simp); obtain ⟨⟨b40, b41, b42, b43⟩, lb4⟩ := k4.cells (w.heap.size + 1) b (by simp); unfold U)
      | (go_at_call 17; refine (sub_c a b _ Hal.out Hbl.out).mono ?_; rintro e w3 ⟨rfl, hb3⟩; rw [HDf.out.1, HDf.out.2]; have k3 := (k2.push s).call hb3; obtain ⟨⟨a30, a31, a32, a33⟩, la3⟩ := k3.cells (w.heap.size) a (by simp); obtain ⟨⟨b30, b31, b32, b33⟩, lb3⟩ := k3.cells (w.heap.size + 1) b (by simp); unfold U)
      | (go_at_call 16; refine (radd_walk a b _ Hal.out Hbl.out).mono ?_; rintro e w2 ⟨rfl, hb2⟩; rw [HS.out.1, HS.out.2]; have k2 := (k1.push s).call hb2; obtain ⟨⟨a20, a21, a22, a23⟩, la2⟩ := k2.cells (w.heap.size) a (by simp); obtain ⟨⟨b20, b21, b22, b23⟩, lb2⟩ := k2.cells (w.heap.size + 1) b (by simp); unfold U)
      | (go_at_call 15; refine (add_c a b _ Hal.out Hbl.out).mono ?_; rintro e w1 ⟨rfl, hb1⟩; rw [HS.out.1, HS.out.2]; have k1 := K0.out.call hb1; obtain ⟨⟨a10, a11, a12, a13⟩, la1⟩ := k1.cells (w.heap.size) a (by simp); obtain ⟨⟨b10, b11, b12, b13⟩, lb1⟩ := k1.cells (w.heap.size + 1) b (by simp); unfold U))
    obtain ⟨W, hW⟩ : ∃ W, W = ((((w9.setCell ⟨w8.heap.size + 1 + 1, 0, none⟩ (.int .u64 (limb b 0 : Nat))).setCell ⟨w8.heap.size + 1 + 1, 1, none⟩ (.int .u64 (limb b 1 : Nat))).setCell ⟨w8.heap.size + 1 + 1, 2, none⟩ (.int .u64 (limb b 2 : Nat))).setCell ⟨w8.heap.size + 1 + 1, 3, none⟩ (.int .u64 (limb b 3 : Nat))) := ⟨_, rfl⟩
    have hz7 := (k8.b (w7.heap.size, x) (by simp)).s
    have hz7' := (k8.b (w7.heap.size + 1, y) (by simp)).s
    have ba : Box W (w.heap.size) a := by rw [hW]; exact (k9.b (w.heap.size, a) (by simp)).putN_far (by omega)
    have bb : Box W (w.heap.size + 1) b := by rw [hW]; exact (k9.b (w.heap.size + 1, b) (by simp)).putN_far (by omega)
    have bx : Box W (w7.heap.size) x := by rw [hW]; exact (k9.b (w7.heap.size, x) (by simp)).putN_far (by omega)
    have by_ : Box W (w7.heap.size + 1) y := by rw [hW]; exact (k9.b (w7.heap.size + 1, y) (by simp)).putN_far (by omega)
    have bz : Box W (w8.heap.size) x := by rw [hW]; exact (k9.b (w8.heap.size, x) (by simp)).putN_far (by omega)
    have bw : Box W (w8.heap.size + 1) y := by rw [hW]; exact (k9.b (w8.heap.size + 1, y) (by simp)).putN_far (by omega)
    have bl : Box W (w8.heap.size + 1 + 1) b := by rw [hW]; exact (k9.b (w8.heap.size + 1 + 1, a) (by simp)).putN
    have bel : Below w.heap.size w W := by rw [hW]; exact below_set4 k9.l (by omega)
    rw [← hW]
    have hfin : ∀ dq osq, Below w.heap.size w (grow (redrawn W dq) osq) := fun dq osq => bel.trans ((below_regrown W dq osq).mono bel.size)
    have Hfin := Lib.hid hfin
    clear hfin
    obtain ⟨u00, u01, u02, u03⟩ := ba.a.grow4
    obtain ⟨u10, u11, u12, u13⟩ := bb.a.grow4
    obtain ⟨u20, u21, u22, u23⟩ := bx.a.grow4
    obtain ⟨u30, u31, u32, u33⟩ := by_.a.grow4
    obtain ⟨u40, u41, u42, u43⟩ := bz.a.grow4
    obtain ⟨u50, u51, u52, u53⟩ := bw.a.grow4
    obtain ⟨u60, u61, u62, u63⟩ := bl.a.grow4
    clear ba bb bx by_ bz bw bl bel hW k1 k2 k3 k4 k5 k6 k7 k8 k9
    refine wp_region_quiet_below (by kernel_rfl) (by kernel_rfl) ?_
    repeat (quiet_step (first | (go_at_call 24; exact Calls.regrown_of (cmpE_c a b c2 _ Hal.out Hbl.out Hc2.out)) | (go_at_call 23; exact Calls.regrown_of (rcmpE_c a b c2 _ Hal.out Hbl.out Hc2.out)) | (go_at_call 25; exact Calls.regrown_of (minE_c a b mn _ Hal.out Hbl.out Hmn.out)) | (go_at_call 26; exact Calls.regrown_of (lives1_walk _))))
    refine wpQuiet_nil ?_
    intro _ hw'
    obtain ⟨⟨dq, osq⟩, hw''⟩ := hw'
    subst hw''
    go_wp2
    go_ret
    exact ⟨rfl, Hfin.out _ _⟩
  · have dma : decide (mn = a) = true := decide_eq_true (by rw [Hmn.out]; exact min_eq_a (by rw [← Hc.out]; exact hc0))
    go_enter Try.func3, Try.ntmps3
    go_upto_region 14 with (first
      | (go_at_call 23; refine (rcmp_walk b a _ Hbl.out Hal.out).mono ?_; rintro e w9 ⟨rfl, hb9⟩; rw [← Hc.out]; have k9 := (((k8.push x).push y).push a).call hb9; simp only [World.size_alloc] at k9; obtain ⟨⟨b90, b91, b92, b93⟩, lb9⟩ := k9.cells (w.heap.size + 1) b (by simp); obtain ⟨f90, f91, f92, f93⟩ := (k9.b (w8.heap.size + 1 + 1, a) (by simp)).a.frees4; obtain ⟨⟨m90, m91, m92, m93⟩, lm9⟩ := k9.cells (w8.heap.size + 1 + 1) a (by simp))
      | (go_at_call 22; refine (rdiv_walk a b _ Hal.out Hbl.out).mono ?_; rintro e w8 ⟨rfl, hb8⟩; rw [HDv.out.1, HDv.out.2.1, HDv.out.2.2]; have k8 := ((k7.push x).push y).call hb8; simp only [World.size_alloc] at k8; have hk8 := k8.l.size; obtain ⟨⟨a80, a81, a82, a83⟩, la8⟩ := k8.cells (w.heap.size) a (by simp); obtain ⟨⟨b80, b81, b82, b83⟩, lb8⟩ := k8.cells (w.heap.size + 1) b (by simp); have ga8 : w.heap.size < w8.heap.size + 1 := (by omega); have ga8' : w.heap.size < w8.heap.size + 1 + 1 := (by omega); have gb8 : w.heap.size + 1 < w8.heap.size + 1 := (by omega); have gb8' : w.heap.size + 1 < w8.heap.size + 1 + 1 := (by omega); unfold U)
      | (go_at_call 21; refine (div_walk a b _ Hal.out Hbl.out).mono ?_; rintro e w7 ⟨rfl, hb7⟩; rw [HDv.out.1, HDv.out.2.1, HDv.out.2.2]; have k7 := (k6.push p).call hb7; obtain ⟨⟨a70, a71, a72, a73⟩, la7⟩ := k7.cells (w.heap.size) a (by simp); obtain ⟨⟨b70, b71, b72, b73⟩, lb7⟩ := k7.cells (w.heap.size + 1) b (by simp); unfold U)
      | (go_at_call 20; refine (rmul_walk a b _ Hal.out Hbl.out).mono ?_; rintro e w6 ⟨rfl, hb6⟩; rw [HP.out.1, HP.out.2]; have k6 := (k5.push p).call hb6; obtain ⟨⟨a60, a61, a62, a63⟩, la6⟩ := k6.cells (w.heap.size) a (by simp); obtain ⟨⟨b60, b61, b62, b63⟩, lb6⟩ := k6.cells (w.heap.size + 1) b (by simp); obtain ⟨⟨s60, s61, s62, s63⟩, ls6⟩ := k6.cells (w1.heap.size) s (by simp); obtain ⟨⟨t60, t61, t62, t63⟩, lt6⟩ := k6.cells (w2.heap.size) s (by simp); obtain ⟨⟨d60, d61, d62, d63⟩, ld6⟩ := k6.cells (w3.heap.size) d (by simp); obtain ⟨⟨e60, e61, e62, e63⟩, le6⟩ := k6.cells (w4.heap.size) d (by simp); obtain ⟨⟨p60, p61, p62, p63⟩, lp6⟩ := k6.cells (w5.heap.size) p (by simp); unfold U)
      | (go_at_call 19; refine (mul_c a b _ Hal.out Hbl.out).mono ?_; rintro e w5 ⟨rfl, hb5⟩; rw [HP.out.1, HP.out.2]; have k5 := (k4.push d).call hb5; obtain ⟨⟨a50, a51, a52, a53⟩, la5⟩ := k5.cells (w.heap.size) a (by simp); obtain ⟨⟨b50, b51, b52, b53⟩, lb5⟩ := k5.cells (w.heap.size + 1) b (by simp); unfold U)
      | (go_at_call 18; refine (rsub_walk a b _ Hal.out Hbl.out).mono ?_; rintro e w4 ⟨rfl, hb4⟩; rw [HDf.out.1, HDf.out.2]; have k4 := (k3.push d).call hb4; obtain ⟨⟨a40, a41, a42, a43⟩, la4⟩ := k4.cells (w.heap.size) a (by simp); obtain ⟨⟨b40, b41, b42, b43⟩, lb4⟩ := k4.cells (w.heap.size + 1) b (by simp); unfold U)
      | (go_at_call 17; refine (sub_c a b _ Hal.out Hbl.out).mono ?_; rintro e w3 ⟨rfl, hb3⟩; rw [HDf.out.1, HDf.out.2]; have k3 := (k2.push s).call hb3; obtain ⟨⟨a30, a31, a32, a33⟩, la3⟩ := k3.cells (w.heap.size) a (by simp); obtain ⟨⟨b30, b31, b32, b33⟩, lb3⟩ := k3.cells (w.heap.size + 1) b (by simp); unfold U)
      | (go_at_call 16; refine (radd_walk a b _ Hal.out Hbl.out).mono ?_; rintro e w2 ⟨rfl, hb2⟩; rw [HS.out.1, HS.out.2]; have k2 := (k1.push s).call hb2; obtain ⟨⟨a20, a21, a22, a23⟩, la2⟩ := k2.cells (w.heap.size) a (by simp); obtain ⟨⟨b20, b21, b22, b23⟩, lb2⟩ := k2.cells (w.heap.size + 1) b (by simp); unfold U)
      | (go_at_call 15; refine (add_c a b _ Hal.out Hbl.out).mono ?_; rintro e w1 ⟨rfl, hb1⟩; rw [HS.out.1, HS.out.2]; have k1 := K0.out.call hb1; obtain ⟨⟨a10, a11, a12, a13⟩, la1⟩ := k1.cells (w.heap.size) a (by simp); obtain ⟨⟨b10, b11, b12, b13⟩, lb1⟩ := k1.cells (w.heap.size + 1) b (by simp); unfold U))
    obtain ⟨W, hW⟩ : ∃ W, W = w9 := ⟨_, rfl⟩
    have hz7 := (k8.b (w7.heap.size, x) (by simp)).s
    have hz7' := (k8.b (w7.heap.size + 1, y) (by simp)).s
    have ba : Box W (w.heap.size) a := by rw [hW]; exact (k9.b (w.heap.size, a) (by simp))
    have bb : Box W (w.heap.size + 1) b := by rw [hW]; exact (k9.b (w.heap.size + 1, b) (by simp))
    have bx : Box W (w7.heap.size) x := by rw [hW]; exact (k9.b (w7.heap.size, x) (by simp))
    have by_ : Box W (w7.heap.size + 1) y := by rw [hW]; exact (k9.b (w7.heap.size + 1, y) (by simp))
    have bz : Box W (w8.heap.size) x := by rw [hW]; exact (k9.b (w8.heap.size, x) (by simp))
    have bw : Box W (w8.heap.size + 1) y := by rw [hW]; exact (k9.b (w8.heap.size + 1, y) (by simp))
    have bl : Box W (w8.heap.size + 1 + 1) a := by rw [hW]; exact (k9.b (w8.heap.size + 1 + 1, a) (by simp))
    have bel : Below w.heap.size w W := by rw [hW]; exact k9.l
    rw [← hW]
    have hfin : ∀ dq osq, Below w.heap.size w (grow (redrawn W dq) osq) := fun dq osq => bel.trans ((below_regrown W dq osq).mono bel.size)
    have Hfin := Lib.hid hfin
    clear hfin
    obtain ⟨u00, u01, u02, u03⟩ := ba.a.grow4
    obtain ⟨u10, u11, u12, u13⟩ := bb.a.grow4
    obtain ⟨u20, u21, u22, u23⟩ := bx.a.grow4
    obtain ⟨u30, u31, u32, u33⟩ := by_.a.grow4
    obtain ⟨u40, u41, u42, u43⟩ := bz.a.grow4
    obtain ⟨u50, u51, u52, u53⟩ := bw.a.grow4
    obtain ⟨u60, u61, u62, u63⟩ := bl.a.grow4
    clear ba bb bx by_ bz bw bl bel hW k1 k2 k3 k4 k5 k6 k7 k8 k9
    refine wp_region_quiet_below (by kernel_rfl) (by kernel_rfl) ?_
    repeat (quiet_step (first | (go_at_call 24; exact Calls.regrown_of (cmpE_c a b c2 _ Hal.out Hbl.out Hc2.out)) | (go_at_call 23; exact Calls.regrown_of (rcmpE_c a b c2 _ Hal.out Hbl.out Hc2.out)) | (go_at_call 25; exact Calls.regrown_of (minE_c a b mn _ Hal.out Hbl.out Hmn.out)) | (go_at_call 26; exact Calls.regrown_of (lives1_walk _))))
    refine wpQuiet_nil ?_
    intro _ hw'
    obtain ⟨⟨dq, osq⟩, hw''⟩ := hw'
    subst hw''
    go_wp2
    go_ret
    exact ⟨rfl, Hfin.out _ _⟩
end Go.Proofs.Ytiofphpdonlaoaa
