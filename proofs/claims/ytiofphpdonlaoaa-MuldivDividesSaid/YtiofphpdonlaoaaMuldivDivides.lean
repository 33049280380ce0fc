/- tallagelaw02.MuldivDivides, walked: it returns true. -/
import Derived.Test.YtiofphpdonlaoaaRF
import Derived.Test.YtiofphpdonlaoaaBK
import Derived.Test.YtiofphpdonlaoaaM8
namespace Go.Proofs.Ytiofphpdonlaoaa
open Go.RowKit Go.Sort

set_option maxRecDepth 100000 in
set_option maxHeartbeats 8000000 in
theorem muldivDivides_walk (a b d : Nat) (w : World) (hal : a < 2 ^ 256) (hbl : b < 2 ^ 256) (hdl : d < 2 ^ 256) :
    Calls Try.prog 7 #[U a, U b, U d] w fun e w' => e = .returned (.bool true) ∧ Below w.heap.size w w' := by
  obtain ⟨x, hx⟩ : ∃ s, s = qv a b d := ⟨_, rfl⟩
  obtain ⟨ok, hok⟩ : ∃ s, s = qok a b d := ⟨_, rfl⟩
  obtain ⟨z, hz⟩ : ∃ s, s = uv a b d := ⟨_, rfl⟩
  obtain ⟨may, hmay⟩ : ∃ s, s = uok a b d := ⟨_, rfl⟩
  obtain ⟨H, hH⟩ : ∃ x, x = a * b / 2 ^ 256 := ⟨_, rfl⟩
  obtain ⟨L, hL⟩ : ∃ x, x = a * b % 2 ^ 256 := ⟨_, rfl⟩
  have hh := mul_halves hal hbl
  rw [← hH, ← hL] at hh
  have hHl := hh.1
  have hLl := hh.2.1
  have heqx := fun w => eq_run (a := x) (b := x) (by rw [hx]; exact qv_lt _ _ _) (by rw [hx]; exact qv_lt _ _ _) w
  have heqz := fun w => eq_run (a := z) (b := z) (by rw [hz]; exact uv_lt _ _ _) (by rw [hz]; exact uv_lt _ _ _) w
  have heqH := fun w => eq_run (a := H) (b := H) hHl hHl w
  have heqL := fun w => eq_run (a := L) (b := L) hLl hLl w
  have HX := Lib.hid (show qv a b d = x ∧ qok a b d = ok from ⟨hx.symm, hok.symm⟩)
  have HZ := Lib.hid (show uv a b d = z ∧ uok a b d = may from ⟨hz.symm, hmay.symm⟩)
  have HH := Lib.hid hH
  have HL := Lib.hid hL
  have Hal := Lib.hid hal
  have Hbl := Lib.hid hbl
  have Hdl := Lib.hid hdl
  clear hx hok hz hmay hH hL hh hHl hLl hal hbl hdl
  have K0 := Lib.hid (Bk.three (a := a) (b := b) (c := d) (w := w) (t1 := 24) (t2 := 24) (t3 := 24))
  unfold U
  go_enter Try.func7, Try.ntmps7
  go_upto_region 7 with (first
      | (go_at_call 45; refine (rwide_walk a b H L _ Hal.out Hbl.out HH.out HL.out).mono ?_; rintro e w6 ⟨rfl, hb6⟩; have k6 := (k5.alloc _).call hb6; have v6 := (Arr.new8 (κ := .u64) (w := w5) (f := wh H L) (t := 46) rfl).below hb6 (by rw [World.size_alloc]; omega); obtain ⟨⟨a60, a61, a62, a63⟩, la6⟩ := k6.cells (w.heap.size) a (by simp); obtain ⟨⟨b60, b61, b62, b63⟩, lb6⟩ := k6.cells (w.heap.size + 1) b (by simp); obtain ⟨⟨d60, d61, d62, d63⟩, ld6⟩ := k6.cells (w.heap.size + 1 + 1) d (by simp); unfold U)
      | (go_at_call 44; refine (wmulH_walk a b H L _ Hal.out Hbl.out HH.out HL.out).mono ?_; rintro e w5 ⟨rfl, hb5⟩; have k5 := (k4.push z).call hb5; obtain ⟨⟨a50, a51, a52, a53⟩, la5⟩ := k5.cells (w.heap.size) a (by simp); obtain ⟨⟨b50, b51, b52, b53⟩, lb5⟩ := k5.cells (w.heap.size + 1) b (by simp); obtain ⟨⟨d50, d51, d52, d53⟩, ld5⟩ := k5.cells (w.heap.size + 1 + 1) d (by simp); unfold WW)
      | (go_at_call 43; refine (rup_walk a b d _ Hal.out Hbl.out Hdl.out).mono ?_; rintro e w4 ⟨rfl, hb4⟩; rw [HZ.out.1, HZ.out.2]; have k4 := (k3.push z).call hb4; obtain ⟨⟨a40, a41, a42, a43⟩, la4⟩ := k4.cells (w.heap.size) a (by simp); obtain ⟨⟨b40, b41, b42, b43⟩, lb4⟩ := k4.cells (w.heap.size + 1) b (by simp); obtain ⟨⟨d40, d41, d42, d43⟩, ld4⟩ := k4.cells (w.heap.size + 1 + 1) d (by simp); unfold U)
      | (go_at_call 42; refine (up_walk a b d _ Hal.out Hbl.out Hdl.out).mono ?_; rintro e w3 ⟨rfl, hb3⟩; rw [HZ.out.1, HZ.out.2]; have k3 := (k2.push x).call hb3; obtain ⟨⟨a30, a31, a32, a33⟩, la3⟩ := k3.cells (w.heap.size) a (by simp); obtain ⟨⟨b30, b31, b32, b33⟩, lb3⟩ := k3.cells (w.heap.size + 1) b (by simp); obtain ⟨⟨d30, d31, d32, d33⟩, ld3⟩ := k3.cells (w.heap.size + 1 + 1) d (by simp); unfold U)
      | (go_at_call 41; refine (rdown_walk a b d _ Hal.out Hbl.out Hdl.out).mono ?_; rintro e w2 ⟨rfl, hb2⟩; rw [HX.out.1, HX.out.2]; have k2 := (k1.push x).call hb2; obtain ⟨⟨a20, a21, a22, a23⟩, la2⟩ := k2.cells (w.heap.size) a (by simp); obtain ⟨⟨b20, b21, b22, b23⟩, lb2⟩ := k2.cells (w.heap.size + 1) b (by simp); obtain ⟨⟨d20, d21, d22, d23⟩, ld2⟩ := k2.cells (w.heap.size + 1 + 1) d (by simp); unfold U)
      | (go_at_call 40; refine (down_walk a b d _ Hal.out Hbl.out Hdl.out).mono ?_; rintro e w1 ⟨rfl, hb1⟩; rw [HX.out.1, HX.out.2]; have k1 := K0.out.call hb1; obtain ⟨⟨a10, a11, a12, a13⟩, la1⟩ := k1.cells (w.heap.size) a (by simp); obtain ⟨⟨b10, b11, b12, b13⟩, lb1⟩ := k1.cells (w.heap.size + 1) b (by simp); obtain ⟨⟨d10, d11, d12, d13⟩, ld1⟩ := k1.cells (w.heap.size + 1 + 1) d (by simp); unfold U))
  have k7 := (k6.push (t := 24) H).push (t := 24) L
  simp only [World.size_alloc] at k7
  have v7 := (v6.alloc (.cells #[.int .u64 (limb H 0 : Nat), .int .u64 (limb H 1 : Nat), .int .u64 (limb H 2 : Nat), .int .u64 (limb H 3 : Nat)] 24)).alloc (.cells #[.int .u64 (limb L 0 : Nat), .int .u64 (limb L 1 : Nat), .int .u64 (limb L 2 : Nat), .int .u64 (limb L 3 : Nat)] 24)
  obtain ⟨W, hW⟩ : ∃ W, W = ((w6.alloc (.cells #[.int .u64 (limb H 0 : Nat), .int .u64 (limb H 1 : Nat), .int .u64 (limb H 2 : Nat), .int .u64 (limb H 3 : Nat)] 24)).alloc (.cells #[.int .u64 (limb L 0 : Nat), .int .u64 (limb L 1 : Nat), .int .u64 (limb L 2 : Nat), .int .u64 (limb L 3 : Nat)] 24)) := ⟨_, rfl⟩
  rw [← hW] at k7 v7
  rw [← hW]
  have bel := k7.l
  have Bel := Lib.hid bel
  obtain ⟨⟨u00, u01, u02, u03⟩, _⟩ := k7.cells (w1.heap.size) x (by simp)
  obtain ⟨⟨u10, u11, u12, u13⟩, _⟩ := k7.cells (w2.heap.size) x (by simp)
  obtain ⟨⟨u20, u21, u22, u23⟩, _⟩ := k7.cells (w3.heap.size) z (by simp)
  obtain ⟨⟨u30, u31, u32, u33⟩, _⟩ := k7.cells (w4.heap.size) z (by simp)
  obtain ⟨⟨u40, u41, u42, u43⟩, _⟩ := k7.cells (w6.heap.size) H (by simp)
  obtain ⟨⟨u50, u51, u52, u53⟩, _⟩ := k7.cells (w6.heap.size + 1) L (by simp)
  obtain ⟨v0, v1, v2, v3, v4, v5, v6', v7'⟩ := wh_cells v7
  clear hW bel k1 k2 k3 k4 k5 k6 k7 v6 v7 hb1 hb2 hb3 hb4 hb5 hb6
  go_wp2_with (go_at_call 46; refine (lives2_walk _).mono ?_; rintro e w8 ⟨rfl, hb8⟩)
  go_ret
  exact ⟨rfl, Bel.out.trans (hb8.mono Bel.out.size)⟩
end Go.Proofs.Ytiofphpdonlaoaa
