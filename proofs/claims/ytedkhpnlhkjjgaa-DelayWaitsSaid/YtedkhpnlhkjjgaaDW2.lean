/- The law DelayWaits: where it looks at nothing; the whole. -/
import Derived.Test.YtedkhpnlhkjjgaaDelayWaits
namespace Go.Proofs.Ytedkhpnlhkjjgaa
open Go.RowKit Go.Maps

set_option maxRecDepth 100000 in
set_option maxHeartbeats 4000000 in
theorem delayWaits_walk (A : Option Addr) (N C : Nat) (A0 : Nat → Option Addr) (k0 c0 : Nat → Nat) (x1 x2 x3 : Nat → Int) (A1 : Option Addr) (k1 cq : Nat) (xv xb xw m : Int) (w : World) (hr : RowsV w A N 4 (fun i => [.slice (A0 i) (k0 i) (c0 i), .int .i64 (x1 i), .int .i64 (x2 i), .int .i64 (x3 i)]))
    (hN : (N : Int) ≤ 9223372036854775807) (hk : ∀ i, i < N → (k0 i : Int) ≤ 9223372036854775807) (hk1 : (k1 : Int) ≤ 9223372036854775807) (hm : 0 ≤ m ∧ m < 65536) :
    Calls Try.prog 10 #[.slice A N C, .agg #[.slice A1 k1 cq, .int .i64 xv, .int .i64 xb, .int .i64 xw], .int .u16 m] w fun e w' => e = .returned (.bool true) ∧ Below w.heap.size w w' := by
  have hb0 := (Below.refl w.heap.size w).alloc (Nat.le_refl _) (.cells #[.slice A1 k1 cq, .int .i64 xv, .int .i64 xb, .int .i64 xw] 93)
  by_cases hg : N ≤ 100 ∧ ∀ i, i < N → k0 i ≤ 5
  · have hL1 := light28_rows A N C A0 k0 c0 x1 x2 x3 _ (hr.below hb0) hN hk true ⟨fun _ => hg, fun _ => rfl⟩
    have hL2 := fun w1 : World => light28_walk w1.heap.size A1 k1 cq xv xb xw (w1.alloc (.cells #[.slice A1 k1 cq, .int .i64 xv, .int .i64 xb, .int .i64 xw] 93)) (heap_alloc_new _ _) hk1
    by_cases h1 : k1 ≤ 5
    · rw [decide_eq_true h1] at hL2
      by_cases q1 : xb < 0
      · have HL1 := Lib.hid hL1
        have HL2 := Lib.hid hL2
        have HB0 := Lib.hid hb0
        clear hr hN hk hk1 hm hb0 hg hL1 hL2 h1
        go_enter Try.func10, Try.ntmps10
        go_wp2_with (first
          | (go_at_call 56; with_reducible refine (lives28_walk _).mono ?_; rintro e w10 ⟨rfl, hb10⟩; have HBl := Lib.hid hb10; clear hb10)
          | (go_at_call 55; have g5 := H1; clear g5; with_reducible refine (HL2.out w1).mono ?_; rintro e w2 ⟨rfl, hb2⟩; have hbx := H1.out.alloc H1.out.size (.cells #[.slice A1 k1 cq, .int .i64 xv, .int .i64 xb, .int .i64 xw] 93); have H2 := Lib.hid (hbx.trans (hb2.mono hbx.size)); have rb := dw_box H2.out; have y1 := (hp_cell (i := 1) rb).trans rfl; have y2 := (hp_cell (i := 2) rb).trans rfl; have y3 := (hp_cell (i := 3) rb).trans rfl; clear hb2 hbx rb)
          | (go_at_call 55; with_reducible refine HL1.out.mono ?_; rintro e w1 ⟨rfl, hb1⟩; have H1 := Lib.hid hb1; have rb := dw_box hb1; have y0 := (hp_cell (i := 0) rb).trans rfl; have y1 := (hp_cell (i := 1) rb).trans rfl; have y2 := (hp_cell (i := 2) rb).trans rfl; have y3 := (hp_cell (i := 3) rb).trans rfl; clear hb1 rb))
        go_ret
        have hz := HB0.out.trans (H2.out.mono HB0.out.size)
        exact ⟨rfl, hz.trans (HBl.out.mono hz.size)⟩
      by_cases q2 : (1073741824 : Int) < xb
      · have HL1 := Lib.hid hL1
        have HL2 := Lib.hid hL2
        have HB0 := Lib.hid hb0
        clear hr hN hk hk1 hm hb0 hg hL1 hL2 h1
        go_enter Try.func10, Try.ntmps10
        go_wp2_with (first
          | (go_at_call 56; with_reducible refine (lives28_walk _).mono ?_; rintro e w10 ⟨rfl, hb10⟩; have HBl := Lib.hid hb10; clear hb10)
          | (go_at_call 55; have g5 := H1; clear g5; with_reducible refine (HL2.out w1).mono ?_; rintro e w2 ⟨rfl, hb2⟩; have hbx := H1.out.alloc H1.out.size (.cells #[.slice A1 k1 cq, .int .i64 xv, .int .i64 xb, .int .i64 xw] 93); have H2 := Lib.hid (hbx.trans (hb2.mono hbx.size)); have rb := dw_box H2.out; have y1 := (hp_cell (i := 1) rb).trans rfl; have y2 := (hp_cell (i := 2) rb).trans rfl; have y3 := (hp_cell (i := 3) rb).trans rfl; clear hb2 hbx rb)
          | (go_at_call 55; with_reducible refine HL1.out.mono ?_; rintro e w1 ⟨rfl, hb1⟩; have H1 := Lib.hid hb1; have rb := dw_box hb1; have y0 := (hp_cell (i := 0) rb).trans rfl; have y1 := (hp_cell (i := 1) rb).trans rfl; have y2 := (hp_cell (i := 2) rb).trans rfl; have y3 := (hp_cell (i := 3) rb).trans rfl; clear hb1 rb))
        go_ret
        have hz := HB0.out.trans (H2.out.mono HB0.out.size)
        exact ⟨rfl, hz.trans (HBl.out.mono hz.size)⟩
      by_cases q3 : xw < 0
      · have HL1 := Lib.hid hL1
        have HL2 := Lib.hid hL2
        have HB0 := Lib.hid hb0
        clear hr hN hk hk1 hm hb0 hg hL1 hL2 h1
        go_enter Try.func10, Try.ntmps10
        go_wp2_with (first
          | (go_at_call 56; with_reducible refine (lives28_walk _).mono ?_; rintro e w10 ⟨rfl, hb10⟩; have HBl := Lib.hid hb10; clear hb10)
          | (go_at_call 55; have g5 := H1; clear g5; with_reducible refine (HL2.out w1).mono ?_; rintro e w2 ⟨rfl, hb2⟩; have hbx := H1.out.alloc H1.out.size (.cells #[.slice A1 k1 cq, .int .i64 xv, .int .i64 xb, .int .i64 xw] 93); have H2 := Lib.hid (hbx.trans (hb2.mono hbx.size)); have rb := dw_box H2.out; have y1 := (hp_cell (i := 1) rb).trans rfl; have y2 := (hp_cell (i := 2) rb).trans rfl; have y3 := (hp_cell (i := 3) rb).trans rfl; clear hb2 hbx rb)
          | (go_at_call 55; with_reducible refine HL1.out.mono ?_; rintro e w1 ⟨rfl, hb1⟩; have H1 := Lib.hid hb1; have rb := dw_box hb1; have y0 := (hp_cell (i := 0) rb).trans rfl; have y1 := (hp_cell (i := 1) rb).trans rfl; have y2 := (hp_cell (i := 2) rb).trans rfl; have y3 := (hp_cell (i := 3) rb).trans rfl; clear hb1 rb))
        go_ret
        have hz := HB0.out.trans (H2.out.mono HB0.out.size)
        exact ⟨rfl, hz.trans (HBl.out.mono hz.size)⟩
      by_cases q4 : (1073741824 : Int) < xw
      · have HL1 := Lib.hid hL1
        have HL2 := Lib.hid hL2
        have HB0 := Lib.hid hb0
        clear hr hN hk hk1 hm hb0 hg hL1 hL2 h1
        go_enter Try.func10, Try.ntmps10
        go_wp2_with (first
          | (go_at_call 56; with_reducible refine (lives28_walk _).mono ?_; rintro e w10 ⟨rfl, hb10⟩; have HBl := Lib.hid hb10; clear hb10)
          | (go_at_call 55; have g5 := H1; clear g5; with_reducible refine (HL2.out w1).mono ?_; rintro e w2 ⟨rfl, hb2⟩; have hbx := H1.out.alloc H1.out.size (.cells #[.slice A1 k1 cq, .int .i64 xv, .int .i64 xb, .int .i64 xw] 93); have H2 := Lib.hid (hbx.trans (hb2.mono hbx.size)); have rb := dw_box H2.out; have y1 := (hp_cell (i := 1) rb).trans rfl; have y2 := (hp_cell (i := 2) rb).trans rfl; have y3 := (hp_cell (i := 3) rb).trans rfl; clear hb2 hbx rb)
          | (go_at_call 55; with_reducible refine HL1.out.mono ?_; rintro e w1 ⟨rfl, hb1⟩; have H1 := Lib.hid hb1; have rb := dw_box hb1; have y0 := (hp_cell (i := 0) rb).trans rfl; have y1 := (hp_cell (i := 1) rb).trans rfl; have y2 := (hp_cell (i := 2) rb).trans rfl; have y3 := (hp_cell (i := 3) rb).trans rfl; clear hb1 rb))
        go_ret
        have hz := HB0.out.trans (H2.out.mono HB0.out.size)
        exact ⟨rfl, hz.trans (HBl.out.mono hz.size)⟩
      by_cases q5 : xv < 0
      · have HL1 := Lib.hid hL1
        have HL2 := Lib.hid hL2
        have HB0 := Lib.hid hb0
        clear hr hN hk hk1 hm hb0 hg hL1 hL2 h1
        go_enter Try.func10, Try.ntmps10
        go_wp2_with (first
          | (go_at_call 56; with_reducible refine (lives28_walk _).mono ?_; rintro e w10 ⟨rfl, hb10⟩; have HBl := Lib.hid hb10; clear hb10)
          | (go_at_call 55; have g5 := H1; clear g5; with_reducible refine (HL2.out w1).mono ?_; rintro e w2 ⟨rfl, hb2⟩; have hbx := H1.out.alloc H1.out.size (.cells #[.slice A1 k1 cq, .int .i64 xv, .int .i64 xb, .int .i64 xw] 93); have H2 := Lib.hid (hbx.trans (hb2.mono hbx.size)); have rb := dw_box H2.out; have y1 := (hp_cell (i := 1) rb).trans rfl; have y2 := (hp_cell (i := 2) rb).trans rfl; have y3 := (hp_cell (i := 3) rb).trans rfl; clear hb2 hbx rb)
          | (go_at_call 55; with_reducible refine HL1.out.mono ?_; rintro e w1 ⟨rfl, hb1⟩; have H1 := Lib.hid hb1; have rb := dw_box hb1; have y0 := (hp_cell (i := 0) rb).trans rfl; have y1 := (hp_cell (i := 1) rb).trans rfl; have y2 := (hp_cell (i := 2) rb).trans rfl; have y3 := (hp_cell (i := 3) rb).trans rfl; clear hb1 rb))
        go_ret
        have hz := HB0.out.trans (H2.out.mono HB0.out.size)
        exact ⟨rfl, hz.trans (HBl.out.mono hz.size)⟩
      by_cases q6 : (1073741824 : Int) < xv
      · have HL1 := Lib.hid hL1
        have HL2 := Lib.hid hL2
        have HB0 := Lib.hid hb0
        clear hr hN hk hk1 hm hb0 hg hL1 hL2 h1
        go_enter Try.func10, Try.ntmps10
        go_wp2_with (first
          | (go_at_call 56; with_reducible refine (lives28_walk _).mono ?_; rintro e w10 ⟨rfl, hb10⟩; have HBl := Lib.hid hb10; clear hb10)
          | (go_at_call 55; have g5 := H1; clear g5; with_reducible refine (HL2.out w1).mono ?_; rintro e w2 ⟨rfl, hb2⟩; have hbx := H1.out.alloc H1.out.size (.cells #[.slice A1 k1 cq, .int .i64 xv, .int .i64 xb, .int .i64 xw] 93); have H2 := Lib.hid (hbx.trans (hb2.mono hbx.size)); have rb := dw_box H2.out; have y1 := (hp_cell (i := 1) rb).trans rfl; have y2 := (hp_cell (i := 2) rb).trans rfl; have y3 := (hp_cell (i := 3) rb).trans rfl; clear hb2 hbx rb)
          | (go_at_call 55; with_reducible refine HL1.out.mono ?_; rintro e w1 ⟨rfl, hb1⟩; have H1 := Lib.hid hb1; have rb := dw_box hb1; have y0 := (hp_cell (i := 0) rb).trans rfl; have y1 := (hp_cell (i := 1) rb).trans rfl; have y2 := (hp_cell (i := 2) rb).trans rfl; have y3 := (hp_cell (i := 3) rb).trans rfl; clear hb1 rb))
        go_ret
        have hz := HB0.out.trans (H2.out.mono HB0.out.size)
        exact ⟨rfl, hz.trans (HBl.out.mono hz.size)⟩
      exact delayWaits_go A N C A0 k0 c0 x1 x2 x3 A1 k1 cq xv xb xw m w hr hg.1 hg.2 h1 (by omega) (by omega) (by omega) hm
    · rw [decide_eq_false h1] at hL2
      have HL1 := Lib.hid hL1
      have HL2 := Lib.hid hL2
      have HB0 := Lib.hid hb0
      clear hr hN hk hk1 hm hb0 hg hL1 hL2 h1
      go_enter Try.func10, Try.ntmps10
      go_wp2_with (first
        | (go_at_call 56; with_reducible refine (lives28_walk _).mono ?_; rintro e w10 ⟨rfl, hb10⟩; have HBl := Lib.hid hb10; clear hb10)
        | (go_at_call 55; have g5 := H1; clear g5; with_reducible refine (HL2.out w1).mono ?_; rintro e w2 ⟨rfl, hb2⟩; have hbx := H1.out.alloc H1.out.size (.cells #[.slice A1 k1 cq, .int .i64 xv, .int .i64 xb, .int .i64 xw] 93); have H2 := Lib.hid (hbx.trans (hb2.mono hbx.size)); have rb := dw_box H2.out; have y1 := (hp_cell (i := 1) rb).trans rfl; have y2 := (hp_cell (i := 2) rb).trans rfl; have y3 := (hp_cell (i := 3) rb).trans rfl; clear hb2 hbx rb)
        | (go_at_call 55; with_reducible refine HL1.out.mono ?_; rintro e w1 ⟨rfl, hb1⟩; have H1 := Lib.hid hb1; have rb := dw_box hb1; have y0 := (hp_cell (i := 0) rb).trans rfl; have y1 := (hp_cell (i := 1) rb).trans rfl; have y2 := (hp_cell (i := 2) rb).trans rfl; have y3 := (hp_cell (i := 3) rb).trans rfl; clear hb1 rb))
      go_ret
      have hz := HB0.out.trans (H2.out.mono HB0.out.size)
      exact ⟨rfl, hz.trans (HBl.out.mono hz.size)⟩
  · have hL1 := light28_rows A N C A0 k0 c0 x1 x2 x3 _ (hr.below hb0) hN hk false ⟨(fun h => by cases h), fun h => absurd h hg⟩
    have HL1 := Lib.hid hL1
    have HB0 := Lib.hid hb0
    clear hr hN hk hk1 hm hb0 hg hL1
    go_enter Try.func10, Try.ntmps10
    go_wp2_with (first
      | (go_at_call 56; with_reducible refine (lives28_walk _).mono ?_; rintro e w10 ⟨rfl, hb10⟩; have HBl := Lib.hid hb10; clear hb10)
      | (go_at_call 55; with_reducible refine HL1.out.mono ?_; rintro e w1 ⟨rfl, hb1⟩; have H1 := Lib.hid (HB0.out.trans (hb1.mono HB0.out.size)); clear hb1))
    go_ret
    exact ⟨rfl, H1.out.trans (HBl.out.mono H1.out.size)⟩
end Go.Proofs.Ytedkhpnlhkjjgaa
