/- The law MagnFalls, walked: where it looks. -/
import Derived.Test.YtedkhpnlhkjjgaaG31
import Derived.Test.YtedkhpnlhkjjgaaG01
namespace Go.Proofs.Ytedkhpnlhkjjgaa
open Go.RowKit Go.Maps Go.Sort

theorem HisS.more {w0 W : World} {b : Nat} {K0 : ByteArray} {Kp : Int → ByteArray} {c c' m : Nat} {rx ra : Nat → Nat} (h : HisS w0 W b K0 Kp c m rx ra) (hc : c ≤ c') : HisS w0 W b K0 Kp c' m rx ra := by
  obtain ⟨F, L, q, qs, hs, hq, hd⟩ := h.s
  exact ⟨F, L, q, qs, hs, by omega, hd⟩
set_option maxRecDepth 100000 in
set_option maxHeartbeats 16000000 in
theorem magnFalls_go (A : Option Addr) (N C : Nat) (y0 y1 y2 : Nat → Int) (y3 : Nat → Nat) (Bs : Option Addr) (S D : Nat) (f : Nat → Nat) (w : World) (hr : RowsV w A N 7 (fun i => [.int .i64 (y0 i), .int .i64 (y1 i), .int .i64 (y2 i), .int .u64 (limb (y3 i) 0 : Nat), .int .u64 (limb (y3 i) 1 : Nat), .int .u64 (limb (y3 i) 2 : Nat), .int .u64 (limb (y3 i) 3 : Nat)])) (hs : Sl w Bs S f) (hN : N ≤ 60) (hS : S ≤ 60) (ha : ∀ i, i < N → y3 i < 2 ^ 256) :
    Calls Try.prog 9 #[.slice A N C, .slice Bs S D] w fun e w' => e = .returned (.bool true) ∧ Below w.heap.size w w' := by
  have HR := Lib.hid hr
  have HSt := Lib.hid hs
  have HA := Lib.hid ha
  have HNn := Lib.hid hN
  have hN' : (N : Int) ≤ 60 := by omega
  have hS' : (S : Int) ≤ 60 := by omega
  clear hr hs hN hS ha
  go_enter Try.func9, Try.ntmps9
  go_wp2_with (go_at_call 13; with_reducible refine (SNew.new w _ (Below.refl _ _)).mono ?_; rintro e w3 ⟨b, F1, rfl, hs1, _, _⟩; have H3 := Lib.hid hs1; clear hs1)
  go_loopw [6, 29] (fun v6 i wr => ∃ (j m : Nat) (rx ra : Nat → Nat) (x : Nat), j ≤ N ∧ i = .int .i64 (j : Nat) ∧ v6 = .int .i64 (x : Nat) ∧ x ≤ 255 * j ∧ HisS w wr b mK0 mKp (2 * j) m rx ra ∧ m ≤ j ∧ MgI m rx ra x) (fun _ i _ => N - (intOf i).toNat)
  case atStart => exact ⟨0, 0, fun _ => 0, fun _ => 0, 0, by omega, rfl, rfl, by omega, ⟨F1, [], 0, [], H3.out, Nat.le_refl _, HisL.empty _ _ _ _⟩, Nat.le_refl _, MgI.start _ _ _⟩
  case round =>
    obtain ⟨j, m, rx, ra, x, hj, rfl, rfl, hx, hw, hm, hi⟩ := hrel
    by_cases hlt : j < N
    · have p2 : (j : Int) < (N : Int) := by omega
      obtain ⟨g, o, rfl, hg, hc⟩ := (HR.out.below hw.l) (by omega)
      have d0 := hc j hlt 0 _ rfl
      have d1 := hc j hlt 1 _ rfl
      have d2 := hc j hlt 2 _ rfl
      have d3 := hc j hlt 3 _ rfl
      have d4 := hc j hlt 4 _ rfl
      have d5 := hc j hlt 5 _ rfl
      have d6 := hc j hlt 6 _ rfl
      simp only [Nat.add_zero] at d0
      have hba := HA.out j hlt
      obtain ⟨p0, ep0⟩ : ∃ z, z = y0 j := ⟨_, rfl⟩
      obtain ⟨p1, ep1⟩ : ∃ z, z = y1 j := ⟨_, rfl⟩
      obtain ⟨pb, epb⟩ : ∃ z, z = y2 j := ⟨_, rfl⟩
      obtain ⟨a, ea⟩ : ∃ z, z = y3 j := ⟨_, rfl⟩
      rw [← ep0] at d0
      rw [← ep1] at d1
      rw [← epb] at d2
      rw [← ea] at d3 d4 d5 d6 hba
      have HX := Lib.hid hw
      clear ep0 ep1 epb ea hc hw
      go_upto_region 8 with fail
      have hb1 := (Below.refl wr.heap.size wr).alloc (Nat.le_refl _) (.cells #[.int .i64 p0, .int .i64 p1, .int .i64 pb, .int .u64 (limb a 0 : Nat), .int .u64 (limb a 1 : Nat), .int .u64 (limb a 2 : Nat), .int .u64 (limb a 3 : Nat)] 83)
      have r1 := heap_alloc_new wr (.cells #[.int .i64 p0, .int .i64 p1, .int .i64 pb, .int .u64 (limb a 0 : Nat), .int .u64 (limb a 1 : Nat), .int .u64 (limb a 2 : Nat), .int .u64 (limb a 3 : Nat)] 83)
      obtain ⟨W1, hW1⟩ : ∃ W1, W1 = wr.alloc (.cells #[.int .i64 p0, .int .i64 p1, .int .i64 pb, .int .u64 (limb a 0 : Nat), .int .u64 (limb a 1 : Nat), .int .u64 (limb a 2 : Nat), .int .u64 (limb a 3 : Nat)] 83) := ⟨_, rfl⟩
      rw [← hW1] at hb1 r1 ⊢
      clear hW1
      have HS1 := Lib.hid (HX.out.below hb1)
      have R1 := Lib.hid r1
      clear d0 d1 d2 d3 d4 d5 d6 hb1 r1
      by_cases hsl : j < S
      · have q1 : (j : Int) < (S : Int) := by omega
        obtain ⟨g2, o2, rfl, hg2, hc2⟩ := (HSt.out.below HS1.out.l).at_ (by omega)
        have s0 := hc2 j hsl
        obtain ⟨sv, esv⟩ : ∃ z, z = f j := ⟨_, rfl⟩
        rw [← esv] at s0
        have hsv : sv < 256 := by rw [esv]; exact HSt.out.small j
        clear hc2 esv
        have i1 : IntKind.i64.wrap (sv : Int) = (sv : Int) := IntWalk.i64_in _ (by omega)
        obtain ⟨x', ex'⟩ : ∃ z, z = x + sv := ⟨_, rfl⟩
        have i2 : (x : Int) + (sv : Int) = (x' : Int) := by omega
        have i3 : (x' : Int) ≤ 100000 := by omega
        have HB := Lib.hid (And.intro (show m ≤ 60 by have := HNn.out; omega) (And.intro (hi.later (show x ≤ x' by omega)) (And.intro (show j ≤ 60 by have := HNn.out; omega) (And.intro hm (show x' ≤ 255 * (j + 1) by omega)))))
        clear hx hm hi ex'
        have hbl : (sv : Int) < 256 := by omega
        have hx0 : (0 : Int) ≤ (x : Int) ∧ (x : Int) ≤ 100000 := by omega
        clear hsv
        go_upto_region 10 with fail
        clear i1 i2 hbl hx0
        by_cases hak : a ≤ mval m ra
        · have HMx := Lib.hid (mmax_law HS1.out (by have := HB.out.1; omega) HB.out.2.1.le)
          obtain ⟨cur, ecur⟩ : ∃ z, z = mval m ra := ⟨_, rfl⟩
          rw [← ecur] at HMx
          have hcw : cur ≤ 1000000000000000000 := by rw [ecur]; exact HB.out.2.1.val
          obtain ⟨y, ey⟩ : ∃ z, z = cur - a := ⟨_, rfl⟩
          have hyw : y ≤ 1000000000000000000 := by omega
          have hyc : y ≤ cur := by omega
          have HCt := Lib.hid (fun (W3 : World) (h3 : HisS w W3 b mK0 mKp (2 * j) m rx ra) => show Calls Try.prog 51 #[.pointer (some ⟨b, 0, none⟩), .int .i64 7, .int .i64 1, .int .i64 (x' : Nat), .agg #[.int .u64 (limb a 0 : Nat), .int .u64 (limb a 1 : Nat), .int .u64 (limb a 2 : Nat), .int .u64 (limb a 3 : Nat)]] W3 fun e W' => ∃ m' rx' ra', e = .returned (.tuple #[V1 (cur : Nat), V1 (y : Nat), .int .i64 0]) ∧ (MgI m' rx' ra' x' ∧ mval m' ra' = y ∧ m' ≤ m + 1) ∧ HisS w W' b mK0 mKp (2 * (j + 1)) m' rx' ra' ∧ ∀ T, Foreign T → KeepT T W3 W' from by
            have := mcut_ok h3 (by have := HB.out.1; have := HB.out.2.2.1; omega) (by have := HB.out.1; have := HB.out.2.2.1; omega) HB.out.2.1.le x' a (by have := HB.out.2.2.2.2; have := HB.out.2.2.1; omega) (fun h0 => HB.out.2.1.ord h0) hak
            rw [← ecur, ← ey] at this
            refine this.mono ?_
            rintro e W' ⟨m', rx', ra', he, hp, hs, hk⟩
            exact ⟨m', rx', ra', he, HB.out.2.1.step (by rw [← ecur]; exact hyc) hp, hs, hk⟩)
          have HE := Lib.hid (And.intro ecur hcw)
          clear ey
          obtain ⟨c, hc0, hcl⟩ := rcmpV y cur hyc hcw
          have HCm := Lib.hid hcl
          have hc1 : ¬ (0 : Int) < c := by omega
          have HC0 := Lib.hid hc0
          clear hcl hc0 ecur hak
          clear hcw
          clear hyw hyc
          go_upto_region 11 with (go_at_call 50; refine HMx.out.mono ?_; rintro e w2 ⟨rfl, hb2⟩; have H2 := Lib.hid hb2; clear hb2)
          have hbx := H2.out.alloc H2.out.size (.cells #[.int .u64 (cur : Nat), .int .u64 0, .int .u64 0, .int .u64 0] 29)
          have r9 := heap_alloc_new w2 (.cells #[.int .u64 (cur : Nat), .int .u64 0, .int .u64 0, .int .u64 0] 29)
          obtain ⟨W3, hW3⟩ : ∃ W3, W3 = w2.alloc (.cells #[.int .u64 (cur : Nat), .int .u64 0, .int .u64 0, .int .u64 0] 29) := ⟨_, rfl⟩
          rw [← hW3] at hbx r9 ⊢
          clear hW3
          have HS3 := Lib.hid (HS1.out.below hbx)
          have rb := (hbx.block _ (hp_lt R1.out)).trans R1.out
          have R9 := Lib.hid r9
          have c3 := (hp_cell (i := 3) rb).trans rfl
          have c4 := (hp_cell (i := 4) rb).trans rfl
          have c5 := (hp_cell (i := 5) rb).trans rfl
          have c6 := (hp_cell (i := 6) rb).trans rfl
          clear hbx rb r9 s0
          go_upto_region 12 with (go_at_call 51; refine (HCt.out _ HS3.out).mono ?_; rintro e w4 ⟨m', rx', ra', rfl, hp4, hs4, hk4⟩; have HP4 := Lib.hid hp4; have HS4 := Lib.hid hs4; have R4 := Lib.hid ((hk4 _ fU).2 _ _ _ R9.out); clear hp4 hs4 hk4)
          clear c3 c4 c5 c6
          have hby := ((Below.refl w4.heap.size w4).alloc (Nat.le_refl _) (.cells #[.int .u64 (cur : Nat), .int .u64 0, .int .u64 0, .int .u64 0] 29)).alloc (by simp) (.cells #[.int .u64 (y : Nat), .int .u64 0, .int .u64 0, .int .u64 0] 29)
          have r11 := heap_alloc_new (w4.alloc (.cells #[.int .u64 (cur : Nat), .int .u64 0, .int .u64 0, .int .u64 0] 29)) (.cells #[.int .u64 (y : Nat), .int .u64 0, .int .u64 0, .int .u64 0] 29)
          rw [World.size_alloc] at r11
          have r10 := (heap_alloc_old (w4.alloc (.cells #[.int .u64 (cur : Nat), .int .u64 0, .int .u64 0, .int .u64 0] 29)) (.cells #[.int .u64 (y : Nat), .int .u64 0, .int .u64 0, .int .u64 0] 29) (by simp)).trans (heap_alloc_new w4 (.cells #[.int .u64 (cur : Nat), .int .u64 0, .int .u64 0, .int .u64 0] 29))
          obtain ⟨W5, hW5⟩ : ∃ W5, W5 = (w4.alloc (.cells #[.int .u64 (cur : Nat), .int .u64 0, .int .u64 0, .int .u64 0] 29)).alloc (.cells #[.int .u64 (y : Nat), .int .u64 0, .int .u64 0, .int .u64 0] 29) := ⟨_, rfl⟩
          rw [← hW5] at hby r10 r11 ⊢
          clear hW5
          have HS5 := Lib.hid (HS4.out.below hby)
          have R5 := Lib.hid (And.intro ((hby.block _ (hp_lt R4.out)).trans R4.out) (And.intro r10 r11))
          clear hby r10 r11
          have HM2 := Lib.hid (mmax_law HS5.out (by have := HB.out.1; have := HP4.out.2.2; omega) HP4.out.1.le)
          have hmv := HP4.out.2.1
          rw [hmv] at HM2
          clear hmv
          go_upto_region 13 with (go_at_call 50; refine HM2.out.mono ?_; rintro e w6 ⟨rfl, hb6⟩; have H6 := Lib.hid hb6; clear hb6)
          have hbz := H6.out.alloc H6.out.size (.cells #[.int .u64 (y : Nat), .int .u64 0, .int .u64 0, .int .u64 0] 29)
          have r13 := heap_alloc_new w6 (.cells #[.int .u64 (y : Nat), .int .u64 0, .int .u64 0, .int .u64 0] 29)
          obtain ⟨W7, hW7⟩ : ∃ W7, W7 = w6.alloc (.cells #[.int .u64 (y : Nat), .int .u64 0, .int .u64 0, .int .u64 0] 29) := ⟨_, rfl⟩
          rw [← hW7] at hbz r13 ⊢
          clear hW7
          have HS7 := Lib.hid (HS5.out.below hbz)
          have q9 := (hbz.block _ (hp_lt R5.out.1)).trans R5.out.1
          have q10 := (hbz.block _ (hp_lt R5.out.2.1)).trans R5.out.2.1
          have q11 := (hbz.block _ (hp_lt R5.out.2.2)).trans R5.out.2.2
          have R7 := Lib.hid (And.intro q9 (And.intro q10 (And.intro q11 r13)))
          have i0 := (hp_cell (i := 0) q9).trans rfl
          have i1 := (hp_cell (i := 1) q9).trans rfl
          have i2 := (hp_cell (i := 2) q9).trans rfl
          have i3 := (hp_cell (i := 3) q9).trans rfl
          have j0 := (hp_cell (i := 0) q10).trans rfl
          have j1 := (hp_cell (i := 1) q10).trans rfl
          have j2 := (hp_cell (i := 2) q10).trans rfl
          have j3 := (hp_cell (i := 3) q10).trans rfl
          have k0 := (hp_cell (i := 0) q11).trans rfl
          have k1 := (hp_cell (i := 1) q11).trans rfl
          have k2 := (hp_cell (i := 2) q11).trans rfl
          have k3 := (hp_cell (i := 3) q11).trans rfl
          have l0 := (hp_cell (i := 0) r13).trans rfl
          have l1 := (hp_cell (i := 1) r13).trans rfl
          have l2 := (hp_cell (i := 2) r13).trans rfl
          have l3 := (hp_cell (i := 3) r13).trans rfl
          clear q9 q10 q11 r13 hbz
          have e1 := fun w => eqV cur cur w
          rw [decide_eq_true (rfl : cur = cur)] at e1
          have e2 := fun w => eqV y y w
          rw [decide_eq_true (rfl : y = y)] at e2
          go_wp2_with (go_at_call 52; refine (HCm.out _).mono ?_; rintro e w8 ⟨rfl, hb8⟩; have HS8 := Lib.hid (HS7.out.below hb8); have t9 := (hb8.block _ (hp_lt R7.out.1)).trans R7.out.1; have t10 := (hb8.block _ (hp_lt R7.out.2.1)).trans R7.out.2.1; have t11 := (hb8.block _ (hp_lt R7.out.2.2.1)).trans R7.out.2.2.1; have t13 := (hb8.block _ (hp_lt R7.out.2.2.2)).trans R7.out.2.2.2; have i0 := (hp_cell (i := 0) t9).trans rfl; have i1 := (hp_cell (i := 1) t9).trans rfl; have i2 := (hp_cell (i := 2) t9).trans rfl; have i3 := (hp_cell (i := 3) t9).trans rfl; have j0 := (hp_cell (i := 0) t10).trans rfl; have j1 := (hp_cell (i := 1) t10).trans rfl; have j2 := (hp_cell (i := 2) t10).trans rfl; have j3 := (hp_cell (i := 3) t10).trans rfl; have k0 := (hp_cell (i := 0) t11).trans rfl; have k1 := (hp_cell (i := 1) t11).trans rfl; have k2 := (hp_cell (i := 2) t11).trans rfl; have k3 := (hp_cell (i := 3) t11).trans rfl; have l0 := (hp_cell (i := 0) t13).trans rfl; have l1 := (hp_cell (i := 1) t13).trans rfl; have l2 := (hp_cell (i := 2) t13).trans rfl; have l3 := (hp_cell (i := 3) t13).trans rfl; clear t9 t10 t11 t13 hb8)
          exact ⟨⟨j + 1, m', rx', ra', x', by omega, by go_num, rfl, by have := HB.out.2.2.2.2; omega, HS8.out, by have := HP4.out.2.2; have := HB.out.2.2.2.1; omega, HP4.out.1⟩, by simp [intOf]; omega⟩
        · have HMx := Lib.hid (mmax_law HS1.out (by have := HB.out.1; omega) HB.out.2.1.le)
          obtain ⟨cur, ecur⟩ : ∃ z, z = mval m ra := ⟨_, rfl⟩
          rw [← ecur] at HMx
          have hcw : cur ≤ 1000000000000000000 := by rw [ecur]; exact HB.out.2.1.val
          have HCt := Lib.hid (fun (W3 : World) (h3 : HisS w W3 b mK0 mKp (2 * j) m rx ra) => show Calls Try.prog 51 #[.pointer (some ⟨b, 0, none⟩), .int .i64 7, .int .i64 1, .int .i64 (x' : Nat), .agg #[.int .u64 (limb a 0 : Nat), .int .u64 (limb a 1 : Nat), .int .u64 (limb a 2 : Nat), .int .u64 (limb a 3 : Nat)]] W3 fun e W' => e = .returned (.tuple #[.agg #[.int .u64 0, .int .u64 0, .int .u64 0, .int .u64 0], .agg #[.int .u64 0, .int .u64 0, .int .u64 0, .int .u64 0], .int .i64 13]) ∧ Below W3.heap.size W3 W' from mcut_funds h3 (by have := HB.out.1; have := HB.out.2.2.1; omega) HB.out.2.1.le x' a hba hak)
          have HE := Lib.hid (And.intro ecur hcw)
          obtain ⟨c, hc0, hcl⟩ := rcmpV cur cur (Nat.le_refl _) hcw
          have HCm := Lib.hid hcl
          have hc1 : ¬ (0 : Int) < c := by omega
          have HC0 := Lib.hid hc0
          clear hcl hc0 ecur hak
          clear hcw
          go_upto_region 11 with (go_at_call 50; refine HMx.out.mono ?_; rintro e w2 ⟨rfl, hb2⟩; have H2 := Lib.hid hb2; clear hb2)
          have hbx := H2.out.alloc H2.out.size (.cells #[.int .u64 (cur : Nat), .int .u64 0, .int .u64 0, .int .u64 0] 29)
          have r9 := heap_alloc_new w2 (.cells #[.int .u64 (cur : Nat), .int .u64 0, .int .u64 0, .int .u64 0] 29)
          obtain ⟨W3, hW3⟩ : ∃ W3, W3 = w2.alloc (.cells #[.int .u64 (cur : Nat), .int .u64 0, .int .u64 0, .int .u64 0] 29) := ⟨_, rfl⟩
          rw [← hW3] at hbx r9 ⊢
          clear hW3
          have HS3 := Lib.hid (HS1.out.below hbx)
          have rb := (hbx.block _ (hp_lt R1.out)).trans R1.out
          have R9 := Lib.hid r9
          have c3 := (hp_cell (i := 3) rb).trans rfl
          have c4 := (hp_cell (i := 4) rb).trans rfl
          have c5 := (hp_cell (i := 5) rb).trans rfl
          have c6 := (hp_cell (i := 6) rb).trans rfl
          clear hbx rb r9 s0
          go_upto_region 12 with (go_at_call 51; refine (HCt.out _ HS3.out).mono ?_; rintro e w4 ⟨rfl, hb4⟩; have HS4 := Lib.hid (HS3.out.below hb4); have R4 := Lib.hid ((hb4.block _ (hp_lt R9.out)).trans R9.out); clear hb4)
          clear c3 c4 c5 c6
          have hby := ((Below.refl w4.heap.size w4).alloc (Nat.le_refl _) (.cells #[.int .u64 0, .int .u64 0, .int .u64 0, .int .u64 0] 29)).alloc (by simp) (.cells #[.int .u64 0, .int .u64 0, .int .u64 0, .int .u64 0] 29)
          have r11 := heap_alloc_new (w4.alloc (.cells #[.int .u64 0, .int .u64 0, .int .u64 0, .int .u64 0] 29)) (.cells #[.int .u64 0, .int .u64 0, .int .u64 0, .int .u64 0] 29)
          rw [World.size_alloc] at r11
          have r10 := (heap_alloc_old (w4.alloc (.cells #[.int .u64 0, .int .u64 0, .int .u64 0, .int .u64 0] 29)) (.cells #[.int .u64 0, .int .u64 0, .int .u64 0, .int .u64 0] 29) (by simp)).trans (heap_alloc_new w4 (.cells #[.int .u64 0, .int .u64 0, .int .u64 0, .int .u64 0] 29))
          obtain ⟨W5, hW5⟩ : ∃ W5, W5 = (w4.alloc (.cells #[.int .u64 0, .int .u64 0, .int .u64 0, .int .u64 0] 29)).alloc (.cells #[.int .u64 0, .int .u64 0, .int .u64 0, .int .u64 0] 29) := ⟨_, rfl⟩
          rw [← hW5] at hby r10 r11 ⊢
          clear hW5
          have HS5 := Lib.hid (HS4.out.below hby)
          have R5 := Lib.hid (And.intro ((hby.block _ (hp_lt R4.out)).trans R4.out) (And.intro r10 r11))
          clear hby r10 r11
          have HM2 := Lib.hid (mmax_law HS5.out (by have := HB.out.1; omega) HB.out.2.1.le)
          have hmv := HE.out.1
          rw [← hmv] at HM2
          clear hmv
          go_upto_region 13 with (go_at_call 50; refine HM2.out.mono ?_; rintro e w6 ⟨rfl, hb6⟩; have H6 := Lib.hid hb6; clear hb6)
          have hbz := H6.out.alloc H6.out.size (.cells #[.int .u64 (cur : Nat), .int .u64 0, .int .u64 0, .int .u64 0] 29)
          have r13 := heap_alloc_new w6 (.cells #[.int .u64 (cur : Nat), .int .u64 0, .int .u64 0, .int .u64 0] 29)
          obtain ⟨W7, hW7⟩ : ∃ W7, W7 = w6.alloc (.cells #[.int .u64 (cur : Nat), .int .u64 0, .int .u64 0, .int .u64 0] 29) := ⟨_, rfl⟩
          rw [← hW7] at hbz r13 ⊢
          clear hW7
          have HS7 := Lib.hid (HS5.out.below hbz)
          have q9 := (hbz.block _ (hp_lt R5.out.1)).trans R5.out.1
          have q10 := (hbz.block _ (hp_lt R5.out.2.1)).trans R5.out.2.1
          have q11 := (hbz.block _ (hp_lt R5.out.2.2)).trans R5.out.2.2
          have R7 := Lib.hid (And.intro q9 (And.intro q10 (And.intro q11 r13)))
          have i0 := (hp_cell (i := 0) q9).trans rfl
          have i1 := (hp_cell (i := 1) q9).trans rfl
          have i2 := (hp_cell (i := 2) q9).trans rfl
          have i3 := (hp_cell (i := 3) q9).trans rfl
          have j0 := (hp_cell (i := 0) q10).trans rfl
          have j1 := (hp_cell (i := 1) q10).trans rfl
          have j2 := (hp_cell (i := 2) q10).trans rfl
          have j3 := (hp_cell (i := 3) q10).trans rfl
          have k0 := (hp_cell (i := 0) q11).trans rfl
          have k1 := (hp_cell (i := 1) q11).trans rfl
          have k2 := (hp_cell (i := 2) q11).trans rfl
          have k3 := (hp_cell (i := 3) q11).trans rfl
          have l0 := (hp_cell (i := 0) r13).trans rfl
          have l1 := (hp_cell (i := 1) r13).trans rfl
          have l2 := (hp_cell (i := 2) r13).trans rfl
          have l3 := (hp_cell (i := 3) r13).trans rfl
          clear q9 q10 q11 r13 hbz
          have e1 := fun w => eqV cur cur w
          rw [decide_eq_true (rfl : cur = cur)] at e1
          go_wp2_with (go_at_call 52; refine (HCm.out _).mono ?_; rintro e w8 ⟨rfl, hb8⟩; have HS8 := Lib.hid (HS7.out.below hb8); have t9 := (hb8.block _ (hp_lt R7.out.1)).trans R7.out.1; have t10 := (hb8.block _ (hp_lt R7.out.2.1)).trans R7.out.2.1; have t11 := (hb8.block _ (hp_lt R7.out.2.2.1)).trans R7.out.2.2.1; have t13 := (hb8.block _ (hp_lt R7.out.2.2.2)).trans R7.out.2.2.2; have i0 := (hp_cell (i := 0) t9).trans rfl; have i1 := (hp_cell (i := 1) t9).trans rfl; have i2 := (hp_cell (i := 2) t9).trans rfl; have i3 := (hp_cell (i := 3) t9).trans rfl; have j0 := (hp_cell (i := 0) t10).trans rfl; have j1 := (hp_cell (i := 1) t10).trans rfl; have j2 := (hp_cell (i := 2) t10).trans rfl; have j3 := (hp_cell (i := 3) t10).trans rfl; have k0 := (hp_cell (i := 0) t11).trans rfl; have k1 := (hp_cell (i := 1) t11).trans rfl; have k2 := (hp_cell (i := 2) t11).trans rfl; have k3 := (hp_cell (i := 3) t11).trans rfl; have l0 := (hp_cell (i := 0) t13).trans rfl; have l1 := (hp_cell (i := 1) t13).trans rfl; have l2 := (hp_cell (i := 2) t13).trans rfl; have l3 := (hp_cell (i := 3) t13).trans rfl; clear t9 t10 t11 t13 hb8)
          exact ⟨⟨j + 1, m, rx, ra, x', by omega, by go_num, rfl, by have := HB.out.2.2.2.2; omega, HS8.out.more (by omega), by have := HB.out.2.2.2.1; omega, HB.out.2.1⟩, by simp [intOf]; omega⟩
      · have q1 : ¬ (j : Int) < (S : Int) := by omega
        obtain ⟨x', ex'⟩ : ∃ z, z = x := ⟨_, rfl⟩
        rw [← ex']
        have i3 : (x' : Int) ≤ 100000 := by omega
        have HB := Lib.hid (And.intro (show m ≤ 60 by have := HNn.out; omega) (And.intro (hi.later (show x ≤ x' by omega)) (And.intro (show j ≤ 60 by have := HNn.out; omega) (And.intro hm (show x' ≤ 255 * (j + 1) by omega)))))
        have s0 : True := trivial
        clear hx hm hi ex'
        go_upto_region 10 with fail
        by_cases hak : a ≤ mval m ra
        · have HMx := Lib.hid (mmax_law HS1.out (by have := HB.out.1; omega) HB.out.2.1.le)
          obtain ⟨cur, ecur⟩ : ∃ z, z = mval m ra := ⟨_, rfl⟩
          rw [← ecur] at HMx
          have hcw : cur ≤ 1000000000000000000 := by rw [ecur]; exact HB.out.2.1.val
          obtain ⟨y, ey⟩ : ∃ z, z = cur - a := ⟨_, rfl⟩
          have hyw : y ≤ 1000000000000000000 := by omega
          have hyc : y ≤ cur := by omega
          have HCt := Lib.hid (fun (W3 : World) (h3 : HisS w W3 b mK0 mKp (2 * j) m rx ra) => show Calls Try.prog 51 #[.pointer (some ⟨b, 0, none⟩), .int .i64 7, .int .i64 1, .int .i64 (x' : Nat), .agg #[.int .u64 (limb a 0 : Nat), .int .u64 (limb a 1 : Nat), .int .u64 (limb a 2 : Nat), .int .u64 (limb a 3 : Nat)]] W3 fun e W' => ∃ m' rx' ra', e = .returned (.tuple #[V1 (cur : Nat), V1 (y : Nat), .int .i64 0]) ∧ (MgI m' rx' ra' x' ∧ mval m' ra' = y ∧ m' ≤ m + 1) ∧ HisS w W' b mK0 mKp (2 * (j + 1)) m' rx' ra' ∧ ∀ T, Foreign T → KeepT T W3 W' from by
            have := mcut_ok h3 (by have := HB.out.1; have := HB.out.2.2.1; omega) (by have := HB.out.1; have := HB.out.2.2.1; omega) HB.out.2.1.le x' a (by have := HB.out.2.2.2.2; have := HB.out.2.2.1; omega) (fun h0 => HB.out.2.1.ord h0) hak
            rw [← ecur, ← ey] at this
            refine this.mono ?_
            rintro e W' ⟨m', rx', ra', he, hp, hs, hk⟩
            exact ⟨m', rx', ra', he, HB.out.2.1.step (by rw [← ecur]; exact hyc) hp, hs, hk⟩)
          have HE := Lib.hid (And.intro ecur hcw)
          clear ey
          obtain ⟨c, hc0, hcl⟩ := rcmpV y cur hyc hcw
          have HCm := Lib.hid hcl
          have hc1 : ¬ (0 : Int) < c := by omega
          have HC0 := Lib.hid hc0
          clear hcl hc0 ecur hak
          clear hcw
          clear hyw hyc
          go_upto_region 11 with (go_at_call 50; refine HMx.out.mono ?_; rintro e w2 ⟨rfl, hb2⟩; have H2 := Lib.hid hb2; clear hb2)
          have hbx := H2.out.alloc H2.out.size (.cells #[.int .u64 (cur : Nat), .int .u64 0, .int .u64 0, .int .u64 0] 29)
          have r9 := heap_alloc_new w2 (.cells #[.int .u64 (cur : Nat), .int .u64 0, .int .u64 0, .int .u64 0] 29)
          obtain ⟨W3, hW3⟩ : ∃ W3, W3 = w2.alloc (.cells #[.int .u64 (cur : Nat), .int .u64 0, .int .u64 0, .int .u64 0] 29) := ⟨_, rfl⟩
          rw [← hW3] at hbx r9 ⊢
          clear hW3
          have HS3 := Lib.hid (HS1.out.below hbx)
          have rb := (hbx.block _ (hp_lt R1.out)).trans R1.out
          have R9 := Lib.hid r9
          have c3 := (hp_cell (i := 3) rb).trans rfl
          have c4 := (hp_cell (i := 4) rb).trans rfl
          have c5 := (hp_cell (i := 5) rb).trans rfl
          have c6 := (hp_cell (i := 6) rb).trans rfl
          clear hbx rb r9 s0
          go_upto_region 12 with (go_at_call 51; refine (HCt.out _ HS3.out).mono ?_; rintro e w4 ⟨m', rx', ra', rfl, hp4, hs4, hk4⟩; have HP4 := Lib.hid hp4; have HS4 := Lib.hid hs4; have R4 := Lib.hid ((hk4 _ fU).2 _ _ _ R9.out); clear hp4 hs4 hk4)
          clear c3 c4 c5 c6
          have hby := ((Below.refl w4.heap.size w4).alloc (Nat.le_refl _) (.cells #[.int .u64 (cur : Nat), .int .u64 0, .int .u64 0, .int .u64 0] 29)).alloc (by simp) (.cells #[.int .u64 (y : Nat), .int .u64 0, .int .u64 0, .int .u64 0] 29)
          have r11 := heap_alloc_new (w4.alloc (.cells #[.int .u64 (cur : Nat), .int .u64 0, .int .u64 0, .int .u64 0] 29)) (.cells #[.int .u64 (y : Nat), .int .u64 0, .int .u64 0, .int .u64 0] 29)
          rw [World.size_alloc] at r11
          have r10 := (heap_alloc_old (w4.alloc (.cells #[.int .u64 (cur : Nat), .int .u64 0, .int .u64 0, .int .u64 0] 29)) (.cells #[.int .u64 (y : Nat), .int .u64 0, .int .u64 0, .int .u64 0] 29) (by simp)).trans (heap_alloc_new w4 (.cells #[.int .u64 (cur : Nat), .int .u64 0, .int .u64 0, .int .u64 0] 29))
          obtain ⟨W5, hW5⟩ : ∃ W5, W5 = (w4.alloc (.cells #[.int .u64 (cur : Nat), .int .u64 0, .int .u64 0, .int .u64 0] 29)).alloc (.cells #[.int .u64 (y : Nat), .int .u64 0, .int .u64 0, .int .u64 0] 29) := ⟨_, rfl⟩
          rw [← hW5] at hby r10 r11 ⊢
          clear hW5
          have HS5 := Lib.hid (HS4.out.below hby)
          have R5 := Lib.hid (And.intro ((hby.block _ (hp_lt R4.out)).trans R4.out) (And.intro r10 r11))
          clear hby r10 r11
          have HM2 := Lib.hid (mmax_law HS5.out (by have := HB.out.1; have := HP4.out.2.2; omega) HP4.out.1.le)
          have hmv := HP4.out.2.1
          rw [hmv] at HM2
          clear hmv
          go_upto_region 13 with (go_at_call 50; refine HM2.out.mono ?_; rintro e w6 ⟨rfl, hb6⟩; have H6 := Lib.hid hb6; clear hb6)
          have hbz := H6.out.alloc H6.out.size (.cells #[.int .u64 (y : Nat), .int .u64 0, .int .u64 0, .int .u64 0] 29)
          have r13 := heap_alloc_new w6 (.cells #[.int .u64 (y : Nat), .int .u64 0, .int .u64 0, .int .u64 0] 29)
          obtain ⟨W7, hW7⟩ : ∃ W7, W7 = w6.alloc (.cells #[.int .u64 (y : Nat), .int .u64 0, .int .u64 0, .int .u64 0] 29) := ⟨_, rfl⟩
          rw [← hW7] at hbz r13 ⊢
          clear hW7
          have HS7 := Lib.hid (HS5.out.below hbz)
          have q9 := (hbz.block _ (hp_lt R5.out.1)).trans R5.out.1
          have q10 := (hbz.block _ (hp_lt R5.out.2.1)).trans R5.out.2.1
          have q11 := (hbz.block _ (hp_lt R5.out.2.2)).trans R5.out.2.2
          have R7 := Lib.hid (And.intro q9 (And.intro q10 (And.intro q11 r13)))
          have i0 := (hp_cell (i := 0) q9).trans rfl
          have i1 := (hp_cell (i := 1) q9).trans rfl
          have i2 := (hp_cell (i := 2) q9).trans rfl
          have i3 := (hp_cell (i := 3) q9).trans rfl
          have j0 := (hp_cell (i := 0) q10).trans rfl
          have j1 := (hp_cell (i := 1) q10).trans rfl
          have j2 := (hp_cell (i := 2) q10).trans rfl
          have j3 := (hp_cell (i := 3) q10).trans rfl
          have k0 := (hp_cell (i := 0) q11).trans rfl
          have k1 := (hp_cell (i := 1) q11).trans rfl
          have k2 := (hp_cell (i := 2) q11).trans rfl
          have k3 := (hp_cell (i := 3) q11).trans rfl
          have l0 := (hp_cell (i := 0) r13).trans rfl
          have l1 := (hp_cell (i := 1) r13).trans rfl
          have l2 := (hp_cell (i := 2) r13).trans rfl
          have l3 := (hp_cell (i := 3) r13).trans rfl
          clear q9 q10 q11 r13 hbz
          have e1 := fun w => eqV cur cur w
          rw [decide_eq_true (rfl : cur = cur)] at e1
          have e2 := fun w => eqV y y w
          rw [decide_eq_true (rfl : y = y)] at e2
          go_wp2_with (go_at_call 52; refine (HCm.out _).mono ?_; rintro e w8 ⟨rfl, hb8⟩; have HS8 := Lib.hid (HS7.out.below hb8); have t9 := (hb8.block _ (hp_lt R7.out.1)).trans R7.out.1; have t10 := (hb8.block _ (hp_lt R7.out.2.1)).trans R7.out.2.1; have t11 := (hb8.block _ (hp_lt R7.out.2.2.1)).trans R7.out.2.2.1; have t13 := (hb8.block _ (hp_lt R7.out.2.2.2)).trans R7.out.2.2.2; have i0 := (hp_cell (i := 0) t9).trans rfl; have i1 := (hp_cell (i := 1) t9).trans rfl; have i2 := (hp_cell (i := 2) t9).trans rfl; have i3 := (hp_cell (i := 3) t9).trans rfl; have j0 := (hp_cell (i := 0) t10).trans rfl; have j1 := (hp_cell (i := 1) t10).trans rfl; have j2 := (hp_cell (i := 2) t10).trans rfl; have j3 := (hp_cell (i := 3) t10).trans rfl; have k0 := (hp_cell (i := 0) t11).trans rfl; have k1 := (hp_cell (i := 1) t11).trans rfl; have k2 := (hp_cell (i := 2) t11).trans rfl; have k3 := (hp_cell (i := 3) t11).trans rfl; have l0 := (hp_cell (i := 0) t13).trans rfl; have l1 := (hp_cell (i := 1) t13).trans rfl; have l2 := (hp_cell (i := 2) t13).trans rfl; have l3 := (hp_cell (i := 3) t13).trans rfl; clear t9 t10 t11 t13 hb8)
          exact ⟨⟨j + 1, m', rx', ra', x', by omega, by go_num, rfl, by have := HB.out.2.2.2.2; omega, HS8.out, by have := HP4.out.2.2; have := HB.out.2.2.2.1; omega, HP4.out.1⟩, by simp [intOf]; omega⟩
        · have HMx := Lib.hid (mmax_law HS1.out (by have := HB.out.1; omega) HB.out.2.1.le)
          obtain ⟨cur, ecur⟩ : ∃ z, z = mval m ra := ⟨_, rfl⟩
          rw [← ecur] at HMx
          have hcw : cur ≤ 1000000000000000000 := by rw [ecur]; exact HB.out.2.1.val
          have HCt := Lib.hid (fun (W3 : World) (h3 : HisS w W3 b mK0 mKp (2 * j) m rx ra) => show Calls Try.prog 51 #[.pointer (some ⟨b, 0, none⟩), .int .i64 7, .int .i64 1, .int .i64 (x' : Nat), .agg #[.int .u64 (limb a 0 : Nat), .int .u64 (limb a 1 : Nat), .int .u64 (limb a 2 : Nat), .int .u64 (limb a 3 : Nat)]] W3 fun e W' => e = .returned (.tuple #[.agg #[.int .u64 0, .int .u64 0, .int .u64 0, .int .u64 0], .agg #[.int .u64 0, .int .u64 0, .int .u64 0, .int .u64 0], .int .i64 13]) ∧ Below W3.heap.size W3 W' from mcut_funds h3 (by have := HB.out.1; have := HB.out.2.2.1; omega) HB.out.2.1.le x' a hba hak)
          have HE := Lib.hid (And.intro ecur hcw)
          obtain ⟨c, hc0, hcl⟩ := rcmpV cur cur (Nat.le_refl _) hcw
          have HCm := Lib.hid hcl
          have hc1 : ¬ (0 : Int) < c := by omega
          have HC0 := Lib.hid hc0
          clear hcl hc0 ecur hak
          clear hcw
          go_upto_region 11 with (go_at_call 50; refine HMx.out.mono ?_; rintro e w2 ⟨rfl, hb2⟩; have H2 := Lib.hid hb2; clear hb2)
          have hbx := H2.out.alloc H2.out.size (.cells #[.int .u64 (cur : Nat), .int .u64 0, .int .u64 0, .int .u64 0] 29)
          have r9 := heap_alloc_new w2 (.cells #[.int .u64 (cur : Nat), .int .u64 0, .int .u64 0, .int .u64 0] 29)
          obtain ⟨W3, hW3⟩ : ∃ W3, W3 = w2.alloc (.cells #[.int .u64 (cur : Nat), .int .u64 0, .int .u64 0, .int .u64 0] 29) := ⟨_, rfl⟩
          rw [← hW3] at hbx r9 ⊢
          clear hW3
          have HS3 := Lib.hid (HS1.out.below hbx)
          have rb := (hbx.block _ (hp_lt R1.out)).trans R1.out
          have R9 := Lib.hid r9
          have c3 := (hp_cell (i := 3) rb).trans rfl
          have c4 := (hp_cell (i := 4) rb).trans rfl
          have c5 := (hp_cell (i := 5) rb).trans rfl
          have c6 := (hp_cell (i := 6) rb).trans rfl
          clear hbx rb r9 s0
          go_upto_region 12 with (go_at_call 51; refine (HCt.out _ HS3.out).mono ?_; rintro e w4 ⟨rfl, hb4⟩; have HS4 := Lib.hid (HS3.out.below hb4); have R4 := Lib.hid ((hb4.block _ (hp_lt R9.out)).trans R9.out); clear hb4)
          clear c3 c4 c5 c6
          have hby := ((Below.refl w4.heap.size w4).alloc (Nat.le_refl _) (.cells #[.int .u64 0, .int .u64 0, .int .u64 0, .int .u64 0] 29)).alloc (by simp) (.cells #[.int .u64 0, .int .u64 0, .int .u64 0, .int .u64 0] 29)
          have r11 := heap_alloc_new (w4.alloc (.cells #[.int .u64 0, .int .u64 0, .int .u64 0, .int .u64 0] 29)) (.cells #[.int .u64 0, .int .u64 0, .int .u64 0, .int .u64 0] 29)
          rw [World.size_alloc] at r11
          have r10 := (heap_alloc_old (w4.alloc (.cells #[.int .u64 0, .int .u64 0, .int .u64 0, .int .u64 0] 29)) (.cells #[.int .u64 0, .int .u64 0, .int .u64 0, .int .u64 0] 29) (by simp)).trans (heap_alloc_new w4 (.cells #[.int .u64 0, .int .u64 0, .int .u64 0, .int .u64 0] 29))
          obtain ⟨W5, hW5⟩ : ∃ W5, W5 = (w4.alloc (.cells #[.int .u64 0, .int .u64 0, .int .u64 0, .int .u64 0] 29)).alloc (.cells #[.int .u64 0, .int .u64 0, .int .u64 0, .int .u64 0] 29) := ⟨_, rfl⟩
          rw [← hW5] at hby r10 r11 ⊢
          clear hW5
          have HS5 := Lib.hid (HS4.out.below hby)
          have R5 := Lib.hid (And.intro ((hby.block _ (hp_lt R4.out)).trans R4.out) (And.intro r10 r11))
          clear hby r10 r11
          have HM2 := Lib.hid (mmax_law HS5.out (by have := HB.out.1; omega) HB.out.2.1.le)
          have hmv := HE.out.1
          rw [← hmv] at HM2
          clear hmv
          go_upto_region 13 with (go_at_call 50; refine HM2.out.mono ?_; rintro e w6 ⟨rfl, hb6⟩; have H6 := Lib.hid hb6; clear hb6)
          have hbz := H6.out.alloc H6.out.size (.cells #[.int .u64 (cur : Nat), .int .u64 0, .int .u64 0, .int .u64 0] 29)
          have r13 := heap_alloc_new w6 (.cells #[.int .u64 (cur : Nat), .int .u64 0, .int .u64 0, .int .u64 0] 29)
          obtain ⟨W7, hW7⟩ : ∃ W7, W7 = w6.alloc (.cells #[.int .u64 (cur : Nat), .int .u64 0, .int .u64 0, .int .u64 0] 29) := ⟨_, rfl⟩
          rw [← hW7] at hbz r13 ⊢
          clear hW7
          have HS7 := Lib.hid (HS5.out.below hbz)
          have q9 := (hbz.block _ (hp_lt R5.out.1)).trans R5.out.1
          have q10 := (hbz.block _ (hp_lt R5.out.2.1)).trans R5.out.2.1
          have q11 := (hbz.block _ (hp_lt R5.out.2.2)).trans R5.out.2.2
          have R7 := Lib.hid (And.intro q9 (And.intro q10 (And.intro q11 r13)))
          have i0 := (hp_cell (i := 0) q9).trans rfl
          have i1 := (hp_cell (i := 1) q9).trans rfl
          have i2 := (hp_cell (i := 2) q9).trans rfl
          have i3 := (hp_cell (i := 3) q9).trans rfl
          have j0 := (hp_cell (i := 0) q10).trans rfl
          have j1 := (hp_cell (i := 1) q10).trans rfl
          have j2 := (hp_cell (i := 2) q10).trans rfl
          have j3 := (hp_cell (i := 3) q10).trans rfl
          have k0 := (hp_cell (i := 0) q11).trans rfl
          have k1 := (hp_cell (i := 1) q11).trans rfl
          have k2 := (hp_cell (i := 2) q11).trans rfl
          have k3 := (hp_cell (i := 3) q11).trans rfl
          have l0 := (hp_cell (i := 0) r13).trans rfl
          have l1 := (hp_cell (i := 1) r13).trans rfl
          have l2 := (hp_cell (i := 2) r13).trans rfl
          have l3 := (hp_cell (i := 3) r13).trans rfl
          clear q9 q10 q11 r13 hbz
          have e1 := fun w => eqV cur cur w
          rw [decide_eq_true (rfl : cur = cur)] at e1
          go_wp2_with (go_at_call 52; refine (HCm.out _).mono ?_; rintro e w8 ⟨rfl, hb8⟩; have HS8 := Lib.hid (HS7.out.below hb8); have t9 := (hb8.block _ (hp_lt R7.out.1)).trans R7.out.1; have t10 := (hb8.block _ (hp_lt R7.out.2.1)).trans R7.out.2.1; have t11 := (hb8.block _ (hp_lt R7.out.2.2.1)).trans R7.out.2.2.1; have t13 := (hb8.block _ (hp_lt R7.out.2.2.2)).trans R7.out.2.2.2; have i0 := (hp_cell (i := 0) t9).trans rfl; have i1 := (hp_cell (i := 1) t9).trans rfl; have i2 := (hp_cell (i := 2) t9).trans rfl; have i3 := (hp_cell (i := 3) t9).trans rfl; have j0 := (hp_cell (i := 0) t10).trans rfl; have j1 := (hp_cell (i := 1) t10).trans rfl; have j2 := (hp_cell (i := 2) t10).trans rfl; have j3 := (hp_cell (i := 3) t10).trans rfl; have k0 := (hp_cell (i := 0) t11).trans rfl; have k1 := (hp_cell (i := 1) t11).trans rfl; have k2 := (hp_cell (i := 2) t11).trans rfl; have k3 := (hp_cell (i := 3) t11).trans rfl; have l0 := (hp_cell (i := 0) t13).trans rfl; have l1 := (hp_cell (i := 1) t13).trans rfl; have l2 := (hp_cell (i := 2) t13).trans rfl; have l3 := (hp_cell (i := 3) t13).trans rfl; clear t9 t10 t11 t13 hb8)
          exact ⟨⟨j + 1, m, rx, ra, x', by omega, by go_num, rfl, by have := HB.out.2.2.2.2; omega, HS8.out.more (by omega), by have := HB.out.2.2.2.1; omega, HB.out.2.1⟩, by simp [intOf]; omega⟩
    · obtain rfl : j = N := by omega
      have p2 : ¬ (j : Int) < (j : Int) := by omega
      have HM := Lib.hid (show m ≤ 60 by have := HNn.out; omega)
      have HS := Lib.hid hw
      have HI := Lib.hid hi
      have hx3 : (x : Int) ≤ 100000 := by have := HNn.out; omega
      have HX3 := Lib.hid hx3
      clear hx hw hm hi
      go_wp2_with (go_at_call 53; refine (one_v _).mono ?_; rintro e w9 ⟨rfl, hb9⟩; have H9 := Lib.hid hb9; clear hb9)
      have hbx := H9.out.alloc H9.out.size (.cells #[.int .u64 1000000000000000000, .int .u64 0, .int .u64 0, .int .u64 0] 29)
      have r0 := heap_alloc_new w9 (.cells #[.int .u64 1000000000000000000, .int .u64 0, .int .u64 0, .int .u64 0] 29)
      have HS9 := Lib.hid (HS.out.below hbx)
      have R9 := Lib.hid r0
      have HG := Lib.hid (show w.heap.size ≤ w9.heap.size from Nat.le_trans HS.out.l.size H9.out.size)
      clear hbx r0
      go_loopw [15] (fun v wz => ∃ (n y : Nat), v = .int .i64 (n : Nat) ∧ n ≤ 3000 ∧ HisS w wz b mK0 mKp (2 * j) m rx ra ∧ wz.heap[w9.heap.size]? = some (.cells #[.int .u64 (y : Nat), .int .u64 0, .int .u64 0, .int .u64 0] 29 (0, 0)) ∧ y ≤ 1000000000000000000 ∧ ∀ (bb : Int) (y' : Nat), (n : Int) ≤ bb → mat m rx ra bb y' → y' ≤ y) (fun v _ => 3000 - (intOf v).toNat)
      case atStart => exact ⟨0, 1000000000000000000, rfl, by omega, HS9.out, R9.out, Nat.le_refl _, fun bb y' _ h => mat_top HI.out h⟩
      case round =>
        obtain ⟨n, y, rfl, hn, hs2, hr2, hy, hle⟩ := hrel
        have HS2 := Lib.hid hs2
        by_cases h1 : n ≤ x + 1
        · have p3 : (n : Int) ≤ (x : Int) + 1 := by omega
          by_cases h2 : n < 3000
          · have p4 : (n : Int) < 3000 := by omega
            obtain ⟨y', hy', hC⟩ := mat_law hs2 (by have := HM.out; omega) HI.out.le (n : Nat)
            have hyy := hle _ _ (by omega) hy'
            have hyw := mat_top HI.out hy'
            obtain ⟨c, hc0, hcl⟩ := rcmpV y' y hyy hy
            have HCm := Lib.hid hcl
            have HC := Lib.hid hC
            have hc1 : ¬ (0 : Int) < c := by omega
            have HE := Lib.hid (And.intro hyw hy')
            have R2 := Lib.hid hr2
            have HN3 := Lib.hid h2
            clear hcl hC hs2 hr2 hle hyy hyw hy' hy hn h1 h2 hc0
            go_upto_region 21 with (go_at_call 54; refine HC.out.mono ?_; rintro e w10 ⟨rfl, hb10⟩; have H10 := Lib.hid hb10; clear hb10)
            have hbz := H10.out.alloc H10.out.size (.cells #[.int .u64 (y' : Nat), .int .u64 0, .int .u64 0, .int .u64 0] 29)
            have r16 := heap_alloc_new w10 (.cells #[.int .u64 (y' : Nat), .int .u64 0, .int .u64 0, .int .u64 0] 29)
            obtain ⟨W11, hW11⟩ : ∃ W11, W11 = w10.alloc (.cells #[.int .u64 (y' : Nat), .int .u64 0, .int .u64 0, .int .u64 0] 29) := ⟨_, rfl⟩
            rw [← hW11] at hbz r16 ⊢
            clear hW11
            have HS11 := Lib.hid (HS2.out.below hbz)
            have q14 := (hbz.block _ (hp_lt R2.out)).trans R2.out
            have R11 := Lib.hid (And.intro q14 r16)
            have nz : w9.heap.size < w10.heap.size := Nat.lt_of_lt_of_le (hp_lt R2.out) H10.out.size
            have nz1 : ¬ w9.heap.size = w10.heap.size := by omega
            have nz2 : ¬ w10.heap.size = w9.heap.size := by omega
            have i0 := (hp_cell (i := 0) q14).trans rfl
            have i1 := (hp_cell (i := 1) q14).trans rfl
            have i2 := (hp_cell (i := 2) q14).trans rfl
            have i3 := (hp_cell (i := 3) q14).trans rfl
            have l0 := (hp_cell (i := 0) r16).trans rfl
            have l1 := (hp_cell (i := 1) r16).trans rfl
            have l2 := (hp_cell (i := 2) r16).trans rfl
            have l3 := (hp_cell (i := 3) r16).trans rfl
            clear q14 r16 hbz
            go_wp2_with (go_at_call 52; refine (HCm.out _).mono ?_; rintro e w12 ⟨rfl, hb12⟩; have HS12 := Lib.hid (HS11.out.below hb12); have t14 := (hb12.block _ (hp_lt R11.out.1)).trans R11.out.1; have t16 := (hb12.block _ (hp_lt R11.out.2)).trans R11.out.2; have R12 := Lib.hid t14; have i0 := (hp_cell (i := 0) t14).trans rfl; have i1 := (hp_cell (i := 1) t14).trans rfl; have i2 := (hp_cell (i := 2) t14).trans rfl; have i3 := (hp_cell (i := 3) t14).trans rfl; have l0 := (hp_cell (i := 0) t16).trans rfl; have l1 := (hp_cell (i := 1) t16).trans rfl; have l2 := (hp_cell (i := 2) t16).trans rfl; have l3 := (hp_cell (i := 3) t16).trans rfl; have f0 := hp_free (i := 0) t14; have f1 := hp_free (i := 1) t14; have f2 := hp_free (i := 2) t14; have f3 := hp_free (i := 3) t14; clear t14 t16 hb12)
            refine ⟨⟨n + 1, y', by go_num, by have := HN3.out; omega, HS12.out.other [w9.heap.size] (touch_set4 (by simp)) (fun g hg => ?_), set4_row _ _ _ _ R12.out, HE.out.1, fun bb z hb hz => mat_le HI.out (by omega) HE.out.2 hz⟩, by have := HN3.out; simp [intOf]; omega⟩
            obtain rfl : g = w9.heap.size := by simpa using hg
            exact ⟨HG.out, _, _, _, R12.out, fU⟩
          · have p4 : ¬ (n : Int) < 3000 := by omega
            clear hs2 hr2 hle hy hn h1 h2
            have e1 := fun w => eqU 1000000000000000000 0 0 0 1000000000000000000 0 0 0 w
            go_wp2_with (first
                        | (go_at_call 49; have g5 := B4; clear g5; refine (lives22_walk _).mono ?_; rintro e v5 ⟨rfl, hb5⟩; have B5 := Lib.hid (B4.out.trans (hb5.mono B4.out.size)); clear hb5)
                        | (go_at_call 53; have g5 := B3; clear g5; refine (one_v _).mono ?_; rintro e v4 ⟨rfl, hb4⟩; have B4 := Lib.hid (B3.out.trans (hb4.mono B3.out.size)); clear hb4)
                        | (go_at_call 54; have g5 := B2; clear g5; refine (mzero (HS2.out.below B2.out) (by have := HM.out; omega) _).2.mono ?_; rintro e v3 ⟨rfl, hb3⟩; have B3 := Lib.hid (B2.out.trans (hb3.mono B2.out.size)); clear hb3)
                        | (go_at_call 53; have g5 := B1; clear g5; refine (one_v _).mono ?_; rintro e v2 ⟨rfl, hb2⟩; have B2 := Lib.hid (B1.out.trans (hb2.mono B1.out.size)); clear hb2)
                        | (go_at_call 50; refine (mzero HS2.out (by have := HM.out; omega) 0).1.mono ?_; rintro e v1 ⟨rfl, hb1⟩; have B1 := Lib.hid hb1; clear hb1))
            go_ret
            have hx := HS2.out.l
            exact ⟨rfl, hx.trans (B5.out.mono hx.size)⟩
        · have p3 : ¬ (n : Int) ≤ (x : Int) + 1 := by omega
          clear hs2 hr2 hle hy hn h1
          have e1 := fun w => eqU 1000000000000000000 0 0 0 1000000000000000000 0 0 0 w
          go_wp2_with (first
                      | (go_at_call 49; have g5 := B4; clear g5; refine (lives22_walk _).mono ?_; rintro e v5 ⟨rfl, hb5⟩; have B5 := Lib.hid (B4.out.trans (hb5.mono B4.out.size)); clear hb5)
                      | (go_at_call 53; have g5 := B3; clear g5; refine (one_v _).mono ?_; rintro e v4 ⟨rfl, hb4⟩; have B4 := Lib.hid (B3.out.trans (hb4.mono B3.out.size)); clear hb4)
                      | (go_at_call 54; have g5 := B2; clear g5; refine (mzero (HS2.out.below B2.out) (by have := HM.out; omega) _).2.mono ?_; rintro e v3 ⟨rfl, hb3⟩; have B3 := Lib.hid (B2.out.trans (hb3.mono B2.out.size)); clear hb3)
                      | (go_at_call 53; have g5 := B1; clear g5; refine (one_v _).mono ?_; rintro e v2 ⟨rfl, hb2⟩; have B2 := Lib.hid (B1.out.trans (hb2.mono B1.out.size)); clear hb2)
                      | (go_at_call 50; refine (mzero HS2.out (by have := HM.out; omega) 0).1.mono ?_; rintro e v1 ⟨rfl, hb1⟩; have B1 := Lib.hid hb1; clear hb1))
          go_ret
          have hx := HS2.out.l
          exact ⟨rfl, hx.trans (B5.out.mono hx.size)⟩

end Go.Proofs.Ytedkhpnlhkjjgaa

namespace Go.Proofs.Ytedkhpnlhkjjgaa
open Go.RowKit Go.Maps Go.Sort

set_option maxRecDepth 100000 in
set_option maxHeartbeats 4000000 in
theorem magnFalls_walk (A : Option Addr) (N C : Nat) (y0 y1 y2 : Nat → Int) (y3 : Nat → Nat) (Bs : Option Addr) (S D : Nat) (f : Nat → Nat) (w : World) (hr : RowsV w A N 7 (fun i => [.int .i64 (y0 i), .int .i64 (y1 i), .int .i64 (y2 i), .int .u64 (limb (y3 i) 0 : Nat), .int .u64 (limb (y3 i) 1 : Nat), .int .u64 (limb (y3 i) 2 : Nat), .int .u64 (limb (y3 i) 3 : Nat)])) (hs : Sl w Bs S f) (ha : ∀ i, i < N → y3 i < 2 ^ 256) :
    Calls Try.prog 9 #[.slice A N C, .slice Bs S D] w fun e w' => e = .returned (.bool true) ∧ Below w.heap.size w w' := by
  by_cases hN : N ≤ 60
  · by_cases hS : S ≤ 60
    · exact magnFalls_go A N C y0 y1 y2 y3 Bs S D f w hr hs hN hS ha
    · have p1 : ¬ (60 : Int) < (N : Int) := by omega
      have p2 : (60 : Int) < (S : Int) := by omega
      clear hr hs ha hN hS
      go_enter Try.func9, Try.ntmps9
      go_wp2_with (go_at_call 49; refine (lives22_walk _).mono ?_; rintro e w1 ⟨rfl, hb1⟩; have H1 := Lib.hid hb1; clear hb1)
      go_ret
      exact ⟨rfl, H1.out⟩
  · have p1 : (60 : Int) < (N : Int) := by omega
    clear hr hs ha hN
    go_enter Try.func9, Try.ntmps9
    go_wp2_with (go_at_call 49; refine (lives22_walk _).mono ?_; rintro e w1 ⟨rfl, hb1⟩; have H1 := Lib.hid hb1; clear hb1)
    go_ret
    exact ⟨rfl, H1.out⟩
end Go.Proofs.Ytedkhpnlhkjjgaa
