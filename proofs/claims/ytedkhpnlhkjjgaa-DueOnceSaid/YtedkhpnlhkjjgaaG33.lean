/- The law DueOnce, walked: where it looks. -/
import Derived.Test.YtedkhpnlhkjjgaaG32
namespace Go.Proofs.Ytedkhpnlhkjjgaa
open Go.RowKit Go.Maps Go.Sort

set_option maxRecDepth 100000 in
set_option maxHeartbeats 16000000 in
theorem dueOnce_go (A : Option Addr) (N C : Nat) (f : Nat → Nat) (Bs : Option Addr) (S D : Nat) (gs : Nat → Nat) (w : World) (hr : Sl w A N f) (hs : Sl w Bs S gs) (hN : N ≤ 80) (hS : S ≤ 80) :
    Calls Try.prog 6 #[.slice A N C, .slice Bs S D] w fun e w' => e = .returned (.bool true) ∧ Below w.heap.size w w' := by
  have HR := Lib.hid hr
  have HSt := Lib.hid hs
  have HNn := Lib.hid (And.intro hN hS)
  have hN' : (N : Int) ≤ 80 := by omega
  have hS' : (S : Int) ≤ 80 := by omega
  have HBl := Lib.hid hr.small
  clear hr hs hN hS
  go_enter Try.func6, Try.ntmps6
  go_wp2_with (go_at_call 13; with_reducible refine (SNew.new w _ (Below.refl _ _)).mono ?_; rintro e w3 ⟨b, F1, rfl, hs1, _, _⟩; have H3 := Lib.hid hs1; clear hs1)
  go_loopw [31] (fun i wr => ∃ j : Nat, j ≤ N ∧ i = .int .i64 (j : Nat) ∧ DuS w wr b f j 0 (2 * j)) (fun i _ => N - (intOf i).toNat)
  case atStart => exact ⟨0, by omega, rfl, ⟨F1, 0, [], by
    have e : dL f 0 0 = [] := by
      unfold dL
      have : dR f 0 0 256 = [] := List.eq_nil_iff_forall_not_mem.2 (fun p hp => by have := (dR_mem hp).2.1; omega)
      rw [this]; rfl
    rw [e]; exact H3.out, Nat.le_refl _⟩⟩
  case round =>
    obtain ⟨j, hj, rfl, hw⟩ := hrel
    by_cases hlt : j < N
    · have p2 : (j : Int) < (N : Int) := by omega
      obtain ⟨g, o, rfl, hg, hc⟩ := (HR.out.below hw.l).at_ (by omega)
      have d0 := hc j hlt
      have hv := HBl.out j
      have hbx := (Below.refl wr.heap.size wr).alloc (Nat.le_refl _) (.cells #[.int .i64 (f j : Nat), .int .i64 (j : Nat)] 3)
      have hA := duo_add (hw.below hbx) (by have := HNn.out.1; omega) HBl.out (by have := HNn.out.1; omega) (some ⟨wr.heap.size, 0, none⟩) 2 (il2 (f j : Nat) (j : Nat) wr 3 (by omega) (by omega))
      obtain ⟨v, ev⟩ : ∃ z, z = f j := ⟨_, rfl⟩
      rw [← ev] at d0 hv hA
      have HA := Lib.hid hA
      have i1 : IntKind.i64.wrap (v : Int) = (v : Int) := IntWalk.i64_in _ (by omega)
      clear hw hg hc hbx hA ev hv
      go_wp2_with (go_at_call 29; refine HA.out.mono ?_; rintro e w4 ⟨rfl, hs4⟩; have H4 := Lib.hid hs4; clear hs4)
      exact ⟨⟨j + 1, by omega, by go_num, H4.out⟩, by simp [intOf]; omega⟩
    · obtain rfl : j = N := by omega
      have p2 : ¬ (j : Int) < (j : Int) := by omega
      have HS := Lib.hid hw
      clear hw hj
      go_wp2
      go_loopw [8, 9, 48] (fun v8 v9 i wr => ∃ (k now lo : Nat), k ≤ S ∧ i = .int .i64 (k : Nat) ∧ v8 = .int .i64 (now : Nat) ∧ v9 = .int .i64 (dW f lo j : Nat) ∧ now ≤ 255 * k ∧ DuS w wr b f j lo (2 * j + 100 * k) ∧ (k = 0 ∧ lo = 0 ∨ 0 < k ∧ lo = min (now + 1) 256)) (fun _ _ i _ => S - (intOf i).toNat)
      case atStart => exact ⟨0, 0, 0, by omega, rfl, rfl, by rw [← dW_is, dR_nil]; rfl, by omega, HS.out, .inl ⟨rfl, rfl⟩⟩
      case round =>
        obtain ⟨k, now, lo, hk, rfl, rfl, rfl, hnow, hw, hlo⟩ := hrel
        by_cases hlt2 : k < S
        · have p3 : (k : Int) < (S : Int) := by omega
          obtain ⟨g, o, rfl, hg, hc⟩ := (HSt.out.below hw.l).at_ (by omega)
          have d0 := hc k hlt2
          have hv := HSt.out.small k
          obtain ⟨sv, ev⟩ : ∃ z, z = gs k := ⟨_, rfl⟩
          rw [← ev] at d0 hv
          have i1 : IntKind.i64.wrap (sv : Int) = (sv : Int) := IntWalk.i64_in _ (by omega)
          obtain ⟨now', en⟩ : ∃ z, z = now + sv := ⟨_, rfl⟩
          have hk80 : k ≤ 80 := by have := HNn.out.2; omega
          have i2 : (now : Int) + (sv : Int) = (now' : Int) := by omega
          have i3 : (now' : Int) ≤ 100000 := by omega
          obtain ⟨hi, ehi⟩ : ∃ z, z = min (now' + 1) 256 := ⟨_, rfl⟩
          have hlh : lo ≤ hi := by rcases hlo with ⟨_, h⟩ | ⟨_, h⟩ <;> omega
          have hT := duo_take hw (by have := HNn.out.1; omega) HBl.out (by have := HNn.out.1; omega) now' hlh ehi
          have HT := Lib.hid hT
          have HK := Lib.hid (And.intro hlh (And.intro ehi (And.intro hk80 (show now' ≤ 255 * (k + 1) by omega))))
          have HWl := Lib.hid hw.l
          have nN : dW f lo j ≤ 80 := Nat.le_trans (dW_le f lo j) HNn.out.1
          have nN' : (dW f lo j : Int) ≤ 80 := by omega
          have nI : (0 : Int) ≤ (now : Int) ∧ (now : Int) ≤ 100000 := by omega
          have nv : (sv : Int) < 256 := by omega
          clear hw hlo hnow hg hc hT ev en hlh hk80 hv
          go_upto_region 17 with (go_at_call 30; refine HT.out.mono ?_; rintro e w4 ⟨v, xs, rfl, hxl, hown, hrows, hs4⟩; have H4 := Lib.hid (And.intro hxl (And.intro hown (And.intro hrows hs4))); obtain ⟨Av, cv, rfl⟩ : ∃ A c, v = .slice A xs.length c := (by rcases hown.2 with ⟨rfl, h0⟩ | ⟨g, cap, cur, rfl, _⟩; exact ⟨none, 0, by rw [hxl, h0]⟩; exact ⟨_, cap, by rw [hxl]⟩); clear hown hrows hs4 hxl)
          go_loopw [9, 12, 13, 60] (fun v9 v12 v13 i wz => ∃ (m : Nat) (b0 t0 : Int), m ≤ xs.length ∧ i = .int .i64 (m : Nat) ∧ v9 = .int .i64 ((dW f lo j : Int) + (m : Int)) ∧ v12 = .int .i64 b0 ∧ v13 = .int .i64 t0 ∧ (m = 0 ∧ b0 = -1 ∧ t0 = -1 ∨ 0 < m ∧ b0 = (((dR f j lo 256).getD (m - 1) (0, 0, 0)).1 : Nat) ∧ t0 = (((dR f j lo 256).getD (m - 1) (0, 0, 0)).2.2 : Nat)) ∧ Below w4.heap.size w4 wz) (fun _ _ _ i _ => xs.length - (intOf i).toNat)
          case atStart => exact ⟨0, -1, -1, by omega, rfl, by simp, rfl, rfl, .inl ⟨rfl, rfl, rfl⟩, Below.refl _ _⟩
          case round =>
            obtain ⟨m, b0, t0, hm, rfl, rfl, rfl, rfl, hbt, hz⟩ := hrel
            have HZ := Lib.hid hz
            have xl : xs.length ≤ 80 := by rw [H4.out.1]; have h := dW_is f hi j; rw [dR_split f j (Nat.zero_le lo) HK.out.1, List.length_append] at h; have := dW_le f hi j; have := HNn.out.1; omega
            have xl' : (xs.length : Int) ≤ 80 := by omega
            by_cases hlt3 : m < xs.length
            · have p4 : (m : Int) < (xs.length : Int) := by omega
              obtain ⟨v, t, e, hv, ht, hft, hprev⟩ := dR_row (bl := f) (i := j) HK.out.1 (by have := HK.out.2.1; omega) (show m < (dR f j lo hi).length by rw [← H4.out.1]; exact hlt3)
              have HE := Lib.hid e
              have hrow := H4.out.2.2.1 m hlt3
              obtain ⟨xg, exg⟩ : ∃ z, z = xs[m].g := ⟨_, rfl⟩
              have hxn := hrow.n
              obtain ⟨csx, hcx⟩ := hrow.ty
              have x0 := (hz.cell (p := ⟨xs[m].g, 0, none⟩) (hp_lt hcx)).trans (hrow.at_ 0 (by omega))
              have x1 := (hz.cell (p := ⟨xs[m].g, 1, none⟩) (hp_lt hcx)).trans (hrow.at_ 1 (by omega))
              unfold af at x0 x1
              rw [e] at x0 x1
              replace x0 : _ = some (Value.int .i64 ((v : Nat) : Int)) := x0
              replace x1 : _ = some (Value.int .i64 ((t : Nat) : Int)) := x1
              have c0 : ∃ gv, Av = some ⟨gv, 0, none⟩ ∧ wr.cell? ⟨gv, m, none⟩ = some (.slice (some ⟨xs[m].g, 0, none⟩) 2 2) := by
                have hown := H4.out.2.1
                rw [← H4.out.1] at hown
                rcases hown.2 with ⟨h1, h0⟩ | ⟨gv, cap, cur, h1, hb, hh, r⟩
                · omega
                · cases h1
                  refine ⟨gv, rfl, (hz.cell (p := ⟨gv, m, none⟩) (hp_lt hh)).trans ?_⟩
                  rw [hown.cellAt m (by simp; omega)]
                  simp [hlt3, DRow.val, hxn]
              rw [← exg] at x0 x1 c0
              obtain ⟨gv, rfl, c0⟩ := c0
              obtain ⟨ga, oa, rfl, hga, hca⟩ := (HR.out.below (H4.out.2.2.2.l.trans (hz.mono H4.out.2.2.2.l.size))).at_ (by omega)
              have bt := hca t ht
              rw [hft] at bt
              have hv256 : v < 256 := by have := HBl.out t; omega
              have i5 : IntKind.i64.wrap (v : Int) = (v : Int) := IntWalk.i64_in _ (by omega)
              have hvn : v ≤ now' := by have := HK.out.2.1; omega
              have f1 : decide ((now' : Int) < (v : Int)) = false := by simp; omega
              have f1n : ¬ now' < v := by omega
              have f2 : decide ((v : Int) < b0) = false := by
                rcases hbt with ⟨_, h, _⟩ | ⟨h0, h, _⟩
                · simp; omega
                · rcases hprev h0 with h1 | ⟨h1, _⟩ <;> (simp; omega)
              have f5 : decide ((j : Int) ≤ (t : Int)) = false := by simp; omega
              have f5n : ¬ j ≤ t := by omega
              have f6 : (t : Int) < (j : Int) := by omega
              have f7 : (0 : Int) ≤ (t : Int) := by omega
              have f8 : decide ((t : Int) < 0) = false := by simp
              by_cases hEq : (v : Int) = b0
              · have f3 : ((v : Int) == b0) = true := by simpa using hEq
                have f4 : decide ((t : Int) ≤ t0) = false := by
                  rcases hbt with ⟨_, h, h2⟩ | ⟨h0, h, h2⟩
                  · simp; omega
                  · rcases hprev h0 with h1 | ⟨_, h1⟩ <;> (simp; omega)
                clear hz hbt hprev hv hrow hxn hcx exg hga hca hft hv256 hvn e hEq
                go_upto_region 19 with fail
                go_quiet (fail)
                go_upto_region 21 with fail
                go_quiet (fail)
                go_wp2
                refine ⟨⟨m + 1, (v : Nat), (t : Nat), by omega, by go_num, ?_, rfl, rfl, .inr ⟨by omega, ?_⟩, below_drewN HZ.out _⟩, by simp [intOf]; omega⟩
                · go_num
                · rw [Nat.add_sub_cancel, HE.out]
                  exact ⟨rfl, rfl⟩
              · have f3 : ((v : Int) == b0) = false := by rw [beq_eq_false_iff_ne]; exact hEq
                clear hz hbt hprev hv hrow hxn hcx exg hga hca hft hv256 hvn e hEq
                go_upto_region 19 with fail
                go_quiet (fail)
                go_upto_region 21 with fail
                go_quiet (fail)
                go_wp2
                refine ⟨⟨m + 1, (v : Nat), (t : Nat), by omega, by go_num, ?_, rfl, rfl, .inr ⟨by omega, ?_⟩, below_drewN HZ.out _⟩, by simp [intOf]; omega⟩
                · go_num
                · rw [Nat.add_sub_cancel, HE.out]
                  exact ⟨rfl, rfl⟩
            · have p4 : ¬ (m : Int) < (xs.length : Int) := by omega
              obtain rfl : m = xs.length := by omega
              have hw9 := H4.out.2.2.2.below hz
              have hsum : dW f lo j + xs.length = dW f hi j := by
                rw [H4.out.1, ← dW_is f hi j, dR_split f j (Nat.zero_le lo) HK.out.1, List.length_append, dW_is]
              have HW9 := Lib.hid (And.intro hw9 hsum)
              clear hz hbt hw9 hsum
              go_wp2
              refine ⟨⟨k + 1, now', hi, by omega, by go_num, rfl, ?_, HK.out.2.2.2, ?_, .inr ⟨by omega, HK.out.2.1⟩⟩, by simp [intOf]; omega⟩
              · have := HW9.out.2; congr 1; omega
              · obtain ⟨F, q, qs, h1, h2⟩ := HW9.out.1.s; exact ⟨F, q, qs, h1, by omega⟩
        · obtain rfl : k = S := by omega
          have p3 : ¬ (k : Int) < (k : Int) := by omega
          have HW := Lib.hid hw
          have HLo := Lib.hid hlo
          have nI : (now : Int) ≤ 100000 := by have := HNn.out.2; omega
          have nI0 : (0 : Int) ≤ (now : Int) := by omega
          clear hw hlo hnow hk
          go_wp2
          go_loopw [16, 134] (fun v16 i wz => ∃ q : Nat, q ≤ j ∧ i = .int .i64 (q : Nat) ∧ v16 = .int .i64 (dW f lo q : Nat) ∧ DuS w wz b f j lo (2 * j + 100 * k)) (fun _ i _ => j - (intOf i).toNat)
          case atStart => exact ⟨0, by omega, rfl, rfl, HW.out⟩
          case round =>
            obtain ⟨q, hq, rfl, rfl, hw⟩ := hrel
            have HQ := Lib.hid hw
            have nW : dW f lo q ≤ 80 := Nat.le_trans (dW_le f lo q) (Nat.le_trans hq HNn.out.1)
            have nW' : (dW f lo q : Int) ≤ 80 := by omega
            have hWs : dW f lo (q + 1) = dW f lo q + if f q < lo then 1 else 0 := rfl
            by_cases hlt4 : q < j
            · have p5 : (q : Int) < (j : Int) := by omega
              obtain ⟨g, o, rfl, hg, hc⟩ := (HR.out.below hw.l).at_ (by omega)
              have d0 := hc q hlt4
              have hv := HBl.out q
              obtain ⟨v, ev⟩ : ∃ z, z = f q := ⟨_, rfl⟩
              rw [← ev] at d0 hv hWs
              have i1 : IntKind.i64.wrap (v : Int) = (v : Int) := IntWalk.i64_in _ (by omega)
              rcases Nat.eq_zero_or_pos k with h0 | h0
              · have p6 : ¬ (0 : Int) < (k : Int) := by omega
                have hlo0 : lo = 0 := by rcases HLo.out with ⟨_, h⟩ | ⟨h, _⟩ <;> omega
                rw [if_neg (by omega), Nat.add_zero] at hWs
                have HWs := Lib.hid hWs
                clear hw hg hc ev hv hWs h0 hlo0 nW
                go_wp2
                exact ⟨⟨q + 1, by omega, by go_num, by rw [HWs.out]; rfl, HQ.out⟩, by simp [intOf]; omega⟩
              · have p6 : (0 : Int) < (k : Int) := by omega
                have hlo1 : lo = min (now + 1) 256 := by rcases HLo.out with ⟨h, _⟩ | ⟨_, h⟩ <;> omega
                by_cases hle : v ≤ now
                · have p7 : (v : Int) ≤ (now : Int) := by omega
                  rw [if_pos (by omega)] at hWs
                  have HWs := Lib.hid hWs
                  clear hw hg hc ev hv hWs h0 hlo1 nW hle
                  go_wp2
                  exact ⟨⟨q + 1, by omega, by go_num, by rw [HWs.out]; go_num, HQ.out⟩, by simp [intOf]; omega⟩
                · have p7 : ¬ (v : Int) ≤ (now : Int) := by omega
                  rw [if_neg (by omega), Nat.add_zero] at hWs
                  have HWs := Lib.hid hWs
                  clear hw hg hc ev hv hWs h0 hlo1 nW hle
                  go_wp2
                  exact ⟨⟨q + 1, by omega, by go_num, by rw [HWs.out]; rfl, HQ.out⟩, by simp [intOf]; omega⟩
            · obtain rfl : q = j := by omega
              have p5 : ¬ (q : Int) < (q : Int) := by omega
              have hlo2 : lo ≤ 256 := by rcases HLo.out with ⟨_, h⟩ | ⟨_, h⟩ <;> omega
              have hLn := duo_len hw HNn.out.1 HBl.out hlo2
              rw [dW_rest f HBl.out q lo hlo2] at hLn
              obtain ⟨r, er⟩ : ∃ z, z = q - dW f lo q := ⟨_, rfl⟩
              rw [← er] at hLn
              have HLn := Lib.hid hLn
              have hdl := dW_le f lo q
              have i9 : (q : Int) - (dW f lo q : Int) = (r : Int) := by omega
              clear hw hLn hlo2 er hdl hWs nW
              go_wp2_with (first
                | (go_at_call 28; have g5 := B1; clear g5; refine (lives13_walk _).mono ?_; rintro e v2 ⟨rfl, hb2⟩; have B2 := Lib.hid (B1.out.trans (hb2.mono B1.out.size)); clear hb2)
                | (go_at_call 31; refine HLn.out.mono ?_; rintro e v1 ⟨rfl, hb1⟩; have B1 := Lib.hid hb1; clear hb1))
              go_ret
              have hx := HQ.out.l
              exact ⟨rfl, hx.trans (B2.out.mono hx.size)⟩
end Go.Proofs.Ytedkhpnlhkjjgaa

namespace Go.Proofs.Ytedkhpnlhkjjgaa
open Go.RowKit Go.Maps Go.Sort

set_option maxRecDepth 100000 in
set_option maxHeartbeats 4000000 in
theorem dueOnce_walk (A : Option Addr) (N C : Nat) (f : Nat → Nat) (Bs : Option Addr) (S D : Nat) (gs : Nat → Nat) (w : World) (hr : Sl w A N f) (hs : Sl w Bs S gs) :
    Calls Try.prog 6 #[.slice A N C, .slice Bs S D] w fun e w' => e = .returned (.bool true) ∧ Below w.heap.size w w' := by
  by_cases hN : N ≤ 80
  · by_cases hS : S ≤ 80
    · exact dueOnce_go A N C f Bs S D gs w hr hs hN hS
    · have p1 : ¬ (80 : Int) < (N : Int) := by omega
      have p2 : (80 : Int) < (S : Int) := by omega
      clear hr hs hN hS
      go_enter Try.func6, Try.ntmps6
      go_wp2_with (go_at_call 28; refine (lives13_walk _).mono ?_; rintro e w1 ⟨rfl, hb1⟩; have H1 := Lib.hid hb1; clear hb1)
      go_ret
      exact ⟨rfl, H1.out⟩
  · have p1 : (80 : Int) < (N : Int) := by omega
    clear hr hs hN
    go_enter Try.func6, Try.ntmps6
    go_wp2_with (go_at_call 28; refine (lives13_walk _).mono ?_; rintro e w1 ⟨rfl, hb1⟩; have H1 := Lib.hid hb1; clear hb1)
    go_ret
    exact ⟨rfl, H1.out⟩
end Go.Proofs.Ytedkhpnlhkjjgaa
