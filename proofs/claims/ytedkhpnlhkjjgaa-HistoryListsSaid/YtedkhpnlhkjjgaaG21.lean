/- The law HistoryLists, walked. -/
import Derived.Test.YtedkhpnlhkjjgaaG20
namespace Go.Proofs.Ytedkhpnlhkjjgaa
open Go.RowKit Go.Maps Go.Sort

set_option maxRecDepth 100000 in
set_option maxHeartbeats 8000000 in
theorem historyLists_go (A : Option Addr) (N C : Nat) (A0 : Nat → Option Addr) (k0 c0 : Nat → Nat) (x1 : Nat → Int) (a2 : Nat → Nat) (w : World) (hr : RowsV w A N 6 (fun i => [.slice (A0 i) (k0 i) (c0 i), .int .i64 (x1 i), .int .u64 (limb (a2 i) 0 : Nat), .int .u64 (limb (a2 i) 1 : Nat), .int .u64 (limb (a2 i) 2 : Nat), .int .u64 (limb (a2 i) 3 : Nat)]))
    (hN : N ≤ 100) (hk : ∀ i, i < N → k0 i ≤ 5) (ha : ∀ i, i < N → a2 i < 2 ^ 256) :
    Calls Try.prog 4 #[.slice A N C] w fun e w' => e = .returned (.bool true) ∧ Below w.heap.size w w' := by
  have HL1 := Lib.hid (light11_rows A N C A0 k0 c0 x1 a2 w hr (by omega) (fun i hi => by have := hk i hi; omega) true ⟨fun _ => ⟨hN, hk⟩, fun _ => rfl⟩)
  have HR := Lib.hid hr
  have HA := Lib.hid ha
  have HNn := Lib.hid hN
  have hN' : (N : Int) ≤ 100 := by omega
  clear hr hk hN ha
  go_enter Try.func4, Try.ntmps4
  go_wp2_with (first
    | (go_at_call 13; with_reducible refine (SNew.new w _ H1.out).mono ?_; rintro e w3 ⟨b, F1, rfl, hs1, _, _⟩; have H3 := Lib.hid hs1; clear hs1)
    | (go_at_call 11; with_reducible refine HL1.out.mono ?_; rintro e w1 ⟨rfl, hb1⟩; have H1 := Lib.hid hb1; clear hb1))
  go_loopw [19] (fun i wr => ∃ (j m : Nat) (rx ra : Nat → Nat), j ≤ N ∧ i = .int .i64 (j : Nat) ∧ HisS w wr b hK0 hKp (2 * j) m rx ra ∧ m ≤ j) (fun i _ => N - (intOf i).toNat)
  case atStart => exact ⟨0, 0, fun _ => 0, fun _ => 0, by omega, rfl, ⟨F1, [], 0, [], H3.out, Nat.le_refl _, HisL.empty _ _ _ _⟩, Nat.le_refl _⟩
  case round =>
    obtain ⟨j, m, rx, ra, hj, rfl, hw, hm⟩ := hrel
    have HW := Lib.hid hw
    by_cases hlt : j < N
    · have p2 : (j : Int) < (N : Int) := by omega
      obtain ⟨g, o, rfl, hg, hc⟩ := (HR.out.below hw.l) (by omega)
      have d0 := hc j hlt 0 _ rfl
      have d1 := hc j hlt 1 _ rfl
      have d2 := hc j hlt 2 _ rfl
      have d3 := hc j hlt 3 _ rfl
      have d4 := hc j hlt 4 _ rfl
      have d5 := hc j hlt 5 _ rfl
      simp only [Nat.add_zero] at d0
      have hba := HA.out j hlt
      obtain ⟨p, ep⟩ : ∃ z, z = x1 j := ⟨_, rfl⟩
      obtain ⟨a, ea⟩ : ∃ z, z = a2 j := ⟨_, rfl⟩
      rw [← ep] at d1
      rw [← ea] at d2 d3 d4 d5 hba
      have hbx := (Below.refl wr.heap.size wr).alloc (Nat.le_refl _) (.cells #[.slice (A0 j) (k0 j) (c0 j), .int .i64 p, .int .u64 (limb a 0 : Nat), .int .u64 (limb a 1 : Nat), .int .u64 (limb a 2 : Nat), .int .u64 (limb a 3 : Nat)] 32)
      have hby := hbx.alloc hbx.size (.cells #[.int .i64 1] 3)
      have hin := heap_alloc_new (wr.alloc (.cells #[.slice (A0 j) (k0 j) (c0 j), .int .i64 p, .int .u64 (limb a 0 : Nat), .int .u64 (limb a 1 : Nat), .int .u64 (limb a 2 : Nat), .int .u64 (limb a 3 : Nat)] 32)) (.cells #[.int .i64 1] 3)
      have hil := il1 1 (wr.alloc (.cells #[.slice (A0 j) (k0 j) (c0 j), .int .i64 p, .int .u64 (limb a 0 : Nat), .int .u64 (limb a 1 : Nat), .int .u64 (limb a 2 : Nat), .int .u64 (limb a 3 : Nat)] 32)) 3 (by decide)
      have hst := hpush_law hK0 hKp rfl (fun _ => rfl) hKeysOk (hw.below hby) (by have := HNn.out; omega) (by have := HNn.out; omega) (some ⟨(wr.alloc (.cells #[.slice (A0 j) (k0 j) (c0 j), .int .i64 p, .int .u64 (limb a 0 : Nat), .int .u64 (limb a 1 : Nat), .int .u64 (limb a 2 : Nat), .int .u64 (limb a 3 : Nat)] 32)).heap.size, 0, none⟩) 1 (fun F L q qs hs W' ht => il_touch hs hin hil fInt W' ht) (fun h => by cases h) (by omega) p a hba
      simp only [World.size_alloc] at hst
      unfold U at hst
      have HSt := Lib.hid hst
      clear hw hc hst hbx hby hin hil hba ep ea
      go_wp2_with (go_at_call 14; refine HSt.out.mono ?_; rintro e w5 ⟨r, m', rx', ra', rfl, hp, hs5, hk5⟩; have HP := Lib.hid hp; have H5 := Lib.hid hs5; clear hp hs5 hk5)
      exact ⟨⟨j + 1, m', rx', ra', by omega, by go_num, H5.out, by rcases HP.out with ⟨_, _, h, _⟩ | ⟨_, ⟨_, _, _, h, _⟩ | ⟨_, _, _, _, h, _⟩ | ⟨_, _, _, h, _⟩ | ⟨_, _, h, _⟩⟩ <;> omega⟩, by simp [intOf]; omega⟩
    · obtain rfl : j = N := by omega
      have p2 : ¬ (j : Int) < (j : Int) := by omega
      have hm2 : m ≤ 100 := Nat.le_trans hm HNn.out
      have hbI := (Below.refl wr.heap.size wr).alloc (Nat.le_refl _) (.cells #[.int .i64 1] 3)
      have hls := hlist_law hK0 hKp rfl (fun _ => rfl) hKeysOk (hw.below hbI) (by omega) (some ⟨wr.heap.size, 0, none⟩) 1 (il1 1 wr 3 (by decide)) (fun h => by cases h) (by omega)
      have HLs := Lib.hid hls
      have HbI := Lib.hid hbI
      have HLn := Lib.hid (fun (w4 : World) (hb4 : Below (wr.alloc (.cells #[.int .i64 1] 3)).heap.size (wr.alloc (.cells #[.int .i64 1] 3)) w4) => hlen_law hK0 hKp rfl hKeysOk (((hw.below hbI).below hb4).below ((Below.refl w4.heap.size w4).alloc (Nat.le_refl _) (.cells #[.int .i64 1] 3))) (by omega) (some ⟨w4.heap.size, 0, none⟩) 1 (il1 1 w4 3 (by decide)) (by omega))
      have mI : (m : Int) ≤ 100 := by omega
      clear hw hls hbI
      go_wp2_with (first
        | (go_at_call 17; refine (HLn.out _ H4.out.1).mono ?_; rintro e w5 ⟨rfl, hb5⟩; have H5 := Lib.hid hb5; clear hb5)
        | (go_at_call 16; refine HLs.out.mono ?_; rintro e w4 ⟨⟨A1, c1, A2, c2, rfl, hi4, hv4⟩, hb4⟩; have H4 := Lib.hid (And.intro hb4 (And.intro hi4 hv4)); clear hi4 hv4 hb4))
      have hb6 := (((HbI.out.trans (H4.out.1.mono HbI.out.size)).trans (((Below.refl w4.heap.size w4).alloc (Nat.le_refl _) (.cells #[.int .i64 1] 3)).mono (Nat.le_trans HbI.out.size H4.out.1.size))).trans (H5.out.mono (by have := HbI.out.size; have := H4.out.1.size; simp; omega)))
      have hs6 := HW.out.below hb6
      have hb46 := ((Below.refl w4.heap.size w4).alloc (Nat.le_refl _) (.cells #[.int .i64 1] 3)).trans (H5.out.mono (by simp))
      have hi6 := H4.out.2.1.below hb46
      have hv6 := H4.out.2.2.below hb46
      have HS6 := Lib.hid hs6
      have HI6 := Lib.hid hi6
      have HV6 := Lib.hid hv6
      clear hb6 hs6 hb46 hi6 hv6 hm2 hm
      go_loopw [52] (fun i wz => ∃ k : Nat, k ≤ m ∧ i = .int .i64 (k : Nat) ∧ Below w5.heap.size w5 wz) (fun i _ => m - (intOf i).toNat)
      case atStart => exact ⟨0, by omega, rfl, Below.refl _ _⟩
      case round =>
        obtain ⟨k, hk, rfl, hz⟩ := hrel
        have HZ := Lib.hid hz
        by_cases hlt2 : k < m
        · have q2 : (k : Int) < (m : Int) := by omega
          have hs7 := HS6.out.below hz
          obtain ⟨g1, o1, rfl, hg1, hc1⟩ := (HI6.out.below hz).2 (by omega)
          obtain ⟨g2, o2, rfl, hg2, hc2⟩ := (HV6.out.below hz) (by omega)
          have e0 := hc1 k hlt2
          rw [if_pos hlt2] at e0
          have f0 := hc2 k hlt2 0 _ rfl
          have f1 := hc2 k hlt2 1 _ rfl
          have f2 := hc2 k hlt2 2 _ rfl
          have f3 := hc2 k hlt2 3 _ rfl
          simp only [Nat.add_zero] at f0
          have hbJ := (Below.refl wr.heap.size wr).alloc (Nat.le_refl _) (.cells #[.int .i64 1] 3)
          have hat := hat_law hK0 hKp rfl (fun _ => rfl) hKeysOk (hs7.below hbJ) (by omega) (some ⟨wr.heap.size, 0, none⟩) 1 (il1 1 wr 3 (by decide)) (fun h => by cases h) (by omega) (rx k : Nat)
          have hone : ∀ (a : Nat) (o : Bool), AtR m rx ra (rx k : Nat) a o → ra k = a ∧ true = o := fun a o h => by
            obtain ⟨_, _, _, _, _, _, hd⟩ := hs7.s
            have h2 := h.one (.inr ⟨k, hlt2, rfl, rfl, by omega, fun j hj hjm => by have := hd.inc k j hj hjm; omega⟩)
            exact ⟨h2.1.symm, h2.2.symm⟩
          have hinc : ∀ k', k' < k → rx k' < rx k := fun k' h => by
            obtain ⟨_, _, _, _, _, _, hd⟩ := hs7.s
            exact hd.inc k' k h hlt2
          have hba : ra k < 2 ^ 256 := by
            obtain ⟨_, _, _, _, _, _, hd⟩ := hs7.s
            exact hd.ba k hlt2
          obtain ⟨x, ex⟩ : ∃ z, z = rx k := ⟨_, rfl⟩
          obtain ⟨a, ea⟩ : ∃ z, z = ra k := ⟨_, rfl⟩
          rw [← ex] at e0 hat hone hinc
          rw [← ea] at f0 f1 f2 f3 hone hba
          unfold U at hat
          have HAt := Lib.hid hat
          have HbJ := Lib.hid hbJ
          have HOn := Lib.hid hone
          have HBa := Lib.hid hba
          have hEq := fun w => eq_run (a := a) (b := a) hba hba w
          rw [decide_eq_true (rfl : a = a)] at hEq
          rcases Nat.eq_zero_or_pos k with rfl | hpos
          · simp only [Nat.zero_mul, Nat.add_zero] at e0 f0 f1 f2 f3
            clear hz hs7 hat hbJ hone hba ex ea hc1 hc2 hinc
            go_upto_region 16 with (go_at_call 15; refine HAt.out.mono ?_; rintro e w8 ⟨⟨a', o', rfl, hat, hba⟩, hb8⟩; obtain ⟨h1, h2⟩ := HOn.out _ _ hat; subst h1 h2; have H8 := Lib.hid hb8; clear hat hba hb8)
            have hbx := H8.out.alloc H8.out.size (.cells #[.int .u64 (limb a 0 : Nat), .int .u64 (limb a 1 : Nat), .int .u64 (limb a 2 : Nat), .int .u64 (limb a 3 : Nat)] 29)
            have r9 := heap_alloc_new w8 (.cells #[.int .u64 (limb a 0 : Nat), .int .u64 (limb a 1 : Nat), .int .u64 (limb a 2 : Nat), .int .u64 (limb a 3 : Nat)] 29)
            obtain ⟨W9, hW9⟩ : ∃ W9, W9 = w8.alloc (.cells #[.int .u64 (limb a 0 : Nat), .int .u64 (limb a 1 : Nat), .int .u64 (limb a 2 : Nat), .int .u64 (limb a 3 : Nat)] 29) := ⟨_, rfl⟩
            rw [← hW9] at hbx r9 ⊢
            clear hW9
            have hbx2 := HbJ.out.trans (hbx.mono HbJ.out.size)
            have H9 := Lib.hid (HZ.out.trans (hbx2.mono HZ.out.size))
            have b0 := (hp_cell (i := 0) r9).trans rfl
            have b1 := (hp_cell (i := 1) r9).trans rfl
            have b2 := (hp_cell (i := 2) r9).trans rfl
            have b3 := (hp_cell (i := 3) r9).trans rfl
            have y0 := (hbx2.cell (p := ⟨g2, _, none⟩) hg2).trans f0
            have y1 := (hbx2.cell (p := ⟨g2, _, none⟩) hg2).trans f1
            have y2 := (hbx2.cell (p := ⟨g2, _, none⟩) hg2).trans f2
            have y3 := (hbx2.cell (p := ⟨g2, _, none⟩) hg2).trans f3
            have y4 := (hbx2.cell (p := ⟨g1, _, none⟩) hg1).trans e0
            clear hbx r9 hbx2 e0 f0 f1 f2 f3
            go_quiet (fail)
            go_wp2
            exact ⟨⟨1, by omega, by go_num, below_drewN H9.out _⟩, by simp [intOf]; omega⟩
          · obtain ⟨l, hl⟩ : ∃ l, l = k - 1 := ⟨_, rfl⟩
            have hlk : l < k := by omega
            have hlm : l < m := by omega
            have e5 := hc1 l hlm
            rw [if_pos hlm] at e5
            have hxl := hinc l hlk
            obtain ⟨xl, exl⟩ : ∃ z, z = rx l := ⟨_, rfl⟩
            rw [← exl] at e5 hxl
            have q3 : (0 : Int) < (k : Int) := by omega
            have q4 : IntKind.i64.wrap ((k : Int) - 1) = (l : Int) := by rw [show (k : Int) - 1 = (l : Int) by omega]; exact IntWalk.i64_in _ (by omega)
            have q8 : (0 : Int) ≤ (l : Int) := by omega
            have q9 : (0 : Int) ≤ (k : Int) := by omega
            have q5 : (l : Int) < (m : Int) := by omega
            have q6 : decide ((x : Int) ≤ (xl : Int)) = false := by simp; omega
            have q6n : ¬ x ≤ xl := by omega
            have q7 : (k : Int) ≤ 100 := by omega
            have HL := Lib.hid (And.intro hl hlk)
            clear hz hs7 hat hbJ hone hba ex ea exl hc1 hc2 hinc hl hlk hxl
            go_upto_region 16 with (go_at_call 15; refine HAt.out.mono ?_; rintro e w8 ⟨⟨a', o', rfl, hat, hba⟩, hb8⟩; obtain ⟨h1, h2⟩ := HOn.out _ _ hat; subst h1 h2; have H8 := Lib.hid hb8; clear hat hba hb8)
            have hbx := H8.out.alloc H8.out.size (.cells #[.int .u64 (limb a 0 : Nat), .int .u64 (limb a 1 : Nat), .int .u64 (limb a 2 : Nat), .int .u64 (limb a 3 : Nat)] 29)
            have r9 := heap_alloc_new w8 (.cells #[.int .u64 (limb a 0 : Nat), .int .u64 (limb a 1 : Nat), .int .u64 (limb a 2 : Nat), .int .u64 (limb a 3 : Nat)] 29)
            obtain ⟨W9, hW9⟩ : ∃ W9, W9 = w8.alloc (.cells #[.int .u64 (limb a 0 : Nat), .int .u64 (limb a 1 : Nat), .int .u64 (limb a 2 : Nat), .int .u64 (limb a 3 : Nat)] 29) := ⟨_, rfl⟩
            rw [← hW9] at hbx r9 ⊢
            clear hW9
            have hbx2 := HbJ.out.trans (hbx.mono HbJ.out.size)
            have H9 := Lib.hid (HZ.out.trans (hbx2.mono HZ.out.size))
            have b0 := (hp_cell (i := 0) r9).trans rfl
            have b1 := (hp_cell (i := 1) r9).trans rfl
            have b2 := (hp_cell (i := 2) r9).trans rfl
            have b3 := (hp_cell (i := 3) r9).trans rfl
            have y0 := (hbx2.cell (p := ⟨g2, _, none⟩) hg2).trans f0
            have y1 := (hbx2.cell (p := ⟨g2, _, none⟩) hg2).trans f1
            have y2 := (hbx2.cell (p := ⟨g2, _, none⟩) hg2).trans f2
            have y3 := (hbx2.cell (p := ⟨g2, _, none⟩) hg2).trans f3
            have y4 := (hbx2.cell (p := ⟨g1, _, none⟩) hg1).trans e0
            have y5 := (hbx2.cell (p := ⟨g1, _, none⟩) hg1).trans e5
            clear e5
            clear hbx r9 hbx2 e0 f0 f1 f2 f3
            go_quiet (fail)
            go_wp2
            exact ⟨⟨k + 1, by omega, by go_num, below_drewN H9.out _⟩, by simp [intOf]; omega⟩
        · obtain rfl : k = m := by omega
          have q2 : ¬ (k : Int) < (k : Int) := by omega
          clear hz
          go_wp2_with (go_at_call 12; with_reducible refine (lives11_walk _).mono ?_; rintro e w9 ⟨rfl, hb9⟩; have H9 := Lib.hid hb9; clear hb9)
          go_ret
          have hx := HS6.out.l.trans (HZ.out.mono HS6.out.l.size)
          exact ⟨rfl, hx.trans (H9.out.mono hx.size)⟩
end Go.Proofs.Ytedkhpnlhkjjgaa

namespace Go.Proofs.Ytedkhpnlhkjjgaa
open Go.RowKit Go.Maps Go.Sort

set_option maxRecDepth 100000 in
set_option maxHeartbeats 4000000 in
theorem historyLists_walk (A : Option Addr) (N C : Nat) (A0 : Nat → Option Addr) (k0 c0 : Nat → Nat) (x1 : Nat → Int) (a2 : Nat → Nat) (w : World) (hr : RowsV w A N 6 (fun i => [.slice (A0 i) (k0 i) (c0 i), .int .i64 (x1 i), .int .u64 (limb (a2 i) 0 : Nat), .int .u64 (limb (a2 i) 1 : Nat), .int .u64 (limb (a2 i) 2 : Nat), .int .u64 (limb (a2 i) 3 : Nat)]))
    (hN : (N : Int) ≤ 9223372036854775807) (hk : ∀ i, i < N → (k0 i : Int) ≤ 9223372036854775807) (ha : ∀ i, i < N → a2 i < 2 ^ 256) :
    Calls Try.prog 4 #[.slice A N C] w fun e w' => e = .returned (.bool true) ∧ Below w.heap.size w w' := by
  by_cases hg : N ≤ 100 ∧ ∀ i, i < N → k0 i ≤ 5
  · exact historyLists_go A N C A0 k0 c0 x1 a2 w hr hg.1 hg.2 ha
  · have HL1 := Lib.hid (light11_rows A N C A0 k0 c0 x1 a2 w hr hN hk false ⟨(fun h => by cases h), fun h => absurd h hg⟩)
    clear hr hN hk ha hg
    go_enter Try.func4, Try.ntmps4
    go_wp2_with (first
      | (go_at_call 12; with_reducible refine (lives11_walk _).mono ?_; rintro e w10 ⟨rfl, hb10⟩; have HBl := Lib.hid hb10; clear hb10)
      | (go_at_call 11; with_reducible refine HL1.out.mono ?_; rintro e w1 ⟨rfl, hb1⟩; have H1 := Lib.hid hb1; clear hb1))
    go_ret
    exact ⟨rfl, H1.out.trans (HBl.out.mono H1.out.size)⟩
end Go.Proofs.Ytedkhpnlhkjjgaa
