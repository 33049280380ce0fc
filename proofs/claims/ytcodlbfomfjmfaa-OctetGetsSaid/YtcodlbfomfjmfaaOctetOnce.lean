/- The law OctetOnce, walked. -/
import Derived.Test.YtcodlbfomfjmfaaOz
import Derived.Test.YtcodlbfomfjmfaaF4
namespace Go.Proofs.Ytcodlbfomfjmfaa
open Go.RowKit

/-- a whole number's bytes are those that are put for it -/
theorem var_whole {f : Nat → Nat} {n v k' : Nat} (hs : ∀ i, f i < 256) (hn : k' = n) (h : VarGot f n 0 9223372036854775807 v 0 k') : v < 2 ^ 63 ∧ ∀ k, Grp v k → k + 1 = n ∧ ∀ j, j < n → vb v k j = f j := by
  obtain ⟨i, hst, he, hv, hk⟩ := h
  have hk' := hk rfl
  unfold gval at hv
  rw [← he, if_pos rfl] at hv
  unfold gerr at he
  have h1 : ¬ n ≤ 0 + i := by intro h; rw [if_pos h] at he; omega
  rw [if_neg h1] at he
  have h2 : ¬ i = 9 := by intro h; rw [if_pos h] at he; omega
  rw [if_neg h2] at he
  have h3 : ¬ (0 < i ∧ f (0 + i) = 0) := by intro h; rw [if_pos h] at he; omega
  rw [if_neg h3] at he
  have h4 : ¬ (9223372036854775807 : Int) < (gv f 0 (i + 1) : Nat) := by intro h; rw [if_pos h] at he; omega
  have hl : f (0 + i) < 128 := by have := hst.stop; omega
  obtain ⟨hg, hb⟩ := hst.back hs hl (by omega)
  rw [← hv] at hg hb h4
  refine ⟨by omega, fun k hk => ?_⟩
  obtain rfl := hk.one hg
  refine ⟨by omega, fun j hj => ?_⟩
  rw [hb j (by omega), Nat.zero_add]
/-- so of an amount -/
theorem amt_word {f : Nat → Nat} {q x : Nat} (hs : ∀ i, f i < 256) (hx : x ≤ 32) (h0 : x = 0 ∨ f q ≠ 0) : cnt (bnum (word f q x) 32) = x ∧ (∀ i, i < x → ab (bnum (word f q x) 32) i = f (q + i)) ∧ bnum (word f q x) 32 < 2 ^ 256 := by
  have hw := word_small hs q x
  have hlt := bnum_lt hw 32
  have hb : ∀ m, m < 32 → byteAt (bnum (word f q x) 32) m = word f q x (31 - m) := fun m hm => bnum_byte hw 32 m hm
  have hc : cnt (bnum (word f q x) 32) = x := by
    have h := lead_cnt (k := 32 - x) hlt (by omega) (fun j hj => by
      rw [hb _ (by omega), show 31 - (31 - j) = j by omega]
      unfold word cat; rw [if_pos hj]) (by
      rcases h0 with rfl | h0
      · exact .inl rfl
      · rcases Nat.eq_zero_or_pos x with rfl | hp
        · exact .inl rfl
        · refine .inr ?_
          rw [hb _ (by omega), show 31 - (31 - (32 - x)) = 32 - x by omega]
          unfold word cat
          rw [if_neg (by omega), Nat.sub_self]
          exact h0)
    omega
  refine ⟨hc, fun i hi => ?_, hlt⟩
  unfold ab
  rw [hc, hb _ (by omega), show 31 - (x - 1 - i) = 32 - x + i by omega]
  unfold word cat
  rw [if_neg (by omega), Nat.add_sub_cancel_left]
theorem lamount_any {w : World} {p : Nat} {A : Option Addr} {n c : Nat} {f : Nat → Nat} {k : Nat} (h : Src w p A n c f k 0) : Calls Try.prog 58 #[.pointer (some ⟨p, 0, none⟩)] w (LAmtPost w p A n c f k) :=
  (Nat.lt_or_ge k n).elim (lamount_walk h) (lamount_end h)
theorem amt_whole {f : Nat → Nat} {n a k' : Nat} (hs : ∀ i, f i < 256) (hn : k' = n) (h : AmtGot f n 0 a 0 k') : a < 2 ^ 256 ∧ 0 + 1 + cnt a = n ∧ cnt a < 256 ∧ sof (cat (cat (fun _ => 0) 0 (fun _ => cnt a)) (0 + 1) (ab a)) n = sof f n := by
  rcases h with ⟨_, h, _⟩ | ⟨_, _, h, _⟩ | ⟨_, _, _, h, _⟩ | ⟨h0, hb, hle, _, ha, hk⟩
  · omega
  · omega
  · omega
  · have hb2 : f 0 ≤ 32 ∧ (f 0 = 0 ∨ f (0 + 1) ≠ 0) := by
      refine ⟨Nat.le_of_not_lt fun h => hb (.inl h), ?_⟩
      rcases Nat.eq_zero_or_pos (f 0) with e | e
      · exact .inl e
      · exact .inr fun h => hb (.inr ⟨e, by omega, h⟩)
    obtain ⟨hc, hab, hlt⟩ := amt_word hs hb2.1 hb2.2
    rw [← ha] at hc hab hlt
    refine ⟨hlt, by omega, by have := hs 0; omega, sof_congr fun i hi => ?_⟩
    unfold cat
    by_cases h1 : i < 0 + 1
    · obtain rfl : i = 0 := by omega
      rw [if_pos h1, if_neg (by omega), hc]
    · rw [if_neg h1, hab _ (by omega), show 0 + 1 + (i - (0 + 1)) = i by omega]
theorem sof_var {f : Nat → Nat} {n v k : Nat} (h : ∀ j, j < n → vb v k j = f j) : sof (cat (fun _ => 0) 0 (vb v k)) n = sof f n :=
  sof_congr fun i hi => by unfold cat; rw [if_neg (by omega), Nat.sub_zero]; exact h i hi
set_option maxRecDepth 100000 in
set_option maxHeartbeats 4000000 in
theorem octetOnce_walk (A : Option Addr) (n c : Nat) (f : Nat → Nat) (w : World) (hl : Sl w A n f) (hA : A = none → n = 0 ∧ c = 0) : Calls Try.prog 8 #[.slice A n c] w fun e w' => e = .returned (.bool true) ∧ Below w.heap.size w w' := by
  have HL := Lib.hid hl
  have HA := Lib.hid hA
  have HA0 := Lib.hid (fun h => (hA h).1)
  clear hl hA
  by_cases hlen : 100 < n
  · have p1 : (100 : Int) < n := by omega
    go_enter Try.func8, Try.ntmps8
    go_wp2_with (go_at_call 42; refine (lives04_walk _).mono ?_; rintro e w9 ⟨rfl, hb9⟩; have HB9 := Lib.hid hb9; clear hb9)
    go_ret
    exact ⟨rfl, HB9.out⟩
  · have p1 : ¬ (100 : Int) < n := by omega
    obtain ⟨S, hS⟩ : ∃ S, S = sof f n := ⟨_, rfl⟩
    have HSS := Lib.hid hS
    clear hS
    go_enter Try.func8, Try.ntmps8
    go_upto_region 5 with (first
      | (go_at_call 57; refine (lvar_walk HS1.out 9223372036854775807).mono ?_; rintro e w2 ⟨v, e2, k2, rfl, hg, hs2, hb2⟩; have HG := Lib.hid hg; have HS2 := Lib.hid hs2; have HB2 := Lib.hid (But.frame HB1.out HP.out hb2); clear hg hs2 hb2)
      | (go_at_call 51; refine (read_walk A n c f _ HL.out HA.out (by omega)).mono ?_; rintro e w1 ⟨p, A1, c1, rfl, hs1, hp1, hb1⟩; have HS1 := Lib.hid hs1; have HP := Lib.hid hp1; have HB1 := Lib.hid hb1; clear hs1 hp1 hb1))
    go_cut [25] from 13 to 43 (fun q wx => q = .bool false ∧ Below w.heap.size w wx)
    case first =>
      by_cases hz : (if e2 = 0 ∧ k2 < n then 4 else e2) = 0
      · have hz2 : e2 = 0 ∧ k2 = n := by
          have := HS2.out.le
          split at hz <;> omega
        obtain ⟨rfl, hk2⟩ := hz2
        obtain ⟨hv63, hgr⟩ := var_whole HL.out.small hk2 HG.out
        have HZ := Lib.hid hz
        have HK := Lib.hid hk2
        have HGR := Lib.hid hgr
        have HV := Lib.hid hv63
        clear hz hk2 hgr hv63
        go_region_with (first
          | (go_at_call 43; refine (var_walk none 0 0 (fun _ => 0) v v _ ⟨fun _ => by decide, fun h => absurd h (by omega)⟩ (fun _ => ⟨rfl, rfl⟩) (by omega) (by have := HV.out; omega) (by omega)).mono ?_; rintro e w4 ⟨⟨v4, k4, rfl, hg4, hv4⟩, hb4⟩; obtain ⟨A4, c4, hv, hs4, hz4⟩ := own_sl hv4 (cat_small (fun _ => by decide) (vb_small hg4)); obtain ⟨hk4, hq4⟩ := HGR.out k4 hg4; have en : 0 + (k4 + 1) = n := (by omega); rw [en] at hv hs4 hz4; subst hv; have HB4 := Lib.hid (HB3.out.trans (hb4.mono HB3.out.size)); have cv4 := conv_sl (c := c4) hs4 (fun h => (hz4 h).1); rw [sof_var hq4, ← HSS.out] at cv4; have cb4 := conv_sl (c := c) (HL.out.below HB4.out) HA0.out; rw [← HSS.out] at cb4; clear hg4 hv4 hb4 hs4 hz4 hk4 hq4 en)
          | (go_at_call 55; refine (end_live (HS2.out.below (Below.refl _ _).drew)).mono ?_; rintro e w3 ⟨e3, rfl, he3, hs3, hb3⟩; obtain rfl : e3 = 0 := he3.trans HZ.out; have HB3 := Lib.hid (But.frame HB2.out.drew HP.out hb3); have cb3 := conv_sl (c := c) (HL.out.below HB3.out) HA0.out; rw [← HSS.out] at cb3; clear he3 hs3 hb3))
        all_goals (go_wp2; go_meet; exact ⟨rfl, HB4.out⟩)
      · have HZ := Lib.hid hz
        clear hz
        first
          | go_region_with (go_at_call 55; refine (end_live (HS2.out.below (Below.refl _ _).drew)).mono ?_; rintro e w3 ⟨e3, rfl, he3, hs3, hb3⟩; have z3 : ¬ e3 = 0 := (by rw [he3]; exact HZ.out); have b3 : ((e3 : Int) == 0) = false := beq_eq_false_iff_ne.2 (by omega); have b3n : (e3 == 0) = false := beq_eq_false_iff_ne.2 z3; have b3d : decide (e3 = 0) = false := decide_eq_false z3; have HB3 := Lib.hid (But.frame HB2.out.drew HP.out hb3); clear he3 hs3 hb3)
          | fail
        all_goals (go_wp2; go_meet; exact ⟨rfl, HB3.out⟩)
    case rest =>
      obtain ⟨rfl, hbc⟩ := hcut
      have HBc := Lib.hid hbc
      clear hbc
      go_upto_region 9 with (first
        | (go_at_call 58; refine (lamount_any HS5.out).mono ?_; rintro e w6 ⟨a, e6, k6, rfl, hg6, hs6, hb6⟩; have HG6 := Lib.hid hg6; have HS6 := Lib.hid hs6; have HB6 := Lib.hid (But.frame HB5.out HP5.out hb6); have ZP := Lib.hid hs6.lt; clear hg6 hs6 hb6; unfold U)
        | (go_at_call 51; refine (read_walk A n c f _ (HL.out.below HBc.out) HA.out (by omega)).mono ?_; rintro e w5 ⟨p5, A5, c5, rfl, hs5, hp5, hb5⟩; have HS5 := Lib.hid hs5; have HP5 := Lib.hid (Nat.le_trans HBc.out.size hp5); have HB5 := Lib.hid (HBc.out.trans (hb5.mono HBc.out.size)); clear hs5 hp5 hb5))
      have HW8 := Lib.hid ((Below.refl w6.heap.size w6).alloc (Nat.le_refl _) (.cells #[.int .u64 (limb a 0 : Nat), .int .u64 (limb a 1 : Nat), .int .u64 (limb a 2 : Nat), .int .u64 (limb a 3 : Nat)] 24)).drew
      have HM8 := Lib.hid (Arr.new4 (κ := .u64) (w := w6) (t := 24) (f := limb a) rfl)
      have HS8 := Lib.hid (HS6.out.below HW8.out)
      have HB8 := Lib.hid (HB6.out.trans (HW8.out.mono HB6.out.size))
      have HZ8 := Lib.hid (show w6.heap.size < (w6.alloc (.cells #[.int .u64 (limb a 0 : Nat), .int .u64 (limb a 1 : Nat), .int .u64 (limb a 2 : Nat), .int .u64 (limb a 3 : Nat)] 24)).drew.heap.size from by simp)
      by_cases hz : (if e6 = 0 ∧ k6 < n then 4 else e6) = 0
      · have hz2 : e6 = 0 ∧ k6 = n := by
          have := HS6.out.le
          split at hz <;> omega
        obtain ⟨rfl, hk6⟩ := hz2
        obtain ⟨hal, hcn, hc2, hso⟩ := amt_whole HL.out.small hk6 HG6.out
        have HZ := Lib.hid hz
        have HC2 := Lib.hid hc2
        have HCN := Lib.hid hcn
        have HSO := Lib.hid hso
        have HAL := Lib.hid hal
        clear hz hk6 hal hcn hso hc2
        first
          | go_region_with (first
              | (go_at_call 42; refine (lives04_walk _).mono ?_; rintro e wB ⟨rfl, hbB⟩; have HBB := Lib.hid (HBA.out.trans (hbB.mono HBA.out.size)); clear hbB)
              | (go_at_call 45; refine (by have h := oamount_walk none 0 0 (fun _ => 0) a w9 HAL.out ⟨fun _ => by decide, fun h => absurd h (by omega)⟩ (fun _ => ⟨rfl, rfl⟩) (by omega); unfold U at h; exact h : Calls Try.prog _ _ w9 (AmtPost 0 (fun _ => 0) a w9)).mono ?_; rintro e wA ⟨⟨vA, rfl, hvA⟩, hbA⟩; rw [HCN.out] at hvA; obtain ⟨AA, cA, rfl, hsA, hzA⟩ := own_sl hvA (cat_small (cat_small (fun _ => by decide) (fun _ => HC2.out)) (ab_small _)); have HBA := Lib.hid (HB9.out.trans (hbA.mono HB9.out.size)); have cvA := conv_sl (c := cA) hsA (fun h => (hzA h).1); rw [HSO.out, ← HSS.out] at cvA; have cbA := conv_sl (c := c) (HL.out.below HBA.out) HA0.out; rw [← HSS.out] at cbA; clear hvA hbA hsA hzA)
              | (go_at_call 55; refine (end_live HS8.out).mono ?_; rintro e w9 ⟨e9, rfl, he9, hs9, hb9⟩; obtain rfl : e9 = 0 := he9.trans HZ.out; have HB9 := Lib.hid (But.frame HB8.out HP5.out hb9); have m9 := HM8.out.drewN 1 |>.but hb9 HZ8.out (by have := ZP.out; omega); obtain ⟨x0, x1, x2, x3⟩ := m9.cells4; have cb9 := conv_sl (c := c) (HL.out.below HB9.out) HA0.out; rw [← HSS.out] at cb9; clear he9 hs9 hb9 m9))
          | fail
        all_goals (go_wp2; go_ret; exact ⟨rfl, HBB.out⟩)
      · have HZ := Lib.hid hz
        clear hz
        first
          | go_region_with (first
              | (go_at_call 42; refine (lives04_walk _).mono ?_; rintro e wB ⟨rfl, hbB⟩; have HBB := Lib.hid (HB9.out.trans (hbB.mono HB9.out.size)); clear hbB)
              | (go_at_call 55; refine (end_live HS8.out).mono ?_; rintro e w9 ⟨e9, rfl, he9, hs9, hb9⟩; have z9 : ¬ e9 = 0 := (by rw [he9]; exact HZ.out); have b9 : ((e9 : Int) == 0) = false := beq_eq_false_iff_ne.2 (by omega); have b9n : ((e9 : Int) != 0) = true := (by simp [z9]); have HB9 := Lib.hid (But.frame HB8.out HP5.out hb9); clear he9 hs9 hb9))
          | fail
        all_goals (go_wp2; go_ret; exact ⟨rfl, HBB.out⟩)
end Go.Proofs.Ytcodlbfomfjmfaa
