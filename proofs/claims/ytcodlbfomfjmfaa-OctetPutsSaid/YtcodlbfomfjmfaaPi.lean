/- tallageref04.Amount, walked. -/
import Derived.Test.YtcodlbfomfjmfaaOv
import Derived.Test.YtcodlbfomfjmfaaPh
import Derived.Test.YtcodlbfomfjmfaaF5
namespace Go.Proofs.Ytcodlbfomfjmfaa
open Go.RowKit

theorem u8s_bys (f : Nat → Nat) (k : Nat) : u8s f k = bys f k := rfl
theorem cell_grown {w w' : World} {row : Option Nat} {b x : Nat} (h : Sl w (some ⟨b, 0, none⟩) 1 (fun _ => x)) (hg : w.grownBy w' row) (hne : row ≠ some b) : Sl w' (some ⟨b, 0, none⟩) 1 (fun _ => x) := by
  refine ⟨h.small, fun hn => ?_⟩
  obtain ⟨g, o, e, hl, hc⟩ := h.at_ hn
  cases e
  exact ⟨b, 0, rfl, Nat.lt_of_lt_of_le hl hg.size, fun i hi => by rw [hg.cell_far _ hl (fun e => hne e.symm)]; exact hc i hi⟩
theorem one_new (w : World) {x : Nat} (hx : x < 256) : Sl (w.alloc (.cells #[.int .u8 (x : Nat)] 5)) (some ⟨w.heap.size, 0, none⟩) 1 (fun _ => x) :=
  cell_sl (by simp) hx (by rw [World.cell?_alloc_new]; rfl)
set_option maxRecDepth 100000 in
set_option maxHeartbeats 2000000 in
theorem ramountp_walk (A : Option Addr) (nb c : Nat) (f : Nat → Nat) (a : Nat) (w : World) (ha : a < 2 ^ 256) (hl : Sl w A nb f) (hA : A = none → nb = 0 ∧ c = 0) (hnb : nb ≤ 2 ^ 18) :
    Calls Try.prog 46 #[.slice A nb c, U a] w (AmtPost nb f a w) := by
  have HBy := Lib.hid (rbytes_walk a)
  have HL := Lib.hid hl
  have HA := Lib.hid hA
  have HX := Lib.hid ((Below.refl w.heap.size w).alloc (Nat.le_refl _) (.cells #[.int .u64 (limb a 0 : Nat), .int .u64 (limb a 1 : Nat), .int .u64 (limb a 2 : Nat), .int .u64 (limb a 3 : Nat)] 24))
  have Ha := Lib.hid ha
  clear hl hA ha
  unfold U
  go_enter Try.func46, Try.ntmps46
  go_wp2_with fail
  have h := HBy.out (w.alloc (.cells #[.int .u64 (limb a 0 : Nat), .int .u64 (limb a 1 : Nat), .int .u64 (limb a 2 : Nat), .int .u64 (limb a 3 : Nat)] 24))
  unfold U at h
  refine h.mono ?_
  clear h
  rintro e wB ⟨⟨v, rfl, hv⟩, hb⟩
  rw [u8s_bys] at hv
  obtain ⟨AX, cx, rfl, hsx, hzx, hcx, hlx⟩ := own_sl2 hv (fun _ => byteAt_lt _ _)
  obtain ⟨gx, ox, rfl, hgx, hcell⟩ := hsx.at_ (by omega)
  have HSx := Lib.hid hsx
  have HC := Lib.hid hcell
  have HB := Lib.hid (HX.out.trans (hb.mono HX.out.size))
  have HLB := Lib.hid (HL.out.below HB.out)
  clear hv hsx hzx hlx hcell hb
  go_wp2
  go_loop [6] (fun i => ∃ k : Nat, k ≤ 32 ∧ i = .int .i64 (k : Nat) ∧ ∀ j, j < k → byteAt a (31 - j) = 0) (fun i => 32 - (intOf i).toNat)
  case atStart => exact ⟨0, Nat.zero_le _, rfl, fun j hj => absurd hj (by omega)⟩
  case round =>
    obtain ⟨k, hk, rfl, hz⟩ := hrel
    have HZ := Lib.hid hz
    clear hz
    have Hend : (k = 32 ∨ byteAt a (31 - k) ≠ 0) → cnt a = 32 - k := fun h => lead_cnt Ha.out hk HZ.out h
    have HE := Lib.hid Hend
    clear Hend
    have hstep : k < 32 → wB.cell? ⟨gx, ox + k, none⟩ = some (.int .u8 (byteAt a (31 - k) : Nat)) := fun h => HC.out k h
    have HStep := Lib.hid hstep
    clear hstep
    by_cases hgo : k < 32 ∧ byteAt a (31 - k) = 0
    · obtain ⟨h32, h0⟩ := hgo
      have c0 : wB.cell? ⟨gx, ox + k, none⟩ = some (.int .u8 0) := by have h := HStep.out h32; rw [h0] at h; exact h
      have p1 : (k : Int) < 32 := by omega
      have b1 : decide ((k : Int) < 32) = true := decide_eq_true p1
      have H0 := Lib.hid h0
      clear h0
      go_wp2
      exact ⟨⟨k + 1, by omega, by simp, fun j hj => (Nat.lt_or_eq_of_le (Nat.le_of_lt_succ hj)).elim (HZ.out j) (fun e => by rw [e]; exact H0.out)⟩, by simp [intOf]; omega⟩
    · have hcnt : cnt a = 32 - k := HE.out (by
        rcases Nat.lt_or_ge k 32 with h | h
        · exact .inr fun h0 => hgo ⟨h, h0⟩
        · exact .inl (by omega))
      have HCnt := Lib.hid hcnt
      obtain ⟨r, hr⟩ : ∃ r, r = 32 - k := ⟨_, rfl⟩
      have e2 : 32 - (k : Int) = (r : Int) := by omega
      have e3 : (r : Int) % 256 = (r : Int) := by omega
      have hr256 : r < 256 := by omega
      have e4 : 32 - k = r := hr.symm
      have HR := Lib.hid hr
      have hkr : k + r = 32 := by omega
      have HKR := Lib.hid hkr
      have hcr : cnt a = r := hcnt.trans hr.symm
      have HCR := Lib.hid hcr
      have hN0 := Lib.hid (show nb + 1 ≤ 2 ^ 19 by omega)
      -- the source's end
      have hxs : ∀ o', (0 < r → o' = ox + k) → Sl wB (some ⟨gx, o', none⟩) r (ab a) := fun o' ho => by
        refine ⟨ab_small a, fun hr0 => ⟨gx, o', rfl, hgx, fun i hi => ?_⟩⟩
        rw [ho hr0, Nat.add_assoc, HC.out (k + i) (by omega)]
        congr 3
        unfold ab
        rw [hcr]
        congr 1; omega
      have HXs := Lib.hid hxs
      have hcx32 : 32 ≤ cx := hcx
      -- the three orders
      have HMa := Lib.hid (made0 wB).drew
      have HMb := Lib.hid ((made0 wB).alloc (.cells #[.int .u8 (r : Nat)] 5)).drew
      have HMc := Lib.hid (own_base (B' := wB.heap.size) (made0 (wB.alloc (.cells #[.int .u8 (r : Nat)] 5))) (by simp)).drew
      have HBa := Lib.hid ((Below.refl wB.heap.size wB).alloc (Nat.le_refl _) (.cells #[] 5)).drew
      have HBb := Lib.hid (((Below.refl wB.heap.size wB).alloc (Nat.le_refl _) (.cells #[] 5)).alloc (by simp) (.cells #[.int .u8 (r : Nat)] 5)).drew
      have HBc := Lib.hid (((Below.refl wB.heap.size wB).alloc (Nat.le_refl _) (.cells #[.int .u8 (r : Nat)] 5)).alloc (by simp) (.cells #[] 5)).drew
      have HOb := Lib.hid ((one_new (wB.alloc (.cells #[] 5)) hr256).below (Below.refl _ _).drew)
      have HOc := Lib.hid (((one_new wB hr256).alloc (.cells #[] 5)).below (Below.refl _ _).drew)
      have hdone : ∀ v3 w3, w3.ownsRow wB.heap.size 5 1 v3 (nb + 1 + r) ((bys f nb ++ bys (fun _ => r) 1) ++ bys (ab a) r) → Below wB.heap.size wB w3 → AmtPost nb f a w (.returned v3) w3 := fun v3 w3 h1 h2 => by
        rw [bys_cat, bys_cat] at h1
        refine ⟨⟨v3, rfl, ?_⟩, HB.out.trans (h2.mono HB.out.size)⟩
        rw [hcr]
        exact own_base h1 HB.out.size
      have HDone := Lib.hid hdone
      have hsz1 : wB.heap.size + 1 = (wB.alloc (.cells #[] 5)).heap.size := by simp
      clear hcnt hr hcr hxs hdone hkr hcx hsz1
      have hcase : (decide ((k : Int) < 32) = true ∧ (k : Int) < 32 ∧ ¬ cx = k ∧ wB.cell? ⟨gx, ox + k, none⟩ = some (.int .u8 (byteAt a (31 - k) : Nat)) ∧ ((byteAt a (31 - k) : Int) == 0) = false ∧ 0 < r) ∨ (decide ((k : Int) < 32) = false ∧ ¬ (k : Int) < 32 ∧ ¬ cx = k ∧ r = 0) ∨ (decide ((k : Int) < 32) = false ∧ ¬ (k : Int) < 32 ∧ cx = k ∧ r = 0) := by
        rcases Nat.lt_or_ge k 32 with h | h
        · exact .inl ⟨decide_eq_true (by omega), by omega, by omega, HStep.out h, beq_eq_false_iff_ne.2 (fun h0 => hgo ⟨h, by omega⟩), by have := HKR.out; omega⟩
        · have h1 : decide ((k : Int) < 32) = false := decide_eq_false (by omega)
          by_cases hc : cx = k
          · exact .inr (.inr ⟨h1, by omega, hc, by have := HKR.out; omega⟩)
          · exact .inr (.inl ⟨h1, by omega, hc, by have := HKR.out; omega⟩)
      clear hgo
      rcases hcase with ⟨b1, p1, b2, c0, b3, hr0⟩ | ⟨b1, p1, b2, hr0⟩ | ⟨b1, p1, b2, hr0⟩
      all_goals
        have HR0 := Lib.hid hr0
        clear hr0
        go_upto_region 5 with fail
        have p7 : (k : Int) ≤ 32 := by omega
        have i1 : IntKind.i64.wrap (r : Int) = (r : Int) := wrap_nat63 (by omega)
        have i2 : IntKind.u8.wrap (r : Int) = (r : Int) := by rw [IntKind.wrap_u8]; omega
        go_region_law (first
          | (refine step_append_bys rfl (.tmp 27) (.tmp 30) rfl wB.heap.size v2 (nb + 1) (bys f nb ++ bys (fun _ => r) 1) (by simp [Act.eval]) Hv2.out _ r _ (ab a) (by rfl) ((HXs.out _ (fun h => by first | rfl | (exfalso; have := HR0.out; omega))).below Hb2.out) (fun h => by cases h) (by have := hN0.out; omega) Hb2.out.size ?_; intro v3 w3 hv3 hg3; have HD := Lib.hid (HDone.out v3 w3 hv3 (own_grown Hv2.out Hb2.out hg3 Hb2.out.size)); clear hv3 hg3)
          | (refine step_append_bys rfl (.tmp 22) (.tmp 26) rfl wB.heap.size v1 nb (bys f nb) (by simp [Act.eval]) Hv1.out _ 1 1 (fun _ => r) (by simp [Act.eval]) HO1.out (fun h => by cases h) (by omega) Hb1.out.size ?_; intro v2 w2 hv2 hg2; have Hb2 := Lib.hid (own_grown Hv1.out Hb1.out hg2 Hb1.out.size); have Hv2 := Lib.hid hv2; clear hv2 hg2)
          | (refine step_append_bys rfl (.tmp 22) (.tmp 26) rfl wB.heap.size v1 nb (bys f nb) (by simp [Act.eval]) (Hv1.out.alloc _) _ 1 1 (fun _ => r) (by simp [Act.eval]) (one_new w1 hr256) (fun h => by cases h) (by omega) (Hb1.out.alloc Hb1.out.size _).size ?_; intro v2 w2 hv2 hg2; have Hb2 := Lib.hid (own_grown (Hv1.out.alloc _) (Hb1.out.alloc Hb1.out.size _) hg2 (Hb1.out.alloc Hb1.out.size _).size); have Hv2 := Lib.hid hv2; clear hv2 hg2)
          | (refine step_append_bys rfl (.tmp 20) (.tmp 21) rfl wB.heap.size _ 0 [] (by simp [Act.eval]) HMa.out A nb c f (by simp [Act.eval]) (HLB.out.below HBa.out) HA.out (by omega) HBa.out.size ?_; intro v1 w1 hv1 hg1; have Hb1 := Lib.hid (own_grown HMa.out HBa.out hg1 HBa.out.size); rw [Nat.zero_add, List.nil_append] at hv1; have Hv1 := Lib.hid hv1; clear hv1 hg1)
          | (refine step_append_bys rfl (.tmp 20) (.tmp 21) rfl wB.heap.size _ 0 [] (by simp [Act.eval]) HMb.out A nb c f (by simp [Act.eval]) (HLB.out.below HBb.out) HA.out (by omega) HBb.out.size ?_; intro v1 w1 hv1 hg1; have HO1 := Lib.hid (cell_grown HOb.out hg1 (by simp [Value.ownBlock])); have Hb1 := Lib.hid (own_grown HMb.out HBb.out hg1 HBb.out.size); rw [Nat.zero_add, List.nil_append] at hv1; have Hv1 := Lib.hid hv1; clear hv1 hg1)
          | (refine step_append_bys rfl (.tmp 20) (.tmp 21) rfl wB.heap.size _ 0 [] (by simp [Act.eval]) HMc.out A nb c f (by simp [Act.eval]) (HLB.out.below HBc.out) HA.out (by omega) HBc.out.size ?_; intro v1 w1 hv1 hg1; have HO1 := Lib.hid (cell_grown HOc.out hg1 (by simp [Value.ownBlock])); have Hb1 := Lib.hid (own_grown HMc.out HBc.out hg1 HBc.out.size); rw [Nat.zero_add, List.nil_append] at hv1; have Hv1 := Lib.hid hv1; clear hv1 hg1))
        all_goals
          go_wp2
          go_ret
          exact HD.out
end Go.Proofs.Ytcodlbfomfjmfaa
