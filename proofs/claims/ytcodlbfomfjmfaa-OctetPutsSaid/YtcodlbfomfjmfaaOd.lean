/- octet.Text and the document's, walked. -/
import Derived.Test.YtcodlbfomfjmfaaOc
namespace Go.Proofs.Ytcodlbfomfjmfaa
open Go.RowKit

theorem cat_small {f g : Nat → Nat} {n : Nat} (hf : ∀ i, f i < 256) (hg : ∀ i, g i < 256) (i : Nat) : cat f n g i < 256 := by
  unfold cat; split; exact hf _; exact hg _
def TextPost (nb m : Nat) (f g : Nat → Nat) (w : World) (e : Ending) (w' : World) : Prop :=
  (∃ v k, e = .returned v ∧ Grp m k ∧ w'.ownsRow w.heap.size 5 1 v (nb + (k + 1) + m) (bys (cat (cat f nb (vb m k)) (nb + (k + 1)) g) (nb + (k + 1) + m))) ∧ Below w.heap.size w w'
set_option maxRecDepth 100000 in
set_option maxHeartbeats 2000000 in
theorem otext_walk (A B : Option Addr) (nb c m d : Nat) (f g : Nat → Nat) (w : World) (hl : Sl w A nb f) (hA : A = none → nb = 0 ∧ c = 0) (hnb : nb ≤ 2 ^ 18) (hm : Sl w B m g) (hB : B = none → m = 0 ∧ d = 0) (hmb : m ≤ 2 ^ 18) :
    Calls Try.prog 49 #[.slice A nb c, .slice B m d] w (TextPost nb m f g w) := by
  have HL := Lib.hid hl
  have HA := Lib.hid hA
  have HM := Lib.hid hm
  have HB := Lib.hid hB
  have HV := Lib.hid (var_walk A nb c f (m : Int) m w hl hA hnb (by omega) (by omega))
  clear hl hA hm hB
  go_enter Try.func49, Try.ntmps49
  go_wp2_with (first
    | (go_at_call 110; refine HC.out.mono ?_; rintro e w3 ⟨⟨v3, rfl, hv3⟩, hb3⟩)
    | (go_at_call 43; refine HV.out.mono ?_; rintro e w1 ⟨⟨v1, k, rfl, hg, hv1⟩, hb1⟩; have Hg := Lib.hid hg; obtain ⟨A1, c1, rfl, hs1, z1⟩ := own_sl hv1 (cat_small HL.out.small (vb_small hg)); have hk8 : k < 9 := grp_most hg (by omega); have HC := Lib.hid (concat2_c A1 B (nb + (k + 1)) m c1 d (cat f nb (vb m k)) g w1 hs1 (HM.out.below hb1) z1 HB.out (by omega) (by omega) 33); clear hg hv1 hs1 z1))
  go_ret
  exact ⟨⟨_, k, rfl, Hg.out, own_base hv3 hb1.size⟩, hb1.trans (hb3.mono hb1.size)⟩
set_option maxRecDepth 100000 in
set_option maxHeartbeats 2000000 in
theorem rtext_walk (A B : Option Addr) (nb c m d : Nat) (f g : Nat → Nat) (w : World) (hl : Sl w A nb f) (hA : A = none → nb = 0 ∧ c = 0) (hnb : nb ≤ 2 ^ 18) (hm : Sl w B m g) (hB : B = none → m = 0 ∧ d = 0) (hmb : m ≤ 2 ^ 18) :
    Calls Try.prog 50 #[.slice A nb c, .slice B m d] w (TextPost nb m f g w) := by
  obtain ⟨i0, hi, hz0, hz1, hz2⟩ := info_parts oinfoU8
  have HM := Lib.hid hm
  have HV := Lib.hid (rvar_walk A nb c f (m : Int) m w hl hA hnb (by omega) (by omega))
  clear hl hA hm
  cases B with
  | none =>
    obtain ⟨rfl, rfl⟩ := hB rfl
    go_enter Try.func50, Try.ntmps50
    go_wp2_with (first
      | (at_builtin; refine wpList_append_own_none rfl _ _ _ rfl w.heap.size 5 i0 1 Try.underlying33 hi _ _ _ rfl hv1 rfl ?_)
      | (go_at_call 44; refine HV.out.mono ?_; rintro e w1 ⟨⟨v1, k, rfl, hg, hv1⟩, hb1⟩; have Hg := Lib.hid hg; clear hg))
    go_ret
    refine ⟨⟨_, k, rfl, Hg.out, ?_⟩, hb1⟩
    rw [← bys_cat]
    simpa [bys] using hv1
  | some ad =>
    clear hB
    go_enter Try.func50, Try.ntmps50
    go_wp2_with (first
      | (at_builtin; refine wpList_append_own _ rfl _ _ _ rfl w.heap.size 5 i0 (.int .u8 0) 1 1 Try.underlying33 hi hz0 hz1 hz2 rfl (by omega) _ _ _ rfl hv1 ad m d (bys g m) rfl (by rw [bys_length]; omega) hnews (bys_one _ _) (by unfold maxLen; omega) (by omega) hbs ?_)
      | (go_at_call 44; refine HV.out.mono ?_; rintro e w1 ⟨⟨v1, k, rfl, hg, hv1⟩, hb1⟩; have Hg := Lib.hid hg; have hk8 : k < 9 := grp_most hg (by omega); have hnews := (HM.out.below hb1).news; have hbs := hb1.size; clear hg))
    intro v2 w2 hown hgrow _
    rw [bys_cat] at hown
    have Hb := Lib.hid (hb1.grown hgrow hbs (fun q hq => (hv1.lt q hq).1))
    have Hown := Lib.hid hown
    clear hown hgrow hv1 hnews
    go_wp2
    go_ret
    exact ⟨⟨_, k, rfl, Hg.out, Hown.out⟩, Hb.out⟩
end Go.Proofs.Ytcodlbfomfjmfaa
