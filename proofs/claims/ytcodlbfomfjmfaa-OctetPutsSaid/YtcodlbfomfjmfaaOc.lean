/- tallageref04.Var, walked. -/
import Derived.Test.YtcodlbfomfjmfaaOb
import Derived.Deep.DeepCutAuto
import Derived.Deep.CutBlock
namespace Go.Proofs.Ytcodlbfomfjmfaa
open Go.RowKit

theorem cat_succ (f : Nat → Nat) (n : Nat) (g : Nat → Nat) (k : Nat) : bys (cat f n g) (n + k) ++ [.int .u8 (g k : Nat)] = bys (cat f n g) (n + (k + 1)) := by
  rw [← bys_cat, ← bys_cat, bys_succ, List.append_assoc]
def RVarRel (N nb : Nat) (f : Nat → Nat) (w : World) (x l : Value) (wr : World) : Prop :=
  ∃ k : Nat, x = .int .i64 (N / 128 ^ k : Nat) ∧ k ≤ 9 ∧ (∀ j, j < k → 128 ≤ N / 128 ^ j) ∧ wr.ownsRow w.heap.size 5 1 l (nb + k) (bys (cat f nb (fun i => N / 128 ^ i % 128 + 128)) (nb + k)) ∧ Below w.heap.size w wr
set_option maxRecDepth 100000 in
set_option maxHeartbeats 2000000 in
theorem rvar_walk (A : Option Addr) (nb c : Nat) (f : Nat → Nat) (n : Int) (N : Nat) (w : World) (hl : Sl w A nb f) (hA : A = none → nb = 0 ∧ c = 0) (hnb : nb ≤ 2 ^ 18) (hn : n < 2 ^ 63) (hN : N = (max n 0).toNat) :
    Calls Try.prog 44 #[.slice A nb c, .int .i64 n] w fun e w' => (∃ v k, e = .returned v ∧ Grp N k ∧ w'.ownsRow w.heap.size 5 1 v (nb + (k + 1)) (bys (cat f nb (vb N k)) (nb + (k + 1)))) ∧ Below w.heap.size w w' := by
  obtain ⟨i0, hi, hz0, hz1, hz2⟩ := info_parts oinfoU8
  have hNl : N < 2 ^ 63 := by omega
  have HL := Lib.hid hl
  have HA := Lib.hid hA
  have H0 : n < 0 → (0 : Int) = ((N / 128 ^ 0 : Nat) : Int) := fun h => by simp; omega
  have H1 : ¬ n < 0 → n = ((N / 128 ^ 0 : Nat) : Int) := fun h => by simp; omega
  have G0 := Lib.hid H0
  have G1 := Lib.hid H1
  have HNl := Lib.hid hNl
  clear hl hA hN H0 H1 hNl
  go_enter Try.func44, Try.ntmps44
  go_upto_region 1 with (fail)
  go_cut [5] (fun v wx => wx.ownsRow w.heap.size 5 1 v nb (bys f nb) ∧ Below w.heap.size w wx)
  case first =>
    cases A with
    | none =>
      obtain ⟨rfl, rfl⟩ := HA.out rfl
      go_wp2_with (at_builtin; refine wpList_append_own_none rfl _ _ _ rfl w.heap.size 5 i0 1 Try.underlying33 hi _ 0 [] rfl (World.ownsRow_made w #[] 0 (Nat.le_refl _) (Nat.zero_le _) (by simp)) rfl ?_)
      go_meet
      case rel => exact ⟨World.ownsRow_made w #[] 0 (Nat.le_refl _) (Nat.zero_le _) (by simp), (Below.refl _ _).alloc (Nat.le_refl _) _⟩
    | some ad =>
      have hnews := (HL.out.alloc (.cells #[] 5)).news
      go_wp2_with (at_builtin; refine wpList_append_own _ rfl _ _ _ rfl w.heap.size 5 i0 (.int .u8 0) 1 1 Try.underlying33 hi hz0 hz1 hz2 rfl (by omega) _ 0 [] rfl (World.ownsRow_made w #[] 0 (Nat.le_refl _) (Nat.zero_le _) (by simp)) ad nb c (bys f nb) rfl (by rw [bys_length]; omega) hnews (bys_one _ _) (by unfold maxLen; omega) (by omega) (by simp) ?_)
      intro v2 w2 hown hgrow _
      have Hb := Lib.hid (((Below.refl w.heap.size w).alloc (Nat.le_refl _) (.cells #[] 5)).grown hgrow (by simp) (fun q hq => by simp [Value.ownBlock] at hq; omega))
      have Hown := Lib.hid hown
      clear hown hgrow
      go_wp2
      go_meet
      case rel => exact ⟨by simpa using Hown.out, Hb.out⟩
  case rest =>
    obtain ⟨hv0, hb0⟩ := hcut
    have Hv0 := Lib.hid hv0
    have Hb0 := Lib.hid hb0
    clear hv0 hb0
    go_wp2
    all_goals
      go_loopw [1, 5] (RVarRel N nb f w) (fun x _ _ => (intOf x).toNat)
      case atStart =>
        refine ⟨0, ?_, by omega, fun j hj => absurd hj (by omega), ?_, Hb0.out⟩
        · congr 1
          first
            | exact G0.out (by omega)
            | exact G1.out (by omega)
        · rw [← bys_cat]
          simpa [bys] using Hv0.out
      case round =>
        obtain ⟨k, rfl, hk, hbig, hv, hb⟩ := hrel
        obtain ⟨y, hy⟩ : ∃ y, y = N / 128 ^ k := ⟨_, rfl⟩
        have hyl : y < 2 ^ 63 := by rw [hy]; exact Nat.lt_of_le_of_lt (Nat.div_le_self _ _) HNl.out
        rw [← hy]
        have HY := Lib.hid hy
        have Hbig := Lib.hid hbig
        have hbs := hb.size
        by_cases hlt : 128 ≤ y
        · have hk8 : k < 8 := grp_lt HNl.out (by rw [← hy]; exact hlt)
          obtain ⟨z, hz⟩ : ∃ z, z = y % 128 + 128 := ⟨_, rfl⟩
          have hor : (y : Int) % 128 + 128 = z := by omega
          have HZ := Lib.hid hz
          have p1 : (127 : Int) < y := by omega
          have V := hv.alloc (.cells #[.int .u8 (z : Int)] 5)
          have hst : y / 128 = N / 128 ^ (k + 1) := by rw [hy, grp_step]
          have Hst := Lib.hid hst
          clear hy hbig hst hz
          go_wp2_with (at_builtin; refine wpList_append_own _ rfl _ _ _ rfl w.heap.size 5 i0 (.int .u8 0) 1 1 Try.underlying33 hi hz0 hz1 hz2 rfl (by omega) _ (nb + k) _ rfl V ⟨wr.heap.size, 0, none⟩ 1 1 [.int .u8 (z : Int)] rfl rfl (obyte_cell _ _ _) (obyte_one _) (by unfold maxLen; omega) (by omega) (by simp; omega) ?_)
          intro v2 w2 hown hgrow _
          have ez : bys (cat f nb (fun i => N / 128 ^ i % 128 + 128)) (nb + k) ++ [.int .u8 (z : Int)] = bys (cat f nb (fun i => N / 128 ^ i % 128 + 128)) (nb + (k + 1)) := by rw [← cat_succ, HZ.out, HY.out]
          rw [ez] at hown
          have Hown := Lib.hid hown
          have Hb := Lib.hid ((hb.alloc hbs (.cells #[.int .u8 (z : Int)] 5)).grown hgrow (by simp; omega) (fun q hq => (hv.lt q hq).1))
          have Hnew := Lib.hid (fun j (hj : j < k + 1) => (Nat.lt_or_eq_of_le (Nat.le_of_lt_succ hj)).elim (Hbig.out j) (fun (e : j = k) => by rw [e, ← HY.out]; exact hlt))
          clear hown hgrow hb hv V ez
          go_wp2
          refine ⟨⟨k + 1, ?_, by omega, Hnew.out, Hown.out, Hb.out⟩, ?_⟩
          · rw [← Hst.out]; simp
          · simp [intOf]; omega
        · have p1 : ¬ (127 : Int) < y := by omega
          have V := hv.alloc (.cells #[.int .u8 (y : Int)] 5)
          have q1 : (y : Int) % 256 = y := by omega
          have Hg := Lib.hid (⟨hbig, by rw [← hy]; omega⟩ : Grp N k)
          clear hy hbig
          go_wp2_with (at_builtin; refine wpList_append_own _ rfl _ _ _ rfl w.heap.size 5 i0 (.int .u8 0) 1 1 Try.underlying33 hi hz0 hz1 hz2 rfl (by omega) _ (nb + k) _ rfl V ⟨wr.heap.size, 0, none⟩ 1 1 [.int .u8 (y : Int)] rfl rfl (obyte_cell _ _ _) (obyte_one _) (by unfold maxLen; omega) (by omega) (by simp; omega) ?_)
          intro v2 w2 hown hgrow _
          have ez : bys (cat f nb (fun i => N / 128 ^ i % 128 + 128)) (nb + k) ++ [.int .u8 (y : Int)] = bys (cat f nb (vb N k)) (nb + (k + 1)) := by rw [HY.out, ← bys_cat, ← bys_cat, List.append_assoc, vb_bys]
          rw [ez] at hown
          have Hown := Lib.hid hown
          have Hb := Lib.hid ((hb.alloc hbs (.cells #[.int .u8 (y : Int)] 5)).grown hgrow (by simp; omega) (fun q hq => (hv.lt q hq).1))
          clear hown hgrow hb hv V ez
          go_wp2
          go_ret
          exact ⟨⟨_, k, rfl, Hg.out, Hown.out⟩, Hb.out⟩
end Go.Proofs.Ytcodlbfomfjmfaa
