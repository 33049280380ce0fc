/- muldiv.shiftRight, walked. -/
import Derived.Test.YtomhbggfdjooaaaDoorU7
namespace Go.Proofs.YtomhbggfdjooaaaDoor
open Go.RowKit

set_option maxRecDepth 100000 in
set_option maxHeartbeats 1000000 in
theorem wshr_walk (a by_ : Nat) (w : World) (hal : a < 2 ^ 256) (hby : by_ < 256) : Calls Tryd.prog 50 #[U a, .int .i64 (by_ : Nat)] w (ShrPost a by_ w) := by
  have Hal := Lib.hid hal
  clear hal
  obtain ⟨words, hw⟩ : ∃ n, n = by_ / 64 := ⟨_, rfl⟩
  obtain ⟨rest, hr⟩ : ∃ n, n = by_ % 64 := ⟨_, rfl⟩
  have e1 : (by_ : Int) / 64 = (words : Int) := by omega
  have e2 : (by_ : Int).tmod 64 = (rest : Int) := by rw [Int.tmod_eq_emod_of_nonneg (by omega)]; omega
  have e3 : (by_ : Int).tdiv 64 = (words : Int) := by rw [Int.tdiv_eq_ediv_of_nonneg (by omega)]; omega
  have hw4 : words < 4 := by omega
  have hr64 : rest < 64 := by omega
  have Hby : Hid (by_ = 64 * words + rest) := Lib.hid (by omega)
  clear hw hr
  unfold U
  go_enter Tryd.func50, Tryd.ntmps50
  go_wp2
  go_loopw [15] (ShrRel a by_ words w) (fun i _ => 4 - (intOf i).toNat)
  case atStart =>
    refine ⟨0, fun _ => 0, by omega, rfl, by simp, by simp, ?_, ?_, ?_, ?_, ?_⟩
    · exact ((Arr.new4 (f := limb a) rfl).alloc _).alloc _
    · exact (Arr.new4 (f := fun _ => 0) (by simp)).alloc _
    · exact Arr.new4 (f := fun _ => 0) (by simp)
    · exact (((Below.refl _ _).alloc (Nat.le_refl _) _).alloc (by simp only [World.size_alloc]; omega) _).alloc (by simp only [World.size_alloc]; omega) _
    · simp
  case round =>
    obtain ⟨k, f, hk, rfl, hf, hf0, ha, hz, hs, hbel, hsz⟩ := hrel
    by_cases hlt : k < 4 - words
    · have a1 := ha.cell (k + words) (by omega)
      have f1 := hs.free k (by omega)
      have f2 := hs.cell k (by omega)
      have q3 : (k : Int) + (words : Int) < 4 := by omega
      have t1 : (k : Int) < 4 - (words : Int) := by omega
      have r1 := shr0_run (limb a (k + words)) rest
      have o1 := or_join' (x := shr0 (limb a (k + words)) rest) (l := limb a (k + words + 1)) (r := 64 - rest) (shr0_lt (limb_lt _ _) (by omega)) (by omega)
      have Hf := Lib.hid hf
      have Hf0 := Lib.hid hf0
      clear hf hf0
      by_cases hn : k + words + 1 < 4
      · have q4 : (k : Int) + (words : Int) + 1 < 4 := by omega
        have a2 := ha.cell (k + words + 1) hn
        go_wp2
        go_region
        go_wp2
        go_roundw
        case rel =>
          refine ⟨k + 1, upd (upd f k (shr0 (limb a (k + words)) rest)) k (shlLo (shr0 (limb a (k + words)) rest) (limb a (k + words + 1)) (64 - rest)), by omega, by go_num, ?_, ?_, ?_, ?_, ?_, ?_, ?_⟩
          · intro i hi
            by_cases hik : i = k
            · subst hik; rw [upd_same, Hby.out, limb_shr _ _ _ hr64]
            · rw [upd_ne _ hik, upd_ne _ hik]; exact Hf.out i (by omega)
          · intro i hi; rw [upd_ne _ (by omega), upd_ne _ (by omega)]; exact Hf0.out i (by omega)
          · exact ((ha.drew).set_far (by omega)).set_far (by omega)
          · exact ((hz.drew).set_far (by omega)).set_far (by omega)
          · exact ((hs.drew).set (by omega)).set (by omega)
          · exact ((below_drewN hbel 1).setCell (by simp; omega) _).setCell (by simp; omega) _
          · simp; omega
        case measure => simp [intOf]; omega
      · have q4 : ¬ (k : Int) + (words : Int) + 1 < 4 := by omega
        go_wp2
        go_roundw
        case rel =>
          refine ⟨k + 1, upd f k (shr0 (limb a (k + words)) rest), by omega, by go_num, ?_, ?_, ?_, ?_, ?_, ?_, ?_⟩
          · intro i hi
            by_cases hik : i = k
            · subst hik; rw [upd_same, Hby.out, limb_shr _ _ _ hr64, limb_top Hal.out (show 4 ≤ i + words + 1 by omega), shlLo_zero]
            · rw [upd_ne _ hik]; exact Hf.out i (by omega)
          · intro i hi; rw [upd_ne _ (by omega)]; exact Hf0.out i (by omega)
          · exact ha.set_far (by omega)
          · exact hz.set_far (by omega)
          · exact hs.set (by omega)
          · exact hbel.setCell (by simp; omega) _
          · simp; omega
        case measure => simp [intOf]; omega
    · obtain rfl : k = 4 - words := by omega
      have t1 : ¬ ((4 - words : Nat) : Int) < 4 - (words : Int) := by omega
      have hs' : Arr .u64 wr (w.heap.size + 1 + 1) 4 (limb (a / 2 ^ by_)) := hs.congr fun i hi => by
        by_cases hik : i < 4 - words
        · exact hf i hik
        · rw [hf0 i (by omega), Hby.out, limb_shr _ _ _ hr64, limb_top Hal.out (show 4 ≤ i + words by omega), limb_top Hal.out (show 4 ≤ i + words + 1 by omega), shlLo_zero]; simp [shr0]
      obtain ⟨n, hn⟩ : ∃ n, n = a / 2 ^ by_ := ⟨_, rfl⟩
      rw [← hn] at hs'
      have Hn := Lib.hid hn
      clear hn hf hf0 hs
      obtain ⟨s0, s1, s2, s3⟩ := hs'.cells4
      obtain ⟨y0, y1, y2, y3⟩ := hz.frees4
      obtain ⟨z0, z1, z2, z3⟩ := hz.cells4
      go_wp2
      refine bodyPost_ret (v := .agg #[.int .u64 (limb n 0 : Nat), .int .u64 (limb n 1 : Nat), .int .u64 (limb n 2 : Nat), .int .u64 (limb n 3 : Nat)]) (by simp [results, Tryd.results50, go_sem, z0, z1, z2, z3]) rfl ⟨by rw [← Hn.out]; rfl, ?_⟩
      exact below_set4 hbel (by omega)
end Go.Proofs.YtomhbggfdjooaaaDoor
