/- muldiv.shiftRight, walked. -/
import Derived.Test.YtoaepgiajooecaaGreatG23
import Derived.Test.YtoaepgiajooecaaGreatG24
import Derived.Test.YtoaepgiajooecaaGreatG36
namespace Go.Proofs.YtoaepgiajooecaaGreat
open Go.RowKit

set_option maxRecDepth 100000 in
set_option maxHeartbeats 1000000 in
theorem wshr_walk (a by_ : Nat) (w : World) (hal : a < 2 ^ 256) (hby : by_ < 256) : Calls Tryz.prog 84 #[U a, .int .i64 (by_ : Nat)] w (ShrPost a by_ w) := by
  have Hal := Lib.hid hal
  clear hal
  obtain ⟨words, hw⟩ : ∃ n, n = by_ / 64 := ⟨_, rfl⟩
  obtain ⟨rest, hr⟩ : ∃ n, n = by_ % 64 := ⟨_, rfl⟩
  have e1 : (by_ : Int) / 64 = (words : Int) := by omega
  have e2 : (by_ : Int).tmod 64 = (rest : Int) := by rw [Int.tmod_eq_emod_of_nonneg (by omega)]; omega
  have e3 : (by_ : Int).tdiv 64 = (words : Int) := by rw [Int.tdiv_eq_ediv_of_nonneg (by omega)]; omega
  have hw4 : words < 4 := by omega
  have hr64 : rest < 64 := by omega
  have Hby : Hid (by_ = 64 * words + rest) := Lib.hid (by omega)
  clear hw hr
  unfold U
  go_enter Tryz.func84, Tryz.ntmps84
  go_wp2
  go_loopw [15] (ShrRel a by_ words w) (fun i _ => 4 - (intOf i).toNat)
  case atStart =>
    refine ⟨0, fun _ => 0, by omega, rfl, by simp, by simp, ?_, ?_, ?_, ?_, ?_⟩
    · exact ((Arr.new4 (f := limb a) rfl).alloc _).alloc _
    · exact (Arr.new4 (f := fun _ => 0) (by simp)).alloc _
    · exact Arr.new4 (f := fun _ => 0) (by simp)
    · exact (((Below.refl _ _).alloc (Nat.le_refl _) _).alloc (by simp only [World.size_alloc]; omega) _).alloc (by simp only [World.size_alloc]; omega) _
    · simp
  case round =>
    obtain ⟨k, f, hk, rfl, hf, hf0, ha, hz, hs, hbel, hsz⟩ := hrel
    by_cases hlt : k < 4 - words
    · have a1 := ha.cell (k + words) (by omega)
      have f1 := hs.free k (by omega)
      have f2 := hs.cell k (by omega)
      have q3 : (k : Int) + (words : Int) < 4 := by omega
      have t1 : (k : Int) < 4 - (words : Int) := by omega
      have r1 := shr0_run (limb a (k + words)) rest
      have o1 := or_join' (x := shr0 (limb a (k + words)) rest) (l := limb a (k + words + 1)) (r := 64 - rest) (shr0_lt (limb_lt _ _) (by omega)) (by omega)
      have Hf := Lib.hid hf
      have Hf0 := Lib.hid hf0
      clear hf hf0
      by_cases hn : k + words + 1 < 4
      · have q4 : (k : Int) + (words : Int) + 1 < 4 := by omega
        have a2 := ha.cell (k + words + 1) hn
        go_wp2
        go_region
        go_wp2
        go_roundw
        case rel =>
          refine ⟨k + 1, upd (upd f k (shr0 (limb a (k + words)) rest)) k (shlLo (shr0 (limb a (k + words)) rest) (limb a (k + words + 1)) (64 - rest)), by omega, by go_num, ?_, ?_, ?_, ?_, ?_, ?_, ?_⟩
          · intro i hi
            by_cases hik : i = k
            · subst hik; rw [upd_same, Hby.out, limb_shr _ _ _ hr64]
            · rw [upd_ne _ hik, upd_ne _ hik]; exact Hf.out i (by omega)
          · intro i hi; rw [upd_ne _ (by omega), upd_ne _ (by omega)]; exact Hf0.out i (by omega)
          · exact ((ha.drew).set_far (by omega)).set_far (by omega)
          · exact ((hz.drew).set_far (by omega)).set_far (by omega)
          · exact ((hs.drew).set (by omega)).set (by omega)
          · exact ((below_drewN hbel 1).setCell (by simp; omega) _).setCell (by simp; omega) _
          · simp; omega
        case measure => simp [intOf]; omega
      · have q4 : ¬ (k : Int) + (words : Int) + 1 < 4 := by omega
        go_wp2
        go_roundw
        case rel =>
          refine ⟨k + 1, upd f k (shr0 (limb a (k + words)) rest), by omega, by go_num, ?_, ?_, ?_, ?_, ?_, ?_, ?_⟩
          · intro i hi
            by_cases hik : i = k
            · subst hik; rw [upd_same, Hby.out, limb_shr _ _ _ hr64, limb_top Hal.out (show 4 ≤ i + words + 1 by omega), shlLo_zero]
            · rw [upd_ne _ hik]; exact Hf.out i (by omega)
          · intro i hi; rw [upd_ne _ (by omega)]; exact Hf0.out i (by omega)
          · exact ha.set_far (by omega)
          · exact hz.set_far (by omega)
          · exact hs.set (by omega)
          · exact hbel.setCell (by simp; omega) _
          · simp; omega
        case measure => simp [intOf]; omega
    · obtain rfl : k = 4 - words := by omega
      have t1 : ¬ ((4 - words : Nat) : Int) < 4 - (words : Int) := by omega
      have hs' : Arr .u64 wr (w.heap.size + 1 + 1) 4 (limb (a / 2 ^ by_)) := hs.congr fun i hi => by
        by_cases hik : i < 4 - words
        · exact hf i hik
        · rw [hf0 i (by omega), Hby.out, limb_shr _ _ _ hr64, limb_top Hal.out (show 4 ≤ i + words by omega), limb_top Hal.out (show 4 ≤ i + words + 1 by omega), shlLo_zero]; simp [shr0]
      obtain ⟨n, hn⟩ : ∃ n, n = a / 2 ^ by_ := ⟨_, rfl⟩
      rw [← hn] at hs'
      have Hn := Lib.hid hn
      clear hn hf hf0 hs
      obtain ⟨s0, s1, s2, s3⟩ := hs'.cells4
      obtain ⟨y0, y1, y2, y3⟩ := hz.frees4
      obtain ⟨z0, z1, z2, z3⟩ := hz.cells4
      go_wp2
      refine bodyPost_ret (v := .agg #[.int .u64 (limb n 0 : Nat), .int .u64 (limb n 1 : Nat), .int .u64 (limb n 2 : Nat), .int .u64 (limb n 3 : Nat)]) (by simp [results, Tryz.results84, go_sem, z0, z1, z2, z3]) rfl ⟨by rw [← Hn.out]; rfl, ?_⟩
      exact below_set4 hbel (by omega)
end Go.Proofs.YtoaepgiajooecaaGreat

namespace Go.Proofs.YtoaepgiajooecaaGreat
open Go.RowKit

theorem addp0_walk (a b c : Nat) (w : World) (ha : a < 2 ^ 64) (hb : b < 2 ^ 64) (hc : c < 2 ^ 64) :
    Calls Tryz.prog 85 #[.int .u64 0, .int .u64 (a : Nat), .int .u64 (b : Nat), .int .u64 (c : Nat)] w fun e w' =>
      e = .returned (.tuple #[.int .u64 (apl 0 a b c : Nat), .int .u64 (aph 0 a b c : Nat)]) ∧ w' = w := addp_walk 0 a b c w (by decide) ha hb hc
theorem wnw_step {x g d e fi : Nat} (hx : x < 2 ^ 64) (hg : g < 2 ^ 64) (hd : d < 2 ^ 64) (he : e ≤ 1) (hf : fi < 2 ^ 64) :
    aph 0 x g d < 2 ^ 64 ∧ r64 fi (apl 0 x g d) e + x * g + (e + d) = fi + (b64 fi (apl 0 x g d) e + aph 0 x g d) * 2 ^ 64 := by
  have h1 := ap_eq (show 0 < 2 ^ 64 by decide) hx hg hd
  have h3 := rb64 fi (apl 0 x g d) e hf (apl_lt _ _ _ _) he
  generalize apl 0 x g d = s1 at *
  generalize aph 0 x g d = p at *
  generalize r64 fi s1 e = r at *
  generalize b64 fi s1 e = b at *
  generalize x * g = xg at *
  omega

set_option maxRecDepth 100000 in
set_option maxHeartbeats 2000000 in
theorem wnw_walk (R n D : Nat) (w : World) (hR : R < D) (hD : D < 2 ^ 256) (hDn : 2 ^ 255 ≤ D) (hn : n < 2 ^ 64) :
    Calls Tryz.prog 83 #[U R, .int .u64 (n : Nat), U D] w (NwPost R n D w) := by
  have hadd := run_add64n
  have haddz := run_add64z
  have haddy := run_add64y
  have hsub := run_sub64n
  have HR := Lib.hid hR
  have HD := Lib.hid hD
  have HDn := Lib.hid hDn
  have Hn := Lib.hid hn
  clear hR hD hDn hn
  obtain ⟨X, hX⟩ : ∃ x, x = R * 2 ^ 64 + n := ⟨_, rfl⟩
  have HX := Lib.hid hX
  clear hX
  unfold U
  go_enter Tryz.func83, Tryz.ntmps83
  go_upto_if 20 with (fail)
  go_cut [8] (fun g wx => ∃ g' : Nat, g = .int .u64 (g' : Nat) ∧ Hid (X / D ≤ g' ∧ g' < 2 ^ 64) ∧ Arr .u64 wx w.heap.size 4 (limb R) ∧ Arr .u64 wx (w.heap.size + 1) 4 (limb D) ∧ Arr .u64 wx (w.heap.size + 1 + 1) 4 (fun _ => 0) ∧ Below w.heap.size w wx ∧ wx.heap.size = w.heap.size + 1 + 1 + 1)
  case first =>
    have hd3 := Lib.hid (top_big HD.out HDn.out)
    by_cases hc : limb R 3 < limb D 3
    · have hcI : (limb R 3 : Int) < (limb D 3 : Int) := by omega
      go_wp2_with (go_at_call 101; refine (div64_walk _ _ _ _ hd3.out (limb_lt _ _) hc (limb_lt _ _)).mono ?_; rintro e w' ⟨rfl, m, rfl⟩)
      go_meet
      case rel =>
        refine ⟨_, rfl, Lib.hid (by rw [HX.out]; exact guess_over HR.out HD.out HDn.out Hn.out hc), ?_, ?_, ?_, ?_, ?_⟩
        · exact (((Arr.new4 (f := limb R) rfl).alloc _).alloc _).drewN _
        · exact ((Arr.new4 (f := limb D) (by simp)).alloc _).drewN _
        · exact (Arr.new4 (f := fun _ => 0) (by simp)).drewN _
        · exact below_drewN ((((Below.refl _ _).alloc (Nat.le_refl _) _).alloc (by simp only [World.size_alloc]; omega) _).alloc (by simp only [World.size_alloc]; omega) _) _
        · simp
    · have hcI : ¬ (limb R 3 : Int) < (limb D 3 : Int) := by omega
      go_wp2
      go_meet
      case rel =>
        refine ⟨18446744073709551615, rfl, Lib.hid ⟨by rw [HX.out]; exact guess_most HR.out Hn.out, by decide⟩, ?_, ?_, ?_, ?_, ?_⟩
        · exact ((Arr.new4 (f := limb R) rfl).alloc _).alloc _
        · exact (Arr.new4 (f := limb D) (by simp)).alloc _
        · exact Arr.new4 (f := fun _ => 0) (by simp)
        · exact (((Below.refl _ _).alloc (Nat.le_refl _) _).alloc (by simp only [World.size_alloc]; omega) _).alloc (by simp only [World.size_alloc]; omega) _
        · simp
  case rest =>
    obtain ⟨g, rfl, Hg, hr, hd, hz, hbel, hsz⟩ := hcut
    obtain ⟨r0, r1, r2, r3⟩ := hr.cells4
    go_wp2
    go_loopw [11, 12, 41] (NwSub w R D (w.heap.size + 1 + 1 + 1) g X) (fun _ _ i _ => 4 - (intOf i).toNat)
    case atStart =>
      refine ⟨0, 0, 0, withNext n R, by omega, rfl, rfl, by omega, rfl, by omega, withNext_lt Hn.out, ?_, ?_, ⟨hr.alloc _, hd.alloc _, hz.alloc _, hbel.alloc (by omega) _, by omega, by rw [World.size_alloc]; omega⟩⟩
      · rw [val_withNext (by have := HR.out; have := HD.out; omega), HX.out]; simp only [val]; omega
      · rw [← hsz]
        refine Arr.alloc_new _ _ _ fun i hi => ?_
        rcases (by omega : i = 0 ∨ i = 1 ∨ i = 2 ∨ i = 3 ∨ i = 4) with rfl | rfl | rfl | rfl | rfl <;> rfl
    case round =>
      clear r0 r1 r2 r3 hr hd hz hbel hsz
      obtain ⟨k, d, e, f, hk, rfl, rfl, hdl, rfl, hel, hf, hv, ha, hm⟩ := hrel
      by_cases hlt : k < 4
      · have d1 := hm.d.cell k hlt
        have f1 := ha.cell k (by omega)
        have f2 := ha.free k (by omega)
        have st := wnw_step (limb_lt D k) Hg.out.2 hdl hel (hf k)
        have St := Lib.hid st
        have Hv := Lib.hid hv
        have Hf := Lib.hid hf
        have Hdl := Lib.hid hdl
        clear st hv hf hdl
        go_wp2_with (go_at_call 85; refine (addp0_walk _ _ _ _ (limb_lt _ _) Hg.out.2 Hdl.out).mono ?_; rintro e w' ⟨rfl, rfl⟩)
        go_roundw
        case rel =>
          refine ⟨k + 1, aph 0 (limb D k) g d, b64 (f k) (apl 0 (limb D k) g d) e, upd f k (r64 (f k) (apl 0 (limb D k) g d) e), by omega, by go_num, rfl, St.out.1, rfl, b64_le _ _ _, upd_lt Hf.out (r64_lt _ _ _), ?_, ha.set (by omega), hm.set⟩
          rw [pow_succ64]
          exact nw_sub_math (val_upd_at f _ (show k < 5 by omega)) Hv.out St.out.2
        case measure => simp [intOf]; omega
      · have hk4 : k = 4 := by omega
        have hkI : ¬ (k : Int) < 4 := by omega
        have f1 := ha.cell 4 (by omega)
        have f2 := ha.free 4 (by omega)
        have hDv := val4_limb HD.out
        rw [hk4, hDv] at hv
        clear hk4
        have Hv := Lib.hid hv
        have Hf := Lib.hid hf
        have Hdl := Lib.hid hdl
        clear hv hf hdl hDv
        go_wp2
        go_loopw [8, 12] (NwFix w R D (w.heap.size + 1 + 1 + 1) X) (fun g _ _ => (intOf g).toNat)
        case atStart =>
          refine ⟨g, b64 (f 4) d e, upd f 4 (r64 (f 4) d e), rfl, Hg.out.2, Hg.out.1, rfl, b64_le _ _ _, upd_lt Hf.out (r64_lt _ _ _), ?_, ha.set (by omega), hm.set⟩
          have h1 := val_upd_at f (r64 (f 4) d e) (show 4 < 5 by omega)
          have h2 := rb64 (f 4) d e (Hf.out 4) Hdl.out hel
          have h3 := Hv.out
          generalize D * g = Dg at *
          generalize val f 5 = v at *
          generalize val (upd f 4 (r64 (f 4) d e)) 5 = v' at *
          omega
        case round =>
          clear hk hlt ha hm Hf Hdl Hv f1 f2 hel
          obtain ⟨g, e, f, rfl, hg, hge, rfl, hel, hf, hv, ha, hm⟩ := hrel
          by_cases he : e = 0
          · have ht : ((e : Int) != 0) = false := by rw [he]; rfl
            have dn := nw_done he hv hge HD.out (by have := HDn.out; omega)
            have Dn := Lib.hid dn
            have Hf := Lib.hid hf
            obtain ⟨y0, y1, y2, y3⟩ := hm.z.frees4
            obtain ⟨z0, z1, z2, z3⟩ := hm.z.cells4
            have f0 := ha.cell 0 (by omega)
            have f1 := ha.cell 1 (by omega)
            have f2 := ha.cell 2 (by omega)
            have f3 := ha.cell 3 (by omega)
            clear hv hge hg hf dn he
            go_wp2
            go_region
            all_goals
              go_wp2
              refine bodyPost_ret (v := .tuple #[.int .u64 (g : Nat), .agg #[.int .u64 (f 0 : Nat), .int .u64 (f 1 : Nat), .int .u64 (f 2 : Nat), .int .u64 (f 3 : Nat)]]) (by simp [results, Tryz.results83, go_sem, z0, z1, z2, z3]) rfl ⟨?_, below_set4 (below_drewN hm.b 1) (by omega)⟩
              rw [U_of Hf.out, Dn.out.2, Dn.out.1, HX.out]
          · have he1 : e = 1 := by omega
            have ht : ((e : Int) != 0) = true := by rw [bne_iff_ne]; omega
            rw [he1] at hv
            have hbig := nw_big hv hf (by have := HDn.out; omega)
            have hg1 : 1 ≤ g := by have := Nat.lt_of_le_of_lt (Nat.zero_le _) hbig; omega
            have eI : (1 : Int) ≤ (e : Int) := by omega
            have He := Lib.hid he1
            clear he1
            have h1q : (1 : Int) ≤ (g : Int) := by omega
            have gq : (g : Int) ≤ 18446744073709551615 := by omega
            have Hg := Lib.hid hg
            have Hbig := Lib.hid hbig
            have Hv := Lib.hid hv
            have Hf := Lib.hid hf
            clear hg hbig hge hv hf he
            go_wp2
            go_loopw [14, 78] (NwAdd w R D (w.heap.size + 1 + 1 + 1) (val f 5)) (fun _ i _ => 4 - (intOf i).toNat)
            case atStart => exact ⟨0, 0, f, by omega, rfl, rfl, by omega, Hf.out, by simp only [val], ha, hm⟩
            case round =>
              clear ha hm
              obtain ⟨j, c, f', hj, rfl, rfl, hc, hf', hv', ha, hm⟩ := hrel
              by_cases hjl : j < 4
              · have d1 := hm.d.cell j hjl
                have f1 := ha.cell j (by omega)
                have f2 := ha.free j (by omega)
                have Hv' := Lib.hid hv'
                have Hf' := Lib.hid hf'
                clear hv' hf'
                go_wp2
                go_region_with (fail)
                all_goals
                  go_wp2
                  go_roundw
                  case rel =>
                    refine ⟨j + 1, c64 (f' j) (limb D j) c, upd f' j (s64 (f' j) (limb D j) c), by omega, by go_num, rfl, c64_le (Hf'.out j) (limb_lt _ _) hc, upd_lt Hf'.out (s64_lt _ _ _), ?_, ha.drew.set (by omega), (hm.drewN 1).set⟩
                    have h1 := val_upd_at f' (s64 (f' j) (limb D j) c) (show j < 5 by omega)
                    have h2 := congrArg (· * 2 ^ (64 * j)) (sc64 (f' j) (limb D j) c)
                    have h3 := Hv'.out
                    have e1 : val (limb D) (j + 1) = val (limb D) j + limb D j * 2 ^ (64 * j) := rfl
                    rw [pow_succ64, e1]
                    simp only [Nat.add_mul, Nat.mul_assoc] at h2
                    omega
                  case measure => simp [intOf]; omega
              · obtain rfl : j = 4 := by omega
                have f1 := ha.cell 4 (by omega)
                have f2 := ha.free 4 (by omega)
                have hDv := val4_limb HD.out
                rw [hDv] at hv'
                have hc' := c64_le (hf' 4) (show 0 < 2 ^ 64 by decide) hc
                have Hv' := Lib.hid hv'
                have Hf' := Lib.hid hf'
                have hcI : (c64 (f' 4) 0 c : Int) ≤ 1 := by omega
                clear hv' hf' hDv
                go_wp2
                go_roundw
                case rel =>
                  refine ⟨g - 1, 1 - c64 (f' 4) 0 c, upd f' 4 (s64 (f' 4) 0 c), by congr 1; omega, by have := Hg.out; omega, by have := Hbig.out; omega, by congr 1; have := He.out; omega, by omega, upd_lt Hf'.out (s64_lt _ _ _), ?_, ha.set (by omega), hm.set⟩
                  exact nw_fix_math Hv.out Hv'.out (val_upd_at f' _ (show 4 < 5 by omega)) (sc64 (f' 4) 0 c) hg1 hc'
                case measure => simp [intOf]; omega
end Go.Proofs.YtoaepgiajooecaaGreat

namespace Go.Proofs.YtoaepgiajooecaaGreat
open Go.RowKit

theorem eqU9 (a0 a1 a2 a3 b0 b1 b2 b3 : Int) (w : World) : (Op.equalIn 9999 44 (.agg #[.int .u64 a0, .int .u64 a1, .int .u64 a2, .int .u64 a3]) (.agg #[.int .u64 b0, .int .u64 b1, .int .u64 b2, .int .u64 b3])).run Tryz.prog w =
   .ok (a0 == b0 && a1 == b1 && a2 == b2 && a3 == b3) w := by
  have u3 := Tryz.underlying42
  have aa := Tryz.isAgg42
  have z3 := Tryz.sizeOf42
  rw [show (9999 : Nat) = 9998 + 1 from rfl, Op.equalIn]
  simp only [Sem.run_bind, run_underlying Tryz.underlying44, Result.andThen_ok]
  simp only [Std.Legacy.Range.forIn_eq_forIn_range', Std.Legacy.Range.size, Nat.sub_zero, Nat.add_sub_cancel, Nat.div_one, List.range'_succ, List.range'_zero, List.forIn_cons, List.forIn_nil]
  go_simp
  by_cases h1 : a0 = b0 <;> by_cases h2 : a1 = b1 <;> by_cases h3 : a2 = b2 <;> by_cases h4 : a3 = b3 <;> simp [h1, h2, h3, h4]
theorem eqW (a0 a1 a2 a3 a4 a5 a6 a7 b0 b1 b2 b3 b4 b5 b6 b7 : Int) (w : World) :
    (Op.equalIn 10000 107 (.agg #[.int .u64 a0, .int .u64 a1, .int .u64 a2, .int .u64 a3, .int .u64 a4, .int .u64 a5, .int .u64 a6, .int .u64 a7]) (.agg #[.int .u64 b0, .int .u64 b1, .int .u64 b2, .int .u64 b3, .int .u64 b4, .int .u64 b5, .int .u64 b6, .int .u64 b7])).run Tryz.prog w =
   .ok ((a0 == b0 && a1 == b1 && a2 == b2 && a3 == b3) && (a4 == b4 && a5 == b5 && a6 == b6 && a7 == b7)) w := by
  have aa := Tryz.isAgg44
  have z3 := Tryz.sizeOf44
  have st : Tryz.prog.stoodInHeld 107 = false := by kernel_rfl
  have e1 := fun w => eqU9 a0 a1 a2 a3 b0 b1 b2 b3 w
  have e2 := fun w => eqU9 a4 a5 a6 a7 b4 b5 b6 b7 w
  rw [show (10000 : Nat) = 9999 + 1 from rfl, Op.equalIn]
  simp only [Sem.run_bind, run_underlying Tryz.underlying107, Result.andThen_ok]
  go_simp
  by_cases h1 : a0 = b0 <;> by_cases h2 : a1 = b1 <;> by_cases h3 : a2 = b2 <;> by_cases h4 : a3 = b3 <;> simp [h1, h2, h3, h4]
  by_cases h5 : a4 = b4 <;> by_cases h6 : a5 = b5 <;> by_cases h7 : a6 = b6 <;> by_cases h8 : a7 = b7 <;> simp [h5, h6, h7, h8]

/-- a wide number of two halves, as the program holds it -/
def WW (H L : Nat) : Value := .agg #[.int .u64 (limb H 0 : Nat), .int .u64 (limb H 1 : Nat), .int .u64 (limb H 2 : Nat), .int .u64 (limb H 3 : Nat), .int .u64 (limb L 0 : Nat), .int .u64 (limb L 1 : Nat), .int .u64 (limb L 2 : Nat), .int .u64 (limb L 3 : Nat)]
def wh (H L i : Nat) : Nat := if i < 4 then limb H i else limb L (i - 4)
theorem W2_halves (n : Nat) : W2 n = WW (n / 2 ^ 256) (n % 2 ^ 256) := by
  unfold W2 WW
  rw [limb_mod (k := 4) (by omega), limb_mod (k := 4) (by omega), limb_mod (k := 4) (by omega), limb_mod (k := 4) (by omega), limb_div n 0 4, limb_div n 1 4, limb_div n 2 4, limb_div n 3 4]
theorem halves {H L : Nat} (hL : L < 2 ^ 256) : (H * 2 ^ 256 + L) / 2 ^ 256 = H ∧ (H * 2 ^ 256 + L) % 2 ^ 256 = L := by omega
theorem W2_of {H L : Nat} (hL : L < 2 ^ 256) : W2 (H * 2 ^ 256 + L) = WW H L := by rw [W2_halves, (halves hL).1, (halves hL).2]
theorem shlwH_walk (H L by_ : Nat) (w : World) (hL : L < 2 ^ 256) (hby : by_ < 256) : Calls Tryz.prog 82 #[WW H L, .int .i64 (by_ : Nat)] w (ShlWPost (H * 2 ^ 256 + L) by_ w) := by
  rw [← W2_of hL]; exact shlw_walk _ by_ w hby
theorem shlw0_walk (d by_ : Nat) (w : World) (hd : d < 2 ^ 256) (hby : by_ < 256) :
    Calls Tryz.prog 82 #[.agg #[.int .u64 0, .int .u64 0, .int .u64 0, .int .u64 0, .int .u64 (limb d 0 : Nat), .int .u64 (limb d 1 : Nat), .int .u64 (limb d 2 : Nat), .int .u64 (limb d 3 : Nat)], .int .i64 (by_ : Nat)] w (ShlWPost d by_ w) := by
  have h := shlwH_walk 0 d by_ w hd hby
  unfold WW at h
  rw [show limb 0 0 = 0 from rfl, show limb 0 1 = 0 from rfl, show limb 0 2 = 0 from rfl, show limb 0 3 = 0 from rfl, Nat.zero_mul, Nat.zero_add] at h
  exact h
theorem eqW_run {H : Nat} (L : Nat) (hH : H < 2 ^ 256) (w : World) :
    (Op.equalIn 10000 107 (.agg #[.int .u64 (limb H 0 : Nat), .int .u64 (limb H 1 : Nat), .int .u64 (limb H 2 : Nat), .int .u64 (limb H 3 : Nat), .int .u64 (limb L 0 : Nat), .int .u64 (limb L 1 : Nat), .int .u64 (limb L 2 : Nat), .int .u64 (limb L 3 : Nat)])
      (.agg #[.int .u64 0, .int .u64 0, .int .u64 0, .int .u64 0, .int .u64 (limb L 0 : Nat), .int .u64 (limb L 1 : Nat), .int .u64 (limb L 2 : Nat), .int .u64 (limb L 3 : Nat)])).run Tryz.prog w = .ok (decide (H = 0)) w := by
  rw [eqW]
  have h := limbs_eq hH (show 0 < 2 ^ 256 by decide)
  rw [show limb 0 0 = 0 from rfl, show limb 0 1 = 0 from rfl, show limb 0 2 = 0 from rfl, show limb 0 3 = 0 from rfl] at h
  rw [← h]; simp
theorem eqWW_run {H L H' L' : Nat} (hH : H < 2 ^ 256) (hL : L < 2 ^ 256) (hH' : H' < 2 ^ 256) (hL' : L' < 2 ^ 256) (w : World) :
    (Op.equalIn 10000 107 (WW H L) (WW H' L')).run Tryz.prog w = .ok (decide (H = H' ∧ L = L')) w := by
  unfold WW
  rw [eqW, limbs_eq hH hH', limbs_eq hL hL']
  by_cases h1 : H = H' <;> by_cases h2 : L = L' <;> simp [h1, h2]

def quoOk (n d : Nat) : Prop := d ≠ 0 ∧ n / d < 2 ^ 256
instance (n d : Nat) : Decidable (quoOk n d) := by unfold quoOk; infer_instance
def QuoPost (n d : Nat) (w : World) (e : Ending) (w' : World) : Prop :=
  e = .returned (.tuple #[U (if quoOk n d then n / d else 0), U (if quoOk n d then n % d else 0), .bool (decide (quoOk n d))]) ∧ Below w.heap.size w w'
theorem quoPost_yes {n d q r : Nat} {w w' : World} {e : Ending} (h : quoOk n d) (hq : q = n / d) (hr : r = n % d) (he : e = .returned (.tuple #[U q, U r, .bool true])) (hw : Below w.heap.size w w') : QuoPost n d w e w' := by
  unfold QuoPost; rw [if_pos h, if_pos h, decide_eq_true h, ← hq, ← hr]; exact ⟨he, hw⟩
theorem quoPost_no {n d : Nat} {w w' : World} {e : Ending} (h : ¬ quoOk n d) (he : e = .returned (.tuple #[U 0, U 0, .bool false])) (hw : Below w.heap.size w w') : QuoPost n d w e w' := by
  unfold QuoPost; rw [if_neg h, if_neg h, decide_eq_false h]; exact ⟨he, hw⟩
theorem quo_small {n d : Nat} (hn : n < 2 ^ 256) : (quoOk n d ↔ d ≠ 0) := ⟨fun h => h.1, fun h => ⟨h, Nat.lt_of_le_of_lt (Nat.div_le_self _ _) hn⟩⟩
theorem quo_iff {H L d : Nat} (hL : L < 2 ^ 256) (hd : d ≠ 0) : (H * 2 ^ 256 + L) / d < 2 ^ 256 ↔ H < d := by
  rw [Nat.div_lt_iff_lt_mul (by omega)]
  constructor
  · intro h
    rcases Nat.lt_or_ge H d with h1 | h1
    · exact h1
    · have := Nat.mul_le_mul_left (2 ^ 256) h1; omega
  · intro h
    have := Nat.mul_le_mul_left (2 ^ 256) (show H + 1 ≤ d from h); omega

structure WDivMem (w wr : World) (D A R L8 L9 L10 L11 : Nat) (q : Nat → Nat) : Prop where
  z2 : Arr .u64 wr (w.heap.size + 1 + 1) 4 (fun _ => 0)
  z3 : Arr .u64 wr (w.heap.size + 1 + 1 + 1) 4 (fun _ => 0)
  d : Arr .u64 wr L8 4 (limb D)
  a : Arr .u64 wr L9 8 (wl A)
  r : Arr .u64 wr L10 4 (limb R)
  q : Arr .u64 wr L11 4 q
  b : Below w.heap.size w wr
  o1 : w.heap.size + 1 + 1 + 1 < L8
  o2 : L8 < L9
  o3 : L9 < L10
  o4 : L10 < L11
  o5 : L11 < wr.heap.size
theorem WDivMem.drewN {w wr : World} {D A R L8 L9 L10 L11 : Nat} {q : Nat → Nat} (h : WDivMem w wr D A R L8 L9 L10 L11 q) (n : Nat) : WDivMem w (wr.drewN n) D A R L8 L9 L10 L11 q :=
  ⟨h.z2.drewN n, h.z3.drewN n, h.d.drewN n, h.a.drewN n, h.r.drewN n, h.q.drewN n, below_drewN h.b n, h.o1, h.o2, h.o3, h.o4, h.o5⟩
theorem WDivMem.below {w wr w' : World} {D A R L8 L9 L10 L11 : Nat} {q : Nat → Nat} (h : WDivMem w wr D A R L8 L9 L10 L11 q) (hb : Below wr.heap.size wr w') : WDivMem w w' D A R L8 L9 L10 L11 q := by
  have := h.o1; have := h.o2; have := h.o3; have := h.o4; have := h.o5; have := hb.size
  exact ⟨h.z2.below hb (by omega), h.z3.below hb (by omega), h.d.below hb (by omega), h.a.below hb (by omega), h.r.below hb (by omega), h.q.below hb (by omega), h.b.trans (hb.mono (by omega)), h.o1, h.o2, h.o3, h.o4, by omega⟩
theorem WDivMem.step {w wr : World} {D A R R' L8 L9 L10 L11 k v : Nat} {q : Nat → Nat} (h : WDivMem w wr D A R L8 L9 L10 L11 q) (hk : k < 4) :
    WDivMem w (((((wr.setCell ⟨L11, k, none⟩ (.int .u64 (v : Nat))).setCell ⟨L10, 0, none⟩ (.int .u64 (limb R' 0 : Nat))).setCell ⟨L10, 1, none⟩ (.int .u64 (limb R' 1 : Nat))).setCell ⟨L10, 2, none⟩ (.int .u64 (limb R' 2 : Nat))).setCell ⟨L10, 3, none⟩ (.int .u64 (limb R' 3 : Nat)))
      D A R' L8 L9 L10 L11 (upd q k v) := by
  have := h.o1; have := h.o2; have := h.o3; have := h.o4; have := h.o5
  refine ⟨?_, ?_, ?_, ?_, ?_, ?_, ?_, h.o1, h.o2, h.o3, h.o4, by simp only [World.size_setCell]; exact h.o5⟩
  · exact ((((h.z2.set_far (by omega)).set_far (by omega)).set_far (by omega)).set_far (by omega)).set_far (by omega)
  · exact ((((h.z3.set_far (by omega)).set_far (by omega)).set_far (by omega)).set_far (by omega)).set_far (by omega)
  · exact ((((h.d.set_far (by omega)).set_far (by omega)).set_far (by omega)).set_far (by omega)).set_far (by omega)
  · exact ((((h.a.set_far (by omega)).set_far (by omega)).set_far (by omega)).set_far (by omega)).set_far (by omega)
  · refine Arr.congr (((((h.r.set_far (by omega)).set (by omega)).set (by omega)).set (by omega)).set (by omega)) fun i hi => ?_
    rcases (by omega : i = 0 ∨ i = 1 ∨ i = 2 ∨ i = 3) with rfl | rfl | rfl | rfl <;> simp [upd]
  · exact ((((h.q.set hk).set_far (by omega)).set_far (by omega)).set_far (by omega)).set_far (by omega)
  · exact ((((h.b.setCell (by simp; omega) _).setCell (by simp; omega) _).setCell (by simp; omega) _).setCell (by simp; omega) _).setCell (by simp; omega) _
def WDivRel (w : World) (D A L8 L9 L10 L11 : Nat) (i : Value) (wr : World) : Prop :=
  ∃ (k R : Nat) (q : Nat → Nat), k ≤ 4 ∧ i = .int .i64 (k : Nat) ∧ (∀ j, q j < 2 ^ 64) ∧ (∀ j, j < 4 - k → q j = 0) ∧
    R = A / 2 ^ (64 * (4 - k)) % D ∧ val q 4 = A / 2 ^ (64 * (4 - k)) / D * 2 ^ (64 * (4 - k)) ∧ WDivMem w wr D A R L8 L9 L10 L11 q

/-- the four blocks that a run of Quo begins with -/
theorem quo_first {H L d : Nat} {w W : World} {t1 t2 t3 t4 : TypeId}
    (hW : Below (w.heap.size + 1 + 1 + 1 + 1) ((((w.alloc (.cells #[.int .u64 (limb H 0 : Nat), .int .u64 (limb H 1 : Nat), .int .u64 (limb H 2 : Nat), .int .u64 (limb H 3 : Nat), .int .u64 (limb L 0 : Nat), .int .u64 (limb L 1 : Nat), .int .u64 (limb L 2 : Nat), .int .u64 (limb L 3 : Nat)] t1)).alloc (.cells #[.int .u64 (limb d 0 : Nat), .int .u64 (limb d 1 : Nat), .int .u64 (limb d 2 : Nat), .int .u64 (limb d 3 : Nat)] t2)).alloc (.cells #[.int .u64 0, .int .u64 0, .int .u64 0, .int .u64 0] t3)).alloc (.cells #[.int .u64 0, .int .u64 0, .int .u64 0, .int .u64 0] t4)) W) :
    Arr .u64 W w.heap.size 8 (wh H L) ∧ Arr .u64 W (w.heap.size + 1) 4 (limb d) ∧ Arr .u64 W (w.heap.size + 1 + 1) 4 (fun _ => 0) ∧ Arr .u64 W (w.heap.size + 1 + 1 + 1) 4 (fun _ => 0) ∧ Below w.heap.size w W :=
  ⟨Arr.below ((((Arr.new8 (f := wh H L) rfl).alloc _).alloc _).alloc _) hW (by omega),
   Arr.below (((Arr.new4 (f := limb d) (by simp)).alloc _).alloc _) hW (by omega),
   Arr.below ((Arr.new4 (f := fun _ => 0) (by simp)).alloc _) hW (by omega),
   Arr.below (Arr.new4 (f := fun _ => 0) (by simp)) hW (by omega),
   (((((Below.refl _ _).alloc (Nat.le_refl _) _).alloc (by simp only [World.size_alloc]; omega) _).alloc (by simp only [World.size_alloc]; omega) _).alloc (by simp only [World.size_alloc]; omega) _).trans (hW.mono (by omega))⟩

set_option maxRecDepth 100000 in
set_option maxHeartbeats 2000000 in
theorem quo_walk_a (H L d : Nat) (w : World) (hH : H < 2 ^ 256) (hL : L < 2 ^ 256) (hd : d < 2 ^ 256) (hH0 : H = 0) :
    Calls Tryz.prog 60 #[WW H L, U d] w (QuoPost (H * 2 ^ 256 + L) d w) := by
  have heq := fun w => eqW_run L hH w
  have hdec : decide (H = 0) = true := decide_eq_true hH0
  have hsm : quoOk (H * 2 ^ 256 + L) d ↔ d ≠ 0 := quo_small (by rw [hH0]; omega)
  have hn : H * 2 ^ 256 + L = L := by rw [hH0]; omega
  have HL := Lib.hid hL
  have Hd := Lib.hid hd
  have Hsm := Lib.hid hsm
  have Hn := Lib.hid hn
  clear hL hd hH hH0 hsm hn
  unfold U WW
  go_enter Tryz.func60, Tryz.ntmps60
  go_wp2_with (go_at_call 80; refine (div_walk L d _ HL.out Hd.out).mono ?_; rintro e w1 ⟨rfl, hb1⟩; obtain ⟨m1, m2, m3, m4, m5⟩ := quo_first (by simpa using hb1); obtain ⟨y0, y1, y2, y3⟩ := m3.frees4; obtain ⟨x0, x1, x2, x3⟩ := m3.cells4; obtain ⟨u0, u1, u2, u3⟩ := m4.frees4; obtain ⟨v0, v1, v2, v3⟩ := m4.cells4; obtain ⟨qv, hqv⟩ : ∃ x, x = if d = 0 then 0 else L / d := ⟨_, rfl⟩; obtain ⟨rv, hrv⟩ : ∃ x, x = if d = 0 then 0 else L % d := ⟨_, rfl⟩; obtain ⟨ok, hok⟩ : ∃ x, x = decide (d ≠ 0) := ⟨_, rfl⟩; rw [← hqv, ← hrv, ← hok]; have Hqv := Lib.hid hqv; have Hrv := Lib.hid hrv; have Hok := Lib.hid hok; clear hqv hrv hok; unfold U)
  refine bodyPost_ret (v := .tuple #[.agg #[.int .u64 (limb qv 0 : Nat), .int .u64 (limb qv 1 : Nat), .int .u64 (limb qv 2 : Nat), .int .u64 (limb qv 3 : Nat)], .agg #[.int .u64 (limb rv 0 : Nat), .int .u64 (limb rv 1 : Nat), .int .u64 (limb rv 2 : Nat), .int .u64 (limb rv 3 : Nat)], .bool ok]) (by simp [results, Tryz.results60, go_sem, x0, x1, x2, x3, v0, v1, v2, v3]) rfl ?_
  have hb : Below w.heap.size w (((((((((w1.setCell ⟨w.heap.size + 1 + 1, 0, none⟩ (.int .u64 (limb qv 0 : Nat))).setCell ⟨w.heap.size + 1 + 1, 1, none⟩ (.int .u64 (limb qv 1 : Nat))).setCell ⟨w.heap.size + 1 + 1, 2, none⟩ (.int .u64 (limb qv 2 : Nat))).setCell ⟨w.heap.size + 1 + 1, 3, none⟩ (.int .u64 (limb qv 3 : Nat))).setCell ⟨w.heap.size + 1 + 1 + 1, 0, none⟩ (.int .u64 (limb rv 0 : Nat))).setCell ⟨w.heap.size + 1 + 1 + 1, 1, none⟩ (.int .u64 (limb rv 1 : Nat))).setCell ⟨w.heap.size + 1 + 1 + 1, 2, none⟩ (.int .u64 (limb rv 2 : Nat))).setCell ⟨w.heap.size + 1 + 1 + 1, 3, none⟩ (.int .u64 (limb rv 3 : Nat)))) :=
    below_set4 (below_set4 m5 (by omega)) (by omega)
  rw [Hn.out]
  rw [Hn.out] at Hsm
  by_cases hd0 : d = 0
  · have h1 := Hqv.out
    have h2 := Hrv.out
    have h3 := Hok.out
    rw [if_pos hd0] at h1 h2
    rw [decide_eq_false (by simpa using hd0)] at h3
    subst h1 h2 h3
    exact quoPost_no (fun h => Hsm.out.1 h hd0) rfl hb
  · have h1 := Hqv.out
    have h2 := Hrv.out
    have h3 := Hok.out
    rw [if_neg hd0] at h1 h2
    rw [decide_eq_true hd0] at h3
    subst h3
    exact quoPost_yes (Hsm.out.2 hd0) h1 h2 rfl hb

theorem cmpU_ge (a b : Nat) : (0 : Int) ≤ cmpU a b ↔ b ≤ a := by
  unfold cmpU
  by_cases h : a = b
  · rw [if_pos h]; omega
  · rw [if_neg h]
    by_cases h2 : b ≤ a
    · rw [if_pos h2]; omega
    · rw [if_neg h2]; omega
set_option maxRecDepth 100000 in
set_option maxHeartbeats 2000000 in
theorem quo_walk_b (H L d : Nat) (w : World) (hH : H < 2 ^ 256) (hL : L < 2 ^ 256) (hd : d < 2 ^ 256) (hH0 : H ≠ 0) (hge : d ≤ H) :
    Calls Tryz.prog 60 #[WW H L, U d] w (QuoPost (H * 2 ^ 256 + L) d w) := by
  have heq := fun w => eqW_run L hH w
  have hdec : decide (H = 0) = false := decide_eq_false hH0
  have hno : ¬ quoOk (H * 2 ^ 256 + L) d := fun h => absurd ((quo_iff hL h.1).1 h.2) (by omega)
  obtain ⟨c, hc⟩ : ∃ c, c = cmpU H d := ⟨_, rfl⟩
  have hc0 : (0 : Int) ≤ c := by rw [hc]; exact (cmpU_ge H d).2 hge
  have HH := Lib.hid hH
  have Hd := Lib.hid hd
  have Hno := Lib.hid hno
  have Hc := Lib.hid hc
  clear hL hd hH hH0 hno hge hc
  unfold U WW
  go_enter Tryz.func60, Tryz.ntmps60
  go_wp2_with (go_at_call 58; refine (cmp_walk H d _ HH.out Hd.out).mono ?_; rintro e w1 ⟨rfl, hb1⟩; obtain ⟨m1, m2, m3, m4, m5⟩ := quo_first (by simpa using hb1); obtain ⟨y0, y1, y2, y3⟩ := m3.frees4; obtain ⟨x0, x1, x2, x3⟩ := m3.cells4; obtain ⟨u0, u1, u2, u3⟩ := m4.frees4; obtain ⟨v0, v1, v2, v3⟩ := m4.cells4; rw [← Hc.out])
  refine bodyPost_ret (v := .tuple #[.agg #[.int .u64 0, .int .u64 0, .int .u64 0, .int .u64 0], .agg #[.int .u64 0, .int .u64 0, .int .u64 0, .int .u64 0], .bool false]) (by simp [results, Tryz.results60, go_sem, x0, x1, x2, x3, v0, v1, v2, v3]) rfl ?_
  exact quoPost_no Hno.out (by rw [U_zero]) (below_set4 (below_set4 m5 (by omega)) (by omega))
end Go.Proofs.YtoaepgiajooecaaGreat
