/- muldiv.nextWord, walked. -/
import Derived.Test.YtomhbggfdjooaaaDoorU9
import Derived.Test.YtomhbggfdjooaaaDoorM1
namespace Go.Proofs.YtomhbggfdjooaaaDoor
open Go.RowKit

theorem addp0_walk (a b c : Nat) (w : World) (ha : a < 2 ^ 64) (hb : b < 2 ^ 64) (hc : c < 2 ^ 64) :
    Calls Tryd.prog 51 #[.int .u64 0, .int .u64 (a : Nat), .int .u64 (b : Nat), .int .u64 (c : Nat)] w fun e w' =>
      e = .returned (.tuple #[.int .u64 (apl 0 a b c : Nat), .int .u64 (aph 0 a b c : Nat)]) ∧ w' = w := addp_walk 0 a b c w (by decide) ha hb hc
theorem wnw_step {x g d e fi : Nat} (hx : x < 2 ^ 64) (hg : g < 2 ^ 64) (hd : d < 2 ^ 64) (he : e ≤ 1) (hf : fi < 2 ^ 64) :
    aph 0 x g d < 2 ^ 64 ∧ r64 fi (apl 0 x g d) e + x * g + (e + d) = fi + (b64 fi (apl 0 x g d) e + aph 0 x g d) * 2 ^ 64 := by
  have h1 := ap_eq (show 0 < 2 ^ 64 by decide) hx hg hd
  have h3 := rb64 fi (apl 0 x g d) e hf (apl_lt _ _ _ _) he
  generalize apl 0 x g d = s1 at *
  generalize aph 0 x g d = p at *
  generalize r64 fi s1 e = r at *
  generalize b64 fi s1 e = b at *
  generalize x * g = xg at *
  omega

set_option maxRecDepth 100000 in
set_option maxHeartbeats 2000000 in
theorem wnw_walk (R n D : Nat) (w : World) (hR : R < D) (hD : D < 2 ^ 256) (hDn : 2 ^ 255 ≤ D) (hn : n < 2 ^ 64) :
    Calls Tryd.prog 49 #[U R, .int .u64 (n : Nat), U D] w (NwPost R n D w) := by
  have hadd := run_add64n
  have haddz := run_add64z
  have haddy := run_add64y
  have hsub := run_sub64n
  have HR := Lib.hid hR
  have HD := Lib.hid hD
  have HDn := Lib.hid hDn
  have Hn := Lib.hid hn
  clear hR hD hDn hn
  obtain ⟨X, hX⟩ : ∃ x, x = R * 2 ^ 64 + n := ⟨_, rfl⟩
  have HX := Lib.hid hX
  clear hX
  unfold U
  go_enter Tryd.func49, Tryd.ntmps49
  go_upto_if 20 with (fail)
  go_cut [8] (fun g wx => ∃ g' : Nat, g = .int .u64 (g' : Nat) ∧ Hid (X / D ≤ g' ∧ g' < 2 ^ 64) ∧ Arr .u64 wx w.heap.size 4 (limb R) ∧ Arr .u64 wx (w.heap.size + 1) 4 (limb D) ∧ Arr .u64 wx (w.heap.size + 1 + 1) 4 (fun _ => 0) ∧ Below w.heap.size w wx ∧ wx.heap.size = w.heap.size + 1 + 1 + 1)
  case first =>
    have hd3 := Lib.hid (top_big HD.out HDn.out)
    by_cases hc : limb R 3 < limb D 3
    · have hcI : (limb R 3 : Int) < (limb D 3 : Int) := by omega
      go_wp2_with (go_at_call 60; refine (div64_walk _ _ _ _ hd3.out (limb_lt _ _) hc (limb_lt _ _)).mono ?_; rintro e w' ⟨rfl, m, rfl⟩)
      go_meet
      case rel =>
        refine ⟨_, rfl, Lib.hid (by rw [HX.out]; exact guess_over HR.out HD.out HDn.out Hn.out hc), ?_, ?_, ?_, ?_, ?_⟩
        · exact (((Arr.new4 (f := limb R) rfl).alloc _).alloc _).drewN _
        · exact ((Arr.new4 (f := limb D) (by simp)).alloc _).drewN _
        · exact (Arr.new4 (f := fun _ => 0) (by simp)).drewN _
        · exact below_drewN ((((Below.refl _ _).alloc (Nat.le_refl _) _).alloc (by simp only [World.size_alloc]; omega) _).alloc (by simp only [World.size_alloc]; omega) _) _
        · simp
    · have hcI : ¬ (limb R 3 : Int) < (limb D 3 : Int) := by omega
      go_wp2
      go_meet
      case rel =>
        refine ⟨18446744073709551615, rfl, Lib.hid ⟨by rw [HX.out]; exact guess_most HR.out Hn.out, by decide⟩, ?_, ?_, ?_, ?_, ?_⟩
        · exact ((Arr.new4 (f := limb R) rfl).alloc _).alloc _
        · exact (Arr.new4 (f := limb D) (by simp)).alloc _
        · exact Arr.new4 (f := fun _ => 0) (by simp)
        · exact (((Below.refl _ _).alloc (Nat.le_refl _) _).alloc (by simp only [World.size_alloc]; omega) _).alloc (by simp only [World.size_alloc]; omega) _
        · simp
  case rest =>
    obtain ⟨g, rfl, Hg, hr, hd, hz, hbel, hsz⟩ := hcut
    obtain ⟨r0, r1, r2, r3⟩ := hr.cells4
    go_wp2
    go_loopw [11, 12, 41] (NwSub w R D (w.heap.size + 1 + 1 + 1) g X) (fun _ _ i _ => 4 - (intOf i).toNat)
    case atStart =>
      refine ⟨0, 0, 0, withNext n R, by omega, rfl, rfl, by omega, rfl, by omega, withNext_lt Hn.out, ?_, ?_, ⟨hr.alloc _, hd.alloc _, hz.alloc _, hbel.alloc (by omega) _, by omega, by rw [World.size_alloc]; omega⟩⟩
      · rw [val_withNext (by have := HR.out; have := HD.out; omega), HX.out]; simp only [val]; omega
      · rw [← hsz]
        refine Arr.alloc_new _ _ _ fun i hi => ?_
        rcases (by omega : i = 0 ∨ i = 1 ∨ i = 2 ∨ i = 3 ∨ i = 4) with rfl | rfl | rfl | rfl | rfl <;> rfl
    case round =>
      clear r0 r1 r2 r3 hr hd hz hbel hsz
      obtain ⟨k, d, e, f, hk, rfl, rfl, hdl, rfl, hel, hf, hv, ha, hm⟩ := hrel
      by_cases hlt : k < 4
      · have d1 := hm.d.cell k hlt
        have f1 := ha.cell k (by omega)
        have f2 := ha.free k (by omega)
        have st := wnw_step (limb_lt D k) Hg.out.2 hdl hel (hf k)
        have St := Lib.hid st
        have Hv := Lib.hid hv
        have Hf := Lib.hid hf
        have Hdl := Lib.hid hdl
        clear st hv hf hdl
        go_wp2_with (go_at_call 51; refine (addp0_walk _ _ _ _ (limb_lt _ _) Hg.out.2 Hdl.out).mono ?_; rintro e w' ⟨rfl, rfl⟩)
        go_roundw
        case rel =>
          refine ⟨k + 1, aph 0 (limb D k) g d, b64 (f k) (apl 0 (limb D k) g d) e, upd f k (r64 (f k) (apl 0 (limb D k) g d) e), by omega, by go_num, rfl, St.out.1, rfl, b64_le _ _ _, upd_lt Hf.out (r64_lt _ _ _), ?_, ha.set (by omega), hm.set⟩
          rw [pow_succ64]
          exact nw_sub_math (val_upd_at f _ (show k < 5 by omega)) Hv.out St.out.2
        case measure => simp [intOf]; omega
      · have hk4 : k = 4 := by omega
        have hkI : ¬ (k : Int) < 4 := by omega
        have f1 := ha.cell 4 (by omega)
        have f2 := ha.free 4 (by omega)
        have hDv := val4_limb HD.out
        rw [hk4, hDv] at hv
        clear hk4
        have Hv := Lib.hid hv
        have Hf := Lib.hid hf
        have Hdl := Lib.hid hdl
        clear hv hf hdl hDv
        go_wp2
        go_loopw [8, 12] (NwFix w R D (w.heap.size + 1 + 1 + 1) X) (fun g _ _ => (intOf g).toNat)
        case atStart =>
          refine ⟨g, b64 (f 4) d e, upd f 4 (r64 (f 4) d e), rfl, Hg.out.2, Hg.out.1, rfl, b64_le _ _ _, upd_lt Hf.out (r64_lt _ _ _), ?_, ha.set (by omega), hm.set⟩
          have h1 := val_upd_at f (r64 (f 4) d e) (show 4 < 5 by omega)
          have h2 := rb64 (f 4) d e (Hf.out 4) Hdl.out hel
          have h3 := Hv.out
          generalize D * g = Dg at *
          generalize val f 5 = v at *
          generalize val (upd f 4 (r64 (f 4) d e)) 5 = v' at *
          omega
        case round =>
          clear hk hlt ha hm Hf Hdl Hv f1 f2 hel
          obtain ⟨g, e, f, rfl, hg, hge, rfl, hel, hf, hv, ha, hm⟩ := hrel
          by_cases he : e = 0
          · have ht : ((e : Int) != 0) = false := by rw [he]; rfl
            have dn := nw_done he hv hge HD.out (by have := HDn.out; omega)
            have Dn := Lib.hid dn
            have Hf := Lib.hid hf
            obtain ⟨y0, y1, y2, y3⟩ := hm.z.frees4
            obtain ⟨z0, z1, z2, z3⟩ := hm.z.cells4
            have f0 := ha.cell 0 (by omega)
            have f1 := ha.cell 1 (by omega)
            have f2 := ha.cell 2 (by omega)
            have f3 := ha.cell 3 (by omega)
            clear hv hge hg hf dn he
            go_wp2
            go_region
            all_goals
              go_wp2
              refine bodyPost_ret (v := .tuple #[.int .u64 (g : Nat), .agg #[.int .u64 (f 0 : Nat), .int .u64 (f 1 : Nat), .int .u64 (f 2 : Nat), .int .u64 (f 3 : Nat)]]) (by simp [results, Tryd.results49, go_sem, z0, z1, z2, z3]) rfl ⟨?_, below_set4 (below_drewN hm.b 1) (by omega)⟩
              rw [U_of Hf.out, Dn.out.2, Dn.out.1, HX.out]
          · have he1 : e = 1 := by omega
            have ht : ((e : Int) != 0) = true := by rw [bne_iff_ne]; omega
            rw [he1] at hv
            have hbig := nw_big hv hf (by have := HDn.out; omega)
            have hg1 : 1 ≤ g := by have := Nat.lt_of_le_of_lt (Nat.zero_le _) hbig; omega
            have eI : (1 : Int) ≤ (e : Int) := by omega
            have He := Lib.hid he1
            clear he1
            have h1q : (1 : Int) ≤ (g : Int) := by omega
            have gq : (g : Int) ≤ 18446744073709551615 := by omega
            have Hg := Lib.hid hg
            have Hbig := Lib.hid hbig
            have Hv := Lib.hid hv
            have Hf := Lib.hid hf
            clear hg hbig hge hv hf he
            go_wp2
            go_loopw [14, 78] (NwAdd w R D (w.heap.size + 1 + 1 + 1) (val f 5)) (fun _ i _ => 4 - (intOf i).toNat)
            case atStart => exact ⟨0, 0, f, by omega, rfl, rfl, by omega, Hf.out, by simp only [val], ha, hm⟩
            case round =>
              clear ha hm
              obtain ⟨j, c, f', hj, rfl, rfl, hc, hf', hv', ha, hm⟩ := hrel
              by_cases hjl : j < 4
              · have d1 := hm.d.cell j hjl
                have f1 := ha.cell j (by omega)
                have f2 := ha.free j (by omega)
                have Hv' := Lib.hid hv'
                have Hf' := Lib.hid hf'
                clear hv' hf'
                go_wp2
                go_region_with (fail)
                all_goals
                  go_wp2
                  go_roundw
                  case rel =>
                    refine ⟨j + 1, c64 (f' j) (limb D j) c, upd f' j (s64 (f' j) (limb D j) c), by omega, by go_num, rfl, c64_le (Hf'.out j) (limb_lt _ _) hc, upd_lt Hf'.out (s64_lt _ _ _), ?_, ha.drew.set (by omega), (hm.drewN 1).set⟩
                    have h1 := val_upd_at f' (s64 (f' j) (limb D j) c) (show j < 5 by omega)
                    have h2 := congrArg (· * 2 ^ (64 * j)) (sc64 (f' j) (limb D j) c)
                    have h3 := Hv'.out
                    have e1 : val (limb D) (j + 1) = val (limb D) j + limb D j * 2 ^ (64 * j) := rfl
                    rw [pow_succ64, e1]
                    simp only [Nat.add_mul, Nat.mul_assoc] at h2
                    omega
                  case measure => simp [intOf]; omega
              · obtain rfl : j = 4 := by omega
                have f1 := ha.cell 4 (by omega)
                have f2 := ha.free 4 (by omega)
                have hDv := val4_limb HD.out
                rw [hDv] at hv'
                have hc' := c64_le (hf' 4) (show 0 < 2 ^ 64 by decide) hc
                have Hv' := Lib.hid hv'
                have Hf' := Lib.hid hf'
                have hcI : (c64 (f' 4) 0 c : Int) ≤ 1 := by omega
                clear hv' hf' hDv
                go_wp2
                go_roundw
                case rel =>
                  refine ⟨g - 1, 1 - c64 (f' 4) 0 c, upd f' 4 (s64 (f' 4) 0 c), by congr 1; omega, by have := Hg.out; omega, by have := Hbig.out; omega, by congr 1; have := He.out; omega, by omega, upd_lt Hf'.out (s64_lt _ _ _), ?_, ha.set (by omega), hm.set⟩
                  exact nw_fix_math Hv.out Hv'.out (val_upd_at f' _ (show 4 < 5 by omega)) (sc64 (f' 4) 0 c) hg1 hc'
                case measure => simp [intOf]; omega
end Go.Proofs.YtomhbggfdjooaaaDoor
