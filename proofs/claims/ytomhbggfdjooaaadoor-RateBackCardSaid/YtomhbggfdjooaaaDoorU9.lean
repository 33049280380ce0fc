/- u256.nextWord, walked. -/
import Derived.Test.YtomhbggfdjooaaaDoorU2
import Derived.Test.YtomhbggfdjooaaaDoorU4
import Derived.Test.YtomhbggfdjooaaaDoorU7
import Derived.Test.YtomhbggfdjooaaaDoorU8
namespace Go.Proofs.YtomhbggfdjooaaaDoor
open Go.RowKit

theorem run_add64y (x c : Nat) (hc : c ≤ 1) (w : World) :
    (callFunc 53 #[.int .u64 (x : Nat), .int .u64 0, .int .u64 (c : Nat)]).run Tryd.prog w =
      .ok (.value (.tuple #[.int .u64 (s64 x 0 c : Nat), .int .u64 (c64 x 0 c : Nat)])) w := run_add64n x 0 c hc w

/-- the words of R * 2^64 + n -/
def withNext (n R : Nat) : Nat → Nat
  | 0 => n
  | i + 1 => limb R i
theorem val_withNext {n R : Nat} (hR : R < 2 ^ 256) : val (withNext n R) 5 = R * 2 ^ 64 + n := by
  have h := val4_limb hR
  simp only [val] at h ⊢
  simp only [withNext]
  omega
theorem withNext_lt {n R : Nat} (hn : n < 2 ^ 64) : ∀ i, withNext n R i < 2 ^ 64
  | 0 => hn
  | _ + 1 => limb_lt _ _

structure NwMem (w wr : World) (R D L : Nat) : Prop where
  r : Arr .u64 wr w.heap.size 4 (limb R)
  d : Arr .u64 wr (w.heap.size + 1) 4 (limb D)
  z : Arr .u64 wr (w.heap.size + 1 + 1) 4 (fun _ => 0)
  b : Below w.heap.size w wr
  l : w.heap.size + 1 + 1 < L
  s : L < wr.heap.size

theorem NwMem.drewN {w wr : World} {R D L : Nat} (h : NwMem w wr R D L) (n : Nat) : NwMem w (wr.drewN n) R D L :=
  ⟨h.r.drewN n, h.d.drewN n, h.z.drewN n, below_drewN h.b n, h.l, h.s⟩
theorem NwMem.set {w wr : World} {R D L k : Nat} {v : Value} (h : NwMem w wr R D L) : NwMem w (wr.setCell ⟨L, k, none⟩ v) R D L :=
  ⟨h.r.set_far (by have := h.l; omega), h.d.set_far (by have := h.l; omega), h.z.set_far (by have := h.l; omega), h.b.setCell (by have := h.l; simp; omega) _, h.l, by rw [World.size_setCell]; exact h.s⟩

/-- the guess is subtracted: the state at the head of that loop -/
def NwSub (w : World) (R D L g X : Nat) (c b i : Value) (wr : World) : Prop :=
  ∃ (k d e : Nat) (f : Nat → Nat), k ≤ 4 ∧ i = .int .i64 (k : Nat) ∧ c = .int .u64 (d : Nat) ∧ d < 2 ^ 64 ∧ b = .int .u64 (e : Nat) ∧ e ≤ 1 ∧ (∀ j, f j < 2 ^ 64) ∧
    val f 5 + val (limb D) k * g = X + (e + d) * 2 ^ (64 * k) ∧ Arr .u64 wr L 5 f ∧ NwMem w wr R D L
/-- the guess is put right: the state at the head of that loop -/
def NwFix (w : World) (R D L X : Nat) (gv b : Value) (wr : World) : Prop :=
  ∃ (g e : Nat) (f : Nat → Nat), gv = .int .u64 (g : Nat) ∧ g < 2 ^ 64 ∧ X / D ≤ g ∧ b = .int .u64 (e : Nat) ∧ e ≤ 1 ∧ (∀ j, f j < 2 ^ 64) ∧
    val f 5 + D * g = X + e * (2 ^ 64 * 2 ^ 256) ∧ Arr .u64 wr L 5 f ∧ NwMem w wr R D L
/-- the divisor is added: the state at the head of that loop -/
def NwAdd (w : World) (R D L V : Nat) (c i : Value) (wr : World) : Prop :=
  ∃ (k d : Nat) (f : Nat → Nat), k ≤ 4 ∧ i = .int .i64 (k : Nat) ∧ c = .int .u64 (d : Nat) ∧ d ≤ 1 ∧ (∀ j, f j < 2 ^ 64) ∧
    val f 5 + d * 2 ^ (64 * k) = V + val (limb D) k ∧ Arr .u64 wr L 5 f ∧ NwMem w wr R D L

theorem top_word {D : Nat} (h : D < 2 ^ 256) : limb D 3 * 2 ^ 192 ≤ D ∧ D < (limb D 3 + 1) * 2 ^ 192 := by
  have e : limb D 3 = D / 2 ^ 192 := by
    unfold limb; rw [Nat.mod_eq_of_lt]; exact (Nat.div_lt_iff_lt_mul (by decide)).2 h
  rw [e]; omega
theorem top_big {D : Nat} (h : D < 2 ^ 256) (h2 : 2 ^ 255 ≤ D) : 2 ^ 63 ≤ limb D 3 := by have := (top_word h).2; omega
theorem guess_over {R n D : Nat} (hR : R < D) (hD : D < 2 ^ 256) (hDn : 2 ^ 255 ≤ D) (hn : n < 2 ^ 64) (hc : limb R 3 < limb D 3) :
    (R * 2 ^ 64 + n) / D ≤ dq (limb R 3) (limb R 2) (limb D 3) ∧ dq (limb R 3) (limb R 2) (limb D 3) < 2 ^ 64 := by
  have h3 := top_big hD hDn
  refine ⟨word_over (P := 2 ^ 192) (by decide) ?_ (top_word hD).1 (by omega), quot_lt hc (limb_lt _ _)⟩
  have h := val4_limb (show R < 2 ^ 256 by omega)
  simp only [val] at h
  have l0 := limb_lt R 0
  have l1 := limb_lt R 1
  omega
theorem guess_most {R n D : Nat} (hR : R < D) (hn : n < 2 ^ 64) : (R * 2 ^ 64 + n) / D ≤ 18446744073709551615 := by
  have := quot_lt (B := 18446744073709551616) hR hn
  exact Nat.le_of_lt_succ this

theorem nw_step {x g d e fi : Nat} (hx : x < 2 ^ 64) (hg : g < 2 ^ 64) (hd : d < 2 ^ 64) (he : e ≤ 1) (hf : fi < 2 ^ 64) :
    mh x g + c64 (ml x g) d 0 < 2 ^ 64 ∧ r64 fi (s64 (ml x g) d 0) e + x * g + (e + d) = fi + (b64 fi (s64 (ml x g) d 0) e + (mh x g + c64 (ml x g) d 0)) * 2 ^ 64 := by
  have h1 := mhl x g
  have h2 := sc64 (ml x g) d 0
  have h3 := rb64 fi (s64 (ml x g) d 0) e hf (s64_lt _ _ _) he
  have h4 : x * g ≤ (2 ^ 64 - 1) * (2 ^ 64 - 1) := Nat.mul_le_mul (by omega) (by omega)
  generalize s64 (ml x g) d 0 = s1 at *
  generalize r64 fi s1 e = r at *
  generalize b64 fi s1 e = b at *
  generalize c64 (ml x g) d 0 = c1 at *
  generalize x * g = xg at *
  omega
theorem nw_sub_math {v v' fi r vD g X e d P x B M : Nat} (hv : v' + fi * P = v + r * P) (h : v + vD * g = X + (e + d) * P) (hs : r + x * g + (e + d) = fi + B * M) :
    v' + (vD + x * P) * g = X + B * (M * P) := by
  have h1 := congrArg (· * P) hs
  simp only [Nat.add_mul] at h1 h
  have e1 : (vD + x * P) * g = vD * g + x * g * P := by rw [Nat.add_mul, Nat.mul_right_comm]
  rw [e1, ← Nat.mul_assoc]
  omega

theorem nw_done {f : Nat → Nat} {X D g e : Nat} (he : e = 0) (hv : val f 5 + D * g = X + e * (2 ^ 64 * 2 ^ 256)) (hg : X / D ≤ g) (hD : D < 2 ^ 256) (hD0 : 0 < D) : g = X / D ∧ val f 4 = X % D := by
  rw [he, Nat.zero_mul, Nat.add_zero] at hv
  have h1 : g ≤ X / D := (Nat.le_div_iff_mul_le hD0).2 (by rw [Nat.mul_comm]; omega)
  have h2 : g = X / D := Nat.le_antisymm h1 hg
  have h3 := Nat.div_add_mod X D
  rw [← h2] at h3
  have h4 := Nat.mod_lt X hD0
  have h5 : val f 5 = val f 4 + f 4 * 2 ^ (64 * 4) := rfl
  refine ⟨h2, ?_⟩
  have h6 : f 4 = 0 := by
    rcases Nat.eq_zero_or_pos (f 4) with h | h
    · exact h
    · have := Nat.mul_le_mul_right (2 ^ (64 * 4)) h; omega
  rw [h6] at h5
  omega
theorem nw_big {f : Nat → Nat} {X D g : Nat} (hv : val f 5 + D * g = X + 1 * (2 ^ 64 * 2 ^ 256)) (hf : ∀ j, f j < 2 ^ 64) (hD0 : 0 < D) : X / D < g := by
  have h : val f 5 < 2 ^ 64 * 2 ^ (64 * 4) := val_lt' 4 hf
  refine (Nat.div_lt_iff_lt_mul hD0).2 ?_
  rw [Nat.mul_comm]
  generalize val f 5 = v at *
  omega
theorem nw_fix_math {v v' V D g X s x4 d c' : Nat} (hv : V + D * g = X + 1 * (2 ^ 64 * 2 ^ 256)) (h : v + d * 2 ^ 256 = V + D) (h4 : v' + x4 * 2 ^ 256 = v + s * 2 ^ 256) (hs : s + c' * 2 ^ 64 = x4 + 0 + d) (hg : 1 ≤ g) (hc : c' ≤ 1) :
    v' + D * (g - 1) = X + (1 - c') * (2 ^ 64 * 2 ^ 256) := by
  obtain ⟨k, rfl⟩ : ∃ k, g = k + 1 := ⟨g - 1, by omega⟩
  rw [Nat.mul_add, Nat.mul_one] at hv
  simp only [Nat.add_sub_cancel]
  generalize D * k = Dk at *
  omega

def NwPost (R n D : Nat) (w : World) (e : Ending) (w' : World) : Prop :=
  e = .returned (.tuple #[.int .u64 ((R * 2 ^ 64 + n) / D : Nat), U ((R * 2 ^ 64 + n) % D)]) ∧ Below w.heap.size w w'

set_option maxRecDepth 100000 in
set_option maxHeartbeats 2000000 in
theorem nw_walk (R n D : Nat) (w : World) (hR : R < D) (hD : D < 2 ^ 256) (hDn : 2 ^ 255 ≤ D) (hn : n < 2 ^ 64) :
    Calls Tryd.prog 57 #[U R, .int .u64 (n : Nat), U D] w (NwPost R n D w) := by
  have hadd := run_add64n
  have haddz := run_add64z
  have haddy := run_add64y
  have hsub := run_sub64n
  have HR := Lib.hid hR
  have HD := Lib.hid hD
  have HDn := Lib.hid hDn
  have Hn := Lib.hid hn
  clear hR hD hDn hn
  obtain ⟨X, hX⟩ : ∃ x, x = R * 2 ^ 64 + n := ⟨_, rfl⟩
  have HX := Lib.hid hX
  clear hX
  unfold U
  go_enter Tryd.func57, Tryd.ntmps57
  go_upto_if 22 with (fail)
  go_cut [8] (fun g wx => ∃ g' : Nat, g = .int .u64 (g' : Nat) ∧ Hid (X / D ≤ g' ∧ g' < 2 ^ 64) ∧ Arr .u64 wx w.heap.size 4 (limb R) ∧ Arr .u64 wx (w.heap.size + 1) 4 (limb D) ∧ Arr .u64 wx (w.heap.size + 1 + 1) 4 (fun _ => 0) ∧ Below w.heap.size w wx ∧ wx.heap.size = w.heap.size + 1 + 1 + 1)
  case first =>
    have hd3 := Lib.hid (top_big HD.out HDn.out)
    by_cases hc : limb R 3 < limb D 3
    · have hcI : (limb R 3 : Int) < (limb D 3 : Int) := by omega
      go_wp2_with (go_at_call 60; refine (div64_walk _ _ _ _ hd3.out (limb_lt _ _) hc (limb_lt _ _)).mono ?_; rintro e w' ⟨rfl, m, rfl⟩)
      go_meet
      case rel =>
        refine ⟨_, rfl, Lib.hid (by rw [HX.out]; exact guess_over HR.out HD.out HDn.out Hn.out hc), ?_, ?_, ?_, ?_, ?_⟩
        · exact (((Arr.new4 (f := limb R) rfl).alloc _).alloc _).drewN _
        · exact ((Arr.new4 (f := limb D) (by simp)).alloc _).drewN _
        · exact (Arr.new4 (f := fun _ => 0) (by simp)).drewN _
        · exact below_drewN ((((Below.refl _ _).alloc (Nat.le_refl _) _).alloc (by simp only [World.size_alloc]; omega) _).alloc (by simp only [World.size_alloc]; omega) _) _
        · simp
    · have hcI : ¬ (limb R 3 : Int) < (limb D 3 : Int) := by omega
      go_wp2
      go_meet
      case rel =>
        refine ⟨18446744073709551615, rfl, Lib.hid ⟨by rw [HX.out]; exact guess_most HR.out Hn.out, by decide⟩, ?_, ?_, ?_, ?_, ?_⟩
        · exact ((Arr.new4 (f := limb R) rfl).alloc _).alloc _
        · exact (Arr.new4 (f := limb D) (by simp)).alloc _
        · exact Arr.new4 (f := fun _ => 0) (by simp)
        · exact (((Below.refl _ _).alloc (Nat.le_refl _) _).alloc (by simp only [World.size_alloc]; omega) _).alloc (by simp only [World.size_alloc]; omega) _
        · simp
  case rest =>
    obtain ⟨g, rfl, Hg, hr, hd, hz, hbel, hsz⟩ := hcut
    obtain ⟨r0, r1, r2, r3⟩ := hr.cells4
    go_wp2
    go_loopw [10, 11, 43] (NwSub w R D (w.heap.size + 1 + 1 + 1) g X) (fun _ _ i _ => 4 - (intOf i).toNat)
    case atStart =>
      refine ⟨0, 0, 0, withNext n R, by omega, rfl, rfl, by omega, rfl, by omega, withNext_lt Hn.out, ?_, ?_, ⟨hr.alloc _, hd.alloc _, hz.alloc _, hbel.alloc (by omega) _, by omega, by rw [World.size_alloc]; omega⟩⟩
      · rw [val_withNext (by have := HR.out; have := HD.out; omega), HX.out]; simp only [val]; omega
      · rw [← hsz]
        refine Arr.alloc_new _ _ _ fun i hi => ?_
        rcases (by omega : i = 0 ∨ i = 1 ∨ i = 2 ∨ i = 3 ∨ i = 4) with rfl | rfl | rfl | rfl | rfl <;> rfl
    case round =>
      clear r0 r1 r2 r3 hr hd hz hbel hsz
      obtain ⟨k, d, e, f, hk, rfl, rfl, hdl, rfl, hel, hf, hv, ha, hm⟩ := hrel
      by_cases hlt : k < 4
      · have d1 := hm.d.cell k hlt
        have f1 := ha.cell k (by omega)
        have f2 := ha.free k (by omega)
        have st := nw_step (limb_lt D k) Hg.out.2 hdl hel (hf k)
        have wd : IntKind.u64.wrap ((mh (limb D k) g : Int) + (c64 (ml (limb D k) g) d 0 : Int)) = ((mh (limb D k) g + c64 (ml (limb D k) g) d 0 : Nat) : Int) := by
          rw [← Int.natCast_add, wrap_u64 st.1]
        have St := Lib.hid st
        have Hv := Lib.hid hv
        have Hf := Lib.hid hf
        have Hdl := Lib.hid hdl
        clear st hv hf hdl
        go_wp2_with (go_at_call 61; refine (mul64_c _ _ (limb_lt _ _) Hg.out.2 _).mono ?_; rintro e w' ⟨rfl, rfl⟩)
        go_roundw
        case rel =>
          refine ⟨k + 1, mh (limb D k) g + c64 (ml (limb D k) g) d 0, b64 (f k) (s64 (ml (limb D k) g) d 0) e, upd f k (r64 (f k) (s64 (ml (limb D k) g) d 0) e), by omega, by go_num, by rw [Int.natCast_add], St.out.1, rfl, b64_le _ _ _, upd_lt Hf.out (r64_lt _ _ _), ?_, ha.set (by omega), hm.set⟩
          rw [pow_succ64]
          exact nw_sub_math (val_upd_at f _ (show k < 5 by omega)) Hv.out St.out.2
        case measure => simp [intOf]; omega
      · have hk4 : k = 4 := by omega
        have hkI : ¬ (k : Int) < 4 := by omega
        have f1 := ha.cell 4 (by omega)
        have f2 := ha.free 4 (by omega)
        have hDv := val4_limb HD.out
        rw [hk4, hDv] at hv
        clear hk4
        have Hv := Lib.hid hv
        have Hf := Lib.hid hf
        have Hdl := Lib.hid hdl
        clear hv hf hdl hDv
        go_wp2
        go_loopw [8, 11] (NwFix w R D (w.heap.size + 1 + 1 + 1) X) (fun g _ _ => (intOf g).toNat)
        case atStart =>
          refine ⟨g, b64 (f 4) d e, upd f 4 (r64 (f 4) d e), rfl, Hg.out.2, Hg.out.1, rfl, b64_le _ _ _, upd_lt Hf.out (r64_lt _ _ _), ?_, ha.set (by omega), hm.set⟩
          have h1 := val_upd_at f (r64 (f 4) d e) (show 4 < 5 by omega)
          have h2 := rb64 (f 4) d e (Hf.out 4) Hdl.out hel
          have h3 := Hv.out
          generalize D * g = Dg at *
          generalize val f 5 = v at *
          generalize val (upd f 4 (r64 (f 4) d e)) 5 = v' at *
          omega
        case round =>
          clear hk hlt ha hm Hf Hdl Hv f1 f2 hel
          obtain ⟨g, e, f, rfl, hg, hge, rfl, hel, hf, hv, ha, hm⟩ := hrel
          by_cases he : e = 0
          · have ht : ((e : Int) != 0) = false := by rw [he]; rfl
            have dn := nw_done he hv hge HD.out (by have := HDn.out; omega)
            have Dn := Lib.hid dn
            have Hf := Lib.hid hf
            obtain ⟨y0, y1, y2, y3⟩ := hm.z.frees4
            obtain ⟨z0, z1, z2, z3⟩ := hm.z.cells4
            have f0 := ha.cell 0 (by omega)
            have f1 := ha.cell 1 (by omega)
            have f2 := ha.cell 2 (by omega)
            have f3 := ha.cell 3 (by omega)
            clear hv hge hg hf dn he
            go_wp2
            go_region
            all_goals
              go_wp2
              refine bodyPost_ret (v := .tuple #[.int .u64 (g : Nat), .agg #[.int .u64 (f 0 : Nat), .int .u64 (f 1 : Nat), .int .u64 (f 2 : Nat), .int .u64 (f 3 : Nat)]]) (by simp [results, Tryd.results57, go_sem, z0, z1, z2, z3]) rfl ⟨?_, below_set4 (below_drewN hm.b 1) (by omega)⟩
              rw [U_of Hf.out, Dn.out.2, Dn.out.1, HX.out]
          · have he1 : e = 1 := by omega
            have ht : ((e : Int) != 0) = true := by rw [bne_iff_ne]; omega
            rw [he1] at hv
            have hbig := nw_big hv hf (by have := HDn.out; omega)
            have hg1 : 1 ≤ g := by have := Nat.lt_of_le_of_lt (Nat.zero_le _) hbig; omega
            have eI : (1 : Int) ≤ (e : Int) := by omega
            have He := Lib.hid he1
            clear he1
            have h1q : (1 : Int) ≤ (g : Int) := by omega
            have gq : (g : Int) ≤ 18446744073709551615 := by omega
            have Hg := Lib.hid hg
            have Hbig := Lib.hid hbig
            have Hv := Lib.hid hv
            have Hf := Lib.hid hf
            clear hg hbig hge hv hf he
            go_wp2
            go_loopw [16, 88] (NwAdd w R D (w.heap.size + 1 + 1 + 1) (val f 5)) (fun _ i _ => 4 - (intOf i).toNat)
            case atStart => exact ⟨0, 0, f, by omega, rfl, rfl, by omega, Hf.out, by simp only [val], ha, hm⟩
            case round =>
              clear ha hm
              obtain ⟨j, c, f', hj, rfl, rfl, hc, hf', hv', ha, hm⟩ := hrel
              by_cases hjl : j < 4
              · have d1 := hm.d.cell j hjl
                have f1 := ha.cell j (by omega)
                have f2 := ha.free j (by omega)
                have Hv' := Lib.hid hv'
                have Hf' := Lib.hid hf'
                clear hv' hf'
                go_wp2
                go_region_with (fail)
                all_goals
                  go_wp2
                  go_roundw
                  case rel =>
                    refine ⟨j + 1, c64 (f' j) (limb D j) c, upd f' j (s64 (f' j) (limb D j) c), by omega, by go_num, rfl, c64_le (Hf'.out j) (limb_lt _ _) hc, upd_lt Hf'.out (s64_lt _ _ _), ?_, ha.drew.set (by omega), (hm.drewN 1).set⟩
                    have h1 := val_upd_at f' (s64 (f' j) (limb D j) c) (show j < 5 by omega)
                    have h2 := congrArg (· * 2 ^ (64 * j)) (sc64 (f' j) (limb D j) c)
                    have h3 := Hv'.out
                    have e1 : val (limb D) (j + 1) = val (limb D) j + limb D j * 2 ^ (64 * j) := rfl
                    rw [pow_succ64, e1]
                    simp only [Nat.add_mul, Nat.mul_assoc] at h2
                    omega
                  case measure => simp [intOf]; omega
              · obtain rfl : j = 4 := by omega
                have f1 := ha.cell 4 (by omega)
                have f2 := ha.free 4 (by omega)
                have hDv := val4_limb HD.out
                rw [hDv] at hv'
                have hc' := c64_le (hf' 4) (show 0 < 2 ^ 64 by decide) hc
                have Hv' := Lib.hid hv'
                have Hf' := Lib.hid hf'
                have hcI : (c64 (f' 4) 0 c : Int) ≤ 1 := by omega
                clear hv' hf' hDv
                go_wp2
                go_roundw
                case rel =>
                  refine ⟨g - 1, 1 - c64 (f' 4) 0 c, upd f' 4 (s64 (f' 4) 0 c), by congr 1; omega, by have := Hg.out; omega, by have := Hbig.out; omega, by congr 1; have := He.out; omega, by omega, upd_lt Hf'.out (s64_lt _ _ _), ?_, ha.set (by omega), hm.set⟩
                  exact nw_fix_math Hv.out Hv'.out (val_upd_at f' _ (show 4 < 5 by omega)) (sc64 (f' 4) 0 c) hg1 hc'
                case measure => simp [intOf]; omega
end Go.Proofs.YtomhbggfdjooaaaDoor
