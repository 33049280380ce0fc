/- muldiv.Quo, walked where it divides for long. -/
import Derived.Test.YtoaepgiajooecaaGreatG37
import Derived.Test.YtoaepgiajooecaaGreatG24
import Derived.Test.YtoaepgiajooecaaGreatG25
import Derived.Test.YtoaepgiajooecaaGreatG20
import Derived.Laws.BytesArg
import Derived.Deep.DeepCutAuto
import Derived.Deep.CutBlock
import Derived.Deep.RegionHeld3
namespace Go.Proofs.YtoaepgiajooecaaGreat
open Go.RowKit

theorem wh_cells {w : World} {b H L : Nat} (h : Arr .u64 w b 8 (wh H L)) :
    w.cell? ⟨b, 0, none⟩ = some (.int .u64 (limb H 0 : Nat)) ∧ w.cell? ⟨b, 1, none⟩ = some (.int .u64 (limb H 1 : Nat)) ∧ w.cell? ⟨b, 2, none⟩ = some (.int .u64 (limb H 2 : Nat)) ∧ w.cell? ⟨b, 3, none⟩ = some (.int .u64 (limb H 3 : Nat)) ∧
    w.cell? ⟨b, 4, none⟩ = some (.int .u64 (limb L 0 : Nat)) ∧ w.cell? ⟨b, 5, none⟩ = some (.int .u64 (limb L 1 : Nat)) ∧ w.cell? ⟨b, 6, none⟩ = some (.int .u64 (limb L 2 : Nat)) ∧ w.cell? ⟨b, 7, none⟩ = some (.int .u64 (limb L 3 : Nat)) := h.cells8
theorem field_low (x0 x1 x2 x3 x4 x5 x6 x7 : Int) (w : World) :
    (Instr.field 107 (.agg #[.int .u64 x0, .int .u64 x1, .int .u64 x2, .int .u64 x3, .int .u64 x4, .int .u64 x5, .int .u64 x6, .int .u64 x7]) 1).run Tryz.prog w = .ok (.agg #[.int .u64 x4, .int .u64 x5, .int .u64 x6, .int .u64 x7]) w := by
  kernel_rfl
theorem wl_low {A i : Nat} : wl A (4 + i) = limb A i := by unfold wl; rw [if_neg (by omega), Nat.add_sub_cancel_left]

set_option maxRecDepth 100000 in
set_option maxHeartbeats 4000000 in
theorem quo_walk_c (H L d : Nat) (w : World) (hH : H < 2 ^ 256) (hL : L < 2 ^ 256) (hd : d < 2 ^ 256) (hH0 : H ≠ 0) (hlt : H < d) :
    Calls Tryz.prog 60 #[WW H L, U d] w (QuoPost (H * 2 ^ 256 + L) d w) := by
  have heq := fun w => eqW_run L hH w
  have hdec : decide (H = 0) = false := decide_eq_false hH0
  have hd0 : d ≠ 0 := by omega
  have hyes : quoOk (H * 2 ^ 256 + L) d := ⟨hd0, (quo_iff hL hd0).2 hlt⟩
  obtain ⟨c, hc⟩ : ∃ c, c = cmpU H d := ⟨_, rfl⟩
  have hc0 : ¬ (0 : Int) ≤ c := by rw [hc, cmpU_ge]; omega
  obtain ⟨n, hn⟩ : ∃ n, n = H * 2 ^ 256 + L := ⟨_, rfl⟩
  have hnd : n < d * 2 ^ 256 := by
    have := Nat.mul_le_mul_right (2 ^ 256) (show H + 1 ≤ d from hlt)
    rw [hn]; omega
  obtain ⟨s, hs⟩ : ∃ s, s = 256 - blen d := ⟨_, rfl⟩
  have hbl : blen d ≤ 256 := blen_le hd
  have hb1 : 1 ≤ blen d := by rw [blen_pos hd0]; omega
  have es : (256 : Int) - (blen d : Int) = (s : Int) := by omega
  have hs' : s < 256 := by omega
  obtain ⟨D, hD⟩ : ∃ D, D = d * 2 ^ s := ⟨_, rfl⟩
  obtain ⟨A, hA⟩ : ∃ A, A = n * 2 ^ s := ⟨_, rfl⟩
  have hDl : D < 2 ^ 256 := by
    rw [hD, show 256 = blen d + s by omega, Nat.pow_add]
    exact Nat.mul_lt_mul_of_pos_right (lt_blen d) (Nat.pow_pos (by decide))
  have hDn : 2 ^ 255 ≤ D := by
    rw [hD, show 255 = blen d - 1 + s by omega, Nat.pow_add]
    exact Nat.mul_le_mul_right _ (by rw [blen_pos hd0]; exact Nat.log2_self_le hd0)
  have hAD : A / 2 ^ 256 < D := by
    refine (Nat.div_lt_iff_lt_mul (by decide)).2 ?_
    rw [hA, hD, Nat.mul_right_comm]
    exact Nat.mul_lt_mul_of_pos_right hnd (Nat.pow_pos (by decide))
  rw [← hn]
  rw [← hn] at hyes
  have HH := Lib.hid hH
  have HLl := Lib.hid hL
  have Hd := Lib.hid hd
  have Hd0 := Lib.hid hd0
  have Hyes := Lib.hid hyes
  have Hc := Lib.hid hc
  have Hn := Lib.hid hn
  have HD := Lib.hid hD
  have HA := Lib.hid hA
  have HDl := Lib.hid hDl
  have HDn := Lib.hid hDn
  have HAD := Lib.hid hAD
  clear hH hL hd hd0 hyes hc hn hs hD hA hDl hDn hbl hb1 hAD hnd hH0 hlt
  have hfl := field_low
  unfold U WW
  go_enter Tryz.func60, Tryz.ntmps60
  go_wp2_with (first
    | (go_at_call 81; refine (bits_walk d _ Hd.out).mono ?_; rintro e w2 ⟨rfl, hb2⟩; obtain ⟨c0, c1, c2, c3⟩ := (m2.below hb2 (by omega)).cells4)
    | (go_at_call 58; refine (cmp_walk H d _ HH.out Hd.out).mono ?_; rintro e w1 ⟨rfl, hb1⟩; obtain ⟨m1, m2, m3, m4, m5⟩ := quo_first (by simpa using hb1); have z0 : w.heap.size + 1 + 1 + 1 + 1 ≤ w1.heap.size := (by have := hb1.size; simpa using this); obtain ⟨k0, k1, k2, k3⟩ := m2.cells4; rw [← Hc.out]))
  refine (shlw0_walk d s _ Hd.out hs').mono ?_
  rintro e w3 ⟨rfl, hb3⟩
  rw [← HD.out]
  unfold W2
  have z1 : w1.heap.size ≤ w2.heap.size := hb2.size
  have z2 : w2.heap.size ≤ w3.heap.size := hb3.size
  have n1 := (m1.below hb2 (by omega)).below hb3 (by omega)
  have n3 := (m3.below hb2 (by omega)).below hb3 (by omega)
  have n4 := (m4.below hb2 (by omega)).below hb3 (by omega)
  have n5 := (m5.trans (hb2.mono (by omega))).trans (hb3.mono (by omega))
  have z3 : w.heap.size + 1 + 1 + 1 < w3.heap.size := by omega
  have z6 : w.heap.size < w3.heap.size := by omega
  clear c0 c1 c2 c3 k0 k1 k2 k3 m1 m2 m3 m4 m5 hb1 hb2 hb3 z0 z1 z2
  obtain ⟨a0, a1, a2, a3, a4, a5, a6, a7⟩ := wh_cells n1
  go_wp2_with fail
  refine (shlwH_walk H L s _ HLl.out hs').mono ?_
  rintro e w5 ⟨rfl, hb5⟩
  rw [← Hn.out, ← HA.out]
  unfold W2
  go_wp2_with fail
  have z5 : w3.heap.size + 1 ≤ w5.heap.size := by have := hb5.size; simpa using this
  obtain ⟨L8, hL8⟩ : ∃ n, n = w3.heap.size := ⟨_, rfl⟩
  obtain ⟨L9, hL9⟩ : ∃ n, n = w5.heap.size := ⟨_, rfl⟩
  obtain ⟨L10, hL10⟩ : ∃ n, n = w5.heap.size + 1 := ⟨_, rfl⟩
  obtain ⟨L11, hL11⟩ : ∃ n, n = w5.heap.size + 1 + 1 := ⟨_, rfl⟩
  obtain ⟨R0, hR0⟩ : ∃ r, r = A / 2 ^ 256 := ⟨_, rfl⟩
  have er : ∀ i, i < 4 → limb A (4 + i) = limb R0 i := fun i _ => by rw [hR0]; exact (limb_div A i 4).symm
  have mem : WDivMem w (((w5.alloc (.cells #[.int .u64 (limb A 4 : Nat), .int .u64 (limb A 5 : Nat), .int .u64 (limb A 6 : Nat), .int .u64 (limb A 7 : Nat), .int .u64 (limb A 0 : Nat), .int .u64 (limb A 1 : Nat), .int .u64 (limb A 2 : Nat), .int .u64 (limb A 3 : Nat)] 107)).alloc (.cells #[.int .u64 (limb A 4 : Nat), .int .u64 (limb A 5 : Nat), .int .u64 (limb A 6 : Nat), .int .u64 (limb A 7 : Nat)] 44)).alloc (.cells #[.int .u64 0, .int .u64 0, .int .u64 0, .int .u64 0] 44)) D A R0 L8 L9 L10 L11 (fun _ => 0) := by
    refine ⟨?_, ?_, ?_, ?_, ?_, ?_, ?_, by omega, by omega, by omega, by omega, by rw [hL11]; simp⟩
    · exact ((((n3.alloc _).below hb5 (by simp only [World.size_alloc]; omega)).alloc _).alloc _).alloc _
    · exact ((((n4.alloc _).below hb5 (by simp only [World.size_alloc]; omega)).alloc _).alloc _).alloc _
    · exact ((((Arr.new4 (f := limb D) (by omega)).below hb5 (by simp only [World.size_alloc]; omega)).alloc _).alloc _).alloc _
    · exact ((Arr.newW (by omega)).alloc _).alloc _
    · exact Arr.congr ((Arr.new4 (f := fun i => limb A (4 + i)) (by simp only [World.size_alloc]; omega)).alloc _) er
    · exact Arr.new4 (f := fun _ => 0) (by simp only [World.size_alloc]; omega)
    · exact ((((n5.alloc (by omega) _).trans (hb5.mono (by simp only [World.size_alloc]; omega))).alloc (by omega) _).alloc (by simp only [World.size_alloc]; omega) _).alloc (by simp only [World.size_alloc]; omega) _
  rw [← hL11, ← hL10, ← hL9, ← hL8]
  have HL : Hid (0 < D) := Lib.hid (by have := HDn.out; omega)
  have Mem := Lib.hid mem
  have HR0 := Lib.hid hR0
  clear mem a0 a1 a2 a3 a4 a5 a6 a7 z3 z5 z6 hL8 hL9 hL10 hL11 n1 n3 n4 n5 hb5 er hR0
  go_loopw [46] (WDivRel w D A L8 L9 L10 L11) (fun i _ => 4 - (intOf i).toNat)
  case atStart =>
    have hAD := HAD.out
    rw [← HR0.out] at hAD
    refine ⟨0, R0, fun _ => 0, by omega, rfl, by simp, by simp, ?_, ?_, Mem.out⟩
    · show R0 = A / 2 ^ 256 % D
      rw [← HR0.out, Nat.mod_eq_of_lt hAD]
    · show val (fun _ => 0) 4 = A / 2 ^ 256 / D * 2 ^ 256
      rw [← HR0.out, Nat.div_eq_of_lt hAD, val_zero, Nat.zero_mul]
  case round =>
    obtain ⟨k, R, q, hk, rfl, hq, hq0, hR, hv, mem⟩ := hrel
    by_cases hlt : k < 4
    · have hRD : R < D := by rw [hR]; exact Nat.mod_lt _ HL.out
      obtain ⟨d0, d1, d2, d3⟩ := mem.d.cells4
      obtain ⟨r0, r1, r2, r3⟩ := mem.r.cells4
      have n1 := mem.a.cell (4 + (3 - k)) (by omega)
      rw [wl_low] at n1
      have ne1 : L10 ≠ L11 := by have := mem.o4; omega
      have ne2 : L11 ≠ L10 := by have := mem.o4; omega
      have i1 : IntKind.i64.wrap (3 - (k : Int)) = 3 - (k : Int) := IntWalk.i64_in _ (by omega)
      have i2 : (3 : Int) - (k : Int) = ((3 - k : Nat) : Int) := by omega
      have i4 : ((3 - k : Nat) : Int) < 4 := by omega
      have Hq := Lib.hid hq
      have Hq0 := Lib.hid hq0
      have HRD := Lib.hid hRD
      have HR := Lib.hid hR
      have Hv := Lib.hid hv
      clear hq hq0 hRD hR hv
      go_wp2
      go_region_with (go_at_call 83; refine (wnw_walk R (limb A (3 - k)) D _ HRD.out HDl.out HDn.out (limb_lt _ _)).mono ?_; rintro e w' ⟨rfl, hb⟩; obtain ⟨X, hX⟩ : ∃ x, x = R * 2 ^ 64 + limb A (3 - k) := ⟨_, rfl⟩; rw [← hX]; obtain ⟨qn, hqn⟩ : ∃ x, x = X / D := ⟨_, rfl⟩; obtain ⟨Rn, hRn⟩ : ∃ x, x = X % D := ⟨_, rfl⟩; rw [← hqn, ← hRn]; obtain ⟨y0, y1, y2, y3⟩ := ((mem.drewN 1).below hb).r.frees4; have yq := ((mem.drewN 1).below hb).q.free (3 - k) (by omega); have xq := ((mem.drewN 1).below hb).q.cell (3 - k) (by omega); obtain ⟨x0, x1, x2, x3⟩ := ((mem.drewN 1).below hb).r.cells4; have st := Lib.hid (div_round hlt HL.out HR.out Hv.out Hq0.out hX hqn hRn); have mm := Lib.hid (((mem.drewN 1).below hb).step (k := 3 - k) (v := qn) (R' := Rn) (by omega)); clear hX hqn hRn; unfold U)
      all_goals
        go_wp2
        go_roundw
        case rel => exact ⟨k + 1, _, _, by omega, by go_num, upd_lt Hq.out st.out.1, st.out.2.1, st.out.2.2.1, st.out.2.2.2, mm.out⟩
        case measure => simp [intOf]; omega
    · have hk4 : k = 4 := by omega
      have hkI : ¬ (k : Int) < 4 := by omega
      rw [hk4] at hR hv
      have fin := div_end Hd0.out HA.out HD.out hR hv
      have hq' : Arr .u64 wr L11 4 (limb (n / d)) := mem.q.congr fun i hi => by rw [← fin.1, limb_val 4 (fun i _ => hq i) i hi]
      have hR256 : R < 2 ^ 256 := by have := HDl.out; have := Nat.mod_lt (A / 2 ^ (64 * (4 - 4))) HL.out; rw [← hR] at this; omega
      have HR256 := Lib.hid hR256
      have Fin := Lib.hid fin
      clear hq hq0 hR hv hk4 hR256 fin
      obtain ⟨q0, q1, q2, q3⟩ := hq'.cells4
      obtain ⟨r0, r1, r2, r3⟩ := mem.r.cells4
      obtain ⟨qv, hqv⟩ : ∃ x, x = n / d := ⟨_, rfl⟩
      obtain ⟨rv, hrv⟩ : ∃ x, x = n % d := ⟨_, rfl⟩
      rw [← hqv] at q0 q1 q2 q3
      have Hqv := Lib.hid hqv
      have Hrv := Lib.hid hrv
      clear hqv hrv
      have eR : R / 2 ^ s = rv := by rw [Fin.out.2, Hrv.out, Nat.mul_div_cancel _ (Nat.pow_pos (by decide))]
      have ER := Lib.hid eR
      clear eR
      go_wp2
      go_region_with (go_at_call 84; refine (wshr_walk R s _ HR256.out hs').mono ?_; rintro e w' ⟨rfl, hb⟩; rw [ER.out]; obtain ⟨y0, y1, y2, y3⟩ := ((mem.drewN 1).below hb).z2.frees4; obtain ⟨x0, x1, x2, x3⟩ := ((mem.drewN 1).below hb).z2.cells4; obtain ⟨u0, u1, u2, u3⟩ := ((mem.drewN 1).below hb).z3.frees4; obtain ⟨v0, v1, v2, v3⟩ := ((mem.drewN 1).below hb).z3.cells4; obtain ⟨q0', q1', q2', q3'⟩ := ((hq'.drewN 1).below hb mem.o5).cells4; rw [← Hqv.out] at q0' q1' q2' q3'; have mm := Lib.hid ((mem.drewN 1).below hb).b; unfold U)
      all_goals
        go_wp2
        refine bodyPost_ret (v := .tuple #[.agg #[.int .u64 (limb qv 0 : Nat), .int .u64 (limb qv 1 : Nat), .int .u64 (limb qv 2 : Nat), .int .u64 (limb qv 3 : Nat)], .agg #[.int .u64 (limb rv 0 : Nat), .int .u64 (limb rv 1 : Nat), .int .u64 (limb rv 2 : Nat), .int .u64 (limb rv 3 : Nat)], .bool true]) (by simp [results, Tryz.results60, go_sem, x0, x1, x2, x3, v0, v1, v2, v3]) rfl (quoPost_yes Hyes.out Hqv.out Hrv.out rfl ?_)
        exact below_set4 (below_set4 mm.out (by omega)) (by omega)

theorem quo_walk (H L d : Nat) (w : World) (hH : H < 2 ^ 256) (hL : L < 2 ^ 256) (hd : d < 2 ^ 256) :
    Calls Tryz.prog 60 #[WW H L, U d] w (QuoPost (H * 2 ^ 256 + L) d w) := by
  by_cases hH0 : H = 0
  · exact quo_walk_a H L d w hH hL hd hH0
  · by_cases hlt : H < d
    · exact quo_walk_c H L d w hH hL hd hH0 hlt
    · exact quo_walk_b H L d w hH hL hd hH0 (by omega)
end Go.Proofs.YtoaepgiajooecaaGreat

namespace Go.Proofs.YtoaepgiajooecaaGreat
open Go.RowKit

def OfPost (n : Nat) (w : World) (e : Ending) (w' : World) : Prop := e = .returned (.agg #[.int .u64 (n : Nat), .int .u64 0, .int .u64 0, .int .u64 0]) ∧ Below w.heap.size w w'
set_option maxRecDepth 100000 in
theorem of_walk (n : Nat) (w : World) : Calls Tryz.prog 34 #[.int .u64 (n : Nat)] w (OfPost n w) := by
  go_enter Tryz.func34, Tryz.ntmps34
  go_wp2
  refine bodyPost_ret (v := .agg #[.int .u64 (n : Nat), .int .u64 0, .int .u64 0, .int .u64 0]) (by simp [results, Tryz.results34, go_sem]) rfl ⟨rfl, ?_⟩
  exact (Below.refl _ _).alloc (Nat.le_refl _) _

/-- the decimal digit of a at place t of j digits, as a byte -/
def digAt (a j t : Nat) : Nat := 48 + a / 10 ^ (j - 1 - t) % 10
theorem digAt_lt (a j t : Nat) : digAt a j t < 256 := by unfold digAt; omega
/-- j digits of a -/
def digits (a j : Nat) : List Int := (List.range j).map fun t => ((digAt a j t : Nat) : Int)
theorem digits_length (a j : Nat) : (digits a j).length = j := by simp [digits]
theorem digits_getD {a j t : Nat} (h : t < j) : (digits a j).getD t 0 = (digAt a j t : Nat) := by
  simp [digits, List.getD, List.getElem?_map, List.getElem?_range h]

theorem pow_bound {a j : Nat} (ha : a < 2 ^ 256) (h : a / 10 ^ j ≠ 0) : j < 78 := by
  rcases Nat.lt_or_ge j 78 with h1 | h1
  · exact h1
  · refine absurd (Nat.div_eq_of_lt (Nat.lt_of_lt_of_le ha ?_)) h
    exact Nat.le_trans (by decide) (Nat.pow_le_pow_right (by decide) h1)
theorem div10_c (m : Nat) (w : World) (hm : m < 2 ^ 256) : Calls Tryz.prog 80 #[U m, .agg #[.int .u64 10, .int .u64 0, .int .u64 0, .int .u64 0]] w
    fun e w' => e = .returned (.tuple #[U (m / 10), U (m % 10), .bool true]) ∧ Below w.heap.size w w' := by
  have h := div_walk m 10 w hm (by decide)
  rw [U_small (show 10 < 2 ^ 64 by decide)] at h
  exact h.mono fun e w' ⟨he, hw⟩ => ⟨by rw [he, if_neg (by decide), if_neg (by decide), decide_eq_true (by decide)], hw⟩
theorem of10_c (w : World) : Calls Tryz.prog 34 #[.int .u64 10] w
    fun e w' => e = .returned (.agg #[.int .u64 10, .int .u64 0, .int .u64 0, .int .u64 0]) ∧ Below w.heap.size w w' := of_walk 10 w

def TextPost (a : Nat) (w : World) (e : Ending) (w' : World) : Prop :=
  ∃ j, e = .returned (.string (strOfNums (digits a j))) ∧ 1 ≤ j ∧ j ≤ 78 ∧ a < 10 ^ j ∧ (j = 1 ∨ 10 ^ (j - 1) ≤ a) ∧ Below w.heap.size w w'
def TextRel (a : Nat) (w : World) (i : Value) (wr : World) : Prop :=
  ∃ (j : Nat) (f : Nat → Nat), j ≤ 78 ∧ i = .int .i64 ((78 - j : Nat) : Int) ∧ (j = 0 ∨ 10 ^ (j - 1) ≤ a) ∧ (∀ t, 78 - j ≤ t → t < 78 → f t = 48 + a / 10 ^ (77 - t) % 10) ∧
    Arr .u64 wr w.heap.size 4 (limb (a / 10 ^ j)) ∧ Arr .u8 wr (w.heap.size + 1) 78 f ∧ Below w.heap.size w wr ∧ w.heap.size + 1 < wr.heap.size

end Go.Proofs.YtoaepgiajooecaaGreat

namespace Go.Proofs.YtoaepgiajooecaaGreat
open Go.RowKit Go.Sort

theorem wmulH_walk (a b H L : Nat) (w : World) (ha : a < 2 ^ 256) (hb : b < 2 ^ 256) (hH : H = a * b / 2 ^ 256) (hL : L = a * b % 2 ^ 256) :
    Calls Tryz.prog 61 #[U a, U b] w fun e w' => e = .returned (WW H L) ∧ Below w.heap.size w w' := by
  refine (wmul_walk a b w ha hb).mono fun e w' ⟨he, hw⟩ => ⟨?_, hw⟩
  rw [he, W2_halves, hH, hL]

def qok (a b d : Nat) : Bool := decide (quoOk (a * b) d)
def qv (a b d : Nat) : Nat := if quoOk (a * b) d then a * b / d else 0
def qr (a b d : Nat) : Nat := if quoOk (a * b) d then a * b % d else 0
theorem quo_c (a b d H L : Nat) (w : World) (hL0 : L < 2 ^ 256) (hH0 : H < 2 ^ 256) (hd : d < 2 ^ 256) (hHL : H * 2 ^ 256 + L = a * b) :
    Calls Tryz.prog 60 #[WW H L, U d] w fun e w' => e = .returned (.tuple #[U (qv a b d), U (qr a b d), .bool (qok a b d)]) ∧ Below w.heap.size w w' := by
  have h := quo_walk H L d w hH0 hL0 hd
  rw [hHL] at h
  exact h

theorem mul_halves {a b : Nat} (ha : a < 2 ^ 256) (hb : b < 2 ^ 256) : a * b / 2 ^ 256 < 2 ^ 256 ∧ a * b % 2 ^ 256 < 2 ^ 256 ∧ a * b / 2 ^ 256 * 2 ^ 256 + a * b % 2 ^ 256 = a * b :=
  ⟨(Nat.div_lt_iff_lt_mul (by decide)).2 (Nat.mul_lt_mul'' ha hb), Nat.mod_lt _ (by decide), Nat.div_add_mod' _ _⟩

theorem Three.drewN {w wr : World} {a b c : Nat} (h : Three w wr a b c) (n : Nat) : Three w (wr.drewN n) a b c := ⟨h.a.drewN n, h.b.drewN n, h.c.drewN n, below_drewN h.l n, h.s⟩
/-- three numbers in boxes, and a box of noughts -/
structure Three0 (w wr : World) (a b c : Nat) : Prop where
  t : Three w wr a b c
  z : Arr .u64 wr (w.heap.size + 1 + 1 + 1) 4 (fun _ => 0)
  s : w.heap.size + 1 + 1 + 1 < wr.heap.size
theorem Three0.below {w wr w' : World} {a b c : Nat} (h : Three0 w wr a b c) (hb : Below wr.heap.size wr w') : Three0 w w' a b c := ⟨h.t.below hb, h.z.below hb h.s, Nat.lt_of_lt_of_le h.s hb.size⟩
theorem Three0.alloc {w wr : World} {a b c : Nat} (h : Three0 w wr a b c) (o : Obj) : Three0 w (wr.alloc o) a b c := ⟨h.t.alloc o, h.z.alloc o, by rw [World.size_alloc]; have := h.s; omega⟩
theorem Three0.drewN {w wr : World} {a b c : Nat} (h : Three0 w wr a b c) (n : Nat) : Three0 w (wr.drewN n) a b c := ⟨h.t.drewN n, h.z.drewN n, h.s⟩
theorem Three0.drew {w wr : World} {a b c : Nat} (h : Three0 w wr a b c) : Three0 w wr.drew a b c := h.drewN 1
theorem three0_first {a b d : Nat} {w : World} {t1 t2 t3 t4 : TypeId} :
    Three0 w ((((w.alloc (.cells #[.int .u64 (limb a 0 : Nat), .int .u64 (limb a 1 : Nat), .int .u64 (limb a 2 : Nat), .int .u64 (limb a 3 : Nat)] t1)).alloc (.cells #[.int .u64 (limb b 0 : Nat), .int .u64 (limb b 1 : Nat), .int .u64 (limb b 2 : Nat), .int .u64 (limb b 3 : Nat)] t2)).alloc (.cells #[.int .u64 (limb d 0 : Nat), .int .u64 (limb d 1 : Nat), .int .u64 (limb d 2 : Nat), .int .u64 (limb d 3 : Nat)] t3)).alloc (.cells #[.int .u64 0, .int .u64 0, .int .u64 0, .int .u64 0] t4)) a b d :=
  ⟨Three.alloc ⟨((Arr.new4 (f := limb a) rfl).alloc _).alloc _, (Arr.new4 (f := limb b) (by simp)).alloc _, Arr.new4 (f := limb d) (by simp), (((Below.refl _ _).alloc (Nat.le_refl _) _).alloc (by simp only [World.size_alloc]; omega) _).alloc (by simp only [World.size_alloc]; omega) _, by simp⟩ _,
   Arr.new4 (f := fun _ => 0) (by simp), by simp⟩

theorem Three0.put4 {w wr : World} {a b d L : Nat} {x0 x1 x2 x3 : Value} (h : Three0 w wr a b d) (hL : w.heap.size + 1 + 1 + 1 < L) :
    Three0 w ((((wr.setCell ⟨L, 0, none⟩ x0).setCell ⟨L, 1, none⟩ x1).setCell ⟨L, 2, none⟩ x2).setCell ⟨L, 3, none⟩ x3) a b d :=
  ⟨⟨h.t.a.put4_far (by omega), h.t.b.put4_far (by omega), h.t.c.put4_far (by omega), below_set4 h.t.l (by omega), by simp only [World.size_setCell]; exact h.t.s⟩, h.z.put4_far (by omega), by simp only [World.size_setCell]; exact h.s⟩
theorem held_of {w w' : World} {a b d : Nat} (h : Three0 w w' a b d) : w'.cell? ⟨w.heap.size, 0, none⟩ = some (.int .u64 (limb a 0 : Nat)) ∧ w'.cell? ⟨w.heap.size, 1, none⟩ = some (.int .u64 (limb a 1 : Nat)) ∧ w'.cell? ⟨w.heap.size, 2, none⟩ = some (.int .u64 (limb a 2 : Nat)) ∧ w'.cell? ⟨w.heap.size, 3, none⟩ = some (.int .u64 (limb a 3 : Nat)) ∧ w'.cell? ⟨w.heap.size + 1, 0, none⟩ = some (.int .u64 (limb b 0 : Nat)) ∧ w'.cell? ⟨w.heap.size + 1, 1, none⟩ = some (.int .u64 (limb b 1 : Nat)) ∧ w'.cell? ⟨w.heap.size + 1, 2, none⟩ = some (.int .u64 (limb b 2 : Nat)) ∧ w'.cell? ⟨w.heap.size + 1, 3, none⟩ = some (.int .u64 (limb b 3 : Nat)) ∧ w'.cell? ⟨w.heap.size + 1 + 1, 0, none⟩ = some (.int .u64 (limb d 0 : Nat)) ∧ w'.cell? ⟨w.heap.size + 1 + 1, 1, none⟩ = some (.int .u64 (limb d 1 : Nat)) ∧ w'.cell? ⟨w.heap.size + 1 + 1, 2, none⟩ = some (.int .u64 (limb d 2 : Nat)) ∧ w'.cell? ⟨w.heap.size + 1 + 1, 3, none⟩ = some (.int .u64 (limb d 3 : Nat)) ∧ Three0 w w' a b d := by
  obtain ⟨a0, a1, a2, a3⟩ := h.t.a.cells4
  obtain ⟨b0, b1, b2, b3⟩ := h.t.b.cells4
  obtain ⟨c0, c1, c2, c3⟩ := h.t.c.cells4
  exact ⟨a0, a1, a2, a3, b0, b1, b2, b3, c0, c1, c2, c3, h⟩
theorem un_held {w w' : World} {a b d : Nat} (h : w'.cell? ⟨w.heap.size, 0, none⟩ = some (.int .u64 (limb a 0 : Nat)) ∧ w'.cell? ⟨w.heap.size, 1, none⟩ = some (.int .u64 (limb a 1 : Nat)) ∧ w'.cell? ⟨w.heap.size, 2, none⟩ = some (.int .u64 (limb a 2 : Nat)) ∧ w'.cell? ⟨w.heap.size, 3, none⟩ = some (.int .u64 (limb a 3 : Nat)) ∧ w'.cell? ⟨w.heap.size + 1, 0, none⟩ = some (.int .u64 (limb b 0 : Nat)) ∧ w'.cell? ⟨w.heap.size + 1, 1, none⟩ = some (.int .u64 (limb b 1 : Nat)) ∧ w'.cell? ⟨w.heap.size + 1, 2, none⟩ = some (.int .u64 (limb b 2 : Nat)) ∧ w'.cell? ⟨w.heap.size + 1, 3, none⟩ = some (.int .u64 (limb b 3 : Nat)) ∧ w'.cell? ⟨w.heap.size + 1 + 1, 0, none⟩ = some (.int .u64 (limb d 0 : Nat)) ∧ w'.cell? ⟨w.heap.size + 1 + 1, 1, none⟩ = some (.int .u64 (limb d 1 : Nat)) ∧ w'.cell? ⟨w.heap.size + 1 + 1, 2, none⟩ = some (.int .u64 (limb d 2 : Nat)) ∧ w'.cell? ⟨w.heap.size + 1 + 1, 3, none⟩ = some (.int .u64 (limb d 3 : Nat)) ∧ Three0 w w' a b d) : Three0 w w' a b d := h.2.2.2.2.2.2.2.2.2.2.2.2

theorem carry0 {κ : IntKind} {w1 w2 : World} {L : Nat} {f : Nat → Nat} (h : Arr κ w1 L 4 f) (hb : Below w1.heap.size w1 w2) : Arr κ w2 L 4 f := h.below hb h.lt4
theorem carry1 {κ : IntKind} {w1 w2 : World} {o : Obj} {L : Nat} {f : Nat → Nat} (h : Arr κ w1 L 4 f) (hb : Below (w1.alloc o).heap.size (w1.alloc o) w2) : Arr κ w2 L 4 f := (h.alloc o).below hb (h.alloc o).lt4
theorem carry2 {κ : IntKind} {w1 w2 : World} {o o' : Obj} {L : Nat} {f : Nat → Nat} (h : Arr κ w1 L 4 f) (hb : Below ((w1.alloc o).alloc o').heap.size ((w1.alloc o).alloc o') w2) : Arr κ w2 L 4 f := ((h.alloc o).alloc o').below hb ((h.alloc o).alloc o').lt4
theorem z_one {w1 w2 : World} {t : TypeId} (hb : Below (w1.alloc (.cells #[.int .u64 0, .int .u64 0, .int .u64 0, .int .u64 0] t)).heap.size (w1.alloc (.cells #[.int .u64 0, .int .u64 0, .int .u64 0, .int .u64 0] t)) w2) : Arr .u64 w2 w1.heap.size 4 (fun _ => 0) :=
  Arr.below (Arr.new4 (f := fun _ => 0) rfl) hb (by rw [World.size_alloc]; omega)
theorem z_two {w1 w2 : World} {t t' : TypeId} (hb : Below ((w1.alloc (.cells #[.int .u64 0, .int .u64 0, .int .u64 0, .int .u64 0] t)).alloc (.cells #[.int .u64 0, .int .u64 0, .int .u64 0, .int .u64 0] t')).heap.size ((w1.alloc (.cells #[.int .u64 0, .int .u64 0, .int .u64 0, .int .u64 0] t)).alloc (.cells #[.int .u64 0, .int .u64 0, .int .u64 0, .int .u64 0] t')) w2) :
    Arr .u64 w2 w1.heap.size 4 (fun _ => 0) ∧ Arr .u64 w2 (w1.heap.size + 1) 4 (fun _ => 0) :=
  ⟨Arr.below ((Arr.new4 (f := fun _ => 0) rfl).alloc _) hb (by simp only [World.size_alloc]; omega), Arr.below (Arr.new4 (f := fun _ => 0) (by rw [World.size_alloc])) hb (by simp only [World.size_alloc]; omega)⟩


theorem z_one_d {w1 w2 : World} {t : TypeId} (hb : Below (w1.alloc (.cells #[.int .u64 0, .int .u64 0, .int .u64 0, .int .u64 0] t)).drew.heap.size (w1.alloc (.cells #[.int .u64 0, .int .u64 0, .int .u64 0, .int .u64 0] t)).drew w2) : Arr .u64 w2 w1.heap.size 4 (fun _ => 0) :=
  Arr.below (Arr.new4 (f := fun _ => 0) rfl).drew hb (by show w1.heap.size < (w1.alloc _).heap.size; rw [World.size_alloc]; omega)
theorem z_two_d {w1 w2 : World} {t t' : TypeId} (hb : Below ((w1.alloc (.cells #[.int .u64 0, .int .u64 0, .int .u64 0, .int .u64 0] t)).alloc (.cells #[.int .u64 0, .int .u64 0, .int .u64 0, .int .u64 0] t')).drew.heap.size ((w1.alloc (.cells #[.int .u64 0, .int .u64 0, .int .u64 0, .int .u64 0] t)).alloc (.cells #[.int .u64 0, .int .u64 0, .int .u64 0, .int .u64 0] t')).drew w2) :
    Arr .u64 w2 w1.heap.size 4 (fun _ => 0) ∧ Arr .u64 w2 (w1.heap.size + 1) 4 (fun _ => 0) :=
  ⟨Arr.below ((Arr.new4 (f := fun _ => 0) rfl).alloc _).drew hb (by show w1.heap.size < ((w1.alloc _).alloc _).heap.size; simp only [World.size_alloc]; omega), Arr.below (Arr.new4 (f := fun _ => 0) (by rw [World.size_alloc])).drew hb (by show w1.heap.size + 1 < ((w1.alloc _).alloc _).heap.size; simp only [World.size_alloc]; omega)⟩

def upVal (n d : Nat) : Nat := if n % d = 0 then n / d else n / d + 1
def upOk (n d : Nat) : Prop := d ≠ 0 ∧ upVal n d < 2 ^ 256
instance (n d : Nat) : Decidable (upOk n d) := by unfold upOk; infer_instance
def uok (a b d : Nat) : Bool := decide (upOk (a * b) d)
def uv (a b d : Nat) : Nat := if upOk (a * b) d then upVal (a * b) d else 0
end Go.Proofs.YtoaepgiajooecaaGreat
