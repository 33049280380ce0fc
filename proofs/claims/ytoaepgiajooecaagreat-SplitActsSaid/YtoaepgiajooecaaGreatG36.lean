/- wad.Amount, walked. -/
import Derived.Test.YtoaepgiajooecaaGreatG35
import Derived.Test.YtoaepgiajooecaaGreatG20
import Derived.Test.YtoaepgiajooecaaGreatG23
namespace Go.Proofs.YtoaepgiajooecaaGreat
open Go.RowKit Go.Sort

theorem cmpU_le (a b : Nat) : cmpU a b ≤ 0 ↔ a ≤ b := by
  unfold cmpU
  by_cases h : a = b
  · rw [if_pos h]; omega
  · rw [if_neg h]
    by_cases h2 : b ≤ a
    · rw [if_pos h2]; omega
    · rw [if_neg h2]; omega
/-- a number in a box -/
structure One' (w wr : World) (a : Nat) : Prop where
  a : Arr .u64 wr w.heap.size 4 (limb a)
  l : Below w.heap.size w wr
  s : w.heap.size < wr.heap.size
theorem One'.below {w wr w' : World} {a : Nat} (h : One' w wr a) (hb : Below wr.heap.size wr w') : One' w w' a := by
  have := h.s; have := hb.size
  exact ⟨h.a.below hb h.s, h.l.trans (hb.mono (by omega)), by omega⟩
theorem One'.drew {w wr : World} {a : Nat} (h : One' w wr a) : One' w wr.drew a := ⟨h.a.drew, below_drewN h.l 1, h.s⟩
theorem one_first {a : Nat} {w : World} {t : TypeId} : One' w (w.alloc (.cells #[.int .u64 (limb a 0 : Nat), .int .u64 (limb a 1 : Nat), .int .u64 (limb a 2 : Nat), .int .u64 (limb a 3 : Nat)] t)) a :=
  ⟨Arr.new4 (f := limb a) rfl, (Below.refl _ _).alloc (Nat.le_refl _) _, by simp⟩
theorem held1 {w w' : World} {a : Nat} (h : One' w w' a) : w'.cell? ⟨w.heap.size, 0, none⟩ = some (.int .u64 (limb a 0 : Nat)) ∧ w'.cell? ⟨w.heap.size, 1, none⟩ = some (.int .u64 (limb a 1 : Nat)) ∧ w'.cell? ⟨w.heap.size, 2, none⟩ = some (.int .u64 (limb a 2 : Nat)) ∧ w'.cell? ⟨w.heap.size, 3, none⟩ = some (.int .u64 (limb a 3 : Nat)) ∧ One' w w' a := by
  obtain ⟨a0, a1, a2, a3⟩ := h.a.cells4
  exact ⟨a0, a1, a2, a3, h⟩
theorem un_held1 {w w' : World} {a : Nat} (h : w'.cell? ⟨w.heap.size, 0, none⟩ = some (.int .u64 (limb a 0 : Nat)) ∧ w'.cell? ⟨w.heap.size, 1, none⟩ = some (.int .u64 (limb a 1 : Nat)) ∧ w'.cell? ⟨w.heap.size, 2, none⟩ = some (.int .u64 (limb a 2 : Nat)) ∧ w'.cell? ⟨w.heap.size, 3, none⟩ = some (.int .u64 (limb a 3 : Nat)) ∧ One' w w' a) : One' w w' a := h.2.2.2.2

set_option maxRecDepth 100000 in
set_option maxHeartbeats 2000000 in
theorem amount_walk (a : Nat) (w : World) (ha : a < 2 ^ 256) : Calls Tryz.prog 32 #[U a] w fun e w' => e = .returned (.bool (decide (a ≤ MOST))) ∧ Below w.heap.size w w' := by
  have Ha := Lib.hid ha
  obtain ⟨c, hc⟩ : ∃ c, c = cmpU a MOST := ⟨_, rfl⟩
  obtain ⟨ok, hok⟩ : ∃ x, x = decide (a ≤ MOST) := ⟨_, rfl⟩
  rw [← hok]
  have hdec : decide (c ≤ 0) = ok := by rw [hok, hc]; exact decide_eq_decide.2 (cmpU_le a MOST)
  have Hc := Lib.hid hc
  have Hok := Lib.hid hok
  clear ha hc hok
  unfold U
  go_enter Tryz.func32, Tryz.ntmps32
  go_upto_region 1 with (fail)
  have T0 := Lib.hid (one_first (a := a) (w := w) (t := 44))
  go_region_held3 (fun w' => w'.cell? ⟨w.heap.size, 0, none⟩ = some (.int .u64 (limb a 0 : Nat)) ∧ w'.cell? ⟨w.heap.size, 1, none⟩ = some (.int .u64 (limb a 1 : Nat)) ∧ w'.cell? ⟨w.heap.size, 2, none⟩ = some (.int .u64 (limb a 2 : Nat)) ∧ w'.cell? ⟨w.heap.size, 3, none⟩ = some (.int .u64 (limb a 3 : Nat)) ∧ One' w w' a)
    ((refine held1 ?_; repeat (first | with_reducible exact u2 | with_reducible exact u1 | with_reducible exact T0.out | with_reducible refine One'.drew ?_ | with_reducible exact un_held1 (by with_reducible assumption))))
    (first
      | (go_at_call 58; refine (cmp_walk a MOST _ Ha.out MOST_lt).mono ?_; rintro e w2 ⟨rfl, hb2⟩; have u2 := u1.below hb2; rw [← Hc.out])
      | (go_at_call 59; refine (most_walk _).mono ?_; rintro e w1 ⟨rfl, hb1⟩; have u1 : One' w w1 a := One'.below (un_held1 (by with_reducible assumption)) hb1; unfold U))
  go_wp2
  refine bodyPost_ret (v := .bool ok) (by simp [results, Tryz.results32, go_sem]) rfl ⟨rfl, u2.l⟩
end Go.Proofs.YtoaepgiajooecaaGreat

namespace Go.Proofs.YtoaepgiajooecaaGreat
open Go.RowKit

/-- the lower and the upper word of s + a b + c -/
def apl (s a b c : Nat) : Nat := s64 (s64 (ml a b) c 0) s 0
def aph (s a b c : Nat) : Nat := mh a b + c64 (ml a b) c 0 + c64 (s64 (ml a b) c 0) s 0
theorem ap_eq {s a b c : Nat} (hs : s < 2 ^ 64) (ha : a < 2 ^ 64) (hb : b < 2 ^ 64) (hc : c < 2 ^ 64) :
    aph s a b c < 2 ^ 64 ∧ aph s a b c * 2 ^ 64 + apl s a b c = s + a * b + c := by
  have h := mul_step ha hb hc hs
  unfold aph apl
  have e1 : c64 (s64 (ml a b) c 0) s 0 = c64 s (s64 (ml a b) c 0) 0 := by unfold c64; congr 1; omega
  have e2 : s64 (s64 (ml a b) c 0) s 0 = s64 s (s64 (ml a b) c 0) 0 := by unfold s64; congr 1; omega
  rw [e1, e2]; exact h
theorem apl_lt (s a b c : Nat) : apl s a b c < 2 ^ 64 := s64_lt _ _ _

set_option maxRecDepth 100000 in
theorem addp_walk (s a b c : Nat) (w : World) (hs : s < 2 ^ 64) (ha : a < 2 ^ 64) (hb : b < 2 ^ 64) (hc : c < 2 ^ 64) :
    Calls Tryz.prog 85 #[.int .u64 (s : Nat), .int .u64 (a : Nat), .int .u64 (b : Nat), .int .u64 (c : Nat)] w fun e w' =>
      e = .returned (.tuple #[.int .u64 (apl s a b c : Nat), .int .u64 (aph s a b c : Nat)]) ∧ w' = w := by
  have haddz := run_add64z
  have hap := ap_eq hs ha hb hc
  have Hap := Lib.hid hap
  have w1 : IntKind.u64.wrap ((mh a b : Int) + (c64 (ml a b) c 0 : Int)) = ((mh a b + c64 (ml a b) c 0 : Nat) : Int) := by
    rw [← Int.natCast_add, wrap_u64 (by have := hap.1; unfold aph at this; omega)]
  have w2 : IntKind.u64.wrap ((mh a b : Int) + (c64 (ml a b) c 0 : Int) + (c64 (s64 (ml a b) c 0) s 0 : Int)) = ((aph s a b c : Nat) : Int) := by
    rw [← Int.natCast_add, ← Int.natCast_add, wrap_u64 (by have := hap.1; unfold aph at this; omega)]; rfl
  clear hap
  go_enter Tryz.func85, Tryz.ntmps85
  go_wp2_with (go_at_call 103; refine (mul64_c _ _ ha hb _).mono ?_; rintro e w' ⟨rfl, rfl⟩)
  refine bodyPost_ret (v := .tuple #[.int .u64 (apl s a b c : Nat), .int .u64 (aph s a b c : Nat)]) (by simp [results, Tryz.results85, go_sem, apl]) rfl ⟨rfl, rfl⟩

/-- a number of 512 bits, as the program holds it: the high half ahead -/
def W2 (n : Nat) : Value := .agg #[.int .u64 (limb n 4 : Nat), .int .u64 (limb n 5 : Nat), .int .u64 (limb n 6 : Nat), .int .u64 (limb n 7 : Nat), .int .u64 (limb n 0 : Nat), .int .u64 (limb n 1 : Nat), .int .u64 (limb n 2 : Nat), .int .u64 (limb n 3 : Nat)]
def JoinPost (n : Nat) (w : World) (e : Ending) (w' : World) : Prop := e = .returned (W2 n) ∧ Below w.heap.size w w'
set_option maxRecDepth 100000 in
theorem join_walk (n : Nat) (w : World) : Calls Tryz.prog 86 #[U8 n] w (JoinPost n w) := by
  unfold U8
  go_enter Tryz.func86, Tryz.ntmps86
  go_wp2
  refine bodyPost_ret (v := W2 n) (by unfold W2; simp [results, Tryz.results86, go_sem]) rfl ⟨rfl, ?_⟩
  exact ((Below.refl _ _).alloc (Nat.le_refl _) _).alloc (by simp only [World.size_alloc]; omega) _

/-- the state at the head of Mul's outer loop -/
def WMulOut (a b : Nat) (w : World) (i : Value) (wr : World) : Prop :=
  ∃ (k : Nat) (f : Nat → Nat), k ≤ 4 ∧ i = .int .i64 (k : Nat) ∧ (∀ j, f j < 2 ^ 64) ∧ (∀ j, k + 4 ≤ j → f j = 0) ∧ val f 8 = val (limb a) k * b ∧
    Arr .u64 wr w.heap.size 4 (limb a) ∧ Arr .u64 wr (w.heap.size + 1) 4 (limb b) ∧ Arr .u64 wr (w.heap.size + 1 + 1) 8 (fun _ => 0) ∧ Arr .u64 wr (w.heap.size + 1 + 1 + 1) 8 f ∧
    Below w.heap.size w wr ∧ w.heap.size + 1 + 1 + 1 < wr.heap.size
/-- the state at the head of its inner loop -/
def WMulIn (a b : Nat) (w : World) (k V0 : Nat) (c i : Value) (wr : World) : Prop :=
  ∃ (j d : Nat) (f : Nat → Nat), j ≤ 4 ∧ i = .int .i64 (j : Nat) ∧ c = .int .u64 (d : Nat) ∧ d < 2 ^ 64 ∧ (∀ j, f j < 2 ^ 64) ∧ (∀ j, k + 4 ≤ j → f j = 0) ∧
    val f 8 + d * 2 ^ (64 * (k + j)) = V0 + limb a k * val (limb b) j * 2 ^ (64 * k) ∧
    Arr .u64 wr w.heap.size 4 (limb a) ∧ Arr .u64 wr (w.heap.size + 1) 4 (limb b) ∧ Arr .u64 wr (w.heap.size + 1 + 1) 8 (fun _ => 0) ∧ Arr .u64 wr (w.heap.size + 1 + 1 + 1) 8 f ∧
    Below w.heap.size w wr ∧ w.heap.size + 1 + 1 + 1 < wr.heap.size
def WMulPost (a b : Nat) (w : World) (e : Ending) (w' : World) : Prop := e = .returned (W2 (a * b)) ∧ Below w.heap.size w w'

theorem Arr.set8 {w : World} {b : Nat} {f : Nat → Nat} {x0 x1 x2 x3 x4 x5 x6 x7 : Nat} (h : Arr .u64 w b 8 f) :
    Arr .u64 ((((((((w.setCell ⟨b, 0, none⟩ (.int .u64 (x0 : Nat))).setCell ⟨b, 1, none⟩ (.int .u64 (x1 : Nat))).setCell ⟨b, 2, none⟩ (.int .u64 (x2 : Nat))).setCell ⟨b, 3, none⟩ (.int .u64 (x3 : Nat))).setCell ⟨b, 4, none⟩ (.int .u64 (x4 : Nat))).setCell ⟨b, 5, none⟩ (.int .u64 (x5 : Nat))).setCell ⟨b, 6, none⟩ (.int .u64 (x6 : Nat))).setCell ⟨b, 7, none⟩ (.int .u64 (x7 : Nat))) b 8
      (upd (upd (upd (upd (upd (upd (upd (upd f 0 x0) 1 x1) 2 x2) 3 x3) 4 x4) 5 x5) 6 x6) 7 x7) :=
  (((((((h.set (by omega)).set (by omega)).set (by omega)).set (by omega)).set (by omega)).set (by omega)).set (by omega)).set (by omega)

set_option maxRecDepth 100000 in
set_option maxHeartbeats 2000000 in
theorem wmul_walk (a b : Nat) (w : World) (hal : a < 2 ^ 256) (hbl : b < 2 ^ 256) :
    Calls Tryz.prog 61 #[U a, U b] w (WMulPost a b w) := by
  unfold U
  go_enter Tryz.func61, Tryz.ntmps61
  go_wp2
  go_loopw [9] (WMulOut a b w) (fun i _ => 4 - (intOf i).toNat)
  case atStart =>
    refine ⟨0, fun _ => 0, by omega, rfl, by simp, by simp, by rw [val_zero]; simp only [val]; omega, ?_, ?_, ?_, ?_, ?_, ?_⟩
    · exact (((Arr.new4 (f := limb a) rfl).alloc _).alloc _).alloc _
    · exact ((Arr.new4 (f := limb b) (by simp)).alloc _).alloc _
    · exact (Arr.new8 (f := fun _ => 0) (by simp)).alloc _
    · exact Arr.new8 (f := fun _ => 0) (by simp)
    · exact ((((Below.refl _ _).alloc (Nat.le_refl _) _).alloc (by simp only [World.size_alloc]; omega) _).alloc (by simp only [World.size_alloc]; omega) _).alloc (by simp only [World.size_alloc]; omega) _
    · simp
  case round =>
    obtain ⟨k, f, hk, rfl, hf, hz8, hv, ha, hb, hz, hs, hbel, hsz⟩ := hrel
    by_cases hlt : k < 4
    · have hkI : (k : Int) < 4 := by omega
      go_wp2
      go_loopw [7, 12] (WMulIn a b w k (val f 8)) (fun _ i _ => 4 - (intOf i).toNat)
      case atStart => exact ⟨0, 0, f, by omega, rfl, rfl, by omega, hf, hz8, by simp only [val]; omega, ha, hb, hz, hs, hbel, hsz⟩
      case round =>
        obtain ⟨j, d, g, hj, rfl, rfl, hd, hg, hg8, hvg, ia, ib, iz, is, ibel, isz⟩ := hrel
        by_cases hjl : j < 4
        · have Hvg := Lib.hid hvg
          have Hv := Lib.hid hv
          have Hg := Lib.hid hg
          have Hf := Lib.hid hf
          have Hz8 := Lib.hid hz8
          have Hg8 := Lib.hid hg8
          have hbl' := hbl
          clear hvg hv hg hf hz8 hg8 hal hbl
          have a1 := ia.cell k hlt
          have b1 := ib.cell j hjl
          have f1 := is.free (k + j) (by omega)
          have f2 := is.cell (k + j) (by omega)
          have q1 : (k : Int) + (j : Int) < 8 := by omega
          have q3 : ((k : Int) + (j : Int)).toNat = k + j := by omega
          have q2 : IntKind.i64.wrap ((k : Int) + (j : Int)) = (k : Int) + (j : Int) := IntWalk.i64_in _ (by omega)
          go_wp2
          go_region_with (go_at_call 85; refine (addp_walk _ _ _ _ _ (Hg.out _) (limb_lt _ _) (limb_lt _ _) hd).mono ?_; rintro e w' ⟨rfl, rfl⟩)
          all_goals
            go_wp2
            go_roundw
            case rel =>
              have hm := ap_eq (Hg.out (k + j)) (limb_lt a k) (limb_lt b j) hd
              refine ⟨j + 1, _, upd g (k + j) (apl (g (k + j)) (limb a k) (limb b j) d), by omega, by go_num, rfl, hm.1, upd_lt Hg.out (apl_lt _ _ _ _), ?_, ?_, ?_, ?_, ?_, ?_, ?_, ?_⟩
              · intro i hi; rw [upd_ne _ (by omega)]; exact Hg8.out i hi
              · have hv1 := val_upd_at g (apl (g (k + j)) (limb a k) (limb b j) d) (show k + j < 8 by omega)
                rw [show k + (j + 1) = k + j + 1 from rfl, pow_succ64]
                exact mul_inner_math hv1 Hvg.out hm.2 (by rw [← Nat.pow_add]; congr 1; omega)
              · exact (ia.drewN _).set_far (by omega)
              · exact (ib.drewN _).set_far (by omega)
              · exact (iz.drewN _).set_far (by omega)
              · exact (is.drewN _).set (by omega)
              · exact (below_drewN ibel _).setCell (by simp; omega) _
              · simp; omega
            case measure => simp [intOf]; omega
        · obtain rfl : j = 4 := by omega
          have f1 := is.free (k + 4) (by omega)
          have f2 := is.cell (k + 4) (by omega)
          have Hvg := Lib.hid hvg
          have Hv := Lib.hid hv
          have Hg := Lib.hid hg
          have Hf := Lib.hid hf
          have Hz8 := Lib.hid hz8
          have Hg8 := Lib.hid hg8
          have hbl' := hbl
          clear hvg hv hg hf hz8 hg8 hal hbl
          go_wp2
          go_roundw
          case rel =>
            refine ⟨k + 1, upd g (k + 4) d, by omega, by go_num, upd_lt Hg.out hd, ?_, ?_, ?_, ?_, ?_, ?_, ?_, ?_⟩
            · intro i hi; rw [upd_ne _ (by omega)]; exact Hg8.out i (by omega)
            · have hv1 := val_upd_at g d (show k + 4 < 8 by omega)
              rw [Hg8.out (k + 4) (Nat.le_refl _)] at hv1
              have hvg := Hvg.out
              rw [val4_limb hbl'] at hvg
              exact mul_outer_math hv1 hvg Hv.out
            · exact ia.set_far (by omega)
            · exact ib.set_far (by omega)
            · exact iz.set_far (by omega)
            · exact is.set (by omega)
            · exact ibel.setCell (by simp; omega) _
            · simp; omega
          case measure => simp [intOf]; omega
    · obtain rfl : k = 4 := by omega
      have hn : val f 8 = a * b := by rw [hv, val4_limb hal]
      have hs' : Arr .u64 wr (w.heap.size + 1 + 1 + 1) 8 (limb (a * b)) := hs.congr fun i hi => by rw [← hn, limb_val 8 (fun i _ => hf i) i hi]
      clear hs hn hv hz8 hf
      obtain ⟨n, hn⟩ : ∃ n, n = a * b := ⟨_, rfl⟩
      rw [← hn] at hs'
      have Hn := Lib.hid hn
      clear hn hal hbl
      obtain ⟨s0, s1, s2, s3, s4, s5, s6, s7⟩ := hs'.cells8
      go_wp2_with (go_at_call 86; refine (join_walk n _).mono ?_; rintro e w1 ⟨rfl, hb1⟩; obtain ⟨y0, y1, y2, y3, y4, y5, y6, y7⟩ := (hz.below hb1 (by omega)).frees8; obtain ⟨z0, z1, z2, z3, z4, z5, z6, z7⟩ := (hz.below hb1 (by omega)).cells8; unfold W2)
      refine bodyPost_ret (v := W2 n) (by unfold W2; simp [results, Tryz.results61, go_sem, z0, z1, z2, z3, z4, z5, z6, z7]) rfl ⟨by rw [Hn.out], ?_⟩
      exact below_set8 (hbel.trans (hb1.mono (by omega))) (by omega)

end Go.Proofs.YtoaepgiajooecaaGreat

namespace Go.Proofs.YtoaepgiajooecaaGreat
open Go.RowKit

def shlA (l r : Nat) : Nat := l * 2 ^ r % 18446744073709551616
theorem shlA_lt (l r : Nat) : shlA l r < 2 ^ 64 := Nat.mod_lt _ (by decide)
theorem shlA_run (l r : Nat) : IntKind.u64.wrap ((l : Int) * 2 ^ r) = ((shlA l r : Nat) : Int) := by
  rw [IntKind.wrap_u64]; unfold shlA; rw [Int.natCast_emod, Int.natCast_mul, Int.natCast_pow]; rfl
theorem shlHi_lt {l r : Nat} (hl : l < 2 ^ 64) (hr : r < 64) : shlHi l r < 2 ^ r := by
  unfold shlHi
  refine (Nat.div_lt_iff_lt_mul (Nat.pow_pos (by decide))).2 ?_
  rw [← Nat.pow_add, show r + (64 - r) = 64 by omega]; exact hl
theorem or_join2 {y l r : Nat} (hy : y < 2 ^ 64) (hr : r < 64) : bits BinOp.or IntKind.u64 ((shlA l r : Nat) : Int) ((y : Int) / 2 ^ (64 - r)) = ((shlLo (shlHi y r) l r : Nat) : Int) := by
  have hx := shlHi_lt hy hr
  have h64 : 18446744073709551616 = 2 ^ r * 2 ^ (64 - r) := by rw [← Nat.pow_add, show r + (64 - r) = 64 by omega]
  have hle : 2 ^ r ≤ 2 ^ 64 := Nat.pow_le_pow_right (by decide) (by omega)
  have e : (y : Int) / 2 ^ (64 - r) = ((shlHi y r : Nat) : Int) := by unfold shlHi; rw [Int.natCast_ediv, Int.natCast_pow]; rfl
  rw [e, u64_or_nat _ _ (shlA_lt _ _) (by omega)]
  unfold shlA
  rw [nat_join r _ _ ?_ hx, Nat.add_comm]
  · rfl
  · rw [h64, Nat.mod_mul_right_mod]; exact Nat.mul_mod_left _ _
theorem limb_shl_low (n w r j : Nat) (hj : j < w) : limb (n * 2 ^ (64 * w + r)) j = 0 := by
  unfold limb
  have e : 64 * w + r = 64 * j + (64 + (64 * (w - 1 - j) + r)) := by omega
  rw [e, Nat.pow_add, Nat.pow_add, ← Nat.mul_assoc, Nat.mul_right_comm, Nat.mul_div_cancel _ (Nat.pow_pos (by decide)), Nat.mul_comm (2 ^ 64), ← Nat.mul_assoc]
  exact Nat.mul_mod_left _ _
theorem limb_shl0 (n w r : Nat) : limb (n * 2 ^ (64 * w + r)) w = shlA (limb n 0) r := by
  unfold limb shlA
  rw [Nat.pow_add, Nat.mul_comm (2 ^ (64 * w)), ← Nat.mul_assoc, Nat.mul_div_cancel _ (Nat.pow_pos (by decide))]
  simp only [Nat.mul_zero, Nat.pow_zero, Nat.div_one]
  show n * 2 ^ r % 2 ^ 64 = n % 2 ^ 64 * 2 ^ r % 2 ^ 64
  rw [Nat.mod_mul_mod]
theorem limb_shl (n w r m : Nat) (hr : r < 64) : limb (n * 2 ^ (64 * w + r)) (m + 1 + w) = shlLo (shlHi (limb n m) r) (limb n (m + 1)) r := by
  have hlo := shlLo_lt (l := limb n (m + 1)) (shlHi_lt (limb_lt n m) hr) hr
  have e0 : n * 2 ^ (64 * w + r) / 2 ^ (64 * (m + 1 + w)) = n / 2 ^ (64 * m) / 2 ^ (64 - r) := by
    rw [show 64 * (m + 1 + w) = (64 * w + r) + (64 * m + (64 - r)) by omega, Nat.pow_add 2 (64 * w + r), Nat.mul_comm n, Nat.mul_div_mul_left _ _ (Nat.pow_pos (by decide)), Nat.pow_add, Nat.div_div_eq_div_mul]
  have e1 : limb n (m + 1) = n / 2 ^ (64 * m) / 2 ^ 64 % 2 ^ 64 := by unfold limb; rw [Nat.div_div_eq_div_mul, ← Nat.pow_add]; congr 3
  have e2 : limb n m = n / 2 ^ (64 * m) % 2 ^ 64 := rfl
  have e3 : limb (n * 2 ^ (64 * w + r)) (m + 1 + w) = n / 2 ^ (64 * m) / 2 ^ (64 - r) % 2 ^ 64 := by unfold limb; rw [e0]
  rw [e3]
  rw [e1, e2] at hlo ⊢
  generalize n / 2 ^ (64 * m) = X at *
  have h64 : (2 : Nat) ^ 64 = 2 ^ r * 2 ^ (64 - r) := by rw [← Nat.pow_add, show r + (64 - r) = 64 by omega]
  have e4 : X / 2 ^ (64 - r) = X / 2 ^ 64 * 2 ^ r + shlHi (X % 2 ^ 64) r := by
    unfold shlHi
    have h := Nat.div_add_mod X (2 ^ 64)
    have h1 : X = 2 ^ (64 - r) * (X / 2 ^ 64 * 2 ^ r) + X % 2 ^ 64 := by
      rw [← Nat.mul_assoc, Nat.mul_right_comm, Nat.mul_comm (2 ^ (64 - r) * 2 ^ r), Nat.mul_comm (2 ^ (64 - r)), ← h64, Nat.mul_comm]; exact h.symm
    conv => lhs; rw [h1]
    rw [Nat.mul_add_div (Nat.pow_pos (by decide))]
  rw [e4]
  have e5 : (X / 2 ^ 64 * 2 ^ r) % 2 ^ 64 = X / 2 ^ 64 % 2 ^ 64 * 2 ^ r % 2 ^ 64 := by rw [Nat.mod_mul_mod]
  rw [Nat.add_mod, e5]
  have e6 : shlHi (X % 2 ^ 64) r % 2 ^ 64 = shlHi (X % 2 ^ 64) r := Nat.mod_eq_of_lt (Nat.lt_of_lt_of_le (shlHi_lt (Nat.mod_lt _ (by decide)) hr) (Nat.pow_le_pow_right (by decide) (by omega)))
  rw [e6]
  unfold shlLo at hlo ⊢
  rw [Nat.add_comm]
  exact Nat.mod_eq_of_lt hlo

/-- the words of a wide number as they lie: the high half ahead -/
def wl (n i : Nat) : Nat := if i < 4 then limb n (i + 4) else limb n (i - 4)
def eight (x0 x1 x2 x3 x4 x5 x6 x7 : Nat) : Nat → Nat
  | 0 => x0
  | 1 => x1
  | 2 => x2
  | 3 => x3
  | 4 => x4
  | 5 => x5
  | 6 => x6
  | 7 => x7
  | _ => 0
theorem Arr.newW {w : World} {b : Nat} {t : TypeId} {n : Nat} (hb : b = w.heap.size) :
    Arr .u64 (w.alloc (.cells #[.int .u64 (limb n 4 : Nat), .int .u64 (limb n 5 : Nat), .int .u64 (limb n 6 : Nat), .int .u64 (limb n 7 : Nat), .int .u64 (limb n 0 : Nat), .int .u64 (limb n 1 : Nat), .int .u64 (limb n 2 : Nat), .int .u64 (limb n 3 : Nat)] t)) b 8 (wl n) := by
  refine Arr.congr (Arr.new8 (f := eight (limb n 4) (limb n 5) (limb n 6) (limb n 7) (limb n 0) (limb n 1) (limb n 2) (limb n 3)) hb) fun i hi => ?_
  rcases (by omega : i = 0 ∨ i = 1 ∨ i = 2 ∨ i = 3 ∨ i = 4 ∨ i = 5 ∨ i = 6 ∨ i = 7) with rfl | rfl | rfl | rfl | rfl | rfl | rfl | rfl <;> simp [eight, wl]
def ShlWPost (n by_ : Nat) (w : World) (e : Ending) (w' : World) : Prop := e = .returned (W2 (n * 2 ^ by_)) ∧ Below w.heap.size w w'
def ShlWRel (n by_ words : Nat) (w : World) (i : Value) (wr : World) : Prop :=
  ∃ (k : Nat) (f : Nat → Nat), k ≤ 8 - words ∧ i = .int .i64 (k : Nat) ∧ (∀ j, j < k + words → f j = limb (n * 2 ^ by_) j) ∧
    Arr .u64 wr (w.heap.size + 1) 8 (fun _ => 0) ∧ Arr .u64 wr (w.heap.size + 1 + 1) 8 (limb n) ∧ Arr .u64 wr (w.heap.size + 1 + 1 + 1) 8 f ∧
    Below w.heap.size w wr ∧ w.heap.size + 1 + 1 + 1 < wr.heap.size

set_option maxRecDepth 100000 in
set_option maxHeartbeats 1000000 in
theorem shlw_walk (n by_ : Nat) (w : World) (hby : by_ < 256) : Calls Tryz.prog 82 #[W2 n, .int .i64 (by_ : Nat)] w (ShlWPost n by_ w) := by
  obtain ⟨words, hw⟩ : ∃ n, n = by_ / 64 := ⟨_, rfl⟩
  obtain ⟨rest, hr⟩ : ∃ n, n = by_ % 64 := ⟨_, rfl⟩
  have e1 : (by_ : Int) / 64 = (words : Int) := by omega
  have e2 : (by_ : Int).tmod 64 = (rest : Int) := by rw [Int.tmod_eq_emod_of_nonneg (by omega)]; omega
  have e3 : (by_ : Int).tdiv 64 = (words : Int) := by rw [Int.tdiv_eq_ediv_of_nonneg (by omega)]; omega
  have hw4 : words < 4 := by omega
  have hr64 : rest < 64 := by omega
  have Hby : Hid (by_ = 64 * words + rest) := Lib.hid (by omega)
  have e8 : IntKind.i64.wrap (8 - (words : Int)) = 8 - (words : Int) := IntWalk.i64_in _ (by omega)
  clear hw hr
  unfold W2
  go_enter Tryz.func82, Tryz.ntmps82
  go_wp2
  go_loopw [41] (ShlWRel n by_ words w) (fun i _ => 8 - (intOf i).toNat)
  case atStart =>
    refine ⟨0, fun _ => 0, by omega, rfl, ?_, ?_, ?_, ?_, ?_, ?_⟩
    · intro j hj; rw [Hby.out, limb_shl_low _ _ _ _ (by omega)]
    · exact ((Arr.new8 (f := fun _ => 0) (by simp)).alloc _).alloc _
    · exact (Arr.new8 (f := limb n) (by simp)).alloc _
    · exact Arr.new8 (f := fun _ => 0) (by simp)
    · exact ((((Below.refl _ _).alloc (Nat.le_refl _) _).alloc (by simp only [World.size_alloc]; omega) _).alloc (by simp only [World.size_alloc]; omega) _).alloc (by simp only [World.size_alloc]; omega) _
    · simp
  case round =>
    obtain ⟨k, f, hk, rfl, hf, hz, hs, ht, hbel, hsz⟩ := hrel
    by_cases hlt : k < 8 - words
    · have a1 := hs.cell k (by omega)
      have f1 := ht.free (k + words) (by omega)
      have f2 := ht.cell (k + words) (by omega)
      have q3 : (k : Int) + (words : Int) < 8 := by omega
      have q4 : ((k : Int) + (words : Int)).toNat = k + words := by omega
      have q5 : IntKind.i64.wrap ((k : Int) + (words : Int)) = (k : Int) + (words : Int) := IntWalk.i64_in _ (by omega)
      have q6 : (k : Int) < 8 - (words : Int) := by omega
      have s1 := shlA_run (limb n k) rest
      have Hf := Lib.hid hf
      clear hf
      by_cases hk0 : k = 0
      · have q7 : ¬ (0 : Int) < (k : Int) := by omega
        have Hk0 := Lib.hid hk0
        clear hk0
        go_wp2
        go_roundw
        case rel =>
          refine ⟨k + 1, upd f (k + words) (shlA (limb n k) rest), by omega, by go_num, ?_, ?_, ?_, ?_, ?_, ?_⟩
          · intro j hj
            by_cases hj2 : j < k + words
            · rw [upd_ne _ (by omega)]; exact Hf.out j hj2
            · obtain rfl : j = k + words := by omega
              rw [upd_same, Hk0.out, Nat.zero_add, Hby.out, limb_shl0]
          · exact hz.set_far (by omega)
          · exact hs.set_far (by omega)
          · exact ht.set (by omega)
          · exact hbel.setCell (by simp; omega) _
          · simp; omega
        case measure => simp [intOf]; omega
      · obtain ⟨m, hm⟩ : ∃ m, k = m + 1 := ⟨k - 1, by omega⟩
        have q7 : (0 : Int) < (k : Int) := by omega
        have q8 : IntKind.i64.wrap ((k : Int) - 1) = (k : Int) - 1 := IntWalk.i64_in _ (by omega)
        have q9 : ((k : Int) - 1).toNat = m := by omega
        have q10 : (0 : Int) ≤ (k : Int) - 1 := by omega
        have q11 : (k : Int) - 1 < 8 := by omega
        have q12 : IntKind.i64.wrap (64 - (rest : Int)) = 64 - (rest : Int) := IntWalk.i64_in _ (by omega)
        have a2 := hs.cell m (by omega)
        have o1 := or_join2 (l := limb n k) (limb_lt n m) hr64
        have Hm := Lib.hid hm
        clear hm hk0
        go_wp2
        go_region
        go_wp2
        go_roundw
        case rel =>
          refine ⟨k + 1, upd (upd f (k + words) (shlA (limb n k) rest)) (k + words) (shlLo (shlHi (limb n m) rest) (limb n k) rest), by omega, by go_num, ?_, ?_, ?_, ?_, ?_, ?_⟩
          · intro j hj
            by_cases hj2 : j < k + words
            · rw [upd_ne _ (by omega), upd_ne _ (by omega)]; exact Hf.out j hj2
            · obtain rfl : j = k + words := by omega
              rw [upd_same, Hm.out, Hby.out, limb_shl _ _ _ _ hr64]
          · exact ((hz.set_far (by omega)).drew).set_far (by omega)
          · exact ((hs.set_far (by omega)).drew).set_far (by omega)
          · exact ((ht.set (by omega)).drew).set (by omega)
          · exact (below_drewN (hbel.setCell (by simp; omega) _) 1).setCell (by simp; omega) _
          · simp; omega
        case measure => simp [intOf]; omega
    · have hk8 : k = 8 - words := by omega
      have q6 : ¬ (k : Int) < 8 - (words : Int) := by omega
      have ht' : Arr .u64 wr (w.heap.size + 1 + 1 + 1) 8 (limb (n * 2 ^ by_)) := ht.congr fun i hi => hf i (by omega)
      clear hf ht hk8
      obtain ⟨N, hN⟩ : ∃ N, N = n * 2 ^ by_ := ⟨_, rfl⟩
      rw [← hN] at ht'
      have HN := Lib.hid hN
      clear hN
      obtain ⟨s0, s1, s2, s3, s4, s5, s6, s7⟩ := ht'.cells8
      go_wp2_with (go_at_call 86; refine (join_walk N _).mono ?_; rintro e w1 ⟨rfl, hb1⟩; obtain ⟨y0, y1, y2, y3, y4, y5, y6, y7⟩ := (hz.below hb1 (by omega)).frees8; obtain ⟨z0, z1, z2, z3, z4, z5, z6, z7⟩ := (hz.below hb1 (by omega)).cells8; unfold W2)
      refine bodyPost_ret (v := W2 N) (by unfold W2; simp [results, Tryz.results82, go_sem, z0, z1, z2, z3, z4, z5, z6, z7]) rfl ⟨by rw [HN.out], ?_⟩
      exact below_set8 (hbel.trans (hb1.mono (by omega))) (by omega)

end Go.Proofs.YtoaepgiajooecaaGreat
