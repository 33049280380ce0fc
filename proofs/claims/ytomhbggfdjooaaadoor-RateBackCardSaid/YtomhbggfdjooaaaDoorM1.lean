/- muldiv.addProduct, joined, Mul, walked. -/
import Derived.Test.YtomhbggfdjooaaaDoorU4
namespace Go.Proofs.YtomhbggfdjooaaaDoor
open Go.RowKit

/-- the lower and the upper word of s + a b + c -/
def apl (s a b c : Nat) : Nat := s64 (s64 (ml a b) c 0) s 0
def aph (s a b c : Nat) : Nat := mh a b + c64 (ml a b) c 0 + c64 (s64 (ml a b) c 0) s 0
theorem ap_eq {s a b c : Nat} (hs : s < 2 ^ 64) (ha : a < 2 ^ 64) (hb : b < 2 ^ 64) (hc : c < 2 ^ 64) :
    aph s a b c < 2 ^ 64 ∧ aph s a b c * 2 ^ 64 + apl s a b c = s + a * b + c := by
  have h := mul_step ha hb hc hs
  unfold aph apl
  have e1 : c64 (s64 (ml a b) c 0) s 0 = c64 s (s64 (ml a b) c 0) 0 := by unfold c64; congr 1; omega
  have e2 : s64 (s64 (ml a b) c 0) s 0 = s64 s (s64 (ml a b) c 0) 0 := by unfold s64; congr 1; omega
  rw [e1, e2]; exact h
theorem apl_lt (s a b c : Nat) : apl s a b c < 2 ^ 64 := s64_lt _ _ _

set_option maxRecDepth 100000 in
theorem addp_walk (s a b c : Nat) (w : World) (hs : s < 2 ^ 64) (ha : a < 2 ^ 64) (hb : b < 2 ^ 64) (hc : c < 2 ^ 64) :
    Calls Tryd.prog 51 #[.int .u64 (s : Nat), .int .u64 (a : Nat), .int .u64 (b : Nat), .int .u64 (c : Nat)] w fun e w' =>
      e = .returned (.tuple #[.int .u64 (apl s a b c : Nat), .int .u64 (aph s a b c : Nat)]) ∧ w' = w := by
  have haddz := run_add64z
  have hap := ap_eq hs ha hb hc
  have Hap := Lib.hid hap
  have w1 : IntKind.u64.wrap ((mh a b : Int) + (c64 (ml a b) c 0 : Int)) = ((mh a b + c64 (ml a b) c 0 : Nat) : Int) := by
    rw [← Int.natCast_add, wrap_u64 (by have := hap.1; unfold aph at this; omega)]
  have w2 : IntKind.u64.wrap ((mh a b : Int) + (c64 (ml a b) c 0 : Int) + (c64 (s64 (ml a b) c 0) s 0 : Int)) = ((aph s a b c : Nat) : Int) := by
    rw [← Int.natCast_add, ← Int.natCast_add, wrap_u64 (by have := hap.1; unfold aph at this; omega)]; rfl
  clear hap
  go_enter Tryd.func51, Tryd.ntmps51
  go_wp2_with (go_at_call 61; refine (mul64_c _ _ ha hb _).mono ?_; rintro e w' ⟨rfl, rfl⟩)
  refine bodyPost_ret (v := .tuple #[.int .u64 (apl s a b c : Nat), .int .u64 (aph s a b c : Nat)]) (by simp [results, Tryd.results51, go_sem, apl]) rfl ⟨rfl, rfl⟩

/-- a number of 512 bits, as the program holds it: the high half ahead -/
def W2 (n : Nat) : Value := .agg #[.int .u64 (limb n 4 : Nat), .int .u64 (limb n 5 : Nat), .int .u64 (limb n 6 : Nat), .int .u64 (limb n 7 : Nat), .int .u64 (limb n 0 : Nat), .int .u64 (limb n 1 : Nat), .int .u64 (limb n 2 : Nat), .int .u64 (limb n 3 : Nat)]
def JoinPost (n : Nat) (w : World) (e : Ending) (w' : World) : Prop := e = .returned (W2 n) ∧ Below w.heap.size w w'
set_option maxRecDepth 100000 in
theorem join_walk (n : Nat) (w : World) : Calls Tryd.prog 52 #[U8 n] w (JoinPost n w) := by
  unfold U8
  go_enter Tryd.func52, Tryd.ntmps52
  go_wp2
  refine bodyPost_ret (v := W2 n) (by unfold W2; simp [results, Tryd.results52, go_sem]) rfl ⟨rfl, ?_⟩
  exact ((Below.refl _ _).alloc (Nat.le_refl _) _).alloc (by simp only [World.size_alloc]; omega) _

/-- the state at the head of Mul's outer loop -/
def WMulOut (a b : Nat) (w : World) (i : Value) (wr : World) : Prop :=
  ∃ (k : Nat) (f : Nat → Nat), k ≤ 4 ∧ i = .int .i64 (k : Nat) ∧ (∀ j, f j < 2 ^ 64) ∧ (∀ j, k + 4 ≤ j → f j = 0) ∧ val f 8 = val (limb a) k * b ∧
    Arr .u64 wr w.heap.size 4 (limb a) ∧ Arr .u64 wr (w.heap.size + 1) 4 (limb b) ∧ Arr .u64 wr (w.heap.size + 1 + 1) 8 (fun _ => 0) ∧ Arr .u64 wr (w.heap.size + 1 + 1 + 1) 8 f ∧
    Below w.heap.size w wr ∧ w.heap.size + 1 + 1 + 1 < wr.heap.size
/-- the state at the head of its inner loop -/
def WMulIn (a b : Nat) (w : World) (k V0 : Nat) (c i : Value) (wr : World) : Prop :=
  ∃ (j d : Nat) (f : Nat → Nat), j ≤ 4 ∧ i = .int .i64 (j : Nat) ∧ c = .int .u64 (d : Nat) ∧ d < 2 ^ 64 ∧ (∀ j, f j < 2 ^ 64) ∧ (∀ j, k + 4 ≤ j → f j = 0) ∧
    val f 8 + d * 2 ^ (64 * (k + j)) = V0 + limb a k * val (limb b) j * 2 ^ (64 * k) ∧
    Arr .u64 wr w.heap.size 4 (limb a) ∧ Arr .u64 wr (w.heap.size + 1) 4 (limb b) ∧ Arr .u64 wr (w.heap.size + 1 + 1) 8 (fun _ => 0) ∧ Arr .u64 wr (w.heap.size + 1 + 1 + 1) 8 f ∧
    Below w.heap.size w wr ∧ w.heap.size + 1 + 1 + 1 < wr.heap.size
def WMulPost (a b : Nat) (w : World) (e : Ending) (w' : World) : Prop := e = .returned (W2 (a * b)) ∧ Below w.heap.size w w'

theorem Arr.set8 {w : World} {b : Nat} {f : Nat → Nat} {x0 x1 x2 x3 x4 x5 x6 x7 : Nat} (h : Arr .u64 w b 8 f) :
    Arr .u64 ((((((((w.setCell ⟨b, 0, none⟩ (.int .u64 (x0 : Nat))).setCell ⟨b, 1, none⟩ (.int .u64 (x1 : Nat))).setCell ⟨b, 2, none⟩ (.int .u64 (x2 : Nat))).setCell ⟨b, 3, none⟩ (.int .u64 (x3 : Nat))).setCell ⟨b, 4, none⟩ (.int .u64 (x4 : Nat))).setCell ⟨b, 5, none⟩ (.int .u64 (x5 : Nat))).setCell ⟨b, 6, none⟩ (.int .u64 (x6 : Nat))).setCell ⟨b, 7, none⟩ (.int .u64 (x7 : Nat))) b 8
      (upd (upd (upd (upd (upd (upd (upd (upd f 0 x0) 1 x1) 2 x2) 3 x3) 4 x4) 5 x5) 6 x6) 7 x7) :=
  (((((((h.set (by omega)).set (by omega)).set (by omega)).set (by omega)).set (by omega)).set (by omega)).set (by omega)).set (by omega)

set_option maxRecDepth 100000 in
set_option maxHeartbeats 2000000 in
theorem wmul_walk (a b : Nat) (w : World) (hal : a < 2 ^ 256) (hbl : b < 2 ^ 256) :
    Calls Tryd.prog 42 #[U a, U b] w (WMulPost a b w) := by
  unfold U
  go_enter Tryd.func42, Tryd.ntmps42
  go_wp2
  go_loopw [9] (WMulOut a b w) (fun i _ => 4 - (intOf i).toNat)
  case atStart =>
    refine ⟨0, fun _ => 0, by omega, rfl, by simp, by simp, by rw [val_zero]; simp only [val]; omega, ?_, ?_, ?_, ?_, ?_, ?_⟩
    · exact (((Arr.new4 (f := limb a) rfl).alloc _).alloc _).alloc _
    · exact ((Arr.new4 (f := limb b) (by simp)).alloc _).alloc _
    · exact (Arr.new8 (f := fun _ => 0) (by simp)).alloc _
    · exact Arr.new8 (f := fun _ => 0) (by simp)
    · exact ((((Below.refl _ _).alloc (Nat.le_refl _) _).alloc (by simp only [World.size_alloc]; omega) _).alloc (by simp only [World.size_alloc]; omega) _).alloc (by simp only [World.size_alloc]; omega) _
    · simp
  case round =>
    obtain ⟨k, f, hk, rfl, hf, hz8, hv, ha, hb, hz, hs, hbel, hsz⟩ := hrel
    by_cases hlt : k < 4
    · have hkI : (k : Int) < 4 := by omega
      go_wp2
      go_loopw [7, 12] (WMulIn a b w k (val f 8)) (fun _ i _ => 4 - (intOf i).toNat)
      case atStart => exact ⟨0, 0, f, by omega, rfl, rfl, by omega, hf, hz8, by simp only [val]; omega, ha, hb, hz, hs, hbel, hsz⟩
      case round =>
        obtain ⟨j, d, g, hj, rfl, rfl, hd, hg, hg8, hvg, ia, ib, iz, is, ibel, isz⟩ := hrel
        by_cases hjl : j < 4
        · have Hvg := Lib.hid hvg
          have Hv := Lib.hid hv
          have Hg := Lib.hid hg
          have Hf := Lib.hid hf
          have Hz8 := Lib.hid hz8
          have Hg8 := Lib.hid hg8
          have hbl' := hbl
          clear hvg hv hg hf hz8 hg8 hal hbl
          have a1 := ia.cell k hlt
          have b1 := ib.cell j hjl
          have f1 := is.free (k + j) (by omega)
          have f2 := is.cell (k + j) (by omega)
          have q1 : (k : Int) + (j : Int) < 8 := by omega
          have q3 : ((k : Int) + (j : Int)).toNat = k + j := by omega
          have q2 : IntKind.i64.wrap ((k : Int) + (j : Int)) = (k : Int) + (j : Int) := IntWalk.i64_in _ (by omega)
          go_wp2
          go_region_with (go_at_call 51; refine (addp_walk _ _ _ _ _ (Hg.out _) (limb_lt _ _) (limb_lt _ _) hd).mono ?_; rintro e w' ⟨rfl, rfl⟩)
          all_goals
            go_wp2
            go_roundw
            case rel =>
              have hm := ap_eq (Hg.out (k + j)) (limb_lt a k) (limb_lt b j) hd
              refine ⟨j + 1, _, upd g (k + j) (apl (g (k + j)) (limb a k) (limb b j) d), by omega, by go_num, rfl, hm.1, upd_lt Hg.out (apl_lt _ _ _ _), ?_, ?_, ?_, ?_, ?_, ?_, ?_, ?_⟩
              · intro i hi; rw [upd_ne _ (by omega)]; exact Hg8.out i hi
              · have hv1 := val_upd_at g (apl (g (k + j)) (limb a k) (limb b j) d) (show k + j < 8 by omega)
                rw [show k + (j + 1) = k + j + 1 from rfl, pow_succ64]
                exact mul_inner_math hv1 Hvg.out hm.2 (by rw [← Nat.pow_add]; congr 1; omega)
              · exact (ia.drewN _).set_far (by omega)
              · exact (ib.drewN _).set_far (by omega)
              · exact (iz.drewN _).set_far (by omega)
              · exact (is.drewN _).set (by omega)
              · exact (below_drewN ibel _).setCell (by simp; omega) _
              · simp; omega
            case measure => simp [intOf]; omega
        · obtain rfl : j = 4 := by omega
          have f1 := is.free (k + 4) (by omega)
          have f2 := is.cell (k + 4) (by omega)
          have Hvg := Lib.hid hvg
          have Hv := Lib.hid hv
          have Hg := Lib.hid hg
          have Hf := Lib.hid hf
          have Hz8 := Lib.hid hz8
          have Hg8 := Lib.hid hg8
          have hbl' := hbl
          clear hvg hv hg hf hz8 hg8 hal hbl
          go_wp2
          go_roundw
          case rel =>
            refine ⟨k + 1, upd g (k + 4) d, by omega, by go_num, upd_lt Hg.out hd, ?_, ?_, ?_, ?_, ?_, ?_, ?_, ?_⟩
            · intro i hi; rw [upd_ne _ (by omega)]; exact Hg8.out i (by omega)
            · have hv1 := val_upd_at g d (show k + 4 < 8 by omega)
              rw [Hg8.out (k + 4) (Nat.le_refl _)] at hv1
              have hvg := Hvg.out
              rw [val4_limb hbl'] at hvg
              exact mul_outer_math hv1 hvg Hv.out
            · exact ia.set_far (by omega)
            · exact ib.set_far (by omega)
            · exact iz.set_far (by omega)
            · exact is.set (by omega)
            · exact ibel.setCell (by simp; omega) _
            · simp; omega
          case measure => simp [intOf]; omega
    · obtain rfl : k = 4 := by omega
      have hn : val f 8 = a * b := by rw [hv, val4_limb hal]
      have hs' : Arr .u64 wr (w.heap.size + 1 + 1 + 1) 8 (limb (a * b)) := hs.congr fun i hi => by rw [← hn, limb_val 8 (fun i _ => hf i) i hi]
      clear hs hn hv hz8 hf
      obtain ⟨n, hn⟩ : ∃ n, n = a * b := ⟨_, rfl⟩
      rw [← hn] at hs'
      have Hn := Lib.hid hn
      clear hn hal hbl
      obtain ⟨s0, s1, s2, s3, s4, s5, s6, s7⟩ := hs'.cells8
      go_wp2_with (go_at_call 52; refine (join_walk n _).mono ?_; rintro e w1 ⟨rfl, hb1⟩; obtain ⟨y0, y1, y2, y3, y4, y5, y6, y7⟩ := (hz.below hb1 (by omega)).frees8; obtain ⟨z0, z1, z2, z3, z4, z5, z6, z7⟩ := (hz.below hb1 (by omega)).cells8; unfold W2)
      refine bodyPost_ret (v := W2 n) (by unfold W2; simp [results, Tryd.results42, go_sem, z0, z1, z2, z3, z4, z5, z6, z7]) rfl ⟨by rw [Hn.out], ?_⟩
      exact below_set8 (hbel.trans (hb1.mono (by omega))) (by omega)

end Go.Proofs.YtomhbggfdjooaaaDoor
