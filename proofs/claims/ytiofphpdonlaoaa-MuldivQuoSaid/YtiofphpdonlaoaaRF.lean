/- tallageref02.Mul, walked. -/
import Derived.Test.YtiofphpdonlaoaaRE
namespace Go.Proofs.Ytiofphpdonlaoaa
open Go.RowKit Go.Sort

theorem nval_parts (f : Nat → Nat) (m : Nat) : ∀ k, nval f (m + k) = nval f m + nval (fun i => f (m + i)) k * 2 ^ (32 * m)
  | 0 => by simp [nval]
  | k + 1 => by
    have ih := nval_parts f m k
    rw [show m + (k + 1) = (m + k) + 1 from rfl]
    simp only [nval]
    rw [ih, Nat.add_mul, Nat.add_assoc]
    congr 2
    rw [show 32 * (m + k) = 32 * k + 32 * m by omega, Nat.pow_add, Nat.mul_assoc]
theorem Ws.tail {w : World} {g o c n : Nat} {f : Nat → Nat} (h : Ws w (.slice (some ⟨g, o, none⟩) n c) n f) (m : Nat) (hm : m ≤ n) : Ws w (.slice (some ⟨g, o + m, none⟩) (n - m : Nat) (c - m : Nat)) (n - m) (fun i => f (m + i)) := by
  refine ⟨fun i => h.small _, ?_⟩
  rcases h.at_ with ⟨h1, _⟩ | ⟨g', o', c', e, hc, hg, hx⟩
  · cases h1
  · cases e
    exact .inr ⟨g, o + m, c - m, rfl, by omega, hg, fun i hi => by rw [Nat.add_assoc]; exact hx (m + i) (by omega)⟩

theorem toUW_c (v : Value) (n : Nat) (f : Nat → Nat) (N : Nat) (w : World) (h : Ws w v n f) (hn : n ≤ 100) (hv : nval f n = N) (hN : N < 2 ^ 256) : Calls Try.prog 85 #[v] w fun e w' => e = .returned (.tuple #[U N, .bool true]) ∧ Below w.heap.size w w' := by
  have hw := toU_walk v n f w h hn
  rw [hv] at hw
  refine hw.mono fun e w' ⟨he, hb⟩ => ⟨?_, hb⟩
  rw [he, if_pos hN, decide_eq_true hN]
theorem Ws.cap {w : World} {A : Option Addr} {n c : Nat} {f : Nat → Nat} (h : Ws w (.slice A n c) n f) : n ≤ c := by
  rcases h.at_ with ⟨h1, h2⟩ | ⟨g', o', c', e, hc, _, _⟩
  · omega
  · cases e; exact hc
set_option maxRecDepth 100000 in
set_option maxHeartbeats 4000000 in
theorem rwide_walk (a b H L : Nat) (w : World) (ha : a < 2 ^ 256) (hb : b < 2 ^ 256) (hH : H = a * b / 2 ^ 256) (hL : L = a * b % 2 ^ 256) :
    Calls Try.prog 45 #[U a, U b] w fun e w' => e = .returned (.tuple #[U H, U L]) ∧ Below w.heap.size w w' := by
  have Hal := Lib.hid ha
  have Hbl := Lib.hid hb
  have HH := Lib.hid hH
  have HL := Lib.hid hL
  clear ha hb hH hL
  unfold U
  go_enter Try.func45, Try.ntmps45
  go_upto_region 1 with (fail)
  have T0 := Lib.hid (((two_first (a := a) (b := b) (w := w) (t1 := 24) (t2 := 24)).alloc (.cells #[.int .u64 0, .int .u64 0, .int .u64 0, .int .u64 0] 24)).alloc (.cells #[.int .u64 0, .int .u64 0, .int .u64 0, .int .u64 0] 24))
  have Z0 := Lib.hid ((Arr.new4 (κ := .u64) (w := (w.alloc (.cells #[.int .u64 (limb a 0 : Nat), .int .u64 (limb a 1 : Nat), .int .u64 (limb a 2 : Nat), .int .u64 (limb a 3 : Nat)] 24)).alloc (.cells #[.int .u64 (limb b 0 : Nat), .int .u64 (limb b 1 : Nat), .int .u64 (limb b 2 : Nat), .int .u64 (limb b 3 : Nat)] 24)) (t := 24) (f := fun _ => 0) (b := w.heap.size + 1 + 1) (by simp)).alloc (.cells #[.int .u64 0, .int .u64 0, .int .u64 0, .int .u64 0] 24))
  have Y0 := Lib.hid (Arr.new4 (κ := .u64) (w := ((w.alloc (.cells #[.int .u64 (limb a 0 : Nat), .int .u64 (limb a 1 : Nat), .int .u64 (limb a 2 : Nat), .int .u64 (limb a 3 : Nat)] 24)).alloc (.cells #[.int .u64 (limb b 0 : Nat), .int .u64 (limb b 1 : Nat), .int .u64 (limb b 2 : Nat), .int .u64 (limb b 3 : Nat)] 24)).alloc (.cells #[.int .u64 0, .int .u64 0, .int .u64 0, .int .u64 0] 24)) (t := 24) (f := fun _ => 0) (b := w.heap.size + 1 + 1 + 1) (by simp))
  go_region_held3 (fun w' => w'.cell? ⟨w.heap.size, 0, none⟩ = some (.int .u64 (limb a 0 : Nat)) ∧ w'.cell? ⟨w.heap.size, 1, none⟩ = some (.int .u64 (limb a 1 : Nat)) ∧ w'.cell? ⟨w.heap.size, 2, none⟩ = some (.int .u64 (limb a 2 : Nat)) ∧ w'.cell? ⟨w.heap.size, 3, none⟩ = some (.int .u64 (limb a 3 : Nat)) ∧ w'.cell? ⟨w.heap.size + 1, 0, none⟩ = some (.int .u64 (limb b 0 : Nat)) ∧ w'.cell? ⟨w.heap.size + 1, 1, none⟩ = some (.int .u64 (limb b 1 : Nat)) ∧ w'.cell? ⟨w.heap.size + 1, 2, none⟩ = some (.int .u64 (limb b 2 : Nat)) ∧ w'.cell? ⟨w.heap.size + 1, 3, none⟩ = some (.int .u64 (limb b 3 : Nat)) ∧ Two' w w' a b)
    ((refine held2 ?_; repeat (first | with_reducible exact u3 | with_reducible exact u2 | with_reducible exact u1 | with_reducible exact T0.out | with_reducible refine Two'.drew ?_ | with_reducible exact un_held2 (by with_reducible assumption))))
    (first
      | (go_at_call 80; refine (times_c v1 v2 a b _ (hv1.below hb2) hv2).mono ?_; rintro e w3 ⟨⟨v3, rfl, hv3⟩, hb3⟩; have u3 := u2.below hb3; have zz3 := zz2.below hb3 zz2.lt4; have yy3 := yy2.below hb3 yy2.lt4)
      | (go_at_call 74; with_reducible refine (ofn_c b _ Hbl.out).mono ?_; rintro e w2 ⟨⟨v2, rfl, hv2⟩, hb2⟩; have u2 := u1.below hb2; have zz2 := zz1.below hb2 zz1.lt4; have yy2 := yy1.below hb2 yy1.lt4)
      | (go_at_call 74; with_reducible refine (ofn_c a _ Hal.out).mono ?_; rintro e w1 ⟨⟨v1, rfl, hv1⟩, hb1⟩; have u1 : Two' w w1 a b := Two'.below (un_held2 (by with_reducible assumption)) hb1; have zz1 := Z0.out.drew.below hb1 Z0.out.drew.lt4; have yy1 := Y0.out.drew.below hb1 Y0.out.drew.lt4))
  obtain ⟨n, f, hn, hw, hv, _⟩ := hv3
  obtain ⟨A, c, rfl, hA⟩ := hw.open_
  by_cases h8 : n ≤ 8
  · have q1 : (n : Int) ≤ 8 := by omega
    have hlt : a * b < 2 ^ 256 := by
      rw [← hv]; exact Nat.lt_of_lt_of_le (nval_lt n (fun i _ => hw.small i)) (Nat.pow_le_pow_right (by decide) (by omega))
    have E0 := Lib.hid (show H = 0 ∧ L = a * b from ⟨by rw [HH.out]; exact Nat.div_eq_of_lt hlt, by rw [HL.out]; exact Nat.mod_eq_of_lt hlt⟩)
    have Hlt := Lib.hid hlt
    have Hw := Lib.hid (show NatV w3 (.slice A n c) (a * b) 16 from ⟨n, f, hn, hw, hv, by assumption⟩)
    clear hlt h8 hw hv hA
    go_upto_region 4 with (go_at_call 85; refine (toU_c _ (a * b) 16 _ Hw.out (by omega) Hlt.out).mono ?_; rintro e w4 ⟨rfl, hb4⟩; rw [← E0.out.2]; have u4 := u3.below hb4; have zz4 := zz3.below hb4 zz3.lt4; have yy4 := yy3.below hb4 yy3.lt4; unfold U)
    have lz := zz4.lt4
    have ly := yy4.lt4
    obtain ⟨z0, z1, z2, z3⟩ := zz4.frees4
    obtain ⟨z0', z1', z2', z3'⟩ := zz4.cells4
    obtain ⟨y0, y1, y2, y3⟩ := yy4.frees4
    obtain ⟨y0', y1', y2', y3'⟩ := yy4.cells4
    go_region
    all_goals
      go_wp2
      refine bodyPost_ret (v := .tuple #[.agg #[.int .u64 0, .int .u64 0, .int .u64 0, .int .u64 0], .agg #[.int .u64 (limb L 0 : Nat), .int .u64 (limb L 1 : Nat), .int .u64 (limb L 2 : Nat), .int .u64 (limb L 3 : Nat)]]) (by simp [results, Try.results45, go_sem, z0', z1', z2', z3', y0', y1', y2', y3', lz, ly]) rfl ⟨by rw [E0.out.1]; rfl, ?_⟩
      refine below_drewN ?_ 1
      repeat (first | with_reducible exact u4.l | with_reducible refine below_set4 ?_ (by omega) | with_reducible refine RowKit.Below.alloc ?_ (by simp only [World.size_setCell]; omega) _)
  · obtain ⟨m, hm⟩ : ∃ m, n = 8 + m := ⟨n - 8, by omega⟩
    obtain ⟨g, o, rfl, hg, hx⟩ := hA (by omega)
    have hc8 : n ≤ c := hw.cap
    have q1 : ¬ (n : Int) ≤ 8 := by omega
    have q2 : (8 : Int) ≤ (n : Int) := by omega
    have q3 : (8 : Int) ≤ (c : Int) := by omega
    have q4 : (n : Int) ≤ (c : Int) := by omega
    have hp := nval_parts f 8 m
    rw [← hm, hv, show 32 * 8 = 256 from rfl] at hp
    have hlo : nval f 8 < 2 ^ 256 := nval_lt 8 (fun i _ => hw.small i)
    have Elo := Lib.hid (show nval f 8 = L by rw [HL.out, hp, Nat.add_mul_mod_self_right, Nat.mod_eq_of_lt hlo])
    have Ehi := Lib.hid (show nval (fun i => f (8 + i)) (n - 8) = H by rw [show n - 8 = m by omega, HH.out, hp, Nat.add_mul_div_right _ _ (by decide), Nat.div_eq_of_lt hlo, Nat.zero_add])
    have HLl := Lib.hid (show L < 2 ^ 256 by rw [← Elo.out]; exact hlo)
    have HHl := Lib.hid (show H < 2 ^ 256 by rw [← Ehi.out]; exact Nat.lt_of_lt_of_le (nval_lt (n - 8) (fun i _ => hw.small (8 + i))) (Nat.pow_le_pow_right (by decide) (by omega)))
    have Hlow := Lib.hid (hw.cut (show 8 ≤ n by omega))
    have Hhigh := Lib.hid (hw.tail 8 (by omega))
    clear h8 hA hp hlo hm hx hv hw
    go_upto_region 7 with (first
      | (go_at_call 85; with_reducible refine (toUW_c _ 8 f L _ Hlow.out (by omega) Elo.out HLl.out).mono ?_; rintro e w4 ⟨rfl, hb4⟩; have u4 := u3.below hb4; have zz4 := zz3.below hb4 zz3.lt4; have yy4 := yy3.below hb4 yy3.lt4; unfold U)
      | (go_at_call 85; with_reducible refine (toUW_c _ (n - 8) (fun i => f (8 + i)) H _ ((Hhigh.out.below hb4).below ((Below.refl _ _).alloc (Nat.le_refl _) _)) (by omega) Ehi.out HHl.out).mono ?_; rintro e w5 ⟨rfl, hb5⟩; have u5 := (u4.alloc _).below hb5; have zz5 := (zz4.alloc _).below hb5 (zz4.alloc _).lt4; have yy5 := (yy4.alloc _).below hb5 (yy4.alloc _).lt4; have bl5 := (Box.new (n := L) rfl).below hb5; unfold U))
    have lz := zz5.lt4
    have ly := yy5.lt4
    have lb := bl5.s
    have lz4 := zz4.lt4
    have ly4 := yy4.lt4
    obtain ⟨b0, b1, b2, b3⟩ := bl5.a.cells4
    obtain ⟨z0, z1, z2, z3⟩ := zz5.frees4
    obtain ⟨z0', z1', z2', z3'⟩ := zz5.cells4
    obtain ⟨y0, y1, y2, y3⟩ := yy5.frees4
    obtain ⟨y0', y1', y2', y3'⟩ := yy5.cells4
    go_region
    all_goals
      go_wp2
      refine bodyPost_ret (v := .tuple #[.agg #[.int .u64 (limb H 0 : Nat), .int .u64 (limb H 1 : Nat), .int .u64 (limb H 2 : Nat), .int .u64 (limb H 3 : Nat)], .agg #[.int .u64 (limb L 0 : Nat), .int .u64 (limb L 1 : Nat), .int .u64 (limb L 2 : Nat), .int .u64 (limb L 3 : Nat)]]) (by simp [results, Try.results45, go_sem, z0', z1', z2', z3', y0', y1', y2', y3', lz, ly]) rfl ⟨rfl, ?_⟩
      refine below_drewN ?_ 1
      repeat (first | with_reducible exact u5.l | with_reducible refine below_set4 ?_ (by omega) | with_reducible refine RowKit.Below.alloc ?_ (by simp only [World.size_setCell]; omega) _)
end Go.Proofs.Ytiofphpdonlaoaa
