/- tallagelaw09.KeysBack, walked. -/
import Derived.Test.YthglnedlbiembaaK8
import Derived.Test.YthglnedlbiembaaBK
import Derived.Test.YthglnedlbiembaaU3
namespace Go.Proofs.Ythglnedlbiembaa
open Go.RowKit

def badk (t : Int) (f : Nat → Int) : Nat → Bool
  | 0 => decide (t < 1) || decide (255 < t)
  | k + 1 => badk t f k || decide (f k < 0)
theorem badk_false {t : Int} {f : Nat → Int} : ∀ {n : Nat}, badk t f n = false ↔ 1 ≤ t ∧ t ≤ 255 ∧ ∀ i, i < n → 0 ≤ f i
  | 0 => by
    unfold badk
    rw [Bool.or_eq_false_iff, decide_eq_false_iff_not, decide_eq_false_iff_not]
    constructor
    · rintro ⟨h1, h2⟩; exact ⟨by omega, by omega, fun i h => absurd h (by omega)⟩
    · rintro ⟨h1, h2, _⟩; exact ⟨by omega, by omega⟩
  | n + 1 => by
    unfold badk
    rw [Bool.or_eq_false_iff, badk_false, decide_eq_false_iff_not]
    constructor
    · rintro ⟨⟨h1, h2, h3⟩, h4⟩
      refine ⟨h1, h2, fun i hi => ?_⟩
      rcases Nat.lt_or_ge i n with h | h
      · exact h3 i h
      · obtain rfl : i = n := by omega
        omega
    · rintro ⟨h1, h2, h3⟩
      exact ⟨⟨h1, h2, fun i hi => h3 i (by omega)⟩, by have := h3 n (by omega); omega⟩
theorem keyStr_bad {t : Int} {f : Nat → Int} {n : Nat} (h : badk t f n = true) : keyStr t f n = ⟨#[]⟩ := by
  unfold keyStr
  rw [if_neg]
  intro hh
  rw [badk_false.2 hh] at h
  cases h
theorem strOfNums_app (a b : List Int) : strOfNums a ++ strOfNums b = strOfNums (a ++ b) := by
  apply ByteArray.ext
  apply Array.ext'
  rw [ByteArray.data_append, Array.toList_append, strOfNums_data, strOfNums_data, strOfNums_data, List.map_append]
theorem valStr_succ {f : Nat → Int} {j : Nat} (h : 0 ≤ f j) : valStr f j ++ numStr (f j) = valStr f (j + 1) := by
  unfold valStr numStr
  rw [strOfNums_app, tl_snoc, Nat.zero_add, Int.max_eq_left h]
  simp [ints]
theorem numStr_size (x : Int) : (numStr x).size = 8 := by unfold numStr; rw [strOfNums_size]; simp [ints, kb8]
theorem valStr_zero (f : Nat → Int) : valStr f 0 = ⟨#[]⟩ := rfl
set_option maxRecDepth 100000 in
set_option maxHeartbeats 4000000 in
theorem keysBack_walk (t : Int) (A : Option Addr) (n c a : Nat) (f : Nat → Int) (w : World) (hl : Il w A n f) (ha : a < 2 ^ 256) :
    Calls Try.prog 13 #[.int .i64 t, .slice A n c, U a] w fun e w' => e = .returned (.bool true) ∧ Below w.heap.size w w' := by
  by_cases h50 : 50 < n
  · have q0 : (50 : Int) < n := by omega
    unfold U
    go_enter Try.func13, Try.ntmps13
    go_wp2_with (go_at_call 79; refine (lives9_walk _).mono ?_; rintro e w1 ⟨rfl, hb1⟩)
    go_ret
    exact ⟨rfl, ((Below.refl _ _).alloc (Nat.le_refl _) _).trans (hb1.mono (by simp))⟩
  · have q0 : ¬ (50 : Int) < n := by omega
    have nI : (n : Int) ≤ 50 := by omega
    have start : t < 1 ∧ badk t f 0 = true ∨ ¬ t < 1 ∧ decide (255 < t) = badk t f 0 := by
      unfold badk
      by_cases h : t < 1
      · exact .inl ⟨h, by rw [decide_eq_true h]; rfl⟩
      · exact .inr ⟨h, by rw [decide_eq_false h]; rfl⟩
    have Ha := Lib.hid ha
    have K0 := Lib.hid (Bk.push (t := 24) a (⟨fun p hp => (by cases hp), Below.refl _ _⟩ : Bk w w []))
    obtain ⟨W, hW⟩ : ∃ W, W = w.alloc (.cells #[.int .u64 (limb a 0 : Nat), .int .u64 (limb a 1 : Nat), .int .u64 (limb a 2 : Nat), .int .u64 (limb a 3 : Nat)] 24) := ⟨_, rfl⟩
    have hlW : Il W A n f := by rw [hW]; exact hl.below ((Below.refl _ _).alloc (Nat.le_refl _) _)
    have k0 := K0.out
    rw [← hW] at k0
    clear K0 hl ha
    unfold U
    go_enter Try.func13, Try.ntmps13
    rcases start with ⟨t1, hb0⟩ | ⟨t1, hb0⟩
    all_goals
     have Hb0 := Lib.hid hb0
     clear hb0
     go_wp2
     rw [← hW]
     clear hW
     go_loopw [7, 33] (fun b i wr => ∃ k : Nat, k ≤ n ∧ i = .int .i64 (k : Nat) ∧ b = .bool (badk t f k) ∧ wr = W) (fun _ x _ => n - (intOf x).toNat)
     case atStart => exact ⟨0, by omega, rfl, by first | rw [Hb0.out], rfl⟩
     case round =>
       obtain ⟨k, hk, rfl, rfl, rfl⟩ := hrel
       have kI : (k : Int) ≤ n := by omega
       by_cases hlt : k < n
       · obtain ⟨ga, oa, rfl, hga, hxa⟩ := hlW.at_ (by omega)
         have q1 : (k : Int) < n := by omega
         have q2 : IntKind.i64.wrap ((k : Int) + 1) = (k : Int) + 1 := IntWalk.i64_in _ (by omega)
         have c1 := hxa k hlt
         have hnext : badk t f (k + 1) = (badk t f k || decide (f k < 0)) := rfl
         cases hbk : badk t f k
         all_goals
           rw [hbk] at hnext
           have Hn := Lib.hid hnext
           clear hnext hxa
           go_wp2
           go_roundw
           case rel => exact ⟨k + 1, by omega, by go_num, by rw [Hn.out]; rfl, trivial⟩
           case measure => simp [intOf]; omega
       · obtain rfl : k = n := by omega
         have q1 : ¬ (k : Int) < k := by omega
         cases hbk : badk t f k
         · obtain ⟨ht1, ht2, hpos⟩ := badk_false.1 hbk
           first
             | (exfalso; omega)
             | (obtain ⟨m, rfl⟩ : ∃ m : Nat, t = (m : Int) := ⟨t.toNat, by omega⟩
                have hks := Lib.hid (fun w h => (key_walk m A k c f w h (by omega)))
                have hps := Lib.hid (fun w => parse_key_c m f k w (by omega) (by omega) (by omega) hpos hlW.most)
                have Hpos := Lib.hid hpos
                clear hpos hbk Hb0
                go_upto_region 14 with (first
                  | (go_at_call 81; refine (hps.out _).mono ?_; rintro e w2 ⟨⟨B, c2, rfl, il2⟩, hb2⟩; have k2 := k1.call hb2; have hl2 := hl1.below hb2)
                  | (go_at_call 80; refine (hks.out _ hlW).mono ?_; rintro e w1 ⟨rfl, hb1⟩; have k1 := k0.call hb1; have hl1 := hlW.below hb1))
                go_wp2
                go_loopw [14, 60] (fun v i wr => ∃ j : Nat, j ≤ k ∧ i = .int .i64 (j : Nat) ∧ v = .string (valStr f j) ∧ Below w2.heap.size w2 wr) (fun _ x _ => k - (intOf x).toNat)
                case atStart => exact ⟨0, by omega, rfl, by rw [valStr_zero], Below.refl _ _⟩
                case round =>
                  obtain ⟨j, hj, rfl, rfl, hbel⟩ := hrel
                  have jI : (j : Int) ≤ k := by omega
                  have hl3 := hl2.below hbel
                  by_cases hlt : j < k
                  · obtain ⟨ga, oa, rfl, hga, hxa⟩ := hl3.at_ (by omega)
                    have q3 : (j : Int) < k := by omega
                    have q4 : IntKind.i64.wrap ((j : Int) + 1) = (j : Int) + 1 := IntWalk.i64_in _ (by omega)
                    have c1 := hxa j hlt
                    have hm := hl3.most j
                    have z1 : ¬ 9223372036854775807 < (valStr f j).size + (numStr (f j)).size := by rw [valStr_size, numStr_size]; omega
                    have hvs := Lib.hid (valStr_succ (Hpos.out j hlt))
                    clear hxa
                    go_wp2_with (go_at_call 82; refine (knum_walk (f j) _ hm).mono ?_; rintro e w3 ⟨rfl, hb3⟩)
                    go_roundw
                    case rel => exact ⟨j + 1, by omega, by go_num, by rw [hvs.out], hbel.trans (hb3.mono hbel.size)⟩
                    case measure => simp [intOf]; omega
                  · have hjk : j = k := by omega
                    subst hjk
                    have q3 : ¬ (j : Int) < j := by omega
                    have q5 : ((m : Int) == (m : Int)) = true := by simp
                    have k3 := k2.call hbel
                    have il3 := il2.below hbel
                    have hnm := Lib.hid (fun w => nums_yes_c (valStr f j) f j w (by omega) (valStr_list f j) Hpos.out hl3.most)
                    have hta := Lib.hid (fun w => toAmount_walk (amtStr a) a true w (amt_fbv a Ha.out) (by rw [amtStr_size]; rfl))
                    have hj100 := Lib.hid (show j ≤ 100 by omega)
                    have heqa := fun w => eq_run Ha.out Ha.out w
                    obtain ⟨⟨a0, a1, a2, a3⟩, a4⟩ := k3.cells w.heap.size a (by simp)
                    go_wp2_with (first
                      | (go_at_call 79; refine (lives9_walk _).mono ?_; rintro e w9 ⟨rfl, hb9⟩; have k9 := k8.call hb9)
                      | (go_at_call 86; have g5 := k7; clear g5; refine (ints_walk B2 A j j c3 c f f _ (il6.below hb7) (hl6.below hb7) hj100.out ⟨rfl, fun _ _ => rfl⟩).mono ?_; rintro e w8 ⟨rfl, hb8⟩; have k8 := k7.call hb8; obtain ⟨⟨f0, f1, f2, f3⟩, f4⟩ := k8.cells w.heap.size a (by simp); obtain ⟨⟨g0, g1, g2, g3⟩, g4⟩ := k8.cells w6.heap.size a (by simp))
                      | (go_at_call 86; refine (ints_walk B A j j c2 c f f _ im6 hl6 hj100.out ⟨rfl, fun _ _ => rfl⟩).mono ?_; rintro e w7 ⟨rfl, hb7⟩; have k7 := k6.call hb7)
                      | (go_at_call 84; refine (hta.out _).mono ?_; rintro e w6 ⟨rfl, hb6⟩; have k6 := Bk.push (t := 24) a (k5.call hb6); have il6 := (il5.below hb6).below ((Below.refl _ _).alloc (Nat.le_refl _) (.cells #[.int .u64 (limb a 0 : Nat), .int .u64 (limb a 1 : Nat), .int .u64 (limb a 2 : Nat), .int .u64 (limb a 3 : Nat)] 24)); have im6 := (im5.below hb6).below ((Below.refl _ _).alloc (Nat.le_refl _) (.cells #[.int .u64 (limb a 0 : Nat), .int .u64 (limb a 1 : Nat), .int .u64 (limb a 2 : Nat), .int .u64 (limb a 3 : Nat)] 24)); have hl6 := (hl5.below hb6).below ((Below.refl _ _).alloc (Nat.le_refl _) (.cells #[.int .u64 (limb a 0 : Nat), .int .u64 (limb a 1 : Nat), .int .u64 (limb a 2 : Nat), .int .u64 (limb a 3 : Nat)] 24)); unfold U)
                      | (go_at_call 85; refine (amount9_walk a _).mono ?_; rintro e w5 ⟨rfl, hb5⟩; have k5 := k4.call hb5; have il5 := il4.below hb5; have im5 := im4.below hb5; have hl5 := hl4.below hb5)
                      | (go_at_call 83; refine (hnm.out _).mono ?_; rintro e w4 ⟨⟨B2, c3, rfl, il4⟩, hb4⟩; have k4 := k3.call hb4; have im4 := il3.below hb4; have hl4 := hl3.below hb4; obtain ⟨⟨d0, d1, d2, d3⟩, d4⟩ := k4.cells w.heap.size a (by simp)))
                    go_ret
                    exact ⟨rfl, k9.l⟩)
         · have hks := Lib.hid (fun w h => (key_walk t A k c f w h (by omega)))
           have hbad := Lib.hid (keyStr_bad hbk)
           go_wp2_with (first
             | (go_at_call 79; refine (lives9_walk _).mono ?_; rintro e w2 ⟨rfl, hb2⟩)
             | (go_at_call 80; refine (hks.out _ hlW).mono ?_; rintro e w1 ⟨rfl, hb1⟩; rw [hbad.out]))
           go_ret
           exact ⟨rfl, ((k0.call hb1).call hb2).l⟩
end Go.Proofs.Ythglnedlbiembaa
