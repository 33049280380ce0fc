/- tallagelaw09.KeysForms, walked. -/
import Derived.Test.YthglnedlbiembaaKC
import Derived.Test.YthglnedlbiembaaBK
import Derived.Test.YthglnedlbiembaaU3
namespace Go.Proofs.Ythglnedlbiembaa
open Go.RowKit

set_option maxRecDepth 100000 in
set_option maxHeartbeats 4000000 in
theorem keysForms_of (t : Int) (A : Option Addr) (n c x T N1 N2 : Nat) (k1 k2 k3 : Bool) (f f1 f2 : Nat → Int) (s s1 s2 s3 : ByteArray) (w : World) (hl : Il w A n f) (hn : n ≤ 50) (hs : s.size ≤ 500) (hx : x < 2 ^ 256) (hN1 : N1 ≤ 100) (hN2 : N2 ≤ 100)
    (HP0 : ∀ w, Calls Try.prog 81 #[.string s] w fun e w' => (∃ A c, e = .returned (.tuple #[.int .i64 (T : Nat), .slice A N1 c, .bool k1]) ∧ Il w' A N1 f1) ∧ Below w.heap.size w w') (HQ0 : ∀ w, Calls Try.prog 87 #[.string s] w fun e w' => (∃ A c, e = .returned (.tuple #[.int .i64 (T : Nat), .slice A N1 c, .bool k1]) ∧ Il w' A N1 f1) ∧ Below w.heap.size w w') (HN0 : ∀ w, Calls Try.prog 83 #[.string s] w fun e w' => (∃ A c, e = .returned (.tuple #[.slice A N2 c, .bool k2]) ∧ Il w' A N2 f2) ∧ Below w.heap.size w w') (HM0 : ∀ w, Calls Try.prog 88 #[.string s] w fun e w' => (∃ A c, e = .returned (.tuple #[.slice A N2 c, .bool k2]) ∧ Il w' A N2 f2) ∧ Below w.heap.size w w') (HA0 : ∀ w, Calls Try.prog 84 #[.string s] w fun e w' => e = .returned (.tuple #[U x, .bool k3]) ∧ Below w.heap.size w w') (HB0 : ∀ w, Calls Try.prog 89 #[.string s] w fun e w' => e = .returned (.tuple #[U x, .bool k3]) ∧ Below w.heap.size w w') (HT0 : ∀ w, Calls Try.prog 91 #[.int .i64 t] w fun e w' => e = .returned (.string s2) ∧ Below w.heap.size w w') (HZ0 : ∀ w, Calls Try.prog 90 #[.int .i64 t, .slice none 0 0] w fun e w' => e = .returned (.string s2) ∧ Below w.heap.size w w') (HU0 : ∀ w, Calls Try.prog 82 #[.int .i64 t] w fun e w' => e = .returned (.string s3) ∧ Below w.heap.size w w') (HV0 : ∀ w, Calls Try.prog 92 #[.int .i64 t] w fun e w' => e = .returned (.string s3) ∧ Below w.heap.size w w') (HK0 : ∀ w, Il w A n f → Calls Try.prog 80 #[.int .i64 t, .slice A n c] w fun e w' => e = .returned (.string s1) ∧ Below w.heap.size w w') (HL0 : ∀ w, Il w A n f → Calls Try.prog 90 #[.int .i64 t, .slice A n c] w fun e w' => e = .returned (.string s1) ∧ Below w.heap.size w w') :
    Calls Try.prog 14 #[.int .i64 t, .slice A n c, .string s] w fun e w' => e = .returned (.bool true) ∧ Below w.heap.size w w' := by
  have HP := Lib.hid HP0
  have HQ := Lib.hid HQ0
  have HN := Lib.hid HN0
  have HM := Lib.hid HM0
  have HA := Lib.hid HA0
  have HB := Lib.hid HB0
  have HT := Lib.hid HT0
  have HZ := Lib.hid HZ0
  have HU := Lib.hid HU0
  have HV := Lib.hid HV0
  have HK := Lib.hid HK0
  have HL := Lib.hid HL0
  have HN1 := Lib.hid hN1
  have HN2 := Lib.hid hN2
  have heqx := fun w => eq_run hx hx w
  have q1 : ¬ (50 : Int) < n := by omega
  have q2 : ¬ (500 : Int) < s.size := by omega
  have k0 : Bk w w [] := ⟨fun p hp => (by cases hp), Below.refl _ _⟩
  clear hx hn hs hN1 hN2 HP0 HQ0 HN0 HM0 HA0 HB0 HT0 HZ0 HU0 HV0 HK0 HL0
  go_enter Try.func14, Try.ntmps14
  go_wp2_with (first
    | (go_at_call 79; refine (lives9_walk _).mono ?_; rintro e wF ⟨rfl, hbF⟩; have kF := kE.call hbF)
    | (go_at_call 92; refine (HV.out _).mono ?_; rintro e wE ⟨rfl, hbE⟩; have kE := kD.call hbE)
    | (go_at_call 82; refine (HU.out _).mono ?_; rintro e wD ⟨rfl, hbD⟩; have kD := kC.call hbD)
    | (go_at_call 90; have g5 := kB; clear g5; refine (HZ.out _).mono ?_; rintro e wC ⟨rfl, hbC⟩; have kC := kB.call hbC)
    | (go_at_call 91; refine (HT.out _).mono ?_; rintro e wB ⟨rfl, hbB⟩; have kB := kA.call hbB)
    | (go_at_call 90; refine (HL.out _ la9).mono ?_; rintro e wA ⟨rfl, hbA⟩; have kA := k9.call hbA)
    | (go_at_call 80; refine (HK.out _ la8).mono ?_; rintro e w9 ⟨rfl, hb9⟩; have k9 := k8.call hb9; have la9 := la8.below hb9)
    | (go_at_call 86; have g5 := k7; clear g5; refine (ints_walk C4 D4 N2 N2 c4 d4 f2 f2 _ ln7 lm7 HN2.out ⟨rfl, fun _ _ => rfl⟩).mono ?_; rintro e w8 ⟨rfl, hb8⟩; have k8 := k7.call hb8; have la8 := la7.below hb8; obtain ⟨⟨p0, p1, p2, p3⟩, p4⟩ := k8.cells w5.heap.size x (by simp); obtain ⟨⟨q0, q1, q2, q3⟩, q4⟩ := k8.cells w6.heap.size x (by simp))
    | (go_at_call 86; refine (ints_walk C2 D2 N1 N1 c2 d2 f1 f1 _ lx6 ly6 HN1.out ⟨rfl, fun _ _ => rfl⟩).mono ?_; rintro e w7 ⟨rfl, hb7⟩; have k7 := k6.call hb7; have la7 := la6.below hb7; have ln7 := ln6.below hb7; have lm7 := lm6.below hb7)
    | (go_at_call 89; refine (HB.out _).mono ?_; rintro e w6 ⟨rfl, hb6⟩; have k6 := Bk.push (t := 24) x (k5.call hb6); have la6 := (la5.below hb6).below ((Below.refl _ _).alloc (Nat.le_refl _) (.cells #[.int .u64 (limb x 0 : Nat), .int .u64 (limb x 1 : Nat), .int .u64 (limb x 2 : Nat), .int .u64 (limb x 3 : Nat)] 24)); have lx6 := (lx5.below hb6).below ((Below.refl _ _).alloc (Nat.le_refl _) (.cells #[.int .u64 (limb x 0 : Nat), .int .u64 (limb x 1 : Nat), .int .u64 (limb x 2 : Nat), .int .u64 (limb x 3 : Nat)] 24)); have ly6 := (ly5.below hb6).below ((Below.refl _ _).alloc (Nat.le_refl _) (.cells #[.int .u64 (limb x 0 : Nat), .int .u64 (limb x 1 : Nat), .int .u64 (limb x 2 : Nat), .int .u64 (limb x 3 : Nat)] 24)); have ln6 := (ln5.below hb6).below ((Below.refl _ _).alloc (Nat.le_refl _) (.cells #[.int .u64 (limb x 0 : Nat), .int .u64 (limb x 1 : Nat), .int .u64 (limb x 2 : Nat), .int .u64 (limb x 3 : Nat)] 24)); have lm6 := (lm5.below hb6).below ((Below.refl _ _).alloc (Nat.le_refl _) (.cells #[.int .u64 (limb x 0 : Nat), .int .u64 (limb x 1 : Nat), .int .u64 (limb x 2 : Nat), .int .u64 (limb x 3 : Nat)] 24)); unfold U)
    | (go_at_call 84; refine (HA.out _).mono ?_; rintro e w5 ⟨rfl, hb5⟩; have k5 := Bk.push (t := 24) x (k4.call hb5); have la5 := (la4.below hb5).below ((Below.refl _ _).alloc (Nat.le_refl _) (.cells #[.int .u64 (limb x 0 : Nat), .int .u64 (limb x 1 : Nat), .int .u64 (limb x 2 : Nat), .int .u64 (limb x 3 : Nat)] 24)); have lx5 := (lx4.below hb5).below ((Below.refl _ _).alloc (Nat.le_refl _) (.cells #[.int .u64 (limb x 0 : Nat), .int .u64 (limb x 1 : Nat), .int .u64 (limb x 2 : Nat), .int .u64 (limb x 3 : Nat)] 24)); have ly5 := (ly4.below hb5).below ((Below.refl _ _).alloc (Nat.le_refl _) (.cells #[.int .u64 (limb x 0 : Nat), .int .u64 (limb x 1 : Nat), .int .u64 (limb x 2 : Nat), .int .u64 (limb x 3 : Nat)] 24)); have ln5 := (ln4.below hb5).below ((Below.refl _ _).alloc (Nat.le_refl _) (.cells #[.int .u64 (limb x 0 : Nat), .int .u64 (limb x 1 : Nat), .int .u64 (limb x 2 : Nat), .int .u64 (limb x 3 : Nat)] 24)); have lm5 := (lm4.below hb5).below ((Below.refl _ _).alloc (Nat.le_refl _) (.cells #[.int .u64 (limb x 0 : Nat), .int .u64 (limb x 1 : Nat), .int .u64 (limb x 2 : Nat), .int .u64 (limb x 3 : Nat)] 24)); unfold U)
    | (go_at_call 88; refine (HM.out _).mono ?_; rintro e w4 ⟨⟨D4, d4, rfl, lm4⟩, hb4⟩; have k4 := k3.call hb4; have la4 := la3.below hb4; have lx4 := lx3.below hb4; have ly4 := ly3.below hb4; have ln4 := ln3.below hb4)
    | (go_at_call 83; refine (HN.out _).mono ?_; rintro e w3 ⟨⟨C4, c4, rfl, ln3⟩, hb3⟩; have k3 := k2.call hb3; have la3 := la2.below hb3; have lx3 := lx2.below hb3; have ly3 := ly2.below hb3)
    | (go_at_call 87; refine (HQ.out _).mono ?_; rintro e w2 ⟨⟨D2, d2, rfl, ly2⟩, hb2⟩; have k2 := k1'.call hb2; have la2 := la1.below hb2; have lx2 := lx1.below hb2)
    | (go_at_call 81; refine (HP.out _).mono ?_; rintro e w1 ⟨⟨C2, c2, rfl, lx1⟩, hb1⟩; have k1' := k0.call hb1; have la1 := hl.below hb1))
  go_ret
  exact ⟨rfl, kF.l⟩
theorem fbv_lt (s : ByteArray) : fbv s < 2 ^ 256 := by
  unfold fbv
  split
  · exact bnum_lt (fun i => sb_lt s i) 32
  · decide
set_option maxRecDepth 100000 in
set_option maxHeartbeats 1000000 in
theorem keysForms_far (t : Int) (A : Option Addr) (n c : Nat) (s : ByteArray) (w : World) (h : 50 < n ∨ ¬ 50 < n ∧ 500 < s.size) :
    Calls Try.prog 14 #[.int .i64 t, .slice A n c, .string s] w fun e w' => e = .returned (.bool true) ∧ Below w.heap.size w w' := by
  rcases h with h | ⟨h, h2⟩
  · have q1 : (50 : Int) < n := by omega
    go_enter Try.func14, Try.ntmps14
    go_wp2_with (go_at_call 79; refine (lives9_walk _).mono ?_; rintro e w1 ⟨rfl, hb1⟩)
    go_ret
    exact ⟨rfl, hb1⟩
  · have q1 : ¬ (50 : Int) < n := by omega
    have q2 : (500 : Int) < s.size := by omega
    go_enter Try.func14, Try.ntmps14
    go_wp2_with (go_at_call 79; refine (lives9_walk _).mono ?_; rintro e w1 ⟨rfl, hb1⟩)
    go_ret
    exact ⟨rfl, hb1⟩
theorem keysForms_walk (t : Int) (A : Option Addr) (n c : Nat) (f : Nat → Int) (s : ByteArray) (w : World) (hl : Il w A n f) (ht : t < 2 ^ 63) :
    Calls Try.prog 14 #[.int .i64 t, .slice A n c, .string s] w fun e w' => e = .returned (.bool true) ∧ Below w.heap.size w w' := by
  by_cases h1 : 50 < n
  · exact keysForms_far t A n c s w (.inl h1)
  by_cases h2 : 500 < s.size
  · exact keysForms_far t A n c s w (.inr ⟨h1, h2⟩)
  have hs : s.size ≤ 500 := by omega
  have hs8 : s.size ≤ 800 := by omega
  have b1 : pN s ≤ 100 := by unfold pN; split; rw [ByteArray.size_extract]; omega; omega
  have b2 : nN s ≤ 100 := by unfold nN; split <;> omega
  exact keysForms_of t A n c (fbv s) (pT s) (pN s) (nN s) (decide (okP s)) (decide (okN s)) (decide (s.size = 32)) f (chv (s.extract 1 s.size)) (chv s) s (keyStr t f n) (keyStr t (fun _ => 0) 0) (numStr t) w hl (by omega) hs (fbv_lt s) b1 b2
    (fun w => parseAny_walk s w hs8) (fun w => rparseAny_walk s w hs8) (fun w => nums_c (numsAny_walk s w hs8)) (fun w => nums_c (rnums_walk s w hs8)) (fun w => toAmount_walk s _ _ w rfl rfl) (fun w => rtoAmount_walk s _ _ w rfl rfl) (fun w => table_walk t w) (fun w => rkey9_walk t none 0 0 (fun _ => 0) w (Il.nil w _ (fun _ => by decide)) (by omega)) (fun w => knum_walk t w ht) (fun w => rnum9_walk t w ht) (fun w h => key_walk t A n c f w h (by omega)) (fun w h => rkey9_walk t A n c f w h (by omega))
end Go.Proofs.Ythglnedlbiembaa
