/- tallagelaw01.WordBack, walked: it returns true. -/
import Derived.Test.YtiofphpdonlaoaaWordOrder
import Derived.Test.YtiofphpdonlaoaaUC
import Derived.Test.YtiofphpdonlaoaaUE
import Derived.Deep.CutBlock
namespace Go.Proofs.Ytiofphpdonlaoaa
open Go.RowKit Go.Sort

theorem sub_c (a b : Nat) (w : World) (ha : a < 2 ^ 256) (hb : b < 2 ^ 256) (h : b ≤ a) : Calls Try.prog 17 #[U a, U b] w fun e w' => e = .returned (.tuple #[U (a - b), .bool true]) ∧ Below w.heap.size w w' :=
  (sub_walk a b w ha hb).mono fun e w' ⟨he, hw⟩ => ⟨by rw [he, if_pos h, decide_eq_true h], hw⟩
theorem div_c (a b : Nat) (w : World) (ha : a < 2 ^ 256) (hb : b < 2 ^ 256) (h : b ≠ 0) : Calls Try.prog 21 #[U a, U b] w fun e w' => e = .returned (.tuple #[U (a / b), U (a % b), .bool true]) ∧ Below w.heap.size w w' :=
  (div_walk a b w ha hb).mono fun e w' ⟨he, hw⟩ => ⟨by rw [he, if_neg h, if_neg h, decide_eq_true h], hw⟩
theorem addok_c (a b : Nat) (w : World) (ha : a < 2 ^ 256) (hb : b < 2 ^ 256) (h : a + b < 2 ^ 256) : Calls Try.prog 15 #[U a, U b] w fun e w' => e = .returned (.tuple #[U (a + b), .bool true]) ∧ Below w.heap.size w w' :=
  (add_walk a b w ha hb).mono fun e w' ⟨he, hw⟩ => ⟨by rw [he, if_pos h, decide_eq_true h], hw⟩
theorem addno_c (a b : Nat) (w : World) (ha : a < 2 ^ 256) (hb : b < 2 ^ 256) (h : ¬ a + b < 2 ^ 256) : Calls Try.prog 15 #[U a, U b] w fun e w' => e = .returned (.tuple #[U 0, .bool false]) ∧ Below w.heap.size w w' :=
  (add_walk a b w ha hb).mono fun e w' ⟨he, hw⟩ => ⟨by rw [he, if_neg h, decide_eq_false h], hw⟩
theorem mulok_c (a b : Nat) (w : World) (ha : a < 2 ^ 256) (hb : b < 2 ^ 256) (h : a * b < 2 ^ 256) : Calls Try.prog 19 #[U a, U b] w fun e w' => e = .returned (.tuple #[U (a * b), .bool true]) ∧ Below w.heap.size w w' :=
  (mul_walk a b w ha hb).mono fun e w' ⟨he, hw⟩ => ⟨by rw [he, if_pos h, decide_eq_true h], hw⟩
theorem mulno_c (a b : Nat) (w : World) (ha : a < 2 ^ 256) (hb : b < 2 ^ 256) (h : ¬ a * b < 2 ^ 256) : Calls Try.prog 19 #[U a, U b] w fun e w' => e = .returned (.tuple #[U 0, .bool false]) ∧ Below w.heap.size w w' :=
  (mul_walk a b w ha hb).mono fun e w' ⟨he, hw⟩ => ⟨by rw [he, if_neg h, decide_eq_false h], hw⟩

theorem bnum_bytes (a : Nat) : ∀ k, k ≤ 32 → bnum (fun i => byteAt a (31 - i)) k = a % 2 ^ (8 * k)
  | 0, _ => by simp [bnum, Nat.mod_one]
  | k + 1, h => by
    have e : 2 ^ (8 * (k + 1)) = 2 ^ (8 * k) * 256 := by rw [show (256 : Nat) = 2 ^ 8 from rfl, ← Nat.pow_add]; congr 1
    simp only [bnum]
    rw [bnum_bytes a k (by omega), show 31 - (31 - k) = k by omega, e, Nat.mod_mul, byteAt, Nat.mul_comm (a / 2 ^ (8 * k) % 256)]
theorem frombytes_c (a g : Nat) (w : World) (ha : a < 2 ^ 256) (h : Arr .u8 w g 32 (fun i => byteAt a (31 - i))) (hg : g < w.heap.size) :
    Calls Try.prog 27 #[.slice (some ⟨g, 0, none⟩) 32 32] w fun e w' => e = .returned (.tuple #[U a, .bool true]) ∧ Below w.heap.size w w' := by
  refine (fb_walk (some ⟨g, 0, none⟩) 32 32 _ w (Sl.of_arr (fun i => byteAt_lt a _) h hg)).mono fun e w' ⟨he, hw⟩ => ⟨?_, hw⟩
  rw [he, if_pos rfl, decide_eq_true rfl, bnum_bytes a 32 (by omega), Nat.mod_eq_of_lt ha]
/-- two numbers in boxes -/
structure Two (w wr : World) (a b : Nat) : Prop where
  a : Arr .u64 wr w.heap.size 4 (limb a)
  b : Arr .u64 wr (w.heap.size + 1) 4 (limb b)
  l : Below w.heap.size w wr
  s : w.heap.size + 1 < wr.heap.size
theorem Two.below {w wr w' : World} {a b : Nat} (h : Two w wr a b) (hb : Below wr.heap.size wr w') : Two w w' a b := by
  have := h.s; have := hb.size
  exact ⟨h.a.below hb (by omega), h.b.below hb (by omega), h.l.trans (hb.mono (by omega)), by omega⟩
theorem Two.alloc {w wr : World} {a b : Nat} (h : Two w wr a b) (o : Obj) : Two w (wr.alloc o) a b := by
  have := h.s
  exact ⟨h.a.alloc o, h.b.alloc o, h.l.alloc (by omega) o, by rw [World.size_alloc]; omega⟩

set_option maxRecDepth 100000 in
set_option maxHeartbeats 4000000 in
theorem wordBack_walk (a b : Nat) (w : World) (hal : a < 2 ^ 256) (hbl : b < 2 ^ 256) :
    Calls Try.prog 5 #[U a, U b] w fun e w' => e = .returned (.bool true) ∧ Below w.heap.size w w' := by
  have heqa := fun w => eq_run hal hal w
  have heq0 := fun w => eq0_run hbl w
  have Hal := Lib.hid hal
  have Hbl := Lib.hid hbl
  clear hal hbl
  unfold U
  go_enter Try.func5, Try.ntmps5
  go_upto_if 31 with (go_at_call 15; refine (add_c a b _ Hal.out Hbl.out).mono ?_; rintro e w1 ⟨rfl, hb1⟩; have t1 : Two w w1 a b := Two.below (hb := hb1) (h := ⟨(Arr.new4 (f := limb a) rfl).alloc _, Arr.new4 (f := limb b) (by simp), ((Below.refl _ _).alloc (Nat.le_refl _) _).alloc (by simp only [World.size_alloc]; omega) _, by simp⟩); obtain ⟨s, hs⟩ : ∃ s, s = addv a b := ⟨_, rfl⟩; obtain ⟨ok, hok⟩ : ∃ s, s = addk a b := ⟨_, rfl⟩; rw [← hs, ← hok]; have Hs := Lib.hid hs; have Hok := Lib.hid hok; clear hs hok hb1; unfold U)
  go_cut [6] (fun _ wx => Two w wx a b)
  case first =>
    cases ok
    rotate_left
    · have hlt : a + b < 2 ^ 256 := by have := Hok.out; exact of_decide_eq_true this.symm
      have hsv : s = a + b := by rw [Hs.out]; unfold addv; rw [if_pos hlt]
      have Hlt := Lib.hid hlt
      have Hsv := Lib.hid hsv
      clear hlt hsv
      have t1s := t1.s
      have za : w.heap.size < w1.heap.size := by omega
      obtain ⟨b0, b1, b2, b3⟩ := t1.b.cells4
      go_wp2_with fail
      refine (sub_c s b _ (by rw [Hsv.out]; exact Hlt.out) Hbl.out (by rw [Hsv.out]; omega)).mono ?_
      rintro e w2 ⟨rfl, hb2⟩
      rw [show s - b = a by rw [Hsv.out]; omega]
      have t2 : Two w w2 a b := (t1.alloc _).below hb2
      have x2 : Box w2 w1.heap.size s := (Box.new rfl).below hb2
      clear t1s za b0 b1 b2 b3 hb2
      unfold U
      have t2s := t2.s
      have x2s := x2.s
      have za : w.heap.size < w2.heap.size := by omega
      obtain ⟨a0, a1, a2, a3⟩ := t2.a.cells4
      obtain ⟨s0, s1, s2, s3⟩ := x2.a.cells4
      go_wp2_with fail
      refine (cmp_c s a _ (by rw [Hsv.out]; exact Hlt.out) Hal.out).mono ?_
      rintro e w3 ⟨rfl, hb3⟩
      have t3 : Two w w3 a b := (t2.alloc _).below hb3
      have hcm : ¬ cmpU s a < 0 := by rw [Hsv.out]; unfold cmpU; (repeat' split) <;> omega
      clear t2s x2s za a0 a1 a2 a3 s0 s1 s2 s3 hb3
      go_wp2
      go_meet
      case rel => exact t3
    · go_wp2
      go_meet
      case rel => exact t1.alloc _
  case rest =>
    have t1 := hcut
    clear hcut
    obtain ⟨a0, a1, a2, a3⟩ := t1.a.cells4
    obtain ⟨b0, b1, b2, b3⟩ := t1.b.cells4
    have t1s := t1.s
    clear Hs Hok
    by_cases hb0 : b = 0
    · have hd : decide (b = 0) = true := decide_eq_true hb0
      have Hb0 := Lib.hid hb0
      clear hb0
      go_wp2_with fail
      refine (mulok_c a b _ Hal.out Hbl.out (by rw [Hb0.out, Nat.mul_zero]; decide)).mono ?_
      rintro e w2 ⟨rfl, hb2⟩
      have t2 : Two w w2 a b := t1.below hb2
      have t2s := t2.s
      clear hb2 a0 a1 a2 a3 b0 b1 b2 b3
      obtain ⟨s, hs⟩ : ∃ s, s = a * b := ⟨_, rfl⟩
      rw [← hs]
      have Hs := Lib.hid hs
      clear hs
      obtain ⟨b0, b1, b2, b3⟩ := t2.b.cells4
      unfold U
      go_upto_region 17 with (fail)
      obtain ⟨w9, hw9⟩ : ∃ x, x = w2.alloc (.cells #[.int .u64 (limb s 0 : Nat), .int .u64 (limb s 1 : Nat), .int .u64 (limb s 2 : Nat), .int .u64 (limb s 3 : Nat)] 24) := ⟨_, rfl⟩
      have t9 : Two w w9 a b := by rw [hw9]; exact t2.alloc _
      rw [← hw9]
      clear hw9 b0 b1 b2 b3 t2 t2s
      obtain ⟨a0, a1, a2, a3⟩ := t9.a.cells4
      go_wp2_with fail
      refine (bytes_walk a _).mono ?_
      rintro e w11 ⟨g, rfl, hg1, hg2, hga, hb11⟩
      have t11 : Two w w11 a b := t9.below hb11
      clear a0 a1 a2 a3 hb11
      go_wp2_with fail
      refine (frombytes_c a g _ Hal.out hga hg2).mono ?_
      rintro e w12 ⟨rfl, hb12⟩
      have t12 : Two w w12 a b := t11.below hb12
      clear hga hg1 hg2 hb12
      unfold U
      have t12s := t12.s
      have za : w.heap.size < w12.heap.size := by omega
      obtain ⟨a0, a1, a2, a3⟩ := t12.a.cells4
      go_wp2_with fail
      refine (text_walk a _ Hal.out).mono ?_
      rintro e w13 ⟨j, rfl, j1, j2, j3, j4, hb13⟩
      have HT : Hid (IsText (strOfNums (digits a j)) a j) := Lib.hid (isText_digits j1 j2 j3 j4)
      generalize strOfNums (digits a j) = txt at *
      have t13 : Two w w13 a b := (t12.alloc _).below hb13
      have x13 : Box w13 w12.heap.size a := (Box.new rfl).below hb13
      clear j1 j2 j3 j4 hb13 a0 a1 a2 a3 za t12s
      go_wp2_with fail
      refine (parse_walk txt a j _ Hal.out HT.out).mono ?_
      rintro e w14 ⟨rfl, hb14⟩
      have t14 : Two w w14 a b := t13.below hb14
      have x14 : Box w14 w12.heap.size a := x13.below hb14
      clear hb14
      unfold U
      have t14s := t14.s
      have x14s := x14.s
      have za : w.heap.size < w14.heap.size := by omega
      obtain ⟨a0, a1, a2, a3⟩ := t14.a.cells4
      obtain ⟨x0, x1, x2, x3⟩ := x14.a.cells4
      go_wp2_with fail
      refine (lives1_walk _).mono ?_
      rintro e w15 ⟨rfl, hb15⟩
      have t15 : Two w w15 a b := (t14.alloc _).below hb15
      clear hb15
      go_wp2
      go_ret
      exact ⟨rfl, t15.l⟩
    · have hd : decide (b = 0) = false := decide_eq_false hb0
      have heqz : ∀ w, (Op.equalIn 10000 24 (.agg #[.int .u64 0, .int .u64 0, .int .u64 0, .int .u64 0]) (.agg #[.int .u64 0, .int .u64 0, .int .u64 0, .int .u64 0])).run Try.prog w = .ok true w := fun w => by rw [eqU]; rfl
      have Hb0 := Lib.hid hb0
      clear hb0
      by_cases hab : a * b < 2 ^ 256
      · have Hab := Lib.hid hab
        clear hab
        go_wp2_with fail
        refine (mulok_c a b _ Hal.out Hbl.out Hab.out).mono ?_
        rintro e w2 ⟨rfl, hb2⟩
        have t2 : Two w w2 a b := t1.below hb2
        obtain ⟨s, hs⟩ : ∃ s, s = a * b := ⟨_, rfl⟩
        rw [← hs]
        have Hs := Lib.hid hs
        clear hb2 a0 a1 a2 a3 b0 b1 b2 b3 hs
        unfold U
        have t2s := t2.s
        have zb : w.heap.size + 1 < w2.heap.size := t2s
        obtain ⟨b0, b1, b2, b3⟩ := t2.b.cells4
        go_wp2_with fail
        refine (div_c s b _ (by rw [Hs.out]; exact Hab.out) Hbl.out Hb0.out).mono ?_
        rintro e w3 ⟨rfl, hb3⟩
        rw [show s / b = a by rw [Hs.out]; exact Nat.mul_div_cancel _ (Nat.pos_of_ne_zero Hb0.out), show s % b = 0 by rw [Hs.out]; exact Nat.mul_mod_left _ _, U_zero]
        have t3 : Two w w3 a b := (t2.alloc _).below hb3
        clear hb3 b0 b1 b2 b3 zb t2s
        unfold U
        have t3s := t3.s
        have za : w.heap.size < w3.heap.size := by omega
        have zb : w.heap.size + 1 < w3.heap.size := by omega
        obtain ⟨a0, a1, a2, a3⟩ := t3.a.cells4
        obtain ⟨b0, b1, b2, b3⟩ := t3.b.cells4
        go_upto_region 12 with (fail)
        obtain ⟨w4, hw4⟩ : ∃ x, x = (w3.alloc (.cells #[.int .u64 (limb a 0 : Nat), .int .u64 (limb a 1 : Nat), .int .u64 (limb a 2 : Nat), .int .u64 (limb a 3 : Nat)] 24)).alloc (.cells #[.int .u64 0, .int .u64 0, .int .u64 0, .int .u64 0] 24) := ⟨_, rfl⟩
        have t4 : Two w w4 a b := by rw [hw4]; exact (t3.alloc _).alloc _
        rw [← hw4]
        clear hw4 a0 a1 a2 a3 b0 b1 b2 b3 za zb t3s
        -- the quotient times the divisor, and the rest
        obtain ⟨a0, a1, a2, a3⟩ := t4.a.cells4
        obtain ⟨b0, b1, b2, b3⟩ := t4.b.cells4
        go_wp2_with fail
        refine (div_c a b _ Hal.out Hbl.out Hb0.out).mono ?_
        rintro e w5 ⟨rfl, hb5⟩
        obtain ⟨q, hq⟩ : ∃ x, x = a / b := ⟨_, rfl⟩
        obtain ⟨r, hr⟩ : ∃ x, x = a % b := ⟨_, rfl⟩
        rw [← hq, ← hr]
        have hqb : q * b + r = a := by rw [hq, hr]; exact Nat.div_add_mod' _ _
        have hrb : r < b := by rw [hr]; exact Nat.mod_lt _ (Nat.pos_of_ne_zero Hb0.out)
        have hql : q ≤ a := by rw [hq]; exact Nat.div_le_self _ _
        have Hqb := Lib.hid hqb
        have Hrb := Lib.hid hrb
        have Hql := Lib.hid hql
        have t5 : Two w w5 a b := t4.below hb5
        clear hq hr hqb hrb hql hb5 a0 a1 a2 a3 b0 b1 b2 b3
        unfold U
        have t5s := t5.s
        have zb : w.heap.size + 1 < w5.heap.size := t5s
        have za : w.heap.size < w5.heap.size := by omega
        obtain ⟨b0, b1, b2, b3⟩ := t5.b.cells4
        go_wp2_with fail
        refine (mulok_c q b _ (Nat.lt_of_le_of_lt Hql.out Hal.out) Hbl.out (by have := Hqb.out; have := Hal.out; omega)).mono ?_
        rintro e w6 ⟨rfl, hb6⟩
        obtain ⟨p, hp⟩ : ∃ x, x = q * b := ⟨_, rfl⟩
        rw [← hp]
        have Hp := Lib.hid hp
        have t6 : Two w w6 a b := ((t5.alloc _).alloc _).below hb6
        have r6 : Box w6 (w5.heap.size + 1) r := (Box.new (by simp)).below hb6
        clear hp hb6 b0 b1 b2 b3 zb za t5s
        unfold U
        have t6s := t6.s
        have r6s := r6.s
        obtain ⟨r0, r1, r2, r3⟩ := r6.a.cells4
        go_wp2_with fail
        refine (addok_c p r _ (by rw [Hp.out]; have := Hqb.out; have := Hal.out; omega) (Nat.lt_trans Hrb.out Hbl.out) (by rw [Hp.out, Hqb.out]; exact Hal.out)).mono ?_
        rintro e w7 ⟨rfl, hb7⟩
        rw [show p + r = a by rw [Hp.out]; exact Hqb.out]
        have t7 : Two w w7 a b := (t6.alloc _).below hb7
        have r7 : Box w7 (w5.heap.size + 1) r := (r6.alloc _).below hb7
        clear hb7 r0 r1 r2 r3 t6s r6s
        unfold U
        have t7s := t7.s
        have r7s := r7.s
        have za : w.heap.size < w7.heap.size := by omega
        have zb : w.heap.size + 1 < w7.heap.size := by omega
        obtain ⟨a0, a1, a2, a3⟩ := t7.a.cells4
        obtain ⟨b0, b1, b2, b3⟩ := t7.b.cells4
        obtain ⟨r0, r1, r2, r3⟩ := r7.a.cells4
        have hcm : ¬ 0 ≤ cmpU r b := by have := Hrb.out; unfold cmpU; rw [if_neg (by omega), if_neg (by omega)]; omega
        have hcd : decide (0 ≤ cmpU r b) = false := decide_eq_false hcm
        go_wp2_with fail
        refine (cmp_c r b _ (Nat.lt_trans Hrb.out Hbl.out) Hbl.out).mono ?_
        rintro e w9 ⟨rfl, hb9⟩
        have t9 : Two w w9 a b := (t7.alloc _).below hb9
        clear hb9 a0 a1 a2 a3 b0 b1 b2 b3 r0 r1 r2 r3 za zb t7s r7s
        obtain ⟨a0, a1, a2, a3⟩ := t9.a.cells4
        go_wp2_with fail
        refine (bytes_walk a _).mono ?_
        rintro e w11 ⟨g, rfl, hg1, hg2, hga, hb11⟩
        have t11 : Two w w11 a b := t9.below hb11
        clear a0 a1 a2 a3 hb11
        go_wp2_with fail
        refine (frombytes_c a g _ Hal.out hga hg2).mono ?_
        rintro e w12 ⟨rfl, hb12⟩
        have t12 : Two w w12 a b := t11.below hb12
        clear hga hg1 hg2 hb12
        unfold U
        have t12s := t12.s
        have za : w.heap.size < w12.heap.size := by omega
        obtain ⟨a0, a1, a2, a3⟩ := t12.a.cells4
        go_wp2_with fail
        refine (text_walk a _ Hal.out).mono ?_
        rintro e w13 ⟨j, rfl, j1, j2, j3, j4, hb13⟩
        have HT : Hid (IsText (strOfNums (digits a j)) a j) := Lib.hid (isText_digits j1 j2 j3 j4)
        generalize strOfNums (digits a j) = txt at *
        have t13 : Two w w13 a b := (t12.alloc _).below hb13
        have x13 : Box w13 w12.heap.size a := (Box.new rfl).below hb13
        clear j1 j2 j3 j4 hb13 a0 a1 a2 a3 za t12s
        go_wp2_with fail
        refine (parse_walk txt a j _ Hal.out HT.out).mono ?_
        rintro e w14 ⟨rfl, hb14⟩
        have t14 : Two w w14 a b := t13.below hb14
        have x14 : Box w14 w12.heap.size a := x13.below hb14
        clear hb14
        unfold U
        have t14s := t14.s
        have x14s := x14.s
        have za : w.heap.size < w14.heap.size := by omega
        obtain ⟨a0, a1, a2, a3⟩ := t14.a.cells4
        obtain ⟨x0, x1, x2, x3⟩ := x14.a.cells4
        go_wp2_with fail
        refine (lives1_walk _).mono ?_
        rintro e w15 ⟨rfl, hb15⟩
        have t15 : Two w w15 a b := (t14.alloc _).below hb15
        clear hb15
        go_wp2
        go_ret
        exact ⟨rfl, t15.l⟩
      · have Hab := Lib.hid hab
        clear hab
        go_wp2_with fail
        refine (mulno_c a b _ Hal.out Hbl.out Hab.out).mono ?_
        rintro e w2 ⟨rfl, hb2⟩
        have t2 : Two w w2 a b := t1.below hb2
        rw [U_zero]
        clear hb2 a0 a1 a2 a3 b0 b1 b2 b3
        have t2s := t2.s
        have zb : w.heap.size + 1 < w2.heap.size := t2s
        obtain ⟨b0, b1, b2, b3⟩ := t2.b.cells4
        go_upto_region 12 with (fail)
        obtain ⟨w4, hw4⟩ : ∃ x, x = w2.alloc (.cells #[.int .u64 0, .int .u64 0, .int .u64 0, .int .u64 0] 24) := ⟨_, rfl⟩
        have t4 : Two w w4 a b := by rw [hw4]; exact t2.alloc _
        rw [← hw4]
        clear hw4 b0 b1 b2 b3 zb t2s
        -- the quotient times the divisor, and the rest
        obtain ⟨a0, a1, a2, a3⟩ := t4.a.cells4
        obtain ⟨b0, b1, b2, b3⟩ := t4.b.cells4
        go_wp2_with fail
        refine (div_c a b _ Hal.out Hbl.out Hb0.out).mono ?_
        rintro e w5 ⟨rfl, hb5⟩
        obtain ⟨q, hq⟩ : ∃ x, x = a / b := ⟨_, rfl⟩
        obtain ⟨r, hr⟩ : ∃ x, x = a % b := ⟨_, rfl⟩
        rw [← hq, ← hr]
        have hqb : q * b + r = a := by rw [hq, hr]; exact Nat.div_add_mod' _ _
        have hrb : r < b := by rw [hr]; exact Nat.mod_lt _ (Nat.pos_of_ne_zero Hb0.out)
        have hql : q ≤ a := by rw [hq]; exact Nat.div_le_self _ _
        have Hqb := Lib.hid hqb
        have Hrb := Lib.hid hrb
        have Hql := Lib.hid hql
        have t5 : Two w w5 a b := t4.below hb5
        clear hq hr hqb hrb hql hb5 a0 a1 a2 a3 b0 b1 b2 b3
        unfold U
        have t5s := t5.s
        have zb : w.heap.size + 1 < w5.heap.size := t5s
        have za : w.heap.size < w5.heap.size := by omega
        obtain ⟨b0, b1, b2, b3⟩ := t5.b.cells4
        go_wp2_with fail
        refine (mulok_c q b _ (Nat.lt_of_le_of_lt Hql.out Hal.out) Hbl.out (by have := Hqb.out; have := Hal.out; omega)).mono ?_
        rintro e w6 ⟨rfl, hb6⟩
        obtain ⟨p, hp⟩ : ∃ x, x = q * b := ⟨_, rfl⟩
        rw [← hp]
        have Hp := Lib.hid hp
        have t6 : Two w w6 a b := ((t5.alloc _).alloc _).below hb6
        have r6 : Box w6 (w5.heap.size + 1) r := (Box.new (by simp)).below hb6
        clear hp hb6 b0 b1 b2 b3 zb za t5s
        unfold U
        have t6s := t6.s
        have r6s := r6.s
        obtain ⟨r0, r1, r2, r3⟩ := r6.a.cells4
        go_wp2_with fail
        refine (addok_c p r _ (by rw [Hp.out]; have := Hqb.out; have := Hal.out; omega) (Nat.lt_trans Hrb.out Hbl.out) (by rw [Hp.out, Hqb.out]; exact Hal.out)).mono ?_
        rintro e w7 ⟨rfl, hb7⟩
        rw [show p + r = a by rw [Hp.out]; exact Hqb.out]
        have t7 : Two w w7 a b := (t6.alloc _).below hb7
        have r7 : Box w7 (w5.heap.size + 1) r := (r6.alloc _).below hb7
        clear hb7 r0 r1 r2 r3 t6s r6s
        unfold U
        have t7s := t7.s
        have r7s := r7.s
        have za : w.heap.size < w7.heap.size := by omega
        have zb : w.heap.size + 1 < w7.heap.size := by omega
        obtain ⟨a0, a1, a2, a3⟩ := t7.a.cells4
        obtain ⟨b0, b1, b2, b3⟩ := t7.b.cells4
        obtain ⟨r0, r1, r2, r3⟩ := r7.a.cells4
        have hcm : ¬ 0 ≤ cmpU r b := by have := Hrb.out; unfold cmpU; rw [if_neg (by omega), if_neg (by omega)]; omega
        have hcd : decide (0 ≤ cmpU r b) = false := decide_eq_false hcm
        go_wp2_with fail
        refine (cmp_c r b _ (Nat.lt_trans Hrb.out Hbl.out) Hbl.out).mono ?_
        rintro e w9 ⟨rfl, hb9⟩
        have t9 : Two w w9 a b := (t7.alloc _).below hb9
        clear hb9 a0 a1 a2 a3 b0 b1 b2 b3 r0 r1 r2 r3 za zb t7s r7s
        obtain ⟨a0, a1, a2, a3⟩ := t9.a.cells4
        go_wp2_with fail
        refine (bytes_walk a _).mono ?_
        rintro e w11 ⟨g, rfl, hg1, hg2, hga, hb11⟩
        have t11 : Two w w11 a b := t9.below hb11
        clear a0 a1 a2 a3 hb11
        go_wp2_with fail
        refine (frombytes_c a g _ Hal.out hga hg2).mono ?_
        rintro e w12 ⟨rfl, hb12⟩
        have t12 : Two w w12 a b := t11.below hb12
        clear hga hg1 hg2 hb12
        unfold U
        have t12s := t12.s
        have za : w.heap.size < w12.heap.size := by omega
        obtain ⟨a0, a1, a2, a3⟩ := t12.a.cells4
        go_wp2_with fail
        refine (text_walk a _ Hal.out).mono ?_
        rintro e w13 ⟨j, rfl, j1, j2, j3, j4, hb13⟩
        have HT : Hid (IsText (strOfNums (digits a j)) a j) := Lib.hid (isText_digits j1 j2 j3 j4)
        generalize strOfNums (digits a j) = txt at *
        have t13 : Two w w13 a b := (t12.alloc _).below hb13
        have x13 : Box w13 w12.heap.size a := (Box.new rfl).below hb13
        clear j1 j2 j3 j4 hb13 a0 a1 a2 a3 za t12s
        go_wp2_with fail
        refine (parse_walk txt a j _ Hal.out HT.out).mono ?_
        rintro e w14 ⟨rfl, hb14⟩
        have t14 : Two w w14 a b := t13.below hb14
        have x14 : Box w14 w12.heap.size a := x13.below hb14
        clear hb14
        unfold U
        have t14s := t14.s
        have x14s := x14.s
        have za : w.heap.size < w14.heap.size := by omega
        obtain ⟨a0, a1, a2, a3⟩ := t14.a.cells4
        obtain ⟨x0, x1, x2, x3⟩ := x14.a.cells4
        go_wp2_with fail
        refine (lives1_walk _).mono ?_
        rintro e w15 ⟨rfl, hb15⟩
        have t15 : Two w w15 a b := (t14.alloc _).below hb15
        clear hb15
        go_wp2
        go_ret
        exact ⟨rfl, t15.l⟩
end Go.Proofs.Ytiofphpdonlaoaa
