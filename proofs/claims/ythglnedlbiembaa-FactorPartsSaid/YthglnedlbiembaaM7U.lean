/- muldiv.Up, walked. -/
import Derived.Test.YthglnedlbiembaaM7
namespace Go.Proofs.Ythglnedlbiembaa
open Go.RowKit Go.Sort

theorem up_no {a b d : Nat} (h : ¬ quoOk (a * b) d) : uok a b d = false ∧ uv a b d = 0 ∧ qv a b d = 0 ∧ qok a b d = false := by
  have hn : ¬ upOk (a * b) d := fun hu => h ⟨hu.1, by have := hu.2; unfold upVal at this; split at this <;> omega⟩
  unfold uok uv qv qok
  rw [if_neg hn, if_neg h, decide_eq_false hn, decide_eq_false h]; exact ⟨rfl, rfl, rfl, rfl⟩
theorem up_even {a b d : Nat} (h : quoOk (a * b) d) (hr : a * b % d = 0) : uok a b d = true ∧ uv a b d = qv a b d ∧ qok a b d = true ∧ qr a b d = 0 := by
  have hu : upOk (a * b) d := ⟨h.1, by unfold upVal; rw [if_pos hr]; exact h.2⟩
  unfold uok uv qv qok qr
  rw [if_pos hu, if_pos h, if_pos h, decide_eq_true hu, decide_eq_true h]
  exact ⟨rfl, by unfold upVal; rw [if_pos hr], rfl, hr⟩
theorem up_odd {a b d : Nat} (h : quoOk (a * b) d) (hr : a * b % d ≠ 0) : uok a b d = addk (qv a b d) 1 ∧ uv a b d = addv (qv a b d) 1 ∧ qok a b d = true ∧ qr a b d ≠ 0 := by
  have e : upVal (a * b) d = a * b / d + 1 := by unfold upVal; rw [if_neg hr]
  have hu : upOk (a * b) d ↔ a * b / d + 1 < 2 ^ 256 := by unfold upOk; rw [e]; exact ⟨fun k => k.2, fun k => ⟨h.1, k⟩⟩
  unfold uok uv qv qok qr addk addv
  rw [if_pos h, if_pos h, decide_eq_true h, e]
  refine ⟨decide_eq_decide.2 hu, ?_, rfl, hr⟩
  by_cases hk : a * b / d + 1 < 2 ^ 256
  · rw [if_pos hk, if_pos (hu.2 hk)]
  · rw [if_neg hk, if_neg (fun hc => hk (hu.1 hc))]
theorem qv_lt (a b d : Nat) : qv a b d < 2 ^ 256 := by unfold qv; split; rename_i h; exact h.2; decide
theorem qr_lt {a b d : Nat} (hd : d < 2 ^ 256) : qr a b d < 2 ^ 256 := by unfold qr; split; rename_i h; exact Nat.lt_trans (Nat.mod_lt _ (Nat.pos_of_ne_zero h.1)) hd; decide
theorem uv_lt (a b d : Nat) : uv a b d < 2 ^ 256 := by unfold uv; split; rename_i h; exact h.2; decide
theorem of1_c (w : World) : Calls Try.prog 39 #[.int .u64 1] w fun e w' => e = .returned (.agg #[.int .u64 1, .int .u64 0, .int .u64 0, .int .u64 0]) ∧ Below w.heap.size w w' := by
  have h := of_walk 1 w
  exact h.mono fun e w' ⟨he, hw⟩ => ⟨by rw [he]; rfl, hw⟩
theorem add1_c (a : Nat) (w : World) (ha : a < 2 ^ 256) : Calls Try.prog 15 #[U a, .agg #[.int .u64 1, .int .u64 0, .int .u64 0, .int .u64 0]] w fun e w' => e = .returned (.tuple #[U (addv a 1), .bool (addk a 1)]) ∧ Below w.heap.size w w' := by
  have h := add_c a 1 w ha (by decide)
  rw [U_small (n := 1) (by decide)] at h
  exact h

set_option maxRecDepth 100000 in
set_option maxHeartbeats 40000000 in
theorem up_walk (a b d : Nat) (w : World) (ha : a < 2 ^ 256) (hb : b < 2 ^ 256) (hd : d < 2 ^ 256) :
    Calls Try.prog 42 #[U a, U b, U d] w fun e w' => e = .returned (.tuple #[U (uv a b d), .bool (uok a b d)]) ∧ Below w.heap.size w w' := by
  obtain ⟨H, hH⟩ : ∃ x, x = a * b / 2 ^ 256 := ⟨_, rfl⟩
  obtain ⟨L, hL⟩ : ∃ x, x = a * b % 2 ^ 256 := ⟨_, rfl⟩
  have hh := mul_halves ha hb
  rw [← hH, ← hL] at hh
  have Hh := Lib.hid hh
  have HH := Lib.hid hH
  have HL := Lib.hid hL
  have Ha := Lib.hid ha
  have Hb := Lib.hid hb
  have Hd := Lib.hid hd
  clear hh hH hL ha hb hd
  obtain ⟨q, hq⟩ : ∃ x, x = qv a b d := ⟨_, rfl⟩
  obtain ⟨r, hr⟩ : ∃ x, x = qr a b d := ⟨_, rfl⟩
  obtain ⟨ok, hok⟩ : ∃ x, x = qok a b d := ⟨_, rfl⟩
  obtain ⟨uq, huq⟩ : ∃ x, x = uv a b d := ⟨_, rfl⟩
  obtain ⟨uk, huk⟩ : ∃ x, x = uok a b d := ⟨_, rfl⟩
  rw [← huq, ← huk]
  have Huq := Lib.hid huq
  have Huk := Lib.hid huk
  clear huq huk
  have Hq := Lib.hid hq
  have Hr := Lib.hid hr
  have Hok := Lib.hid hok
  clear hq hr hok
  unfold U
  go_enter Try.func42, Try.ntmps42
  go_upto_region 1 with (fail)
  have t0 : Three0 w _ a b d := three0_first (t1 := 24) (t2 := 24) (t3 := 24) (t4 := 24)
  have T0 := Lib.hid t0
  clear t0
  go_cut [8, 9, 10] (fun p p2 k wx => ∃ L8 L9, p = .pointer (some ⟨L8, 0, none⟩) ∧ p2 = .pointer (some ⟨L9, 0, none⟩) ∧ k = .bool ok ∧ Arr .u64 wx L8 4 (limb q) ∧ Arr .u64 wx L9 4 (limb r) ∧ Three0 w wx a b d ∧ w.heap.size + 1 + 1 + 1 < L8 ∧ w.heap.size + 1 + 1 + 1 < L9 ∧ L8 < wx.heap.size ∧ L9 < wx.heap.size)
  case first =>
    go_region_held3 (fun w' => w'.cell? ⟨w.heap.size, 0, none⟩ = some (.int .u64 (limb a 0 : Nat)) ∧ w'.cell? ⟨w.heap.size, 1, none⟩ = some (.int .u64 (limb a 1 : Nat)) ∧ w'.cell? ⟨w.heap.size, 2, none⟩ = some (.int .u64 (limb a 2 : Nat)) ∧ w'.cell? ⟨w.heap.size, 3, none⟩ = some (.int .u64 (limb a 3 : Nat)) ∧ w'.cell? ⟨w.heap.size + 1, 0, none⟩ = some (.int .u64 (limb b 0 : Nat)) ∧ w'.cell? ⟨w.heap.size + 1, 1, none⟩ = some (.int .u64 (limb b 1 : Nat)) ∧ w'.cell? ⟨w.heap.size + 1, 2, none⟩ = some (.int .u64 (limb b 2 : Nat)) ∧ w'.cell? ⟨w.heap.size + 1, 3, none⟩ = some (.int .u64 (limb b 3 : Nat)) ∧ w'.cell? ⟨w.heap.size + 1 + 1, 0, none⟩ = some (.int .u64 (limb d 0 : Nat)) ∧ w'.cell? ⟨w.heap.size + 1 + 1, 1, none⟩ = some (.int .u64 (limb d 1 : Nat)) ∧ w'.cell? ⟨w.heap.size + 1 + 1, 2, none⟩ = some (.int .u64 (limb d 2 : Nat)) ∧ w'.cell? ⟨w.heap.size + 1 + 1, 3, none⟩ = some (.int .u64 (limb d 3 : Nat)) ∧ Three0 w w' a b d)
      ((refine held_of ?_; repeat (first | with_reducible exact u2 | with_reducible exact u1 | with_reducible refine Three0.drew ?_ | with_reducible exact T0.out | with_reducible refine Three0.put4 ?_ (by omega) | with_reducible refine Three0.alloc ?_ _ | with_reducible exact un_held (by with_reducible assumption))))
      (first
        | (go_at_call 47; refine (quo_c a b d H L _ Hh.out.2.1 Hh.out.1 Hd.out Hh.out.2.2).mono ?_; rintro e w2 ⟨rfl, hb2⟩; have u2 : Three0 w w2 a b d := Three0.below (un_held (by with_reducible assumption)) hb2; rw [← Hq.out, ← Hr.out, ← Hok.out]; have s2 := u2.s; have y2 := hb2.size; (try simp at y2); (first | (with_reducible have zA2 := carry2 zA hb2) | (with_reducible have zA2 := carry1 zA hb2) | (with_reducible have zA2 := carry0 zA hb2) | skip); (first | (with_reducible have zB2 := carry2 zB hb2) | (with_reducible have zB2 := carry1 zB hb2) | (with_reducible have zB2 := carry0 zB hb2) | skip); (first | (with_reducible have zz := z_two hb2; have zC2 := zz.1; have zD2 := zz.2; clear zz) | (with_reducible have zC2 := z_one hb2) | skip); (first | (obtain ⟨_, _, _, _⟩ := zA2.frees4; obtain ⟨_, _, _, _⟩ := zA2.cells4; have lzA2 := zA2.lt4) | skip); (first | (obtain ⟨_, _, _, _⟩ := zB2.frees4; obtain ⟨_, _, _, _⟩ := zB2.cells4; have lzB2 := zB2.lt4) | skip); (first | (obtain ⟨_, _, _, _⟩ := zC2.frees4; obtain ⟨_, _, _, _⟩ := zC2.cells4; have lzC2 := zC2.lt4) | skip); (first | (obtain ⟨_, _, _, _⟩ := zD2.frees4; obtain ⟨_, _, _, _⟩ := zD2.cells4; have lzD2 := zD2.lt4) | skip); unfold U)
        | (go_at_call 44; refine (wmulH_walk a b H L _ Ha.out Hb.out HH.out HL.out).mono ?_; rintro e w1 ⟨rfl, hb1⟩; have u1 : Three0 w w1 a b d := Three0.below (un_held (by with_reducible assumption)) hb1; have s1 := u1.s; have y1 := hb1.size; (try simp at y1); (first | (with_reducible have zz := z_two_d hb1; have zA := zz.1; have zB := zz.2; clear zz; (try simp at zB)) | (with_reducible have zA := z_one_d hb1) | skip); (try simp at zA); unfold WW))
    all_goals
      go_wp2
      go_meet
      case rel =>
        refine ⟨_, _, rfl, rfl, rfl, ?_, ?_, un_held (by with_reducible assumption), by omega, by omega, ?_, ?_⟩
        · repeat (first | with_reducible assumption | with_reducible exact Arr.new4 (f := limb q) rfl | with_reducible exact Arr.new4 (f := limb q) (by simp; done) | with_reducible refine Arr.put4 (f := fun _ => 0) ?_ | with_reducible refine Arr.put4_far ?_ (by omega) | with_reducible refine Arr.alloc ?_ _)
        · repeat (first | with_reducible assumption | with_reducible exact Arr.new4 (f := limb r) rfl | with_reducible exact Arr.new4 (f := limb r) (by simp; done) | with_reducible refine Arr.put4 (f := fun _ => 0) ?_ | with_reducible refine Arr.put4_far ?_ (by omega) | with_reducible refine Arr.alloc ?_ _)
        · simp only [World.size_setCell, World.size_alloc]; omega
        · simp only [World.size_setCell, World.size_alloc]; omega
  case rest =>
    obtain ⟨L8, L9, rfl, rfl, rfl, h8, h9, ht, g8, g9, s8, s9⟩ := hcut
    obtain ⟨e0, e1, e2, e3⟩ := h8.cells4
    obtain ⟨r0, r1, r2, r3⟩ := h9.cells4
    obtain ⟨z0, z1, z2, z3⟩ := ht.z.cells4
    obtain ⟨y0, y1, y2, y3⟩ := ht.z.frees4
    have hbl := Lib.hid ht.t.l
    have heqr := fun w => eq0_run (a := r) (by rw [Hr.out]; exact qr_lt Hd.out) w
    have hql := Lib.hid (show q < 2 ^ 256 by rw [Hq.out]; exact qv_lt _ _ _)
    have HT := Lib.hid ht
    have H8 := Lib.hid h8
    clear h8 h9 ht
    by_cases hk : quoOk (a * b) d
    · by_cases h0 : a * b % d = 0
      · have u := up_even hk h0
        have hok : ok = true := by rw [Hok.out]; exact u.2.2.1
        have hdec : decide (r = 0) = true := decide_eq_true (by rw [Hr.out]; exact u.2.2.2)
        have Hu := Lib.hid (show uq = q ∧ uk = true by rw [Huq.out, Huk.out, Hq.out]; exact ⟨u.2.1, u.1⟩)
        clear u hk h0
        go_wp2
        refine bodyPost_ret (v := .tuple #[.agg #[.int .u64 (limb q 0 : Nat), .int .u64 (limb q 1 : Nat), .int .u64 (limb q 2 : Nat), .int .u64 (limb q 3 : Nat)], .bool true]) (by simp [results, Try.results42, go_sem, z0, z1, z2, z3, hok]) rfl ⟨by rw [Hu.out.1, Hu.out.2], below_set4 hbl.out (by omega)⟩
      · have u := up_odd hk h0
        have hok : ok = true := by rw [Hok.out]; exact u.2.2.1
        have hdec : decide (r = 0) = false := decide_eq_false (by rw [Hr.out]; exact u.2.2.2)
        obtain ⟨s, hs⟩ : ∃ s, s = addv q 1 := ⟨_, rfl⟩
        obtain ⟨k, hk'⟩ : ∃ s, s = addk q 1 := ⟨_, rfl⟩
        have Hu := Lib.hid (show uq = s ∧ uk = k by rw [hs, hk', Huq.out, Huk.out, Hq.out]; exact ⟨u.2.1, u.1⟩)
        have Hs := Lib.hid hs
        have Hk := Lib.hid hk'
        clear u hk h0 hs hk'
        have zs := HT.out.s
        go_wp2
        go_region_with (first
          | (go_at_call 39; refine (of1_c _).mono ?_; rintro e w2 ⟨rfl, hb2⟩; have u2 := (HT.out.drewN 1).below hb2; obtain ⟨f0, f1, f2, f3⟩ := ((H8.out.drewN 1).below hb2 s8).cells4)
          | (go_at_call 15; refine (add1_c q _ hql.out).mono ?_; rintro e w3 ⟨rfl, hb3⟩; rw [← Hs.out, ← Hk.out]; have u3 := u2.below hb3; obtain ⟨z0', z1', z2', z3'⟩ := u3.z.cells4; obtain ⟨y0', y1', y2', y3'⟩ := u3.z.frees4; have hbl3 := Lib.hid u3.t.l; unfold U))
        all_goals
          go_wp2
          refine bodyPost_ret (v := .tuple #[.agg #[.int .u64 (limb s 0 : Nat), .int .u64 (limb s 1 : Nat), .int .u64 (limb s 2 : Nat), .int .u64 (limb s 3 : Nat)], .bool k]) (by simp [results, Try.results42, go_sem, z0', z1', z2', z3']) rfl ⟨by rw [Hu.out.1, Hu.out.2], below_set4 hbl3.out (by omega)⟩
    · have u := up_no hk
      have hok : ok = false := by rw [Hok.out]; exact u.2.2.2
      have hq0 : q = 0 := by rw [Hq.out]; exact u.2.2.1
      have Hu := Lib.hid (show uq = q ∧ uk = false by rw [Huq.out, Huk.out, hq0]; exact ⟨u.2.1, u.1⟩)
      clear u hk hq0
      go_wp2
      refine bodyPost_ret (v := .tuple #[.agg #[.int .u64 (limb q 0 : Nat), .int .u64 (limb q 1 : Nat), .int .u64 (limb q 2 : Nat), .int .u64 (limb q 3 : Nat)], .bool false]) (by simp [results, Try.results42, go_sem, z0, z1, z2, z3, hok]) rfl ⟨by rw [Hu.out.1, Hu.out.2], below_set4 hbl.out (by omega)⟩
end Go.Proofs.Ythglnedlbiembaa
