/- bank: Balance, Mint, Pay; on a dead store and on a live one; lives of layer 17. -/
import Derived.Test.YtffipojlpdphiaaG26
import Derived.Test.YtffipojlpdphiaaG19
namespace Go.Proofs.Ytffipojlpdphiaa
open Go.RowKit Go.Maps Go.Sort

set_option maxRecDepth 100000 in
set_option maxHeartbeats 2000000 in
/-- Balance: what lies at the account -/
theorem balance_of (P : Option Addr) (t a : Int) (n : Nat) (K : ByteArray) (hK : keyStr 1 (two2 t a) 2 = K) (w : World) (ht : t < 2 ^ 63) (ha : a < 2 ^ 63)
    (HC : ∀ W, Below w.heap.size w W → Calls Try.prog 144 #[.pointer P, .string K] W fun e w' => e = .returned (U n) ∧ Below W.heap.size W w') :
    Calls Try.prog 80 #[.pointer P, .int .i64 t, .int .i64 a] w fun e w' => e = .returned (U n) ∧ Below w.heap.size w w' := by
  have hb0 := (Below.refl w.heap.size w).alloc (Nat.le_refl _) (.cells #[.int .u64 0, .int .u64 0, .int .u64 0, .int .u64 0] 52)
  have r0 := heap_alloc_new w (.cells #[.int .u64 0, .int .u64 0, .int .u64 0, .int .u64 0] 52)
  have H0 := Lib.hid (And.intro hb0 r0)
  have HA := Lib.hid (fun W => account_is t a K hK W ht ha)
  have hC := HC
  unfold U at hC
  have HCs := Lib.hid hC
  clear hb0 r0 hC HC hK ht ha
  unfold U
  go_enter Try.func80, Try.ntmps80
  go_wp2_with (first
    | (go_at_call 144; with_reducible refine (HCs.out _ H1.out.1).mono ?_; rintro e w2 ⟨rfl, hb2⟩; have rx := (hb2.block _ (hp_lt H1.out.2)).trans H1.out.2; have H2 := Lib.hid (And.intro (H1.out.1.trans (hb2.mono H1.out.1.size)) rx); have d0 := (hp_cell (i := 0) rx).trans rfl; have d1 := (hp_cell (i := 1) rx).trans rfl; have d2 := (hp_cell (i := 2) rx).trans rfl; have d3 := (hp_cell (i := 3) rx).trans rfl; have f0 := hp_free (i := 0) rx; have f1 := hp_free (i := 1) rx; have f2 := hp_free (i := 2) rx; have f3 := hp_free (i := 3) rx; clear hb2 rx)
    | (go_at_call 85; with_reducible refine (HA.out _).mono ?_; rintro e w1 ⟨rfl, hb1⟩; have H1 := Lib.hid (And.intro (H0.out.1.trans (hb1.mono H0.out.1.size)) ((hb1.block _ (hp_lt H0.out.2)).trans H0.out.2)); clear hb1))
  obtain ⟨e0, e1, e2, e3⟩ := ((arr_zero H2.out.2).put4 (n := n)).cells4
  refine bodyPost_ret (v := .agg #[.int .u64 (limb n 0 : Nat), .int .u64 (limb n 1 : Nat), .int .u64 (limb n 2 : Nat), .int .u64 (limb n 3 : Nat)]) (by simp [results, Try.results80, go_sem, e0, e1, e2, e3]) rfl ⟨rfl, below_set4 H2.out.1 (Nat.le_refl _)⟩
theorem balance_dead (P : Option Addr) (t a : Int) (w : World) (ht : t < 2 ^ 63) (ha : a < 2 ^ 63) (h : SDead w (.pointer P)) :
    Calls Try.prog 80 #[.pointer P, .int .i64 t, .int .i64 a] w fun e w' => e = .returned (U 0) ∧ Below w.heap.size w w' :=
  balance_of P t a 0 _ rfl w ht ha (fun W hb => camount_dead P _ W (h.below hb))
theorem total_dead (P : Option Addr) (t : Int) (w : World) (h : SDead w (.pointer P)) :
    Calls Try.prog 27 #[.pointer P, .int .i64 t] w fun e w' => (∃ ok, e = .returned (.tuple #[U 0, .bool ok])) ∧ Below w.heap.size w w' := by
  by_cases ht : 1 ≤ t ∧ t ≤ 1000
  · refine (total_yes P t w _ _ _ _ (fun _ => []) ht rfl rfl rfl rfl (fun _ _ => by simp) (by decide) ?_).mono fun e w' hh => ⟨⟨true, hh.1⟩, hh.2⟩
    intro i W W' G hi hb hG ht
    have hb' := hb.trans (ht.below hG hb.size)
    refine (under_dead (.pointer P) _ W' (h.below hb')).mono ?_
    rintro e w' ⟨he, rfl⟩
    exact ⟨⟨_, he, World.ownsRow_nil _ _ _ _⟩, Below.refl _ _⟩
  · exact (total_no P t w ht).mono fun e w' hh => ⟨⟨false, hh.1⟩, hh.2⟩
set_option maxRecDepth 100000 in
set_option maxHeartbeats 4000000 in
/-- Mint, whatever the store: I0, I1, I2 stand before, between and behind the two Adds -/
theorem mint_walk (P : Option Addr) (t a : Int) (n : Nat) (w : World) (K2 K1 : ByteArray) (hg : (1 ≤ t ∧ t ≤ 1000) ∧ 1 ≤ a ∧ a ≤ 4294967295) (hn : n ≤ MOST) (hK2 : keyStr 2 (fun _ => t) 1 = K2) (hK1 : keyStr 1 (two2 t a) 2 = K1)
    (I0 I1 I2 : World → Prop) (h0 : I0 (w.alloc (.cells #[.int .u64 (limb n 0 : Nat), .int .u64 (limb n 1 : Nat), .int .u64 (limb n 2 : Nat), .int .u64 (limb n 3 : Nat)] 52))) (b0 : ∀ W W', I0 W → Below W.heap.size W W' → I0 W') (b1 : ∀ W W', I1 W → Below W.heap.size W W' → I1 W') (r0 : ∀ W, I0 W → W.heap[w.heap.size]? = some (.cells #[.int .u64 (limb n 0 : Nat), .int .u64 (limb n 1 : Nat), .int .u64 (limb n 2 : Nat), .int .u64 (limb n 3 : Nat)] 52 (0, 0))) (r1 : ∀ W, I1 W → W.heap[w.heap.size]? = some (.cells #[.int .u64 (limb n 0 : Nat), .int .u64 (limb n 1 : Nat), .int .u64 (limb n 2 : Nat), .int .u64 (limb n 3 : Nat)] 52 (0, 0)))
    (HM : ∀ W, I0 W → Calls Try.prog 83 #[.pointer P] W fun e w' => (∃ m : Int, e = .returned (.int .i64 m)) ∧ W = w')
    (HA1 : ∀ W, I0 W → Calls Try.prog 84 #[.pointer P, .string K2, U n] W fun e w' => e = .returned (.int .i64 0) ∧ I1 w')
    (HA2 : ∀ W, I1 W → Calls Try.prog 84 #[.pointer P, .string K1, U n] W fun e w' => e = .returned (.int .i64 0) ∧ I2 w') :
    Calls Try.prog 24 #[.pointer P, .int .i64 t, .int .i64 a, U n] w fun e w' => e = .returned (.int .i64 0) ∧ I2 w' := by
  have hG := fun W => bgood_any t a W
  rw [decide_eq_true hg] at hG
  have hAm := fun W => amount_walk n W (Nat.lt_of_le_of_lt hn MOST_lt)
  rw [decide_eq_true hn] at hAm
  unfold U at hAm HA1 HA2
  have HG := Lib.hid hG
  have HAm := Lib.hid hAm
  have HMk := Lib.hid HM
  have HAd1 := Lib.hid HA1
  have HAd2 := Lib.hid HA2
  have HS := Lib.hid (fun W => supply_is t K2 hK2 W (by omega))
  have HAc := Lib.hid (fun W => account_is t a K1 hK1 W (by omega) (by omega))
  have H0 := Lib.hid h0
  have B0 := Lib.hid b0
  have B1 := Lib.hid b1
  have R0 := Lib.hid r0
  have R1 := Lib.hid r1
  have e0 := r0 _ h0
  have c0 := (hp_cell (i := 0) e0).trans rfl
  have c1 := (hp_cell (i := 1) e0).trans rfl
  have c2 := (hp_cell (i := 2) e0).trans rfl
  have c3 := (hp_cell (i := 3) e0).trans rfl
  clear hg hn hK2 hK1 h0 b0 b1 r0 r1 HM HA1 HA2 hG hAm e0
  unfold U
  go_enter Try.func24, Try.ntmps24
  go_upto_region 4 with (first
    | (go_at_call 83; with_reducible refine (HMk.out _ H2.out).mono ?_; rintro e w3 ⟨⟨m, rfl⟩, rfl⟩)
    | (go_at_call 82; with_reducible refine (HAm.out _).mono ?_; rintro e w2 ⟨rfl, hb2⟩; have H2 := Lib.hid (B0.out _ _ H0.out hb2); clear hb2)
    | (go_at_call 81; with_reducible refine (HG.out _).mono ?_; rintro e w1 ⟨rfl, rfl⟩))
  have e2 := R0.out _ H2.out
  have f0 := fun (dq : Nat) (osq : Array Obj) => cell_regrown ((hp_cell (i := 0) e2).trans rfl) dq osq
  have f1 := fun (dq : Nat) (osq : Array Obj) => cell_regrown ((hp_cell (i := 1) e2).trans rfl) dq osq
  have f2 := fun (dq : Nat) (osq : Array Obj) => cell_regrown ((hp_cell (i := 2) e2).trans rfl) dq osq
  have f3 := fun (dq : Nat) (osq : Array Obj) => cell_regrown ((hp_cell (i := 3) e2).trans rfl) dq osq
  clear c0 c1 c2 c3 e2
  refine wp_region_quiet_tail 4 (by kernel_rfl) (by kernel_rfl) ?_
  simp only [List.take_succ_cons, List.take_zero]
  repeat (quiet_step (first | (go_at_call 29; with_reducible exact Calls.regrown_of (HS.out _))))
  refine wpQuiet_nil ?_
  intro _ hw'
  obtain ⟨⟨dq, osq⟩, hw''⟩ := hw'
  subst hw''
  have H4 := Lib.hid (B0.out _ _ H2.out (below_regrown _ dq osq))
  clear f0 f1 f2 f3
  simp only [List.drop_succ_cons, List.drop_zero]
  go_upto_region 7 with (first | (go_at_call 84; with_reducible refine (HAd1.out _ H4.out).mono ?_; rintro e w5 ⟨rfl, h5⟩; have H5 := Lib.hid h5; clear h5))
  have e5 := R1.out _ H5.out
  have f0 := fun (dq : Nat) (osq : Array Obj) => cell_regrown ((hp_cell (i := 0) e5).trans rfl) dq osq
  have f1 := fun (dq : Nat) (osq : Array Obj) => cell_regrown ((hp_cell (i := 1) e5).trans rfl) dq osq
  have f2 := fun (dq : Nat) (osq : Array Obj) => cell_regrown ((hp_cell (i := 2) e5).trans rfl) dq osq
  have f3 := fun (dq : Nat) (osq : Array Obj) => cell_regrown ((hp_cell (i := 3) e5).trans rfl) dq osq
  clear e5
  refine wp_region_quiet_tail 5 (by kernel_rfl) (by kernel_rfl) ?_
  simp only [List.take_succ_cons, List.take_zero]
  repeat (quiet_step (first | (go_at_call 85; with_reducible exact Calls.regrown_of (HAc.out _))))
  refine wpQuiet_nil ?_
  intro _ hw'
  obtain ⟨⟨dq, osq⟩, hw''⟩ := hw'
  subst hw''
  have H7 := Lib.hid (B1.out _ _ H5.out (below_regrown _ dq osq))
  clear f0 f1 f2 f3
  simp only [List.drop_succ_cons, List.drop_zero]
  go_wp2_with (first | (go_at_call 84; with_reducible refine (HAd2.out _ H7.out).mono ?_; rintro e w8 ⟨rfl, h8⟩; have H8 := Lib.hid h8; clear h8))
  go_ret
  exact ⟨rfl, H8.out⟩
end Go.Proofs.Ytffipojlpdphiaa

namespace Go.Proofs.Ytffipojlpdphiaa
open Go.RowKit Go.Maps Go.Sort

theorem mint_live {w W : World} {b : Nat} {F : List Nat} {L : SL} {q : Nat} {qs : List Value} (h : SNew w W b F L q qs) (t a : Int) (n : Nat) (K2 K1 : ByteArray) (hg : (1 ≤ t ∧ t ≤ 1000) ∧ 1 ≤ a ∧ a ≤ 4294967295) (hn : 0 + n ≤ MOST) (hK2 : keyStr 2 (fun _ => t) 1 = K2) (hK1 : keyStr 1 (two2 t a) 2 = K1)
    (hk2 : K2.size ≤ maxLen) (hk1 : K1.size ≤ maxLen) (hk20 : K2 ≠ ⟨#[]⟩) (hk10 : K1 ≠ ⟨#[]⟩) (he2 : amtAt L K2 0) (he1 : amtAt (setA L K2 (0 + n)) K1 0) (hN : L.length < 1000000) (hN1 : (setA L K2 (0 + n)).length < 1000000) (hq : q + 2 < 1000000) :
    Calls Try.prog 24 #[.pointer (some ⟨b, 0, none⟩), .int .i64 t, .int .i64 a, U n] W fun e W' => e = .returned (.int .i64 0) ∧ LiveTo w W W' b F (setA (setA L K2 (0 + n)) K1 (0 + n)) (q + 2) := by
  have hn' : n ≤ MOST := by omega
  have hn2 : n < 2 ^ 256 := Nat.lt_of_le_of_lt hn' MOST_lt
  have hF : W.heap.size ∉ F := fun hm => by have := h.s.lt _ hm; omega
  have r0 := heap_alloc_new W (.cells #[.int .u64 (limb n 0 : Nat), .int .u64 (limb n 1 : Nat), .int .u64 (limb n 2 : Nat), .int .u64 (limb n 3 : Nat)] 52)
  refine mint_walk (some ⟨b, 0, none⟩) t a n W K2 K1 hg hn' hK2 hK1 (fun X => Below W.heap.size W X ∧ X.heap[W.heap.size]? = some (.cells #[.int .u64 (limb n 0 : Nat), .int .u64 (limb n 1 : Nat), .int .u64 (limb n 2 : Nat), .int .u64 (limb n 3 : Nat)] 52 (0, 0))) (fun X => LiveTo w W X b F (setA L K2 (0 + n)) (q + 1) ∧ X.heap[W.heap.size]? = some (.cells #[.int .u64 (limb n 0 : Nat), .int .u64 (limb n 1 : Nat), .int .u64 (limb n 2 : Nat), .int .u64 (limb n 3 : Nat)] 52 (0, 0))) (fun X => LiveTo w W X b F (setA (setA L K2 (0 + n)) K1 (0 + n)) (q + 2))
    ⟨(Below.refl _ _).alloc (Nat.le_refl _) _, r0⟩ (fun X X' hx hb => ⟨hx.1.trans (hb.mono hx.1.size), (hb.block _ (hp_lt hx.2)).trans hx.2⟩) (fun X X' hx hb => ⟨hx.1.post hb, (hb.block _ (hp_lt hx.2)).trans hx.2⟩) (fun X hx => hx.2) (fun X hx => hx.2) (fun X hx => ?_) (fun X hx => ?_) (fun X hx => ?_)
  · exact (mark_live b F L q qs X (h.below hx.1).s).mono fun e w' hh => ⟨⟨_, hh.1⟩, hh.2⟩
  · refine (cadd_live (h.below hx.1) K2 0 n hk2 hk20 he2 (by decide) hn2 hn hN (by omega)).mono fun e w' hh => ⟨hh.1, hh.2.pre hx.1, ?_⟩
    obtain ⟨_, _, _, _, _, ht, _⟩ := hh.2
    exact (ht.block _ (hp_lt hx.2) hF).trans hx.2
  · exact hx.1.seq 1 (fun F1 qa qsa hs hqa => cadd_live hs K1 0 n hk1 hk10 he1 (by decide) hn2 hn hN1 (by omega))
theorem mint_dead1 (P : Option Addr) (t a : Int) (n : Nat) (w : World) (hg : (1 ≤ t ∧ t ≤ 1000) ∧ 1 ≤ a ∧ a ≤ 4294967295) (hn : n ≤ MOST) (h : SDead w (.pointer P)) :
    Calls Try.prog 24 #[.pointer P, .int .i64 t, .int .i64 a, U n] w fun e w' => e = .returned (.int .i64 0) ∧ Below w.heap.size w w' := by
  have r0 := heap_alloc_new w (.cells #[.int .u64 (limb n 0 : Nat), .int .u64 (limb n 1 : Nat), .int .u64 (limb n 2 : Nat), .int .u64 (limb n 3 : Nat)] 52)
  refine (mint_walk P t a n w _ _ hg hn rfl rfl (fun X => Below w.heap.size w X ∧ X.heap[w.heap.size]? = some (.cells #[.int .u64 (limb n 0 : Nat), .int .u64 (limb n 1 : Nat), .int .u64 (limb n 2 : Nat), .int .u64 (limb n 3 : Nat)] 52 (0, 0))) (fun X => Below w.heap.size w X ∧ X.heap[w.heap.size]? = some (.cells #[.int .u64 (limb n 0 : Nat), .int .u64 (limb n 1 : Nat), .int .u64 (limb n 2 : Nat), .int .u64 (limb n 3 : Nat)] 52 (0, 0))) (fun X => Below w.heap.size w X)
    ⟨(Below.refl _ _).alloc (Nat.le_refl _) _, r0⟩ (fun X X' hx hb => ⟨hx.1.trans (hb.mono hx.1.size), (hb.block _ (hp_lt hx.2)).trans hx.2⟩) (fun X X' hx hb => ⟨hx.1.trans (hb.mono hx.1.size), (hb.block _ (hp_lt hx.2)).trans hx.2⟩) (fun X hx => hx.2) (fun X hx => hx.2) (fun X hx => ?_) (fun X hx => ?_) (fun X hx => ?_))
  · exact (mark_dead (.pointer P) X (h.below hx.1)).mono fun e w' hh => ⟨⟨_, hh.1⟩, hh.2⟩
  · exact (cadd_dead P _ n hn X (h.below hx.1)).mono fun e w' hh => ⟨hh.1, hx.1.trans (hh.2.mono hx.1.size), (hh.2.block _ (hp_lt hx.2)).trans hx.2⟩
  · exact (cadd_dead P _ n hn X (h.below hx.1)).mono fun e w' hh => ⟨hh.1, hx.1.trans (hh.2.mono hx.1.size)⟩
set_option maxRecDepth 100000 in
set_option maxHeartbeats 2000000 in
/-- Mint of what may not be -/
theorem mint_no (P : Value) (t a : Int) (n : Nat) (w : World) (hn : n < 2 ^ 256) (h : ¬ (((1 ≤ t ∧ t ≤ 1000) ∧ 1 ≤ a ∧ a ≤ 4294967295) ∧ n ≤ MOST)) :
    Calls Try.prog 24 #[P, .int .i64 t, .int .i64 a, U n] w fun e w' => e = .returned (.int .i64 2) ∧ Below w.heap.size w w' := by
  have hG := fun W => bgood_any t a W
  have hb0 := (Below.refl w.heap.size w).alloc (Nat.le_refl _) (.cells #[.int .u64 (limb n 0 : Nat), .int .u64 (limb n 1 : Nat), .int .u64 (limb n 2 : Nat), .int .u64 (limb n 3 : Nat)] 52)
  have HB0 := Lib.hid hb0
  by_cases hg : (1 ≤ t ∧ t ≤ 1000) ∧ 1 ≤ a ∧ a ≤ 4294967295
  · rw [decide_eq_true hg] at hG
    have hm : ¬ n ≤ MOST := fun hh => h ⟨hg, hh⟩
    have hAm := fun W => amount_walk n W hn
    rw [decide_eq_false hm] at hAm
    unfold U at hAm
    have HG := Lib.hid hG
    have HAm := Lib.hid hAm
    have e0 := heap_alloc_new w (.cells #[.int .u64 (limb n 0 : Nat), .int .u64 (limb n 1 : Nat), .int .u64 (limb n 2 : Nat), .int .u64 (limb n 3 : Nat)] 52)
    have c0 := (hp_cell (i := 0) e0).trans rfl
    have c1 := (hp_cell (i := 1) e0).trans rfl
    have c2 := (hp_cell (i := 2) e0).trans rfl
    have c3 := (hp_cell (i := 3) e0).trans rfl
    clear hG hb0 hm hAm h hn hg e0
    unfold U
    go_enter Try.func24, Try.ntmps24
    go_wp2_with (first
      | (go_at_call 82; with_reducible refine (HAm.out _).mono ?_; rintro e w2 ⟨rfl, hb2⟩; have H2 := Lib.hid (HB0.out.trans (hb2.mono HB0.out.size)); clear hb2)
      | (go_at_call 81; with_reducible refine (HG.out _).mono ?_; rintro e w1 ⟨rfl, rfl⟩))
    go_ret
    exact ⟨rfl, H2.out⟩
  · rw [decide_eq_false hg] at hG
    have HG := Lib.hid hG
    clear hG hb0 h hn hg
    unfold U
    go_enter Try.func24, Try.ntmps24
    go_wp2_with (go_at_call 81; with_reducible refine (HG.out _).mono ?_; rintro e w1 ⟨rfl, rfl⟩)
    go_ret
    exact ⟨rfl, HB0.out⟩
theorem mint_dead (P : Option Addr) (t a : Int) (n : Nat) (w : World) (hn : n < 2 ^ 256) (h : SDead w (.pointer P)) :
    Calls Try.prog 24 #[.pointer P, .int .i64 t, .int .i64 a, U n] w fun e w' => (∃ r : Int, e = .returned (.int .i64 r)) ∧ Below w.heap.size w w' := by
  by_cases hh : ((1 ≤ t ∧ t ≤ 1000) ∧ 1 ≤ a ∧ a ≤ 4294967295) ∧ n ≤ MOST
  · exact (mint_dead1 P t a n w hh.1 hh.2 h).mono fun e w' hx => ⟨⟨_, hx.1⟩, hx.2⟩
  · exact (mint_no _ t a n w hn hh).mono fun e w' hx => ⟨⟨_, hx.1⟩, hx.2⟩
set_option maxRecDepth 100000 in
set_option maxHeartbeats 4000000 in
theorem pay_live {w W : World} {b : Nat} {F : List Nat} {L : SL} {q : Nat} {qs : List Value} (h : SNew w W b F L q qs) (t a c : Int) (x y n : Nat) (K1 K2 : ByteArray) (hg : (1 ≤ t ∧ t ≤ 1000) ∧ 1 ≤ a ∧ a ≤ 4294967295) (hg2 : (1 ≤ t ∧ t ≤ 1000) ∧ 1 ≤ c ∧ c ≤ 4294967295) (hK1 : keyStr 1 (two2 t a) 2 = K1) (hK2 : keyStr 1 (two2 t c) 2 = K2)
    (hk1 : K1.size ≤ maxLen) (hk10 : K1 ≠ ⟨#[]⟩) (hk2 : K2.size ≤ maxLen) (hk20 : K2 ≠ ⟨#[]⟩) (hne : K1 ≠ K2) (he1 : amtAt L K1 x) (he2 : amtAt L K2 y) (he1' : amtAt (setA L K2 (y + n)) K1 x) (hx : x < 2 ^ 256) (hy : y < 2 ^ 256) (hn : n < 2 ^ 256) (hle : n ≤ x) (hle2 : y + n ≤ MOST) (hN : L.length < 1000000) (hN2 : (setA L K2 (y + n)).length < 1000000) (hq : q + 2 < 1000000) :
    Calls Try.prog 26 #[.pointer (some ⟨b, 0, none⟩), .int .i64 t, .int .i64 a, .int .i64 c, U n] W fun e W' => e = .returned (.int .i64 0) ∧ LiveTo w W W' b F (setA (setA L K2 (y + n)) K1 (x - n)) (q + 2) := by
  have hG1 := fun W => bgood_any t a W
  rw [decide_eq_true hg] at hG1
  have hG2 := fun W => bgood_any t c W
  rw [decide_eq_true hg2] at hG2
  have hMv := fun (X : World) (hb : Below W.heap.size W X) => (cmove_live (h.below hb) K1 K2 x y n hk1 hk10 hk2 hk20 hne he1 he2 he1' hx hy hn hle hle2 hN hN2 hq).mono (R' := fun e W' => e = .returned (.int .i64 0) ∧ LiveTo w W W' b F (setA (setA L K2 (y + n)) K1 (x - n)) (q + 2)) fun e w' hh => ⟨hh.1, hh.2.pre hb⟩
  unfold U at hMv
  have HG1 := Lib.hid hG1
  have HG2 := Lib.hid hG2
  have HMv := Lib.hid hMv
  have HA1 := Lib.hid (fun W => account_is t a K1 hK1 W (by omega) (by omega))
  have HA2 := Lib.hid (fun W => account_is t c K2 hK2 W (by omega) (by omega))
  have hb0 := (Below.refl W.heap.size W).alloc (Nat.le_refl _) (.cells #[.int .u64 (limb n 0 : Nat), .int .u64 (limb n 1 : Nat), .int .u64 (limb n 2 : Nat), .int .u64 (limb n 3 : Nat)] 52)
  have e0 := heap_alloc_new W (.cells #[.int .u64 (limb n 0 : Nat), .int .u64 (limb n 1 : Nat), .int .u64 (limb n 2 : Nat), .int .u64 (limb n 3 : Nat)] 52)
  obtain ⟨W1, hW1⟩ : ∃ X, X = W.alloc (.cells #[.int .u64 (limb n 0 : Nat), .int .u64 (limb n 1 : Nat), .int .u64 (limb n 2 : Nat), .int .u64 (limb n 3 : Nat)] 52) := ⟨_, rfl⟩
  rw [← hW1] at hb0 e0
  have HB0 := Lib.hid hb0
  have HW := Lib.hid hW1
  have f0 := fun (dq : Nat) (osq : Array Obj) => cell_regrown ((hp_cell (i := 0) e0).trans rfl) dq osq
  have f1 := fun (dq : Nat) (osq : Array Obj) => cell_regrown ((hp_cell (i := 1) e0).trans rfl) dq osq
  have f2 := fun (dq : Nat) (osq : Array Obj) => cell_regrown ((hp_cell (i := 2) e0).trans rfl) dq osq
  have f3 := fun (dq : Nat) (osq : Array Obj) => cell_regrown ((hp_cell (i := 3) e0).trans rfl) dq osq
  obtain ⟨l1, el1⟩ : ∃ z, z = setA (setA L K2 (y + n)) K1 (x - n) := ⟨_, rfl⟩
  rw [← el1] at HMv ⊢
  clear hG1 hG2 hMv hb0 hW1 el1 h hg hg2 hK1 hK2 hk1 hk10 hk2 hk20 hne he1 he2 he1' hx hy hn hle hle2 hN hN2 hq e0
  unfold U
  go_enter Try.func26, Try.ntmps26
  go_upto_region 3 with (first
    | (go_at_call 81; with_reducible refine (HG1.out _).mono ?_; rintro e w1 ⟨rfl, rfl⟩)
    | (go_at_call 81; with_reducible refine (HG2.out _).mono ?_; rintro e w1 ⟨rfl, rfl⟩))
  rw [← HW.out]
  refine wp_region_quiet_tail 8 (by kernel_rfl) (by kernel_rfl) ?_
  simp only [List.take_succ_cons, List.take_zero]
  repeat (quiet_step (first
    | (go_at_call 85; with_reducible exact Calls.regrown_of (HA1.out _))
    | (go_at_call 85; with_reducible exact Calls.regrown_of (HA2.out _))))
  refine wpQuiet_nil ?_
  intro _ hw'
  obtain ⟨⟨dq, osq⟩, hw''⟩ := hw'
  subst hw''
  have H4 := Lib.hid (HB0.out.trans ((below_regrown W1 dq osq).mono HB0.out.size))
  clear f0 f1 f2 f3
  simp only [List.drop_succ_cons, List.drop_zero]
  go_wp2_with (first | (go_at_call 90; with_reducible refine (HMv.out _ H4.out).mono ?_; rintro e w5 ⟨rfl, h5⟩; have H5 := Lib.hid h5; clear h5))
  go_ret
  exact ⟨rfl, H5.out⟩
theorem total_live {w W : World} {b : Nat} {F : List Nat} {L : SL} {q : Nat} {qs : List Value} (h : SNew w W b F L q qs) (t : Int) (k1 k3 k4 k6 : ByteArray) (ht : 1 ≤ t ∧ t ≤ 1000) (h1 : keyStr 1 (fun _ => t) 1 = k1) (h3 : keyStr 3 (fun _ => t) 1 = k3) (h4 : keyStr 4 (fun _ => t) 1 = k4) (h6 : keyStr 6 (fun _ => t) 1 = k6) (hks : ∀ p ∈ L, p.1.size ≤ maxLen) (hN : L.length < 1000000)
    (N : Nat) (hsum : amT (fun i => under L (bgs k1 k3 k4 k6 i)) 4 = N) (hN2 : N < 2 ^ 256) :
    Calls Try.prog 27 #[.pointer (some ⟨b, 0, none⟩), .int .i64 t] W fun e w' => e = .returned (.tuple #[U N, .bool true]) ∧ Below W.heap.size W w' := by
  subst hsum
  refine total_yes (some ⟨b, 0, none⟩) t W k1 k3 k4 k6 (fun i => under L (bgs k1 k3 k4 k6 i)) ht h1 h3 h4 h6 (fun i _ => ?_) hN2 ?_
  · have e1 := (List.takeWhile_sublist (hpre (bgs k1 k3 k4 k6 i)) (l := L.drop (klo (skeys L) (bgs k1 k3 k4 k6 i)))).length_le
    rw [List.length_drop] at e1
    show ((L.drop _).takeWhile _).length ≤ 1000000
    omega
  · intro i X X' G hi hb hG htc
    have hs := (h.s.below hb).touch htc (fun k hk hg => by have := h.s.lt k hk; have := hG k hg; omega)
    exact under_live b F L q qs X' hs (bgs k1 k3 k4 k6 i) hks hN
end Go.Proofs.Ytffipojlpdphiaa

namespace Go.Proofs.Ytffipojlpdphiaa
open Go.RowKit Go.Maps Go.Sort

set_option maxRecDepth 100000 in
set_option maxHeartbeats 2000000 in
theorem lessc_no (was a g : Nat) (hw : was < 2 ^ 256) (ha : a < 2 ^ 256) (hlt : was < a) (w : World) (hg : w.heap[g]? = some (.cells #[.int .u64 (limb a 0 : Nat), .int .u64 (limb a 1 : Nat), .int .u64 (limb a 2 : Nat), .int .u64 (limb a 3 : Nat)] 52 (0, 0))) :
    Calls Try.prog 181 #[U was, .pointer (some ⟨g, 0, none⟩)] w fun e w' => e = .returned (.tuple #[U 0, .int .i64 13]) ∧ Below w.heap.size w w' := by
  have hb0 := ((Below.refl w.heap.size w).alloc (Nat.le_refl _) (.cells #[.int .u64 (limb was 0 : Nat), .int .u64 (limb was 1 : Nat), .int .u64 (limb was 2 : Nat), .int .u64 (limb was 3 : Nat)] 52)).alloc (by simp) (.cells #[.int .u64 0, .int .u64 0, .int .u64 0, .int .u64 0] 52)
  have r0 := heap_alloc_new (w.alloc (.cells #[.int .u64 (limb was 0 : Nat), .int .u64 (limb was 1 : Nat), .int .u64 (limb was 2 : Nat), .int .u64 (limb was 3 : Nat)] 52)) (.cells #[.int .u64 0, .int .u64 0, .int .u64 0, .int .u64 0] 52)
  rw [World.size_alloc] at r0
  have hA : ∀ W, Calls Try.prog 109 #[U was, U a] W fun e w' => e = .returned (.tuple #[.agg #[.int .u64 0, .int .u64 0, .int .u64 0, .int .u64 0], .bool false]) ∧ Below W.heap.size W w' := fun W => (sub_walk was a W hw ha).mono fun e w' hh => by
    obtain ⟨he, hb⟩ := hh
    rw [if_neg (by omega), decide_eq_false (by omega), U_zero] at he
    exact ⟨he, hb⟩
  rw [U_zero]
  unfold U at hA
  have HA := Lib.hid hA
  have H0 := Lib.hid (And.intro hb0 r0)
  have rg := (hb0.block g (hp_lt hg)).trans hg
  have lg := hp_lt hg
  have c0 := (hp_cell (i := 0) rg).trans rfl
  have c1 := (hp_cell (i := 1) rg).trans rfl
  have c2 := (hp_cell (i := 2) rg).trans rfl
  have c3 := (hp_cell (i := 3) rg).trans rfl
  clear hb0 r0 hA rg hlt hw ha hg
  unfold U
  go_enter Try.func181, Try.ntmps181
  go_wp2_with (first
    | (go_at_call 109; refine (HA.out _).mono ?_; rintro e w2 ⟨rfl, hb2⟩; have hbx := (Below.refl w2.heap.size w2).alloc (Nat.le_refl _) (.cells #[.int .u64 0, .int .u64 0, .int .u64 0, .int .u64 0] 52); have hby := hb2.trans (hbx.mono hb2.size); have rx := (hby.block (w.heap.size + 1) (by simp)).trans H0.out.2; have RX := Lib.hid rx; have H2 := Lib.hid (H0.out.1.trans (hby.mono H0.out.1.size)); have d0 := (hp_cell (i := 0) rx).trans rfl; have d1 := (hp_cell (i := 1) rx).trans rfl; have d2 := (hp_cell (i := 2) rx).trans rfl; have d3 := (hp_cell (i := 3) rx).trans rfl; have g0 := hp_free (i := 0) rx; have g1 := hp_free (i := 1) rx; have g2 := hp_free (i := 2) rx; have g3 := hp_free (i := 3) rx; clear hb2 hbx hby rx))
  have rr := heap_setCell_row (o := 3) (heap_setCell_row (o := 2) (heap_setCell_row (o := 1) (heap_setCell_row (o := 0) RX.out (.int .u64 0)) (.int .u64 0)) (.int .u64 0)) (.int .u64 0)
  have e0 := (hp_cell (i := 0) rr).trans rfl
  have e1 := (hp_cell (i := 1) rr).trans rfl
  have e2 := (hp_cell (i := 2) rr).trans rfl
  have e3 := (hp_cell (i := 3) rr).trans rfl
  refine bodyPost_ret (v := .tuple #[.agg #[.int .u64 0, .int .u64 0, .int .u64 0, .int .u64 0], .int .i64 13]) (by simp [results, Try.results181, go_sem, e0, e1, e2, e3]) rfl ⟨rfl, below_set4 H2.out (by omega)⟩
set_option maxRecDepth 100000 in
set_option maxHeartbeats 2000000 in
/-- Sub of more than there is: nothing changes -/
theorem csub_no (P : Option Addr) (k : ByteArray) (was a : Nat) (hw : was < 2 ^ 256) (ha : a < 2 ^ 256) (hlt : was < a) (w : World) (HAm : ∀ W, Below w.heap.size w W → Calls Try.prog 144 #[.pointer P, .string k] W fun e w' => e = .returned (U was) ∧ Below W.heap.size W w') :
    Calls Try.prog 153 #[.pointer P, .string k, U a] w fun e w' => e = .returned (.int .i64 13) ∧ Below w.heap.size w w' := by
  have hC : ∀ (W : World) (g : Nat), Below w.heap.size w W → W.heap[g]? = some (.cells #[.int .u64 (limb a 0 : Nat), .int .u64 (limb a 1 : Nat), .int .u64 (limb a 2 : Nat), .int .u64 (limb a 3 : Nat)] 52 (0, 0)) → Calls Try.prog 147 #[.pointer P, .string k, .func (.func 181) #[] #[.pointer (some ⟨g, 0, none⟩)]] W fun e w' => e = .returned (.int .i64 13) ∧ Below W.heap.size W w' := by
    intro W g hbW hg
    have hA := HAm W hbW
    have hT := fun (W2 : World) (hb2 : Below W.heap.size W W2) => lessc_no was a g hw ha hlt W2 ((hb2.block g (hp_lt hg)).trans hg)
    rw [U_zero] at hT
    unfold U at hA hT
    have HA := Lib.hid hA
    have HTs := Lib.hid hT
    clear HAm hbW hg ha hw hlt hA hT
    go_enter Try.func147, Try.ntmps147
    go_wp2_with (first
      | (go_at_call 181; refine (HTs.out _ H1.out).mono ?_; rintro e w2 ⟨rfl, hb2⟩; have H2 := Lib.hid (H1.out.trans (hb2.mono H1.out.size)); clear hb2)
      | (go_at_call 144; refine HA.out.mono ?_; rintro e w1 ⟨rfl, hb1⟩; have H1 := Lib.hid hb1; clear hb1))
    go_ret
    exact ⟨rfl, H2.out.alloc H2.out.size _⟩
  have hb0 := (Below.refl w.heap.size w).alloc (Nat.le_refl _) (.cells #[.int .u64 (limb a 0 : Nat), .int .u64 (limb a 1 : Nat), .int .u64 (limb a 2 : Nat), .int .u64 (limb a 3 : Nat)] 52)
  have hM := fun W1 => less_walk a W1
  unfold U at hM
  have HM := Lib.hid hM
  have HC := Lib.hid hC
  have HB0 := Lib.hid hb0
  clear HAm ha hw hlt hb0 hM hC
  unfold U
  go_enter Try.func153, Try.ntmps153
  go_wp2_with (first
    | (go_at_call 147; refine (HC.out _ _ H1.out.1 H1.out.2).mono ?_; rintro e w2 ⟨rfl, hb2⟩; have H2 := Lib.hid (H1.out.1.trans (hb2.mono H1.out.1.size)); clear hb2)
    | (go_at_call 152; refine (HM.out _).mono ?_; rintro e w1 ⟨rfl, hg1, hb1⟩; rw [World.size_alloc] at hg1; have H1 := Lib.hid (And.intro (HB0.out.trans (hb1.mono HB0.out.size)) hg1); clear hg1 hb1))
  go_ret
  exact ⟨rfl, H2.out⟩
/-! ### the document's example -/
theorem w5 : U 5 = .agg #[.int .u64 5, .int .u64 0, .int .u64 0, .int .u64 0] := by unfold U; rw [show limb 5 0 = 5 by decide, show limb 5 1 = 0 by decide, show limb 5 2 = 0 by decide, show limb 5 3 = 0 by decide]; rfl
theorem w1 : U 1 = .agg #[.int .u64 1, .int .u64 0, .int .u64 0, .int .u64 0] := by unfold U; rw [show limb 1 0 = 1 by decide, show limb 1 1 = 0 by decide, show limb 1 2 = 0 by decide, show limb 1 3 = 0 by decide]; rfl
def CK : ByteArray := ⟨#[107]⟩
def CL1 : SL := setA [] CK (0 + 5)
theorem cl1 : amtAt CL1 CK 5 := .inr (by decide +kernel)
theorem cl2 : setA CL1 CK (5 - 5) = [] := by decide +kernel
end Go.Proofs.Ytffipojlpdphiaa
