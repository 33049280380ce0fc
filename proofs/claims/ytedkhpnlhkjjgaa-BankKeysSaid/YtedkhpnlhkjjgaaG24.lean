/- bank: Balance, Mint, Pay; on a dead store and on a live one; lives of layer 17. -/
import Derived.Test.YtedkhpnlhkjjgaaG23
namespace Go.Proofs.Ytedkhpnlhkjjgaa
open Go.RowKit Go.Maps Go.Sort

set_option maxRecDepth 100000 in
set_option maxHeartbeats 2000000 in
/-- Balance: what lies at the account -/
theorem balance_of (P : Option Addr) (t a : Int) (n : Nat) (K : ByteArray) (hK : keyStr 1 (two2 t a) 2 = K) (w : World) (ht : t < 2 ^ 63) (ha : a < 2 ^ 63)
    (HC : ∀ W, Below w.heap.size w W → Calls Try.prog 126 #[.pointer P, .string K] W fun e w' => e = .returned (U n) ∧ Below W.heap.size W w') :
    Calls Try.prog 84 #[.pointer P, .int .i64 t, .int .i64 a] w fun e w' => e = .returned (U n) ∧ Below w.heap.size w w' := by
  have hb0 := (Below.refl w.heap.size w).alloc (Nat.le_refl _) (.cells #[.int .u64 0, .int .u64 0, .int .u64 0, .int .u64 0] 29)
  have r0 := heap_alloc_new w (.cells #[.int .u64 0, .int .u64 0, .int .u64 0, .int .u64 0] 29)
  have H0 := Lib.hid (And.intro hb0 r0)
  have HA := Lib.hid (fun W => account_is t a K hK W ht ha)
  have hC := HC
  unfold U at hC
  have HCs := Lib.hid hC
  clear hb0 r0 hC HC hK ht ha
  unfold U
  go_enter Try.func84, Try.ntmps84
  go_wp2_with (first
    | (go_at_call 126; with_reducible refine (HCs.out _ H1.out.1).mono ?_; rintro e w2 ⟨rfl, hb2⟩; have rx := (hb2.block _ (hp_lt H1.out.2)).trans H1.out.2; have H2 := Lib.hid (And.intro (H1.out.1.trans (hb2.mono H1.out.1.size)) rx); have d0 := (hp_cell (i := 0) rx).trans rfl; have d1 := (hp_cell (i := 1) rx).trans rfl; have d2 := (hp_cell (i := 2) rx).trans rfl; have d3 := (hp_cell (i := 3) rx).trans rfl; have f0 := hp_free (i := 0) rx; have f1 := hp_free (i := 1) rx; have f2 := hp_free (i := 2) rx; have f3 := hp_free (i := 3) rx; clear hb2 rx)
    | (go_at_call 32; with_reducible refine (HA.out _).mono ?_; rintro e w1 ⟨rfl, hb1⟩; have H1 := Lib.hid (And.intro (H0.out.1.trans (hb1.mono H0.out.1.size)) ((hb1.block _ (hp_lt H0.out.2)).trans H0.out.2)); clear hb1))
  obtain ⟨e0, e1, e2, e3⟩ := ((arr_zero H2.out.2).put4 (n := n)).cells4
  refine bodyPost_ret (v := .agg #[.int .u64 (limb n 0 : Nat), .int .u64 (limb n 1 : Nat), .int .u64 (limb n 2 : Nat), .int .u64 (limb n 3 : Nat)]) (by simp [results, Try.results84, go_sem, e0, e1, e2, e3]) rfl ⟨rfl, below_set4 H2.out.1 (Nat.le_refl _)⟩
theorem balance_dead (P : Option Addr) (t a : Int) (w : World) (ht : t < 2 ^ 63) (ha : a < 2 ^ 63) (h : SDead w (.pointer P)) :
    Calls Try.prog 84 #[.pointer P, .int .i64 t, .int .i64 a] w fun e w' => e = .returned (U 0) ∧ Below w.heap.size w w' :=
  balance_of P t a 0 _ rfl w ht ha (fun W hb => camount_dead P _ W (h.below hb))
theorem total_dead (P : Option Addr) (t : Int) (w : World) (h : SDead w (.pointer P)) :
    Calls Try.prog 46 #[.pointer P, .int .i64 t] w fun e w' => (∃ ok, e = .returned (.tuple #[U 0, .bool ok])) ∧ Below w.heap.size w w' := by
  by_cases ht : 1 ≤ t ∧ t ≤ 1000
  · refine (total_yes P t w _ _ _ _ (fun _ => []) ht rfl rfl rfl rfl (fun _ _ => by simp) (by decide) ?_).mono fun e w' hh => ⟨⟨true, hh.1⟩, hh.2⟩
    intro i W W' G hi hb hG ht
    have hb' := hb.trans (ht.below hG hb.size)
    refine (under_dead (.pointer P) _ W' (h.below hb')).mono ?_
    rintro e w' ⟨he, rfl⟩
    exact ⟨⟨_, he, World.ownsRow_nil _ _ _ _⟩, Below.refl _ _⟩
  · exact (total_no P t w ht).mono fun e w' hh => ⟨⟨false, hh.1⟩, hh.2⟩
set_option maxRecDepth 100000 in
set_option maxHeartbeats 4000000 in
/-- Mint, whatever the store: I0, I1, I2 stand before, between and behind the two Adds -/
theorem mint_walk (P : Option Addr) (t a : Int) (n : Nat) (w : World) (K2 K1 : ByteArray) (hg : (1 ≤ t ∧ t ≤ 1000) ∧ 1 ≤ a ∧ a ≤ 4294967295) (hn : n ≤ MOST) (hK2 : keyStr 2 (fun _ => t) 1 = K2) (hK1 : keyStr 1 (two2 t a) 2 = K1)
    (I0 I1 I2 : World → Prop) (h0 : I0 (w.alloc (.cells #[.int .u64 (limb n 0 : Nat), .int .u64 (limb n 1 : Nat), .int .u64 (limb n 2 : Nat), .int .u64 (limb n 3 : Nat)] 29))) (b0 : ∀ W W', I0 W → Below W.heap.size W W' → I0 W') (b1 : ∀ W W', I1 W → Below W.heap.size W W' → I1 W') (r0 : ∀ W, I0 W → W.heap[w.heap.size]? = some (.cells #[.int .u64 (limb n 0 : Nat), .int .u64 (limb n 1 : Nat), .int .u64 (limb n 2 : Nat), .int .u64 (limb n 3 : Nat)] 29 (0, 0))) (r1 : ∀ W, I1 W → W.heap[w.heap.size]? = some (.cells #[.int .u64 (limb n 0 : Nat), .int .u64 (limb n 1 : Nat), .int .u64 (limb n 2 : Nat), .int .u64 (limb n 3 : Nat)] 29 (0, 0)))
    (HM : ∀ W, I0 W → Calls Try.prog 87 #[.pointer P] W fun e w' => (∃ m : Int, e = .returned (.int .i64 m)) ∧ W = w')
    (HA1 : ∀ W, I0 W → Calls Try.prog 88 #[.pointer P, .string K2, U n] W fun e w' => e = .returned (.int .i64 0) ∧ I1 w')
    (HA2 : ∀ W, I1 W → Calls Try.prog 88 #[.pointer P, .string K1, U n] W fun e w' => e = .returned (.int .i64 0) ∧ I2 w') :
    Calls Try.prog 43 #[.pointer P, .int .i64 t, .int .i64 a, U n] w fun e w' => e = .returned (.int .i64 0) ∧ I2 w' := by
  have hG := fun W => bgood_any t a W
  rw [decide_eq_true hg] at hG
  have hAm := fun W => amount_walk n W (Nat.lt_of_le_of_lt hn MOST_lt)
  rw [decide_eq_true hn] at hAm
  unfold U at hAm HA1 HA2
  have HG := Lib.hid hG
  have HAm := Lib.hid hAm
  have HMk := Lib.hid HM
  have HAd1 := Lib.hid HA1
  have HAd2 := Lib.hid HA2
  have HS := Lib.hid (fun W => supply_is t K2 hK2 W (by omega))
  have HAc := Lib.hid (fun W => account_is t a K1 hK1 W (by omega) (by omega))
  have H0 := Lib.hid h0
  have B0 := Lib.hid b0
  have B1 := Lib.hid b1
  have R0 := Lib.hid r0
  have R1 := Lib.hid r1
  have e0 := r0 _ h0
  have c0 := (hp_cell (i := 0) e0).trans rfl
  have c1 := (hp_cell (i := 1) e0).trans rfl
  have c2 := (hp_cell (i := 2) e0).trans rfl
  have c3 := (hp_cell (i := 3) e0).trans rfl
  clear hg hn hK2 hK1 h0 b0 b1 r0 r1 HM HA1 HA2 hG hAm e0
  unfold U
  go_enter Try.func43, Try.ntmps43
  go_upto_region 4 with (first
    | (go_at_call 87; with_reducible refine (HMk.out _ H2.out).mono ?_; rintro e w3 ⟨⟨m, rfl⟩, rfl⟩)
    | (go_at_call 86; with_reducible refine (HAm.out _).mono ?_; rintro e w2 ⟨rfl, hb2⟩; have H2 := Lib.hid (B0.out _ _ H0.out hb2); clear hb2)
    | (go_at_call 85; with_reducible refine (HG.out _).mono ?_; rintro e w1 ⟨rfl, rfl⟩))
  have e2 := R0.out _ H2.out
  have f0 := fun (dq : Nat) (osq : Array Obj) => cell_regrown ((hp_cell (i := 0) e2).trans rfl) dq osq
  have f1 := fun (dq : Nat) (osq : Array Obj) => cell_regrown ((hp_cell (i := 1) e2).trans rfl) dq osq
  have f2 := fun (dq : Nat) (osq : Array Obj) => cell_regrown ((hp_cell (i := 2) e2).trans rfl) dq osq
  have f3 := fun (dq : Nat) (osq : Array Obj) => cell_regrown ((hp_cell (i := 3) e2).trans rfl) dq osq
  clear c0 c1 c2 c3 e2
  refine wp_region_quiet_tail 4 (by kernel_rfl) (by kernel_rfl) ?_
  simp only [List.take_succ_cons, List.take_zero]
  repeat (quiet_step (first | (go_at_call 34; with_reducible exact Calls.regrown_of (HS.out _))))
  refine wpQuiet_nil ?_
  intro _ hw'
  obtain ⟨⟨dq, osq⟩, hw''⟩ := hw'
  subst hw''
  have H4 := Lib.hid (B0.out _ _ H2.out (below_regrown _ dq osq))
  clear f0 f1 f2 f3
  simp only [List.drop_succ_cons, List.drop_zero]
  go_upto_region 7 with (first | (go_at_call 88; with_reducible refine (HAd1.out _ H4.out).mono ?_; rintro e w5 ⟨rfl, h5⟩; have H5 := Lib.hid h5; clear h5))
  have e5 := R1.out _ H5.out
  have f0 := fun (dq : Nat) (osq : Array Obj) => cell_regrown ((hp_cell (i := 0) e5).trans rfl) dq osq
  have f1 := fun (dq : Nat) (osq : Array Obj) => cell_regrown ((hp_cell (i := 1) e5).trans rfl) dq osq
  have f2 := fun (dq : Nat) (osq : Array Obj) => cell_regrown ((hp_cell (i := 2) e5).trans rfl) dq osq
  have f3 := fun (dq : Nat) (osq : Array Obj) => cell_regrown ((hp_cell (i := 3) e5).trans rfl) dq osq
  clear e5
  refine wp_region_quiet_tail 5 (by kernel_rfl) (by kernel_rfl) ?_
  simp only [List.take_succ_cons, List.take_zero]
  repeat (quiet_step (first | (go_at_call 32; with_reducible exact Calls.regrown_of (HAc.out _))))
  refine wpQuiet_nil ?_
  intro _ hw'
  obtain ⟨⟨dq, osq⟩, hw''⟩ := hw'
  subst hw''
  have H7 := Lib.hid (B1.out _ _ H5.out (below_regrown _ dq osq))
  clear f0 f1 f2 f3
  simp only [List.drop_succ_cons, List.drop_zero]
  go_wp2_with (first | (go_at_call 88; with_reducible refine (HAd2.out _ H7.out).mono ?_; rintro e w8 ⟨rfl, h8⟩; have H8 := Lib.hid h8; clear h8))
  go_ret
  exact ⟨rfl, H8.out⟩
end Go.Proofs.Ytedkhpnlhkjjgaa

namespace Go.Proofs.Ytedkhpnlhkjjgaa
open Go.RowKit Go.Maps Go.Sort

theorem mint_live {w W : World} {b : Nat} {F : List Nat} {L : SL} {q : Nat} {qs : List Value} (h : SNew w W b F L q qs) (t a : Int) (n : Nat) (K2 K1 : ByteArray) (hg : (1 ≤ t ∧ t ≤ 1000) ∧ 1 ≤ a ∧ a ≤ 4294967295) (hn : 0 + n ≤ MOST) (hK2 : keyStr 2 (fun _ => t) 1 = K2) (hK1 : keyStr 1 (two2 t a) 2 = K1)
    (hk2 : K2.size ≤ maxLen) (hk1 : K1.size ≤ maxLen) (hk20 : K2 ≠ ⟨#[]⟩) (hk10 : K1 ≠ ⟨#[]⟩) (he2 : amtAt L K2 0) (he1 : amtAt (setA L K2 (0 + n)) K1 0) (hN : L.length < 128) (hN1 : (setA L K2 (0 + n)).length < 128) (hq : q + 2 < 1000000) :
    Calls Try.prog 43 #[.pointer (some ⟨b, 0, none⟩), .int .i64 t, .int .i64 a, U n] W fun e W' => e = .returned (.int .i64 0) ∧ LiveTo w W W' b F (setA (setA L K2 (0 + n)) K1 (0 + n)) (q + 2) := by
  have hn' : n ≤ MOST := by omega
  have hn2 : n < 2 ^ 256 := Nat.lt_of_le_of_lt hn' MOST_lt
  have hF : W.heap.size ∉ F := fun hm => by have := h.s.lt _ hm; omega
  have r0 := heap_alloc_new W (.cells #[.int .u64 (limb n 0 : Nat), .int .u64 (limb n 1 : Nat), .int .u64 (limb n 2 : Nat), .int .u64 (limb n 3 : Nat)] 29)
  refine mint_walk (some ⟨b, 0, none⟩) t a n W K2 K1 hg hn' hK2 hK1 (fun X => Below W.heap.size W X ∧ X.heap[W.heap.size]? = some (.cells #[.int .u64 (limb n 0 : Nat), .int .u64 (limb n 1 : Nat), .int .u64 (limb n 2 : Nat), .int .u64 (limb n 3 : Nat)] 29 (0, 0))) (fun X => LiveTo w W X b F (setA L K2 (0 + n)) (q + 1) ∧ X.heap[W.heap.size]? = some (.cells #[.int .u64 (limb n 0 : Nat), .int .u64 (limb n 1 : Nat), .int .u64 (limb n 2 : Nat), .int .u64 (limb n 3 : Nat)] 29 (0, 0))) (fun X => LiveTo w W X b F (setA (setA L K2 (0 + n)) K1 (0 + n)) (q + 2))
    ⟨(Below.refl _ _).alloc (Nat.le_refl _) _, r0⟩ (fun X X' hx hb => ⟨hx.1.trans (hb.mono hx.1.size), (hb.block _ (hp_lt hx.2)).trans hx.2⟩) (fun X X' hx hb => ⟨hx.1.post hb, (hb.block _ (hp_lt hx.2)).trans hx.2⟩) (fun X hx => hx.2) (fun X hx => hx.2) (fun X hx => ?_) (fun X hx => ?_) (fun X hx => ?_)
  · exact (mark_live b F L q qs X (h.below hx.1).s).mono fun e w' hh => ⟨⟨_, hh.1⟩, hh.2⟩
  · refine (cadd_live (h.below hx.1) K2 0 n hk2 hk20 he2 (by decide) hn2 hn hN (by omega)).mono fun e w' hh => ⟨hh.1, hh.2.pre hx.1, ?_⟩
    obtain ⟨_, _, _, _, _, ht, _⟩ := hh.2
    exact (ht.block _ (hp_lt hx.2) hF).trans hx.2
  · exact hx.1.seq 1 (fun F1 qa qsa hs hqa => cadd_live hs K1 0 n hk1 hk10 he1 (by decide) hn2 hn hN1 (by omega))
theorem mint_dead1 (P : Option Addr) (t a : Int) (n : Nat) (w : World) (hg : (1 ≤ t ∧ t ≤ 1000) ∧ 1 ≤ a ∧ a ≤ 4294967295) (hn : n ≤ MOST) (h : SDead w (.pointer P)) :
    Calls Try.prog 43 #[.pointer P, .int .i64 t, .int .i64 a, U n] w fun e w' => e = .returned (.int .i64 0) ∧ Below w.heap.size w w' := by
  have r0 := heap_alloc_new w (.cells #[.int .u64 (limb n 0 : Nat), .int .u64 (limb n 1 : Nat), .int .u64 (limb n 2 : Nat), .int .u64 (limb n 3 : Nat)] 29)
  refine (mint_walk P t a n w _ _ hg hn rfl rfl (fun X => Below w.heap.size w X ∧ X.heap[w.heap.size]? = some (.cells #[.int .u64 (limb n 0 : Nat), .int .u64 (limb n 1 : Nat), .int .u64 (limb n 2 : Nat), .int .u64 (limb n 3 : Nat)] 29 (0, 0))) (fun X => Below w.heap.size w X ∧ X.heap[w.heap.size]? = some (.cells #[.int .u64 (limb n 0 : Nat), .int .u64 (limb n 1 : Nat), .int .u64 (limb n 2 : Nat), .int .u64 (limb n 3 : Nat)] 29 (0, 0))) (fun X => Below w.heap.size w X)
    ⟨(Below.refl _ _).alloc (Nat.le_refl _) _, r0⟩ (fun X X' hx hb => ⟨hx.1.trans (hb.mono hx.1.size), (hb.block _ (hp_lt hx.2)).trans hx.2⟩) (fun X X' hx hb => ⟨hx.1.trans (hb.mono hx.1.size), (hb.block _ (hp_lt hx.2)).trans hx.2⟩) (fun X hx => hx.2) (fun X hx => hx.2) (fun X hx => ?_) (fun X hx => ?_) (fun X hx => ?_))
  · exact (mark_dead (.pointer P) X (h.below hx.1)).mono fun e w' hh => ⟨⟨_, hh.1⟩, hh.2⟩
  · exact (cadd_dead P _ n hn X (h.below hx.1)).mono fun e w' hh => ⟨hh.1, hx.1.trans (hh.2.mono hx.1.size), (hh.2.block _ (hp_lt hx.2)).trans hx.2⟩
  · exact (cadd_dead P _ n hn X (h.below hx.1)).mono fun e w' hh => ⟨hh.1, hx.1.trans (hh.2.mono hx.1.size)⟩
set_option maxRecDepth 100000 in
set_option maxHeartbeats 2000000 in
/-- Mint of what may not be -/
theorem mint_no (P : Value) (t a : Int) (n : Nat) (w : World) (hn : n < 2 ^ 256) (h : ¬ (((1 ≤ t ∧ t ≤ 1000) ∧ 1 ≤ a ∧ a ≤ 4294967295) ∧ n ≤ MOST)) :
    Calls Try.prog 43 #[P, .int .i64 t, .int .i64 a, U n] w fun e w' => e = .returned (.int .i64 2) ∧ Below w.heap.size w w' := by
  have hG := fun W => bgood_any t a W
  have hb0 := (Below.refl w.heap.size w).alloc (Nat.le_refl _) (.cells #[.int .u64 (limb n 0 : Nat), .int .u64 (limb n 1 : Nat), .int .u64 (limb n 2 : Nat), .int .u64 (limb n 3 : Nat)] 29)
  have HB0 := Lib.hid hb0
  by_cases hg : (1 ≤ t ∧ t ≤ 1000) ∧ 1 ≤ a ∧ a ≤ 4294967295
  · rw [decide_eq_true hg] at hG
    have hm : ¬ n ≤ MOST := fun hh => h ⟨hg, hh⟩
    have hAm := fun W => amount_walk n W hn
    rw [decide_eq_false hm] at hAm
    unfold U at hAm
    have HG := Lib.hid hG
    have HAm := Lib.hid hAm
    have e0 := heap_alloc_new w (.cells #[.int .u64 (limb n 0 : Nat), .int .u64 (limb n 1 : Nat), .int .u64 (limb n 2 : Nat), .int .u64 (limb n 3 : Nat)] 29)
    have c0 := (hp_cell (i := 0) e0).trans rfl
    have c1 := (hp_cell (i := 1) e0).trans rfl
    have c2 := (hp_cell (i := 2) e0).trans rfl
    have c3 := (hp_cell (i := 3) e0).trans rfl
    clear hG hb0 hm hAm h hn hg e0
    unfold U
    go_enter Try.func43, Try.ntmps43
    go_wp2_with (first
      | (go_at_call 86; with_reducible refine (HAm.out _).mono ?_; rintro e w2 ⟨rfl, hb2⟩; have H2 := Lib.hid (HB0.out.trans (hb2.mono HB0.out.size)); clear hb2)
      | (go_at_call 85; with_reducible refine (HG.out _).mono ?_; rintro e w1 ⟨rfl, rfl⟩))
    go_ret
    exact ⟨rfl, H2.out⟩
  · rw [decide_eq_false hg] at hG
    have HG := Lib.hid hG
    clear hG hb0 h hn hg
    unfold U
    go_enter Try.func43, Try.ntmps43
    go_wp2_with (go_at_call 85; with_reducible refine (HG.out _).mono ?_; rintro e w1 ⟨rfl, rfl⟩)
    go_ret
    exact ⟨rfl, HB0.out⟩
theorem mint_dead (P : Option Addr) (t a : Int) (n : Nat) (w : World) (hn : n < 2 ^ 256) (h : SDead w (.pointer P)) :
    Calls Try.prog 43 #[.pointer P, .int .i64 t, .int .i64 a, U n] w fun e w' => (∃ r : Int, e = .returned (.int .i64 r)) ∧ Below w.heap.size w w' := by
  by_cases hh : ((1 ≤ t ∧ t ≤ 1000) ∧ 1 ≤ a ∧ a ≤ 4294967295) ∧ n ≤ MOST
  · exact (mint_dead1 P t a n w hh.1 hh.2 h).mono fun e w' hx => ⟨⟨_, hx.1⟩, hx.2⟩
  · exact (mint_no _ t a n w hn hh).mono fun e w' hx => ⟨⟨_, hx.1⟩, hx.2⟩
set_option maxRecDepth 100000 in
set_option maxHeartbeats 4000000 in
theorem pay_live {w W : World} {b : Nat} {F : List Nat} {L : SL} {q : Nat} {qs : List Value} (h : SNew w W b F L q qs) (t a c : Int) (x y n : Nat) (K1 K2 : ByteArray) (hg : (1 ≤ t ∧ t ≤ 1000) ∧ 1 ≤ a ∧ a ≤ 4294967295) (hg2 : (1 ≤ t ∧ t ≤ 1000) ∧ 1 ≤ c ∧ c ≤ 4294967295) (hK1 : keyStr 1 (two2 t a) 2 = K1) (hK2 : keyStr 1 (two2 t c) 2 = K2)
    (hk1 : K1.size ≤ maxLen) (hk10 : K1 ≠ ⟨#[]⟩) (hk2 : K2.size ≤ maxLen) (hk20 : K2 ≠ ⟨#[]⟩) (hne : K1 ≠ K2) (he1 : amtAt L K1 x) (he2 : amtAt L K2 y) (he1' : amtAt (setA L K2 (y + n)) K1 x) (hx : x < 2 ^ 256) (hy : y < 2 ^ 256) (hn : n < 2 ^ 256) (hle : n ≤ x) (hle2 : y + n ≤ MOST) (hN : L.length < 128) (hN2 : (setA L K2 (y + n)).length < 128) (hq : q + 2 < 1000000) :
    Calls Try.prog 45 #[.pointer (some ⟨b, 0, none⟩), .int .i64 t, .int .i64 a, .int .i64 c, U n] W fun e W' => e = .returned (.int .i64 0) ∧ LiveTo w W W' b F (setA (setA L K2 (y + n)) K1 (x - n)) (q + 2) := by
  have hG1 := fun W => bgood_any t a W
  rw [decide_eq_true hg] at hG1
  have hG2 := fun W => bgood_any t c W
  rw [decide_eq_true hg2] at hG2
  have hMv := fun (X : World) (hb : Below W.heap.size W X) => (cmove_live (h.below hb) K1 K2 x y n hk1 hk10 hk2 hk20 hne he1 he2 he1' hx hy hn hle hle2 hN hN2 hq).mono (R' := fun e W' => e = .returned (.int .i64 0) ∧ LiveTo w W W' b F (setA (setA L K2 (y + n)) K1 (x - n)) (q + 2)) fun e w' hh => ⟨hh.1, hh.2.pre hb⟩
  unfold U at hMv
  have HG1 := Lib.hid hG1
  have HG2 := Lib.hid hG2
  have HMv := Lib.hid hMv
  have HA1 := Lib.hid (fun W => account_is t a K1 hK1 W (by omega) (by omega))
  have HA2 := Lib.hid (fun W => account_is t c K2 hK2 W (by omega) (by omega))
  have hb0 := (Below.refl W.heap.size W).alloc (Nat.le_refl _) (.cells #[.int .u64 (limb n 0 : Nat), .int .u64 (limb n 1 : Nat), .int .u64 (limb n 2 : Nat), .int .u64 (limb n 3 : Nat)] 29)
  have e0 := heap_alloc_new W (.cells #[.int .u64 (limb n 0 : Nat), .int .u64 (limb n 1 : Nat), .int .u64 (limb n 2 : Nat), .int .u64 (limb n 3 : Nat)] 29)
  obtain ⟨W1, hW1⟩ : ∃ X, X = W.alloc (.cells #[.int .u64 (limb n 0 : Nat), .int .u64 (limb n 1 : Nat), .int .u64 (limb n 2 : Nat), .int .u64 (limb n 3 : Nat)] 29) := ⟨_, rfl⟩
  rw [← hW1] at hb0 e0
  have HB0 := Lib.hid hb0
  have HW := Lib.hid hW1
  have f0 := fun (dq : Nat) (osq : Array Obj) => cell_regrown ((hp_cell (i := 0) e0).trans rfl) dq osq
  have f1 := fun (dq : Nat) (osq : Array Obj) => cell_regrown ((hp_cell (i := 1) e0).trans rfl) dq osq
  have f2 := fun (dq : Nat) (osq : Array Obj) => cell_regrown ((hp_cell (i := 2) e0).trans rfl) dq osq
  have f3 := fun (dq : Nat) (osq : Array Obj) => cell_regrown ((hp_cell (i := 3) e0).trans rfl) dq osq
  obtain ⟨l1, el1⟩ : ∃ z, z = setA (setA L K2 (y + n)) K1 (x - n) := ⟨_, rfl⟩
  rw [← el1] at HMv ⊢
  clear hG1 hG2 hMv hb0 hW1 el1 h hg hg2 hK1 hK2 hk1 hk10 hk2 hk20 hne he1 he2 he1' hx hy hn hle hle2 hN hN2 hq e0
  unfold U
  go_enter Try.func45, Try.ntmps45
  go_upto_region 3 with (first
    | (go_at_call 85; with_reducible refine (HG1.out _).mono ?_; rintro e w1 ⟨rfl, rfl⟩)
    | (go_at_call 85; with_reducible refine (HG2.out _).mono ?_; rintro e w1 ⟨rfl, rfl⟩))
  rw [← HW.out]
  refine wp_region_quiet_tail 8 (by kernel_rfl) (by kernel_rfl) ?_
  simp only [List.take_succ_cons, List.take_zero]
  repeat (quiet_step (first
    | (go_at_call 32; with_reducible exact Calls.regrown_of (HA1.out _))
    | (go_at_call 32; with_reducible exact Calls.regrown_of (HA2.out _))))
  refine wpQuiet_nil ?_
  intro _ hw'
  obtain ⟨⟨dq, osq⟩, hw''⟩ := hw'
  subst hw''
  have H4 := Lib.hid (HB0.out.trans ((below_regrown W1 dq osq).mono HB0.out.size))
  clear f0 f1 f2 f3
  simp only [List.drop_succ_cons, List.drop_zero]
  go_wp2_with (first | (go_at_call 93; with_reducible refine (HMv.out _ H4.out).mono ?_; rintro e w5 ⟨rfl, h5⟩; have H5 := Lib.hid h5; clear h5))
  go_ret
  exact ⟨rfl, H5.out⟩
theorem total_live {w W : World} {b : Nat} {F : List Nat} {L : SL} {q : Nat} {qs : List Value} (h : SNew w W b F L q qs) (t : Int) (k1 k3 k4 k6 : ByteArray) (ht : 1 ≤ t ∧ t ≤ 1000) (h1 : keyStr 1 (fun _ => t) 1 = k1) (h3 : keyStr 3 (fun _ => t) 1 = k3) (h4 : keyStr 4 (fun _ => t) 1 = k4) (h6 : keyStr 6 (fun _ => t) 1 = k6) (hks : ∀ p ∈ L, p.1.size ≤ maxLen) (hN : L.length < 128)
    (N : Nat) (hsum : amT (fun i => under L (bgs k1 k3 k4 k6 i)) 4 = N) (hN2 : N < 2 ^ 256) :
    Calls Try.prog 46 #[.pointer (some ⟨b, 0, none⟩), .int .i64 t] W fun e w' => e = .returned (.tuple #[U N, .bool true]) ∧ Below W.heap.size W w' := by
  subst hsum
  refine total_yes (some ⟨b, 0, none⟩) t W k1 k3 k4 k6 (fun i => under L (bgs k1 k3 k4 k6 i)) ht h1 h3 h4 h6 (fun i _ => ?_) hN2 ?_
  · have e1 := (List.takeWhile_sublist (hpre (bgs k1 k3 k4 k6 i)) (l := L.drop (klo (skeys L) (bgs k1 k3 k4 k6 i)))).length_le
    rw [List.length_drop] at e1
    show ((L.drop _).takeWhile _).length ≤ 128
    omega
  · intro i X X' G hi hb hG htc
    have hs := (h.s.below hb).touch htc (fun k hk hg => by have := h.s.lt k hk; have := hG k hg; omega)
    exact under_live b F L q qs X' hs (bgs k1 k3 k4 k6 i) hks hN
end Go.Proofs.Ytedkhpnlhkjjgaa

namespace Go.Proofs.Ytedkhpnlhkjjgaa
open Go.RowKit Go.Maps Go.Sort

def KS1 : ByteArray := ⟨#[2, 0, 0, 0, 0, 0, 0, 0, 1]⟩
def KA7 : ByteArray := ⟨#[1, 0, 0, 0, 0, 0, 0, 0, 1, 0, 0, 0, 0, 0, 0, 0, 7]⟩
def KA8 : ByteArray := ⟨#[1, 0, 0, 0, 0, 0, 0, 0, 1, 0, 0, 0, 0, 0, 0, 0, 8]⟩
def KP1 : ByteArray := ⟨#[1, 0, 0, 0, 0, 0, 0, 0, 1]⟩
def KP3 : ByteArray := ⟨#[3, 0, 0, 0, 0, 0, 0, 0, 1]⟩
def KP4 : ByteArray := ⟨#[4, 0, 0, 0, 0, 0, 0, 0, 1]⟩
def KP6 : ByteArray := ⟨#[6, 0, 0, 0, 0, 0, 0, 0, 1]⟩
theorem keyS1 : keyStr 2 (fun _ => 1) 1 = KS1 := by decide +kernel
theorem keyA7 : keyStr 1 (two2 1 7) 2 = KA7 := by decide +kernel
theorem keyA8 : keyStr 1 (two2 1 8) 2 = KA8 := by decide +kernel
theorem keyP1 : keyStr 1 (fun _ => 1) 1 = KP1 := by decide +kernel
theorem keyP3 : keyStr 3 (fun _ => 1) 1 = KP3 := by decide +kernel
theorem keyP4 : keyStr 4 (fun _ => 1) 1 = KP4 := by decide +kernel
theorem keyP6 : keyStr 6 (fun _ => 1) 1 = KP6 := by decide +kernel
def BL1 : SL := setA [] KS1 (0 + 100)
def BL2 : SL := setA BL1 KA7 (0 + 100)
def BL3 : SL := setA BL2 KA8 (0 + 30)
def BL4 : SL := setA BL3 KA7 (100 - 30)
theorem bl1 : amtAt BL1 KA7 0 := .inl ⟨rfl, by decide +kernel⟩
theorem bl2a : amtAt BL2 KA7 100 := .inr (by decide +kernel)
theorem bl2b : amtAt BL2 KA8 0 := .inl ⟨rfl, by decide +kernel⟩
theorem bl3 : amtAt BL3 KA7 100 := .inr (by decide +kernel)
theorem bl4 : amtAt BL4 KA7 70 := .inr (by decide +kernel)
theorem bl4t : amT (fun i => under BL4 (bgs KP1 KP3 KP4 KP6 i)) 4 = 100 := by decide +kernel
theorem bl4k : ∀ p ∈ BL4, p.1.size ≤ maxLen := by decide +kernel
theorem v100 : U 100 = .agg #[.int .u64 100, .int .u64 0, .int .u64 0, .int .u64 0] := by unfold U; rw [show limb 100 0 = 100 by decide, show limb 100 1 = 0 by decide, show limb 100 2 = 0 by decide, show limb 100 3 = 0 by decide]; rfl
theorem v30 : U 30 = .agg #[.int .u64 30, .int .u64 0, .int .u64 0, .int .u64 0] := by unfold U; rw [show limb 30 0 = 30 by decide, show limb 30 1 = 0 by decide, show limb 30 2 = 0 by decide, show limb 30 3 = 0 by decide]; rfl
theorem v70 : U 70 = .agg #[.int .u64 70, .int .u64 0, .int .u64 0, .int .u64 0] := by unfold U; rw [show limb 70 0 = 70 by decide, show limb 70 1 = 0 by decide, show limb 70 2 = 0 by decide, show limb 70 3 = 0 by decide]; rfl
set_option maxRecDepth 100000 in
set_option maxHeartbeats 4000000 in
theorem lives17_walk (w : World) : Calls Try.prog 42 #[] w fun e w' => e = .returned (.bool true) ∧ Below w.heap.size w w' := by
  have D1 := Lib.hid (fun (W W1 : World) (b : Nat) (F : List Nat) (hl : LiveTo w W W1 b F [] 0) => show Calls Try.prog 43 #[.pointer (some ⟨b, 0, none⟩), .int .i64 1, .int .i64 7, .agg #[.int .u64 100, .int .u64 0, .int .u64 0, .int .u64 0]] W1 fun e W2 => e = .returned (.int .i64 0) ∧ LiveTo w W W2 b F BL2 2 from by
    have := hl.seq 2 (fun F1 qa qsa hs hqa => mint_live hs 1 7 100 KS1 KA7 (by decide) (by decide) keyS1 keyA7 (by decide) (by decide) (by decide) (by decide) (.inl ⟨rfl, rfl⟩) bl1 (by decide) (by decide +kernel) (by omega))
    rw [v100] at this
    exact this)
  have D2 := Lib.hid (fun (W W1 : World) (b : Nat) (F : List Nat) (hl : LiveTo w W W1 b F BL2 2) => show Calls Try.prog 45 #[.pointer (some ⟨b, 0, none⟩), .int .i64 1, .int .i64 7, .int .i64 8, .agg #[.int .u64 30, .int .u64 0, .int .u64 0, .int .u64 0]] W1 fun e W2 => e = .returned (.int .i64 0) ∧ LiveTo w W W2 b F BL4 4 from by
    have := hl.seq 2 (fun F1 qa qsa hs hqa => pay_live hs 1 7 8 100 0 30 KA7 KA8 (by decide) (by decide) keyA7 keyA8 (by decide) (by decide) (by decide) (by decide) (by decide) bl2a bl2b bl3 (by decide) (by decide) (by decide) (by decide) (by decide) (by decide +kernel) (by decide +kernel) (by omega))
    rw [v30] at this
    exact this)
  have D3 := Lib.hid (fun (W W1 : World) (b : Nat) (F : List Nat) (hl : LiveTo w W W1 b F BL4 4) => show Calls Try.prog 46 #[.pointer (some ⟨b, 0, none⟩), .int .i64 1] W1 fun e W2 => e = .returned (.tuple #[.agg #[.int .u64 100, .int .u64 0, .int .u64 0, .int .u64 0], .bool true]) ∧ LiveTo w W W2 b F BL4 4 ∧ Below W1.heap.size W1 W2 from by
    have := hl.read (fun F1 qa qsa hs hqa => total_live hs 1 KP1 KP3 KP4 KP6 (by decide) keyP1 keyP3 keyP4 keyP6 bl4k (by decide +kernel) 100 bl4t (by decide))
    rw [v100] at this
    exact this)
  have D4 := Lib.hid (fun (W W1 : World) (b : Nat) (F : List Nat) (hl : LiveTo w W W1 b F BL4 4) => show Calls Try.prog 84 #[.pointer (some ⟨b, 0, none⟩), .int .i64 1, .int .i64 7] W1 fun e W2 => e = .returned (.agg #[.int .u64 70, .int .u64 0, .int .u64 0, .int .u64 0]) ∧ LiveTo w W W2 b F BL4 4 ∧ Below W1.heap.size W1 W2 from by
    have := hl.read (fun F1 qa qsa hs hqa => balance_of (some ⟨b, 0, none⟩) 1 7 70 KA7 keyA7 W1 (by decide) (by decide) (fun W2 hb2 => camount_at (hs.below hb2) KA7 70 (by decide) bl4 (by decide)))
    rw [v70] at this
    exact this)
  obtain ⟨r2, e2⟩ : ∃ x, x = BL2 := ⟨_, rfl⟩
  obtain ⟨r4, e4⟩ : ∃ x, x = BL4 := ⟨_, rfl⟩
  rw [← e2] at D1 D2
  rw [← e4] at D2 D3 D4
  clear e2 e4
  have q100 := fun w => eqU 100 0 0 0 100 0 0 0 w
  have q70 := fun w => eqU 70 0 0 0 70 0 0 0 w
  go_enter Try.func42, Try.ntmps42
  go_wp2_with (first
    | (go_at_call 84; with_reducible refine (D4.out _ _ _ _ (h4.out.al (.cells #[.int .u64 100, .int .u64 0, .int .u64 0, .int .u64 0] 29))).mono ?_; rintro e w5 ⟨rfl, hs5, hb5⟩; have h5 := Lib.hid hs5; have r5 := (hb5.block w4.heap.size (by simp)).trans (heap_alloc_new w4 (.cells #[.int .u64 100, .int .u64 0, .int .u64 0, .int .u64 0] 29)); have a0 := (hp_cell (i := 0) r5).trans rfl; have a1 := (hp_cell (i := 1) r5).trans rfl; have a2 := (hp_cell (i := 2) r5).trans rfl; have a3 := (hp_cell (i := 3) r5).trans rfl; clear hs5 hb5 r5)
    | (go_at_call 46; with_reducible refine (D3.out _ _ _ _ h3.out).mono ?_; rintro e w4 ⟨rfl, hs4, _⟩; have h4 := Lib.hid hs4; clear hs4)
    | (go_at_call 45; with_reducible refine (D2.out _ _ _ _ h2.out).mono ?_; rintro e w3 ⟨rfl, hs3⟩; have h3 := Lib.hid hs3; clear hs3)
    | (go_at_call 43; with_reducible refine (D1.out _ _ _ _ h1.out.start).mono ?_; rintro e w2 ⟨rfl, hs2⟩; have h2 := Lib.hid hs2; clear hs2)
    | (go_at_call 13; refine (SNew.new w _ (Below.refl _ _)).mono ?_; rintro e w1 ⟨b, F1, rfl, hs1, _, _⟩; have h1 := Lib.hid hs1; clear hs1))
  go_ret
  exact ⟨rfl, h5.out.l⟩
end Go.Proofs.Ytedkhpnlhkjjgaa
