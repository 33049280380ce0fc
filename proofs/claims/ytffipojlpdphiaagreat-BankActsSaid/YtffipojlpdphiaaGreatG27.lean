/- bank: Mint and Pay on a live store and on a dead one; lives of layer 17. -/
import Derived.Test.YtffipojlpdphiaaGreatG26
import Derived.Test.YtffipojlpdphiaaGreatG19
import Derived.Test.YtffipojlpdphiaaGreatG10
import Derived.Test.YtffipojlpdphiaaGreatG09
namespace Go.Proofs.YtffipojlpdphiaaGreat
open Go.RowKit Go.Maps Go.Sort

theorem mint_live {w W : World} {b : Nat} {F : List Nat} {L : SL} {q : Nat} {qs : List Value} (h : SNew w W b F L q qs) (t a : Int) (n : Nat) (K2 K1 : ByteArray) (hg : (1 ≤ t ∧ t ≤ 1000) ∧ 1 ≤ a ∧ a ≤ 4294967295) (hn : 0 + n ≤ MOST) (hK2 : keyStr 2 (fun _ => t) 1 = K2) (hK1 : keyStr 1 (two2 t a) 2 = K1)
    (hk2 : K2.size ≤ maxLen) (hk1 : K1.size ≤ maxLen) (hk20 : K2 ≠ ⟨#[]⟩) (hk10 : K1 ≠ ⟨#[]⟩) (he2 : amtAt L K2 0) (he1 : amtAt (setA L K2 (0 + n)) K1 0) (hN : L.length < 1000000) (hN1 : (setA L K2 (0 + n)).length < 1000000) (hq : q + 2 < 1000000) :
    Calls Tryz.prog 15 #[.pointer (some ⟨b, 0, none⟩), .int .i64 t, .int .i64 a, U n] W fun e W' => e = .returned (.int .i64 0) ∧ LiveTo w W W' b F (setA (setA L K2 (0 + n)) K1 (0 + n)) (q + 2) := by
  have hn' : n ≤ MOST := by omega
  have hn2 : n < 2 ^ 256 := Nat.lt_of_le_of_lt hn' MOST_lt
  have hF : W.heap.size ∉ F := fun hm => by have := h.s.lt _ hm; omega
  have r0 := heap_alloc_new W (.cells #[.int .u64 (limb n 0 : Nat), .int .u64 (limb n 1 : Nat), .int .u64 (limb n 2 : Nat), .int .u64 (limb n 3 : Nat)] 33)
  refine mint_walk (some ⟨b, 0, none⟩) t a n W K2 K1 hg hn' hK2 hK1 (fun X => Below W.heap.size W X ∧ X.heap[W.heap.size]? = some (.cells #[.int .u64 (limb n 0 : Nat), .int .u64 (limb n 1 : Nat), .int .u64 (limb n 2 : Nat), .int .u64 (limb n 3 : Nat)] 33 (0, 0))) (fun X => LiveTo w W X b F (setA L K2 (0 + n)) (q + 1) ∧ X.heap[W.heap.size]? = some (.cells #[.int .u64 (limb n 0 : Nat), .int .u64 (limb n 1 : Nat), .int .u64 (limb n 2 : Nat), .int .u64 (limb n 3 : Nat)] 33 (0, 0))) (fun X => LiveTo w W X b F (setA (setA L K2 (0 + n)) K1 (0 + n)) (q + 2))
    ⟨(Below.refl _ _).alloc (Nat.le_refl _) _, r0⟩ (fun X X' hx hb => ⟨hx.1.trans (hb.mono hx.1.size), (hb.block _ (hp_lt hx.2)).trans hx.2⟩) (fun X X' hx hb => ⟨hx.1.post hb, (hb.block _ (hp_lt hx.2)).trans hx.2⟩) (fun X hx => hx.2) (fun X hx => hx.2) (fun X hx => ?_) (fun X hx => ?_) (fun X hx => ?_)
  · exact (mark_live b F L q qs X (h.below hx.1).s).mono fun e w' hh => ⟨⟨_, hh.1⟩, hh.2⟩
  · refine (cadd_live (h.below hx.1) K2 0 n hk2 hk20 he2 (by decide) hn2 hn hN (by omega)).mono fun e w' hh => ⟨hh.1, hh.2.pre hx.1, ?_⟩
    obtain ⟨_, _, _, _, _, ht, _⟩ := hh.2
    exact (ht.block _ (hp_lt hx.2) hF).trans hx.2
  · exact hx.1.seq 1 (fun F1 qa qsa hs hqa => cadd_live hs K1 0 n hk1 hk10 he1 (by decide) hn2 hn hN1 (by omega))
theorem mint_dead1 (P : Option Addr) (t a : Int) (n : Nat) (w : World) (hg : (1 ≤ t ∧ t ≤ 1000) ∧ 1 ≤ a ∧ a ≤ 4294967295) (hn : n ≤ MOST) (h : SDead w (.pointer P)) :
    Calls Tryz.prog 15 #[.pointer P, .int .i64 t, .int .i64 a, U n] w fun e w' => e = .returned (.int .i64 0) ∧ Below w.heap.size w w' := by
  have r0 := heap_alloc_new w (.cells #[.int .u64 (limb n 0 : Nat), .int .u64 (limb n 1 : Nat), .int .u64 (limb n 2 : Nat), .int .u64 (limb n 3 : Nat)] 33)
  refine (mint_walk P t a n w _ _ hg hn rfl rfl (fun X => Below w.heap.size w X ∧ X.heap[w.heap.size]? = some (.cells #[.int .u64 (limb n 0 : Nat), .int .u64 (limb n 1 : Nat), .int .u64 (limb n 2 : Nat), .int .u64 (limb n 3 : Nat)] 33 (0, 0))) (fun X => Below w.heap.size w X ∧ X.heap[w.heap.size]? = some (.cells #[.int .u64 (limb n 0 : Nat), .int .u64 (limb n 1 : Nat), .int .u64 (limb n 2 : Nat), .int .u64 (limb n 3 : Nat)] 33 (0, 0))) (fun X => Below w.heap.size w X)
    ⟨(Below.refl _ _).alloc (Nat.le_refl _) _, r0⟩ (fun X X' hx hb => ⟨hx.1.trans (hb.mono hx.1.size), (hb.block _ (hp_lt hx.2)).trans hx.2⟩) (fun X X' hx hb => ⟨hx.1.trans (hb.mono hx.1.size), (hb.block _ (hp_lt hx.2)).trans hx.2⟩) (fun X hx => hx.2) (fun X hx => hx.2) (fun X hx => ?_) (fun X hx => ?_) (fun X hx => ?_))
  · exact (mark_dead (.pointer P) X (h.below hx.1)).mono fun e w' hh => ⟨⟨_, hh.1⟩, hh.2⟩
  · exact (cadd_dead P _ n hn X (h.below hx.1)).mono fun e w' hh => ⟨hh.1, hx.1.trans (hh.2.mono hx.1.size), (hh.2.block _ (hp_lt hx.2)).trans hx.2⟩
  · exact (cadd_dead P _ n hn X (h.below hx.1)).mono fun e w' hh => ⟨hh.1, hx.1.trans (hh.2.mono hx.1.size)⟩
set_option maxRecDepth 100000 in
set_option maxHeartbeats 2000000 in
/-- Mint of what may not be -/
theorem mint_no (P : Value) (t a : Int) (n : Nat) (w : World) (hn : n < 2 ^ 256) (h : ¬ (((1 ≤ t ∧ t ≤ 1000) ∧ 1 ≤ a ∧ a ≤ 4294967295) ∧ n ≤ MOST)) :
    Calls Tryz.prog 15 #[P, .int .i64 t, .int .i64 a, U n] w fun e w' => e = .returned (.int .i64 2) ∧ Below w.heap.size w w' := by
  have hG := fun W => bgood_any t a W
  have hb0 := (Below.refl w.heap.size w).alloc (Nat.le_refl _) (.cells #[.int .u64 (limb n 0 : Nat), .int .u64 (limb n 1 : Nat), .int .u64 (limb n 2 : Nat), .int .u64 (limb n 3 : Nat)] 33)
  have HB0 := Lib.hid hb0
  by_cases hg : (1 ≤ t ∧ t ≤ 1000) ∧ 1 ≤ a ∧ a ≤ 4294967295
  · rw [decide_eq_true hg] at hG
    have hm : ¬ n ≤ MOST := fun hh => h ⟨hg, hh⟩
    have hAm := fun W => amount_walk n W hn
    rw [decide_eq_false hm] at hAm
    unfold U at hAm
    have HG := Lib.hid hG
    have HAm := Lib.hid hAm
    have e0 := heap_alloc_new w (.cells #[.int .u64 (limb n 0 : Nat), .int .u64 (limb n 1 : Nat), .int .u64 (limb n 2 : Nat), .int .u64 (limb n 3 : Nat)] 33)
    have c0 := (hp_cell (i := 0) e0).trans rfl
    have c1 := (hp_cell (i := 1) e0).trans rfl
    have c2 := (hp_cell (i := 2) e0).trans rfl
    have c3 := (hp_cell (i := 3) e0).trans rfl
    clear hG hb0 hm hAm h hn hg e0
    unfold U
    go_enter Tryz.func15, Tryz.ntmps15
    go_wp2_with (first
      | (go_at_call 36; with_reducible refine (HAm.out _).mono ?_; rintro e w2 ⟨rfl, hb2⟩; have H2 := Lib.hid (HB0.out.trans (hb2.mono HB0.out.size)); clear hb2)
      | (go_at_call 11; with_reducible refine (HG.out _).mono ?_; rintro e w1 ⟨rfl, rfl⟩))
    go_ret
    exact ⟨rfl, H2.out⟩
  · rw [decide_eq_false hg] at hG
    have HG := Lib.hid hG
    clear hG hb0 h hn hg
    unfold U
    go_enter Tryz.func15, Tryz.ntmps15
    go_wp2_with (go_at_call 11; with_reducible refine (HG.out _).mono ?_; rintro e w1 ⟨rfl, rfl⟩)
    go_ret
    exact ⟨rfl, HB0.out⟩
theorem mint_dead (P : Option Addr) (t a : Int) (n : Nat) (w : World) (hn : n < 2 ^ 256) (h : SDead w (.pointer P)) :
    Calls Tryz.prog 15 #[.pointer P, .int .i64 t, .int .i64 a, U n] w fun e w' => (∃ r : Int, e = .returned (.int .i64 r)) ∧ Below w.heap.size w w' := by
  by_cases hh : ((1 ≤ t ∧ t ≤ 1000) ∧ 1 ≤ a ∧ a ≤ 4294967295) ∧ n ≤ MOST
  · exact (mint_dead1 P t a n w hh.1 hh.2 h).mono fun e w' hx => ⟨⟨_, hx.1⟩, hx.2⟩
  · exact (mint_no _ t a n w hn hh).mono fun e w' hx => ⟨⟨_, hx.1⟩, hx.2⟩
set_option maxRecDepth 100000 in
set_option maxHeartbeats 4000000 in
theorem pay_live {w W : World} {b : Nat} {F : List Nat} {L : SL} {q : Nat} {qs : List Value} (h : SNew w W b F L q qs) (t a c : Int) (x y n : Nat) (K1 K2 : ByteArray) (hg : (1 ≤ t ∧ t ≤ 1000) ∧ 1 ≤ a ∧ a ≤ 4294967295) (hg2 : (1 ≤ t ∧ t ≤ 1000) ∧ 1 ≤ c ∧ c ≤ 4294967295) (hK1 : keyStr 1 (two2 t a) 2 = K1) (hK2 : keyStr 1 (two2 t c) 2 = K2)
    (hk1 : K1.size ≤ maxLen) (hk10 : K1 ≠ ⟨#[]⟩) (hk2 : K2.size ≤ maxLen) (hk20 : K2 ≠ ⟨#[]⟩) (hne : K1 ≠ K2) (he1 : amtAt L K1 x) (he2 : amtAt L K2 y) (he1' : amtAt (setA L K2 (y + n)) K1 x) (hx : x < 2 ^ 256) (hy : y < 2 ^ 256) (hn : n < 2 ^ 256) (hle : n ≤ x) (hle2 : y + n ≤ MOST) (hN : L.length < 1000000) (hN2 : (setA L K2 (y + n)).length < 1000000) (hq : q + 2 < 1000000) :
    Calls Tryz.prog 16 #[.pointer (some ⟨b, 0, none⟩), .int .i64 t, .int .i64 a, .int .i64 c, U n] W fun e W' => e = .returned (.int .i64 0) ∧ LiveTo w W W' b F (setA (setA L K2 (y + n)) K1 (x - n)) (q + 2) := by
  have hG1 := fun W => bgood_any t a W
  rw [decide_eq_true hg] at hG1
  have hG2 := fun W => bgood_any t c W
  rw [decide_eq_true hg2] at hG2
  have hMv := fun (X : World) (hb : Below W.heap.size W X) => (cmove_live (h.below hb) K1 K2 x y n hk1 hk10 hk2 hk20 hne he1 he2 he1' hx hy hn hle hle2 hN hN2 hq).mono (R' := fun e W' => e = .returned (.int .i64 0) ∧ LiveTo w W W' b F (setA (setA L K2 (y + n)) K1 (x - n)) (q + 2)) fun e w' hh => ⟨hh.1, hh.2.pre hb⟩
  unfold U at hMv
  have HG1 := Lib.hid hG1
  have HG2 := Lib.hid hG2
  have HMv := Lib.hid hMv
  have HA1 := Lib.hid (fun W => account_is t a K1 hK1 W (by omega) (by omega))
  have HA2 := Lib.hid (fun W => account_is t c K2 hK2 W (by omega) (by omega))
  have hb0 := (Below.refl W.heap.size W).alloc (Nat.le_refl _) (.cells #[.int .u64 (limb n 0 : Nat), .int .u64 (limb n 1 : Nat), .int .u64 (limb n 2 : Nat), .int .u64 (limb n 3 : Nat)] 33)
  have e0 := heap_alloc_new W (.cells #[.int .u64 (limb n 0 : Nat), .int .u64 (limb n 1 : Nat), .int .u64 (limb n 2 : Nat), .int .u64 (limb n 3 : Nat)] 33)
  obtain ⟨W1, hW1⟩ : ∃ X, X = W.alloc (.cells #[.int .u64 (limb n 0 : Nat), .int .u64 (limb n 1 : Nat), .int .u64 (limb n 2 : Nat), .int .u64 (limb n 3 : Nat)] 33) := ⟨_, rfl⟩
  rw [← hW1] at hb0 e0
  have HB0 := Lib.hid hb0
  have HW := Lib.hid hW1
  have f0 := fun (dq : Nat) (osq : Array Obj) => cell_regrown ((hp_cell (i := 0) e0).trans rfl) dq osq
  have f1 := fun (dq : Nat) (osq : Array Obj) => cell_regrown ((hp_cell (i := 1) e0).trans rfl) dq osq
  have f2 := fun (dq : Nat) (osq : Array Obj) => cell_regrown ((hp_cell (i := 2) e0).trans rfl) dq osq
  have f3 := fun (dq : Nat) (osq : Array Obj) => cell_regrown ((hp_cell (i := 3) e0).trans rfl) dq osq
  obtain ⟨l1, el1⟩ : ∃ z, z = setA (setA L K2 (y + n)) K1 (x - n) := ⟨_, rfl⟩
  rw [← el1] at HMv ⊢
  clear hG1 hG2 hMv hb0 hW1 el1 h hg hg2 hK1 hK2 hk1 hk10 hk2 hk20 hne he1 he2 he1' hx hy hn hle hle2 hN hN2 hq e0
  unfold U
  go_enter Tryz.func16, Tryz.ntmps16
  go_upto_region 3 with (first
    | (go_at_call 11; with_reducible refine (HG1.out _).mono ?_; rintro e w1 ⟨rfl, rfl⟩)
    | (go_at_call 11; with_reducible refine (HG2.out _).mono ?_; rintro e w1 ⟨rfl, rfl⟩))
  rw [← HW.out]
  refine wp_region_quiet_tail 8 (by kernel_rfl) (by kernel_rfl) ?_
  simp only [List.take_succ_cons, List.take_zero]
  repeat (quiet_step (first
    | (go_at_call 20; with_reducible exact Calls.regrown_of (HA1.out _))
    | (go_at_call 20; with_reducible exact Calls.regrown_of (HA2.out _))))
  refine wpQuiet_nil ?_
  intro _ hw'
  obtain ⟨⟨dq, osq⟩, hw''⟩ := hw'
  subst hw''
  have H4 := Lib.hid (HB0.out.trans ((below_regrown W1 dq osq).mono HB0.out.size))
  clear f0 f1 f2 f3
  simp only [List.drop_succ_cons, List.drop_zero]
  go_wp2_with (first | (go_at_call 41; with_reducible refine (HMv.out _ H4.out).mono ?_; rintro e w5 ⟨rfl, h5⟩; have H5 := Lib.hid h5; clear h5))
  go_ret
  exact ⟨rfl, H5.out⟩
theorem total_live {w W : World} {b : Nat} {F : List Nat} {L : SL} {q : Nat} {qs : List Value} (h : SNew w W b F L q qs) (t : Int) (k1 k3 k4 k6 : ByteArray) (ht : 1 ≤ t ∧ t ≤ 1000) (h1 : keyStr 1 (fun _ => t) 1 = k1) (h3 : keyStr 3 (fun _ => t) 1 = k3) (h4 : keyStr 4 (fun _ => t) 1 = k4) (h6 : keyStr 6 (fun _ => t) 1 = k6) (hks : ∀ p ∈ L, p.1.size ≤ maxLen) (hN : L.length < 1000000)
    (N : Nat) (hsum : amT (fun i => under L (bgs k1 k3 k4 k6 i)) 4 = N) (hN2 : N < 2 ^ 256) :
    Calls Tryz.prog 9 #[.pointer (some ⟨b, 0, none⟩), .int .i64 t] W fun e w' => e = .returned (.tuple #[U N, .bool true]) ∧ Below W.heap.size W w' := by
  subst hsum
  refine total_yes (some ⟨b, 0, none⟩) t W k1 k3 k4 k6 (fun i => under L (bgs k1 k3 k4 k6 i)) ht h1 h3 h4 h6 (fun i _ => ?_) hN2 ?_
  · have e1 := (List.takeWhile_sublist (hpre (bgs k1 k3 k4 k6 i)) (l := L.drop (klo (skeys L) (bgs k1 k3 k4 k6 i)))).length_le
    rw [List.length_drop] at e1
    show ((L.drop _).takeWhile _).length ≤ 1000000
    omega
  · intro i X X' G hi hb hG htc
    have hs := (h.s.below hb).touch htc (fun k hk hg => by have := h.s.lt k hk; have := hG k hg; omega)
    exact under_live b F L q qs X' hs (bgs k1 k3 k4 k6 i) hks hN
end Go.Proofs.YtffipojlpdphiaaGreat

namespace Go.Proofs.YtffipojlpdphiaaGreat
open Go.RowKit Go.Maps Go.Sort

set_option maxRecDepth 100000 in
set_option maxHeartbeats 2000000 in
theorem lessc_no (was a g : Nat) (hw : was < 2 ^ 256) (ha : a < 2 ^ 256) (hlt : was < a) (w : World) (hg : w.heap[g]? = some (.cells #[.int .u64 (limb a 0 : Nat), .int .u64 (limb a 1 : Nat), .int .u64 (limb a 2 : Nat), .int .u64 (limb a 3 : Nat)] 33 (0, 0))) :
    Calls Tryz.prog 87 #[U was, .pointer (some ⟨g, 0, none⟩)] w fun e w' => e = .returned (.tuple #[U 0, .int .i64 13]) ∧ Below w.heap.size w w' := by
  have hb0 := ((Below.refl w.heap.size w).alloc (Nat.le_refl _) (.cells #[.int .u64 (limb was 0 : Nat), .int .u64 (limb was 1 : Nat), .int .u64 (limb was 2 : Nat), .int .u64 (limb was 3 : Nat)] 33)).alloc (by simp) (.cells #[.int .u64 0, .int .u64 0, .int .u64 0, .int .u64 0] 33)
  have r0 := heap_alloc_new (w.alloc (.cells #[.int .u64 (limb was 0 : Nat), .int .u64 (limb was 1 : Nat), .int .u64 (limb was 2 : Nat), .int .u64 (limb was 3 : Nat)] 33)) (.cells #[.int .u64 0, .int .u64 0, .int .u64 0, .int .u64 0] 33)
  rw [World.size_alloc] at r0
  have hA : ∀ W, Calls Tryz.prog 81 #[U was, U a] W fun e w' => e = .returned (.tuple #[.agg #[.int .u64 0, .int .u64 0, .int .u64 0, .int .u64 0], .bool false]) ∧ Below W.heap.size W w' := fun W => (sub_walk was a W hw ha).mono fun e w' hh => by
    obtain ⟨he, hb⟩ := hh
    rw [if_neg (by omega), decide_eq_false (by omega), U_zero] at he
    exact ⟨he, hb⟩
  rw [U_zero]
  unfold U at hA
  have HA := Lib.hid hA
  have H0 := Lib.hid (And.intro hb0 r0)
  have rg := (hb0.block g (hp_lt hg)).trans hg
  have lg := hp_lt hg
  have c0 := (hp_cell (i := 0) rg).trans rfl
  have c1 := (hp_cell (i := 1) rg).trans rfl
  have c2 := (hp_cell (i := 2) rg).trans rfl
  have c3 := (hp_cell (i := 3) rg).trans rfl
  clear hb0 r0 hA rg hlt hw ha hg
  unfold U
  go_enter Tryz.func87, Tryz.ntmps87
  go_wp2_with (first
    | (go_at_call 81; refine (HA.out _).mono ?_; rintro e w2 ⟨rfl, hb2⟩; have hbx := (Below.refl w2.heap.size w2).alloc (Nat.le_refl _) (.cells #[.int .u64 0, .int .u64 0, .int .u64 0, .int .u64 0] 33); have hby := hb2.trans (hbx.mono hb2.size); have rx := (hby.block (w.heap.size + 1) (by simp)).trans H0.out.2; have RX := Lib.hid rx; have H2 := Lib.hid (H0.out.1.trans (hby.mono H0.out.1.size)); have d0 := (hp_cell (i := 0) rx).trans rfl; have d1 := (hp_cell (i := 1) rx).trans rfl; have d2 := (hp_cell (i := 2) rx).trans rfl; have d3 := (hp_cell (i := 3) rx).trans rfl; have g0 := hp_free (i := 0) rx; have g1 := hp_free (i := 1) rx; have g2 := hp_free (i := 2) rx; have g3 := hp_free (i := 3) rx; clear hb2 hbx hby rx))
  have rr := heap_setCell_row (o := 3) (heap_setCell_row (o := 2) (heap_setCell_row (o := 1) (heap_setCell_row (o := 0) RX.out (.int .u64 0)) (.int .u64 0)) (.int .u64 0)) (.int .u64 0)
  have e0 := (hp_cell (i := 0) rr).trans rfl
  have e1 := (hp_cell (i := 1) rr).trans rfl
  have e2 := (hp_cell (i := 2) rr).trans rfl
  have e3 := (hp_cell (i := 3) rr).trans rfl
  refine bodyPost_ret (v := .tuple #[.agg #[.int .u64 0, .int .u64 0, .int .u64 0, .int .u64 0], .int .i64 13]) (by simp [results, Tryz.results87, go_sem, e0, e1, e2, e3]) rfl ⟨rfl, below_set4 H2.out (by omega)⟩
set_option maxRecDepth 100000 in
set_option maxHeartbeats 2000000 in
/-- Sub of more than there is: nothing changes -/
theorem csub_no (P : Option Addr) (k : ByteArray) (was a : Nat) (hw : was < 2 ^ 256) (ha : a < 2 ^ 256) (hlt : was < a) (w : World) (HAm : ∀ W, Below w.heap.size w W → Calls Tryz.prog 19 #[.pointer P, .string k] W fun e w' => e = .returned (U was) ∧ Below W.heap.size W w') :
    Calls Tryz.prog 67 #[.pointer P, .string k, U a] w fun e w' => e = .returned (.int .i64 13) ∧ Below w.heap.size w w' := by
  have hC : ∀ (W : World) (g : Nat), Below w.heap.size w W → W.heap[g]? = some (.cells #[.int .u64 (limb a 0 : Nat), .int .u64 (limb a 1 : Nat), .int .u64 (limb a 2 : Nat), .int .u64 (limb a 3 : Nat)] 33 (0, 0)) → Calls Tryz.prog 62 #[.pointer P, .string k, .func (.func 87) #[] #[.pointer (some ⟨g, 0, none⟩)]] W fun e w' => e = .returned (.int .i64 13) ∧ Below W.heap.size W w' := by
    intro W g hbW hg
    have hA := HAm W hbW
    have hT := fun (W2 : World) (hb2 : Below W.heap.size W W2) => lessc_no was a g hw ha hlt W2 ((hb2.block g (hp_lt hg)).trans hg)
    rw [U_zero] at hT
    unfold U at hA hT
    have HA := Lib.hid hA
    have HTs := Lib.hid hT
    clear HAm hbW hg ha hw hlt hA hT
    go_enter Tryz.func62, Tryz.ntmps62
    go_wp2_with (first
      | (go_at_call 87; refine (HTs.out _ H1.out).mono ?_; rintro e w2 ⟨rfl, hb2⟩; have H2 := Lib.hid (H1.out.trans (hb2.mono H1.out.size)); clear hb2)
      | (go_at_call 19; refine HA.out.mono ?_; rintro e w1 ⟨rfl, hb1⟩; have H1 := Lib.hid hb1; clear hb1))
    go_ret
    exact ⟨rfl, H2.out.alloc H2.out.size _⟩
  have hb0 := (Below.refl w.heap.size w).alloc (Nat.le_refl _) (.cells #[.int .u64 (limb a 0 : Nat), .int .u64 (limb a 1 : Nat), .int .u64 (limb a 2 : Nat), .int .u64 (limb a 3 : Nat)] 33)
  have hM := fun W1 => less_walk a W1
  unfold U at hM
  have HM := Lib.hid hM
  have HC := Lib.hid hC
  have HB0 := Lib.hid hb0
  clear HAm ha hw hlt hb0 hM hC
  unfold U
  go_enter Tryz.func67, Tryz.ntmps67
  go_wp2_with (first
    | (go_at_call 62; refine (HC.out _ _ H1.out.1 H1.out.2).mono ?_; rintro e w2 ⟨rfl, hb2⟩; have H2 := Lib.hid (H1.out.1.trans (hb2.mono H1.out.1.size)); clear hb2)
    | (go_at_call 66; refine (HM.out _).mono ?_; rintro e w1 ⟨rfl, hg1, hb1⟩; rw [World.size_alloc] at hg1; have H1 := Lib.hid (And.intro (HB0.out.trans (hb1.mono HB0.out.size)) hg1); clear hg1 hb1))
  go_ret
  exact ⟨rfl, H2.out⟩
/-! ### the document's example -/
theorem w5 : U 5 = .agg #[.int .u64 5, .int .u64 0, .int .u64 0, .int .u64 0] := by unfold U; rw [show limb 5 0 = 5 by decide, show limb 5 1 = 0 by decide, show limb 5 2 = 0 by decide, show limb 5 3 = 0 by decide]; rfl
theorem w1 : U 1 = .agg #[.int .u64 1, .int .u64 0, .int .u64 0, .int .u64 0] := by unfold U; rw [show limb 1 0 = 1 by decide, show limb 1 1 = 0 by decide, show limb 1 2 = 0 by decide, show limb 1 3 = 0 by decide]; rfl
def CK : ByteArray := ⟨#[107]⟩
def CL1 : SL := setA [] CK (0 + 5)
theorem cl1 : amtAt CL1 CK 5 := .inr (by decide +kernel)
theorem cl2 : setA CL1 CK (5 - 5) = [] := by decide +kernel
end Go.Proofs.YtffipojlpdphiaaGreat

namespace Go.Proofs.YtffipojlpdphiaaGreat
open Go.RowKit Go.Maps Go.Sort

set_option maxRecDepth 100000 in
set_option maxHeartbeats 2000000 in
theorem morec_noA (was a g : Nat) (hw : was < 2 ^ 256) (ha : a < 2 ^ 256) (hlt : ¬ was + a < 2 ^ 256) (w : World) (hg : w.heap[g]? = some (.cells #[.int .u64 (limb a 0 : Nat), .int .u64 (limb a 1 : Nat), .int .u64 (limb a 2 : Nat), .int .u64 (limb a 3 : Nat)] 33 (0, 0))) :
    Calls Tryz.prog 83 #[U was, .pointer (some ⟨g, 0, none⟩)] w fun e w' => e = .returned (.tuple #[U 0, .int .i64 6]) ∧ Below w.heap.size w w' := by
  have hb0 := ((Below.refl w.heap.size w).alloc (Nat.le_refl _) (.cells #[.int .u64 (limb was 0 : Nat), .int .u64 (limb was 1 : Nat), .int .u64 (limb was 2 : Nat), .int .u64 (limb was 3 : Nat)] 33)).alloc (by simp) (.cells #[.int .u64 0, .int .u64 0, .int .u64 0, .int .u64 0] 33)
  have r0 := heap_alloc_new (w.alloc (.cells #[.int .u64 (limb was 0 : Nat), .int .u64 (limb was 1 : Nat), .int .u64 (limb was 2 : Nat), .int .u64 (limb was 3 : Nat)] 33)) (.cells #[.int .u64 0, .int .u64 0, .int .u64 0, .int .u64 0] 33)
  rw [World.size_alloc] at r0
  have hA : ∀ W, Calls Tryz.prog 26 #[U was, U a] W fun e w' => e = .returned (.tuple #[.agg #[.int .u64 0, .int .u64 0, .int .u64 0, .int .u64 0], .bool false]) ∧ Below W.heap.size W w' := fun W => (add_walk was a W hw ha).mono fun e w' hh => by
    obtain ⟨he, hb⟩ := hh
    rw [if_neg hlt, decide_eq_false hlt, U_zero] at he
    exact ⟨he, hb⟩
  rw [U_zero]
  unfold U at hA
  have HA := Lib.hid hA
  have H0 := Lib.hid (And.intro hb0 r0)
  have rg := (hb0.block g (hp_lt hg)).trans hg
  have lg := hp_lt hg
  have c0 := (hp_cell (i := 0) rg).trans rfl
  have c1 := (hp_cell (i := 1) rg).trans rfl
  have c2 := (hp_cell (i := 2) rg).trans rfl
  have c3 := (hp_cell (i := 3) rg).trans rfl
  clear hb0 r0 hA rg hlt hw ha hg
  unfold U
  go_enter Tryz.func83, Tryz.ntmps83
  go_wp2_with (first
    | (go_at_call 26; refine (HA.out _).mono ?_; rintro e w2 ⟨rfl, hb2⟩; have hbx := (Below.refl w2.heap.size w2).alloc (Nat.le_refl _) (.cells #[.int .u64 0, .int .u64 0, .int .u64 0, .int .u64 0] 33); have hby := hb2.trans (hbx.mono hb2.size); have rx := (hby.block (w.heap.size + 1) (by simp)).trans H0.out.2; have RX := Lib.hid rx; have H2 := Lib.hid (H0.out.1.trans (hby.mono H0.out.1.size)); have d0 := (hp_cell (i := 0) rx).trans rfl; have d1 := (hp_cell (i := 1) rx).trans rfl; have d2 := (hp_cell (i := 2) rx).trans rfl; have d3 := (hp_cell (i := 3) rx).trans rfl; have g0 := hp_free (i := 0) rx; have g1 := hp_free (i := 1) rx; have g2 := hp_free (i := 2) rx; have g3 := hp_free (i := 3) rx; clear hb2 hbx hby rx))
  have rr := heap_setCell_row (o := 3) (heap_setCell_row (o := 2) (heap_setCell_row (o := 1) (heap_setCell_row (o := 0) RX.out (.int .u64 0)) (.int .u64 0)) (.int .u64 0)) (.int .u64 0)
  have e0 := (hp_cell (i := 0) rr).trans rfl
  have e1 := (hp_cell (i := 1) rr).trans rfl
  have e2 := (hp_cell (i := 2) rr).trans rfl
  have e3 := (hp_cell (i := 3) rr).trans rfl
  refine bodyPost_ret (v := .tuple #[.agg #[.int .u64 0, .int .u64 0, .int .u64 0, .int .u64 0], .int .i64 6]) (by simp [results, Tryz.results83, go_sem, e0, e1, e2, e3]) rfl ⟨rfl, below_set4 H2.out (by omega)⟩
set_option maxRecDepth 100000 in
set_option maxHeartbeats 2000000 in
theorem morec_noB (was a g : Nat) (hw : was < 2 ^ 256) (ha : a < 2 ^ 256) (hlt : was + a < 2 ^ 256) (hmo : MOST < was + a) (r : Nat) (hr : was + a = r) (w : World) (hg : w.heap[g]? = some (.cells #[.int .u64 (limb a 0 : Nat), .int .u64 (limb a 1 : Nat), .int .u64 (limb a 2 : Nat), .int .u64 (limb a 3 : Nat)] 33 (0, 0))) :
    Calls Tryz.prog 83 #[U was, .pointer (some ⟨g, 0, none⟩)] w fun e w' => e = .returned (.tuple #[U 0, .int .i64 6]) ∧ Below w.heap.size w w' := by
  have hb0 := ((Below.refl w.heap.size w).alloc (Nat.le_refl _) (.cells #[.int .u64 (limb was 0 : Nat), .int .u64 (limb was 1 : Nat), .int .u64 (limb was 2 : Nat), .int .u64 (limb was 3 : Nat)] 33)).alloc (by simp) (.cells #[.int .u64 0, .int .u64 0, .int .u64 0, .int .u64 0] 33)
  have r0 := heap_alloc_new (w.alloc (.cells #[.int .u64 (limb was 0 : Nat), .int .u64 (limb was 1 : Nat), .int .u64 (limb was 2 : Nat), .int .u64 (limb was 3 : Nat)] 33)) (.cells #[.int .u64 0, .int .u64 0, .int .u64 0, .int .u64 0] 33)
  rw [World.size_alloc] at r0
  have hA : ∀ W, Calls Tryz.prog 26 #[U was, U a] W fun e w' => e = .returned (.tuple #[U r, .bool true]) ∧ Below W.heap.size W w' := fun W => (add_walk was a W hw ha).mono fun e w' hh => by
    obtain ⟨he, hb⟩ := hh
    rw [if_pos hlt, decide_eq_true hlt, hr] at he
    exact ⟨he, hb⟩
  have hM : ∀ W, Calls Tryz.prog 36 #[U r] W fun e w' => e = .returned (.bool false) ∧ Below W.heap.size W w' := fun W => (amount_walk r W (by rw [← hr]; exact hlt)).mono fun e w' hh => by
    obtain ⟨he, hb⟩ := hh
    rw [decide_eq_false (by rw [← hr]; omega)] at he
    exact ⟨he, hb⟩
  rw [U_zero]
  unfold U at hA hM
  have HM := Lib.hid hM
  clear hM
  have HA := Lib.hid hA
  have H0 := Lib.hid (And.intro hb0 r0)
  have rg := (hb0.block g (hp_lt hg)).trans hg
  have lg := hp_lt hg
  have c0 := (hp_cell (i := 0) rg).trans rfl
  have c1 := (hp_cell (i := 1) rg).trans rfl
  have c2 := (hp_cell (i := 2) rg).trans rfl
  have c3 := (hp_cell (i := 3) rg).trans rfl
  clear hb0 r0 hA rg hlt hw ha hg hmo hr
  unfold U
  go_enter Tryz.func83, Tryz.ntmps83
  go_wp2_with (first
    | (go_at_call 36; refine (HM.out _).mono ?_; rintro e w3 ⟨rfl, hb3⟩; have hbx := (Below.refl w2.heap.size w2).alloc (Nat.le_refl _) (.cells #[.int .u64 (limb r 0 : Nat), .int .u64 (limb r 1 : Nat), .int .u64 (limb r 2 : Nat), .int .u64 (limb r 3 : Nat)] 33); have ry := (hb3.block w2.heap.size (by simp)).trans (heap_alloc_new w2 (.cells #[.int .u64 (limb r 0 : Nat), .int .u64 (limb r 1 : Nat), .int .u64 (limb r 2 : Nat), .int .u64 (limb r 3 : Nat)] 33)); have rx := (hb3.block _ (hp_lt RX.out)).trans RX.out; have RX3 := Lib.hid rx; have H3 := Lib.hid (H2.out.trans (hb3.mono H2.out.size)); have LY := hp_lt ry; have LZ := Lib.hid (hp_lt H0.out.2); have d0 := (hp_cell (i := 0) rx).trans rfl; have d1 := (hp_cell (i := 1) rx).trans rfl; have d2 := (hp_cell (i := 2) rx).trans rfl; have d3 := (hp_cell (i := 3) rx).trans rfl; have g0 := hp_free (i := 0) rx; have g1 := hp_free (i := 1) rx; have g2 := hp_free (i := 2) rx; have g3 := hp_free (i := 3) rx; have y0 := (hp_cell (i := 0) ry).trans rfl; have y1 := (hp_cell (i := 1) ry).trans rfl; have y2 := (hp_cell (i := 2) ry).trans rfl; have y3 := (hp_cell (i := 3) ry).trans rfl; clear hb3 hbx rx ry)
    | (go_at_call 26; refine (HA.out _).mono ?_; rintro e w2 ⟨rfl, hb2⟩; have hbx := (Below.refl w2.heap.size w2).alloc (Nat.le_refl _) (.cells #[.int .u64 (limb r 0 : Nat), .int .u64 (limb r 1 : Nat), .int .u64 (limb r 2 : Nat), .int .u64 (limb r 3 : Nat)] 33); have hby := hb2.trans (hbx.mono hb2.size); have rx := (hby.block (w.heap.size + 1) (by simp)).trans H0.out.2; have RX := Lib.hid rx; have H2 := Lib.hid (H0.out.1.trans (hby.mono H0.out.1.size)); have d0 := (hp_cell (i := 0) rx).trans rfl; have d1 := (hp_cell (i := 1) rx).trans rfl; have d2 := (hp_cell (i := 2) rx).trans rfl; have d3 := (hp_cell (i := 3) rx).trans rfl; have g0 := hp_free (i := 0) rx; have g1 := hp_free (i := 1) rx; have g2 := hp_free (i := 2) rx; have g3 := hp_free (i := 3) rx; clear hb2 hbx hby rx))
  have rr := heap_setCell_row (o := 3) (heap_setCell_row (o := 2) (heap_setCell_row (o := 1) (heap_setCell_row (o := 0) RX3.out (.int .u64 0)) (.int .u64 0)) (.int .u64 0)) (.int .u64 0)
  have e0 := (hp_cell (i := 0) rr).trans rfl
  have e1 := (hp_cell (i := 1) rr).trans rfl
  have e2 := (hp_cell (i := 2) rr).trans rfl
  have e3 := (hp_cell (i := 3) rr).trans rfl
  refine bodyPost_ret (v := .tuple #[.agg #[.int .u64 0, .int .u64 0, .int .u64 0, .int .u64 0], .int .i64 6]) (by simp [results, Tryz.results83, go_sem, e0, e1, e2, e3]) rfl ⟨rfl, below_set4 H3.out (by omega)⟩
theorem morec_no (was a g : Nat) (hw : was < 2 ^ 256) (ha : a < 2 ^ 256) (hlt : MOST < was + a) (w : World) (hg : w.heap[g]? = some (.cells #[.int .u64 (limb a 0 : Nat), .int .u64 (limb a 1 : Nat), .int .u64 (limb a 2 : Nat), .int .u64 (limb a 3 : Nat)] 33 (0, 0))) :
    Calls Tryz.prog 83 #[U was, .pointer (some ⟨g, 0, none⟩)] w fun e w' => e = .returned (.tuple #[U 0, .int .i64 6]) ∧ Below w.heap.size w w' := by
  by_cases h : was + a < 2 ^ 256
  · exact morec_noB was a g hw ha h hlt _ rfl w hg
  · exact morec_noA was a g hw ha h w hg
set_option maxRecDepth 100000 in
set_option maxHeartbeats 2000000 in
/-- Add of too much: nothing changes -/
theorem cadd_no (P : Option Addr) (k : ByteArray) (was a : Nat) (hw : was < 2 ^ 256) (ha : a < 2 ^ 256) (hlt : MOST < was + a) (w : World) (HAm : ∀ W, Below w.heap.size w W → Calls Tryz.prog 19 #[.pointer P, .string k] W fun e w' => e = .returned (U was) ∧ Below W.heap.size W w') :
    Calls Tryz.prog 38 #[.pointer P, .string k, U a] w fun e w' => e = .returned (.int .i64 6) ∧ Below w.heap.size w w' := by
  have hC : ∀ (W : World) (g : Nat), Below w.heap.size w W → W.heap[g]? = some (.cells #[.int .u64 (limb a 0 : Nat), .int .u64 (limb a 1 : Nat), .int .u64 (limb a 2 : Nat), .int .u64 (limb a 3 : Nat)] 33 (0, 0)) → Calls Tryz.prog 62 #[.pointer P, .string k, .func (.func 83) #[] #[.pointer (some ⟨g, 0, none⟩)]] W fun e w' => e = .returned (.int .i64 6) ∧ Below W.heap.size W w' := by
    intro W g hbW hg
    have hA := HAm W hbW
    have hT := fun (W2 : World) (hb2 : Below W.heap.size W W2) => morec_no was a g hw ha hlt W2 ((hb2.block g (hp_lt hg)).trans hg)
    rw [U_zero] at hT
    unfold U at hA hT
    have HA := Lib.hid hA
    have HTs := Lib.hid hT
    clear HAm hbW hg ha hw hlt hA hT
    go_enter Tryz.func62, Tryz.ntmps62
    go_wp2_with (first
      | (go_at_call 83; refine (HTs.out _ H1.out).mono ?_; rintro e w2 ⟨rfl, hb2⟩; have H2 := Lib.hid (H1.out.trans (hb2.mono H1.out.size)); clear hb2)
      | (go_at_call 19; refine HA.out.mono ?_; rintro e w1 ⟨rfl, hb1⟩; have H1 := Lib.hid hb1; clear hb1))
    go_ret
    exact ⟨rfl, H2.out.alloc H2.out.size _⟩
  have hb0 := (Below.refl w.heap.size w).alloc (Nat.le_refl _) (.cells #[.int .u64 (limb a 0 : Nat), .int .u64 (limb a 1 : Nat), .int .u64 (limb a 2 : Nat), .int .u64 (limb a 3 : Nat)] 33)
  have hM := fun W1 => more_walk a W1
  unfold U at hM
  have HM := Lib.hid hM
  have HC := Lib.hid hC
  have HB0 := Lib.hid hb0
  clear HAm ha hw hlt hb0 hM hC
  unfold U
  go_enter Tryz.func38, Tryz.ntmps38
  go_wp2_with (first
    | (go_at_call 62; refine (HC.out _ _ H1.out.1 H1.out.2).mono ?_; rintro e w2 ⟨rfl, hb2⟩; have H2 := Lib.hid (H1.out.1.trans (hb2.mono H1.out.1.size)); clear hb2)
    | (go_at_call 63; refine (HM.out _).mono ?_; rintro e w1 ⟨rfl, hg1, hb1⟩; rw [World.size_alloc] at hg1; have H1 := Lib.hid (And.intro (HB0.out.trans (hb1.mono HB0.out.size)) hg1); clear hg1 hb1))
  go_ret
  exact ⟨rfl, H2.out⟩
end Go.Proofs.YtffipojlpdphiaaGreat
