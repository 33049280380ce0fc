/- cell.Move: where it does not move. -/
import Derived.Test.YtffipojlpdphiaaGreatG27
import Derived.Test.YtffipojlpdphiaaGreatG24
import Derived.Test.YtffipojlpdphiaaGreatG25
namespace Go.Proofs.YtffipojlpdphiaaGreat
open Go.RowKit Go.Maps Go.Sort

set_option maxRecDepth 100000 in
set_option maxHeartbeats 4000000 in
theorem cmove_less {w W : World} {b : Nat} {F : List Nat} {L : SL} {q : Nat} {qs : List Value} (h : SNew w W b F L q qs) (k1 k2 : ByteArray) (x a : Nat) (hk1 : k1.size ≤ maxLen) (he1 : amtAt L k1 x) (hx : x < 2 ^ 256) (ha : a < 2 ^ 256) (hlt : x < a) :
    Calls Tryz.prog 41 #[.pointer (some ⟨b, 0, none⟩), .string k1, .string k2, U a] W fun e W' => e = .returned (.int .i64 13) ∧ Below W.heap.size W W' := by
  have hb0 := (Below.refl W.heap.size W).alloc (Nat.le_refl _) (.cells #[.int .u64 (limb a 0 : Nat), .int .u64 (limb a 1 : Nat), .int .u64 (limb a 2 : Nat), .int .u64 (limb a 3 : Nat)] 33)
  have r0 := heap_alloc_new W (.cells #[.int .u64 (limb a 0 : Nat), .int .u64 (limb a 1 : Nat), .int .u64 (limb a 2 : Nat), .int .u64 (limb a 3 : Nat)] 33)
  have hL := fun W1 => less_walk a W1
  have hA := fun (W1 : World) (hb : Below W.heap.size W W1) => camount_at (h.below hb) k1 x hk1 he1 hx
  have hT := fun (W1 : World) (g : Nat) (hg : W1.heap[g]? = some (.cells #[.int .u64 (limb a 0 : Nat), .int .u64 (limb a 1 : Nat), .int .u64 (limb a 2 : Nat), .int .u64 (limb a 3 : Nat)] 33 (0, 0))) => lessc_no x a g hx ha hlt W1 hg
  rw [U_zero] at hT
  unfold U at hL hA hT
  have HL := Lib.hid hL
  have HA := Lib.hid hA
  have HT := Lib.hid hT
  have H0 := Lib.hid (And.intro hb0 r0)
  clear h hk1 he1 hx ha hlt hb0 r0 hL hA hT
  unfold U
  go_enter Tryz.func41, Tryz.ntmps41
  go_wp2_with (first
    | (go_at_call 87; refine (HT.out _ _ H2.out.2).mono ?_; rintro e w3 ⟨rfl, hb3⟩; have H3 := Lib.hid (And.intro (H2.out.1.trans (hb3.mono H2.out.1.size)) ((hb3.block _ (hp_lt H2.out.2)).trans H2.out.2)); clear hb3)
    | (go_at_call 19; refine (HA.out _ H1.out.1).mono ?_; rintro e w2 ⟨rfl, hb2⟩; have H2 := Lib.hid (And.intro (H1.out.1.trans (hb2.mono H1.out.1.size)) ((hb2.block _ (hp_lt H1.out.2)).trans H1.out.2)); clear hb2)
    | (go_at_call 66; refine (HL.out _).mono ?_; rintro e w1 ⟨rfl, hg1, hb1⟩; rw [World.size_alloc] at hg1; have H1 := Lib.hid (And.intro (H0.out.1.trans (hb1.mono H0.out.1.size)) hg1); clear hg1 hb1))
  go_ret
  exact ⟨rfl, H3.out.1.alloc H3.out.1.size _⟩
set_option maxRecDepth 100000 in
set_option maxHeartbeats 4000000 in
theorem cmove_same {w W : World} {b : Nat} {F : List Nat} {L : SL} {q : Nat} {qs : List Value} (h : SNew w W b F L q qs) (k1 k2 : ByteArray) (x a : Nat) (hk1 : k1.size ≤ maxLen) (he1 : amtAt L k1 x) (hx : x < 2 ^ 256) (ha : a < 2 ^ 256) (hle : a ≤ x) (hs : k1 = k2) :
    Calls Tryz.prog 41 #[.pointer (some ⟨b, 0, none⟩), .string k1, .string k2, U a] W fun e W' => e = .returned (.int .i64 0) ∧ Below W.heap.size W W' := by
  have hb0 := (Below.refl W.heap.size W).alloc (Nat.le_refl _) (.cells #[.int .u64 (limb a 0 : Nat), .int .u64 (limb a 1 : Nat), .int .u64 (limb a 2 : Nat), .int .u64 (limb a 3 : Nat)] 33)
  have r0 := heap_alloc_new W (.cells #[.int .u64 (limb a 0 : Nat), .int .u64 (limb a 1 : Nat), .int .u64 (limb a 2 : Nat), .int .u64 (limb a 3 : Nat)] 33)
  have hL := fun W1 => less_walk a W1
  have hA := fun (W1 : World) (hb : Below W.heap.size W W1) => camount_at (h.below hb) k1 x hk1 he1 hx
  have hT := fun (W1 : World) (g : Nat) (hg : W1.heap[g]? = some (.cells #[.int .u64 (limb a 0 : Nat), .int .u64 (limb a 1 : Nat), .int .u64 (limb a 2 : Nat), .int .u64 (limb a 3 : Nat)] 33 (0, 0))) => lessc_ok x a (x - a) g hx ha hle rfl W1 hg
  have q1 : (k1.toList == k2.toList) = true := by rw [hs]; exact beq_self_eq_true _
  unfold U at hL hA hT
  have HL := Lib.hid hL
  have HA := Lib.hid hA
  have HT := Lib.hid hT
  have H0 := Lib.hid (And.intro hb0 r0)
  clear h hk1 he1 hx ha hle hs hb0 r0 hL hA hT
  unfold U
  go_enter Tryz.func41, Tryz.ntmps41
  go_wp2_with (first
    | (go_at_call 87; refine (HT.out _ _ H2.out.2).mono ?_; rintro e w3 ⟨rfl, hb3⟩; have H3 := Lib.hid (And.intro (H2.out.1.trans (hb3.mono H2.out.1.size)) ((hb3.block _ (hp_lt H2.out.2)).trans H2.out.2)); clear hb3)
    | (go_at_call 19; refine (HA.out _ H1.out.1).mono ?_; rintro e w2 ⟨rfl, hb2⟩; have H2 := Lib.hid (And.intro (H1.out.1.trans (hb2.mono H1.out.1.size)) ((hb2.block _ (hp_lt H1.out.2)).trans H1.out.2)); clear hb2)
    | (go_at_call 66; refine (HL.out _).mono ?_; rintro e w1 ⟨rfl, hg1, hb1⟩; rw [World.size_alloc] at hg1; have H1 := Lib.hid (And.intro (H0.out.1.trans (hb1.mono H0.out.1.size)) hg1); clear hg1 hb1))
  go_ret
  exact ⟨rfl, H3.out.1.alloc H3.out.1.size _⟩
set_option maxRecDepth 100000 in
set_option maxHeartbeats 4000000 in
theorem cmove_over {w W : World} {b : Nat} {F : List Nat} {L : SL} {q : Nat} {qs : List Value} (h : SNew w W b F L q qs) (k1 k2 : ByteArray) (x a : Nat) (hk1 : k1.size ≤ maxLen) (he1 : amtAt L k1 x) (hx : x < 2 ^ 256) (ha : a < 2 ^ 256) (y : Nat) (hk2 : k2.size ≤ maxLen) (hne : k1 ≠ k2) (he2 : amtAt L k2 y) (hy : y < 2 ^ 256) (hle : a ≤ x) (hov : MOST < y + a) :
    Calls Tryz.prog 41 #[.pointer (some ⟨b, 0, none⟩), .string k1, .string k2, U a] W fun e W' => e = .returned (.int .i64 6) ∧ Below W.heap.size W W' := by
  have hb0 := (Below.refl W.heap.size W).alloc (Nat.le_refl _) (.cells #[.int .u64 (limb a 0 : Nat), .int .u64 (limb a 1 : Nat), .int .u64 (limb a 2 : Nat), .int .u64 (limb a 3 : Nat)] 33)
  have r0 := heap_alloc_new W (.cells #[.int .u64 (limb a 0 : Nat), .int .u64 (limb a 1 : Nat), .int .u64 (limb a 2 : Nat), .int .u64 (limb a 3 : Nat)] 33)
  have hL := fun W1 => less_walk a W1
  have hA := fun (W1 : World) (hb : Below W.heap.size W W1) => camount_at (h.below hb) k1 x hk1 he1 hx
  have hT := fun (W1 : World) (g : Nat) (hg : W1.heap[g]? = some (.cells #[.int .u64 (limb a 0 : Nat), .int .u64 (limb a 1 : Nat), .int .u64 (limb a 2 : Nat), .int .u64 (limb a 3 : Nat)] 33 (0, 0))) => lessc_ok x a (x - a) g hx ha hle rfl W1 hg
  have hAd := fun (W1 : World) (hb : Below W.heap.size W W1) => cadd_no (some ⟨b, 0, none⟩) k2 y a hy ha hov W1 (fun W2 hb2 => camount_at ((h.below hb).below hb2) k2 y hk2 he2 hy)
  have q1 := str_ne2 hne
  unfold U at hL hA hT hAd
  have HL := Lib.hid hL
  have HA := Lib.hid hA
  have HT := Lib.hid hT
  have H0 := Lib.hid (And.intro hb0 r0)
  have HAd := Lib.hid hAd
  clear h hk1 he1 hx ha hle hov hy he2 hne hk2 hAd hb0 r0 hL hA hT
  unfold U
  go_enter Tryz.func41, Tryz.ntmps41
  go_upto_region 2 with (first
    | (go_at_call 87; refine (HT.out _ _ H2.out.2).mono ?_; rintro e w3 ⟨rfl, hb3⟩; have H3 := Lib.hid (H2.out.1.trans (hb3.mono H2.out.1.size)); have B3 := Lib.hid (B2.out.trans (hb3.mono B2.out.size)); have HX := Lib.hid (fun (W4 : World) (hW4 : W4 = w3.alloc (.cells #[.int .u64 (limb (x - a) 0 : Nat), .int .u64 (limb (x - a) 1 : Nat), .int .u64 (limb (x - a) 2 : Nat), .int .u64 (limb (x - a) 3 : Nat)] 33)) => show Below (W.alloc (.cells #[.int .u64 (limb a 0 : Nat), .int .u64 (limb a 1 : Nat), .int .u64 (limb a 2 : Nat), .int .u64 (limb a 3 : Nat)] 33)).heap.size (W.alloc (.cells #[.int .u64 (limb a 0 : Nat), .int .u64 (limb a 1 : Nat), .int .u64 (limb a 2 : Nat), .int .u64 (limb a 3 : Nat)] 33)) W4 from by rw [hW4]; exact B3.out.alloc B3.out.size _); clear hb3)
    | (go_at_call 19; refine (HA.out _ H1.out.1).mono ?_; rintro e w2 ⟨rfl, hb2⟩; have H2 := Lib.hid (And.intro (H1.out.1.trans (hb2.mono H1.out.1.size)) ((hb2.block _ (hp_lt H1.out.2)).trans H1.out.2)); have B2 := Lib.hid (B1.out.trans (hb2.mono B1.out.size)); clear hb2)
    | (go_at_call 66; refine (HL.out _).mono ?_; rintro e w1 ⟨rfl, hg1, hb1⟩; rw [World.size_alloc] at hg1; have H1 := Lib.hid (And.intro (H0.out.1.trans (hb1.mono H0.out.1.size)) hg1); have B1 := Lib.hid hb1; clear hg1 hb1))
  have hbx := H3.out.alloc H3.out.size (.cells #[.int .u64 (limb (x - a) 0 : Nat), .int .u64 (limb (x - a) 1 : Nat), .int .u64 (limb (x - a) 2 : Nat), .int .u64 (limb (x - a) 3 : Nat)] 33)
  obtain ⟨W4, hW4⟩ : ∃ W4, W4 = w3.alloc (.cells #[.int .u64 (limb (x - a) 0 : Nat), .int .u64 (limb (x - a) 1 : Nat), .int .u64 (limb (x - a) 2 : Nat), .int .u64 (limb (x - a) 3 : Nat)] 33) := ⟨_, rfl⟩
  rw [← hW4] at hbx ⊢
  have r4 : W4.heap[W.heap.size]? = some (.cells #[.int .u64 (limb a 0 : Nat), .int .u64 (limb a 1 : Nat), .int .u64 (limb a 2 : Nat), .int .u64 (limb a 3 : Nat)] 33 (0, 0)) := by
    have h03 : Below (W.alloc (.cells #[.int .u64 (limb a 0 : Nat), .int .u64 (limb a 1 : Nat), .int .u64 (limb a 2 : Nat), .int .u64 (limb a 3 : Nat)] 33)).heap.size (W.alloc (.cells #[.int .u64 (limb a 0 : Nat), .int .u64 (limb a 1 : Nat), .int .u64 (limb a 2 : Nat), .int .u64 (limb a 3 : Nat)] 33)) W4 := HX.out W4 hW4
    exact (h03.block _ (hp_lt H0.out.2)).trans H0.out.2
  have H4 := Lib.hid (And.intro hbx r4)
  clear hbx hW4
  have c0 := (hp_cell (i := 0) r4).trans rfl
  have c1 := (hp_cell (i := 1) r4).trans rfl
  have c2 := (hp_cell (i := 2) r4).trans rfl
  have c3 := (hp_cell (i := 3) r4).trans rfl
  clear r4
  go_wp2_with (go_at_call 38; refine (HAd.out _ H4.out.1).mono ?_; rintro e w5 ⟨rfl, hb5⟩; have H5 := Lib.hid (H4.out.1.trans (hb5.mono H4.out.1.size)); clear hb5)
  go_ret
  exact ⟨rfl, H5.out⟩
end Go.Proofs.YtffipojlpdphiaaGreat

namespace Go.Proofs.YtffipojlpdphiaaGreat
open Go.RowKit Go.Maps Go.Sort

theorem mint_go {w W : World} {b : Nat} {F : List Nat} {L : SL} {q : Nat} {qs : List Value} (h : SNew w W b F L q qs) (t a : Int) (n S B : Nat) (K2 K1 : ByteArray) (hg : (1 ≤ t ∧ t ≤ 1000) ∧ 1 ≤ a ∧ a ≤ 4294967295) (hS : S + n ≤ MOST) (hB : B + n ≤ MOST) (hK2 : keyStr 2 (fun _ => t) 1 = K2) (hK1 : keyStr 1 (two2 t a) 2 = K1)
    (hk2 : K2.size ≤ maxLen) (hk1 : K1.size ≤ maxLen) (hk20 : K2 ≠ ⟨#[]⟩) (hk10 : K1 ≠ ⟨#[]⟩) (he2 : amtAt L K2 S) (he1 : amtAt (setA L K2 (S + n)) K1 B) (hN : L.length < 1000000) (hN1 : (setA L K2 (S + n)).length < 1000000) (hq : q + 2 < 1000000) :
    Calls Tryz.prog 15 #[.pointer (some ⟨b, 0, none⟩), .int .i64 t, .int .i64 a, U n] W fun e W' => e = .returned (.int .i64 0) ∧ LiveTo w W W' b F (setA (setA L K2 (S + n)) K1 (B + n)) (q + 2) := by
  have hm := MOST_lt
  have hF : W.heap.size ∉ F := fun hm => by have := h.s.lt _ hm; omega
  have r0 := heap_alloc_new W (.cells #[.int .u64 (limb n 0 : Nat), .int .u64 (limb n 1 : Nat), .int .u64 (limb n 2 : Nat), .int .u64 (limb n 3 : Nat)] 33)
  refine mint_walk (some ⟨b, 0, none⟩) t a n W K2 K1 hg (by omega) hK2 hK1 (fun X => Below W.heap.size W X ∧ X.heap[W.heap.size]? = some (.cells #[.int .u64 (limb n 0 : Nat), .int .u64 (limb n 1 : Nat), .int .u64 (limb n 2 : Nat), .int .u64 (limb n 3 : Nat)] 33 (0, 0))) (fun X => LiveTo w W X b F (setA L K2 (S + n)) (q + 1) ∧ X.heap[W.heap.size]? = some (.cells #[.int .u64 (limb n 0 : Nat), .int .u64 (limb n 1 : Nat), .int .u64 (limb n 2 : Nat), .int .u64 (limb n 3 : Nat)] 33 (0, 0))) (fun X => LiveTo w W X b F (setA (setA L K2 (S + n)) K1 (B + n)) (q + 2))
    ⟨(Below.refl _ _).alloc (Nat.le_refl _) _, r0⟩ (fun X X' hx hb => ⟨hx.1.trans (hb.mono hx.1.size), (hb.block _ (hp_lt hx.2)).trans hx.2⟩) (fun X X' hx hb => ⟨hx.1.post hb, (hb.block _ (hp_lt hx.2)).trans hx.2⟩) (fun X hx => hx.2) (fun X hx => hx.2) (fun X hx => ?_) (fun X hx => ?_) (fun X hx => ?_)
  · exact (mark_live b F L q qs X (h.below hx.1).s).mono fun e w' hh => ⟨⟨_, hh.1⟩, hh.2⟩
  · refine (cadd_live (h.below hx.1) K2 S n hk2 hk20 he2 (by omega) (by omega) hS hN (by omega)).mono fun e w' hh => ⟨hh.1, hh.2.pre hx.1, ?_⟩
    obtain ⟨_, _, _, _, _, ht, _⟩ := hh.2
    exact (ht.block _ (hp_lt hx.2) hF).trans hx.2
  · exact hx.1.seq 1 (fun F1 qa qsa hs hqa => cadd_live hs K1 B n hk1 hk10 he1 (by omega) (by omega) hB hN1 (by omega))
set_option maxRecDepth 100000 in
set_option maxHeartbeats 4000000 in
theorem mint_over {w W : World} {b : Nat} {F : List Nat} {L : SL} {q : Nat} {qs : List Value} (h : SNew w W b F L q qs) (t a : Int) (n S : Nat) (K2 : ByteArray) (hg : (1 ≤ t ∧ t ≤ 1000) ∧ 1 ≤ a ∧ a ≤ 4294967295) (hn : n ≤ MOST) (hS : MOST < S + n) (hS2 : S < 2 ^ 256) (hK2 : keyStr 2 (fun _ => t) 1 = K2)
    (hk2 : K2.size ≤ maxLen) (he2 : amtAt L K2 S) :
    Calls Tryz.prog 15 #[.pointer (some ⟨b, 0, none⟩), .int .i64 t, .int .i64 a, U n] W fun e W' => e = .returned (.int .i64 6) ∧ Below W.heap.size W W' := by
  have hn2 : n < 2 ^ 256 := Nat.lt_of_le_of_lt hn MOST_lt
  have hG := fun W => bgood_any t a W
  rw [decide_eq_true hg] at hG
  have hAm := fun W => amount_walk n W hn2
  rw [decide_eq_true hn] at hAm
  have hA1 := fun (X : World) (hb : Below W.heap.size W X) => cadd_no (some ⟨b, 0, none⟩) K2 S n hS2 hn2 hS X (fun W1 hb1 => camount_at (h.below (hb.trans (hb1.mono hb.size))) K2 S hk2 he2 hS2)
  unfold U at hAm hA1
  have HG := Lib.hid hG
  have HAm := Lib.hid hAm
  have HMk := Lib.hid (fun (X : World) (hb : Below W.heap.size W X) => (mark_live b F L q qs X (h.below hb).s).mono fun e w' hh => (⟨⟨_, hh.1⟩, hh.2⟩ : (∃ m : Int, e = .returned (.int .i64 m)) ∧ X = w'))
  have HAd1 := Lib.hid hA1
  have HS := Lib.hid (fun W => supply_is t K2 hK2 W (by omega))
  have hb0 := (Below.refl W.heap.size W).alloc (Nat.le_refl _) (.cells #[.int .u64 (limb n 0 : Nat), .int .u64 (limb n 1 : Nat), .int .u64 (limb n 2 : Nat), .int .u64 (limb n 3 : Nat)] 33)
  have e0 := heap_alloc_new W (.cells #[.int .u64 (limb n 0 : Nat), .int .u64 (limb n 1 : Nat), .int .u64 (limb n 2 : Nat), .int .u64 (limb n 3 : Nat)] 33)
  have H0 := Lib.hid (And.intro hb0 e0)
  have c0 := (hp_cell (i := 0) e0).trans rfl
  have c1 := (hp_cell (i := 1) e0).trans rfl
  have c2 := (hp_cell (i := 2) e0).trans rfl
  have c3 := (hp_cell (i := 3) e0).trans rfl
  clear h hg hn hS hS2 hK2 hk2 he2 hn2 hG hAm hA1 hb0 e0
  unfold U
  go_enter Tryz.func15, Tryz.ntmps15
  go_upto_region 4 with (first
    | (go_at_call 37; with_reducible refine (HMk.out _ H2.out.1).mono ?_; rintro e w3 ⟨⟨m, rfl⟩, rfl⟩)
    | (go_at_call 36; with_reducible refine (HAm.out _).mono ?_; rintro e w2 ⟨rfl, hb2⟩; have H2 := Lib.hid (And.intro (H0.out.1.trans (hb2.mono H0.out.1.size)) ((hb2.block _ (hp_lt H0.out.2)).trans H0.out.2)); clear hb2)
    | (go_at_call 11; with_reducible refine (HG.out _).mono ?_; rintro e w1 ⟨rfl, rfl⟩))
  have e2 := H2.out.2
  have f0 := fun (dq : Nat) (osq : Array Obj) => cell_regrown ((hp_cell (i := 0) e2).trans rfl) dq osq
  have f1 := fun (dq : Nat) (osq : Array Obj) => cell_regrown ((hp_cell (i := 1) e2).trans rfl) dq osq
  have f2 := fun (dq : Nat) (osq : Array Obj) => cell_regrown ((hp_cell (i := 2) e2).trans rfl) dq osq
  have f3 := fun (dq : Nat) (osq : Array Obj) => cell_regrown ((hp_cell (i := 3) e2).trans rfl) dq osq
  clear c0 c1 c2 c3 e2
  refine wp_region_quiet_tail 4 (by kernel_rfl) (by kernel_rfl) ?_
  simp only [List.take_succ_cons, List.take_zero]
  repeat (quiet_step (first | (go_at_call 39; with_reducible exact Calls.regrown_of (HS.out _))))
  refine wpQuiet_nil ?_
  intro _ hw'
  obtain ⟨⟨dq, osq⟩, hw''⟩ := hw'
  subst hw''
  have H4 := Lib.hid (H2.out.1.trans ((below_regrown _ dq osq).mono H2.out.1.size))
  clear f0 f1 f2 f3
  simp only [List.drop_succ_cons, List.drop_zero]
  go_wp2_with (first | (go_at_call 38; with_reducible refine (HAd1.out _ H4.out).mono ?_; rintro e w5 ⟨rfl, hb5⟩; have H5 := Lib.hid (H4.out.trans (hb5.mono H4.out.size)); clear hb5))
  go_ret
  exact ⟨rfl, H5.out⟩
set_option maxRecDepth 100000 in
set_option maxHeartbeats 4000000 in
/-- Pay, whatever Move tells -/
theorem pay_with (P : Option Addr) (W : World) (t a c : Int) (n : Nat) (r : Int) (K1 K2 : ByteArray) (R : World → Prop) (hg : (1 ≤ t ∧ t ≤ 1000) ∧ 1 ≤ a ∧ a ≤ 4294967295) (hg2 : (1 ≤ t ∧ t ≤ 1000) ∧ 1 ≤ c ∧ c ≤ 4294967295) (hK1 : keyStr 1 (two2 t a) 2 = K1) (hK2 : keyStr 1 (two2 t c) 2 = K2)
    (hMv : ∀ X : World, Below W.heap.size W X → Calls Tryz.prog 41 #[.pointer P, .string K1, .string K2, U n] X fun e W' => e = .returned (.int .i64 r) ∧ R W') :
    Calls Tryz.prog 16 #[.pointer P, .int .i64 t, .int .i64 a, .int .i64 c, U n] W fun e W' => e = .returned (.int .i64 r) ∧ R W' := by
  have hG1 := fun W => bgood_any t a W
  rw [decide_eq_true hg] at hG1
  have hG2 := fun W => bgood_any t c W
  rw [decide_eq_true hg2] at hG2
  unfold U at hMv
  have HG1 := Lib.hid hG1
  have HG2 := Lib.hid hG2
  have HMv := Lib.hid hMv
  have HA1 := Lib.hid (fun W => account_is t a K1 hK1 W (by omega) (by omega))
  have HA2 := Lib.hid (fun W => account_is t c K2 hK2 W (by omega) (by omega))
  have hb0 := (Below.refl W.heap.size W).alloc (Nat.le_refl _) (.cells #[.int .u64 (limb n 0 : Nat), .int .u64 (limb n 1 : Nat), .int .u64 (limb n 2 : Nat), .int .u64 (limb n 3 : Nat)] 33)
  have e0 := heap_alloc_new W (.cells #[.int .u64 (limb n 0 : Nat), .int .u64 (limb n 1 : Nat), .int .u64 (limb n 2 : Nat), .int .u64 (limb n 3 : Nat)] 33)
  obtain ⟨W1, hW1⟩ : ∃ X, X = W.alloc (.cells #[.int .u64 (limb n 0 : Nat), .int .u64 (limb n 1 : Nat), .int .u64 (limb n 2 : Nat), .int .u64 (limb n 3 : Nat)] 33) := ⟨_, rfl⟩
  rw [← hW1] at hb0 e0
  have HB0 := Lib.hid hb0
  have HW := Lib.hid hW1
  have f0 := fun (dq : Nat) (osq : Array Obj) => cell_regrown ((hp_cell (i := 0) e0).trans rfl) dq osq
  have f1 := fun (dq : Nat) (osq : Array Obj) => cell_regrown ((hp_cell (i := 1) e0).trans rfl) dq osq
  have f2 := fun (dq : Nat) (osq : Array Obj) => cell_regrown ((hp_cell (i := 2) e0).trans rfl) dq osq
  have f3 := fun (dq : Nat) (osq : Array Obj) => cell_regrown ((hp_cell (i := 3) e0).trans rfl) dq osq
  clear hG1 hG2 hMv hb0 hW1 hg hg2 hK1 hK2 e0
  unfold U
  go_enter Tryz.func16, Tryz.ntmps16
  go_upto_region 3 with (first
    | (go_at_call 11; with_reducible refine (HG1.out _).mono ?_; rintro e w1 ⟨rfl, rfl⟩)
    | (go_at_call 11; with_reducible refine (HG2.out _).mono ?_; rintro e w1 ⟨rfl, rfl⟩))
  rw [← HW.out]
  refine wp_region_quiet_tail 8 (by kernel_rfl) (by kernel_rfl) ?_
  simp only [List.take_succ_cons, List.take_zero]
  repeat (quiet_step (first
    | (go_at_call 20; with_reducible exact Calls.regrown_of (HA1.out _))
    | (go_at_call 20; with_reducible exact Calls.regrown_of (HA2.out _))))
  refine wpQuiet_nil ?_
  intro _ hw'
  obtain ⟨⟨dq, osq⟩, hw''⟩ := hw'
  subst hw''
  have H4 := Lib.hid (HB0.out.trans ((below_regrown W1 dq osq).mono HB0.out.size))
  clear f0 f1 f2 f3
  simp only [List.drop_succ_cons, List.drop_zero]
  go_wp2_with (first | (go_at_call 41; with_reducible refine (HMv.out _ H4.out).mono ?_; rintro e w5 ⟨rfl, h5⟩; have H5 := Lib.hid h5; clear h5))
  go_ret
  exact ⟨rfl, H5.out⟩
set_option maxRecDepth 100000 in
set_option maxHeartbeats 1000000 in
theorem pay_no (P : Value) (W : World) (t a c : Int) (n : Nat) (h : ¬ (((1 ≤ t ∧ t ≤ 1000) ∧ 1 ≤ a ∧ a ≤ 4294967295) ∧ (1 ≤ t ∧ t ≤ 1000) ∧ 1 ≤ c ∧ c ≤ 4294967295)) :
    Calls Tryz.prog 16 #[P, .int .i64 t, .int .i64 a, .int .i64 c, U n] W fun e W' => e = .returned (.int .i64 2) ∧ Below W.heap.size W W' := by
  have hG1 := fun W => bgood_any t a W
  have hG2 := fun W => bgood_any t c W
  have HB0 := Lib.hid ((Below.refl W.heap.size W).alloc (Nat.le_refl _) (.cells #[.int .u64 (limb n 0 : Nat), .int .u64 (limb n 1 : Nat), .int .u64 (limb n 2 : Nat), .int .u64 (limb n 3 : Nat)] 33))
  by_cases hg : (1 ≤ t ∧ t ≤ 1000) ∧ 1 ≤ a ∧ a ≤ 4294967295
  · rw [decide_eq_true hg] at hG1
    rw [decide_eq_false (fun hh => h ⟨hg, hh⟩)] at hG2
    have HG1 := Lib.hid hG1
    have HG2 := Lib.hid hG2
    clear hG1 hG2 h hg
    unfold U
    go_enter Tryz.func16, Tryz.ntmps16
    go_wp2_with (first
      | (go_at_call 11; have g5 := HX1; clear g5; with_reducible refine (HG2.out _).mono ?_; rintro e w1 ⟨rfl, rfl⟩)
      | (go_at_call 11; with_reducible refine (HG1.out _).mono ?_; rintro e w1 ⟨rfl, rfl⟩; have HX1 := Lib.hid trivial))
    go_ret
    exact ⟨rfl, HB0.out⟩
  · rw [decide_eq_false hg] at hG1
    have HG1 := Lib.hid hG1
    clear hG1 hG2 h hg
    unfold U
    go_enter Tryz.func16, Tryz.ntmps16
    go_wp2_with (go_at_call 11; with_reducible refine (HG1.out _).mono ?_; rintro e w1 ⟨rfl, rfl⟩)
    go_ret
    exact ⟨rfl, HB0.out⟩
end Go.Proofs.YtffipojlpdphiaaGreat

namespace Go.Proofs.YtffipojlpdphiaaGreat
open Go.RowKit Go.Maps Go.Sort

theorem dinfoWas : (Tryz.prog.info? 109).map (fun i => (i.zero, i.size, i.bytes)) = some (some (.agg #[.string ⟨#[]⟩, .string ⟨#[]⟩, .bool false]), 3, 40) := by kernel_rfl
theorem pcs_app (a b : SL) : pcs (a ++ b) = pcs a ++ pcs b := by simp [pcs]
theorem pcs_len2 : ∀ l : SL, (pcs l).length = l.length * 2
  | [] => rfl
  | p :: r => by
    have e : pcs (p :: r) = .string p.1 :: .string p.2 :: pcs r := rfl
    rw [e, List.length_cons, List.length_cons, pcs_len2 r, List.length_cons]; omega
theorem pcs_one : ∀ l : SL, ∀ u ∈ pcs l, u.oneCell' = true
  | [], u, h => by cases h
  | p :: r, u, h => by
    have e : pcs (p :: r) = .string p.1 :: .string p.2 :: pcs r := rfl
    rw [e] at h
    rcases List.mem_cons.1 h with rfl | h
    · rfl
    · rcases List.mem_cons.1 h with rfl | h
      · rfl
      · exact pcs_one r u h
/-- the cells of a part of a row -/
theorem pcs_mid {w : World} {B : Nat} {g cap : Nat} {l : SL} (h : w.ownsRow B 70 2 (.slice (some ⟨g, 0, none⟩) l.length cap) l.length (pcs l)) (a b c : SL) (e : l = a ++ b ++ c) :
    ∀ j u, (pcs b)[j]? = some u → w.cell? ⟨g, a.length * 2 + j, none⟩ = some u := by
  intro j u hu
  have hj : j < (pcs b).length := (List.getElem?_eq_some_iff.1 hu).1
  refine ownsRow_cell h rfl (j := a.length * 2 + j) ?_
  rw [e, pcs_app, pcs_app, List.append_assoc, List.getElem?_append_right (by rw [pcs_len2]; omega), pcs_len2, Nat.add_sub_cancel_left, List.getElem?_append_left hj]
  exact hu
theorem iown_base' {w : World} {B B' n k : Nat} {e : TypeId} {v : Value} {xs : List Value} (h : w.ownsRow B e k v n xs) (hb : B' ≤ B) : w.ownsRow B' e k v n xs :=
  ⟨h.1, h.2.elim .inl fun ⟨g, cap, cur, h1, h2, h3⟩ => .inr ⟨g, cap, cur, h1, Nat.le_trans hb h2, h3⟩⟩
/-- the entries are stored -/
theorem lay_done {w W W3 : World} {m : Nat} {L L' : SL} {R : List Ch} (h : DS w W m L R) (hb : Below W.heap.size W W3) (v3 : Value) (ho : W3.ownsRow W.heap.size 70 2 v3 L'.length (pcs L')) : DSTo w W (W3.setCell ⟨m, 0, none⟩ v3) m L' R := by
  obtain ⟨vL, vP, h1, h2, h3⟩ := h.ex
  have hm := hp_lt h1
  have h1' := (hb.block m hm).trans h1
  have hfar : ∀ k, k ≠ m → (W3.setCell ⟨m, 0, none⟩ v3).heap[k]? = W3.heap[k]? := fun k hk => Below.heap_setCell _ _ _ _ hk
  have t2 : Touch [m] W (W3.setCell ⟨m, 0, none⟩ v3) := (Touch.of_below hb).trans (fun _ hk => .inl hk) (Touch.setCell W3 ⟨m, 0, none⟩ v3 (List.mem_singleton.2 rfl))
  have hty : ∀ g ∈ [m], w.heap.size ≤ g ∧ ∃ cs T fr, W.heap[g]? = some (Obj.cells cs T fr) ∧ DocT T ∧ T ≠ 70 := fun g hg => by
    rw [List.mem_singleton.1 hg]
    exact ⟨h.lt, _, _, _, h1, .inl rfl, by decide⟩
  refine ⟨⟨h.lt, h.l.trans (t2.below (fun k hk => by rw [List.mem_singleton.1 hk]; exact h.lt) h.l.size), v3, vP, ?_, ?_, ?_⟩, [m], t2, hty⟩
  · rw [heap_setCell_row h1']; rfl
  · refine ownsRow_same (iown_base' ho h.l.size) fun g hg => hfar g fun e => ?_
    have := (ho.lt g hg).1
    omega
  · refine ownsRow_same h3 fun g hg => ?_
    obtain ⟨cs, hc⟩ := ownsRow_typ h3 hg
    rw [hfar g (fun e => by rw [e, h1] at hc; cases hc)]
    exact hb.block g (hp_lt hc)
set_option maxRecDepth 100000 in
set_option maxHeartbeats 4000000 in
theorem lay_nil (w W : World) (m : Nat) (R : List Ch) (k v : ByteArray) (th : Bool) (h : DS w W m [] R) (vP : Value) (hm : W.heap[m]? = some (Obj.cells #[.slice none 0 0, vP] 30 (0, 0))) :
    Calls Tryz.prog 71 #[.pointer (some ⟨m, 0, none⟩), .string k, .string v, .bool th] W fun e W' => e = .returned (.tuple #[]) ∧ DSTo w W W' m (if th = true then [(k, v)] else []) R := by
  obtain ⟨i0, hi, hz0, hz1, hz2⟩ := info_parts infoPair
  have HPl := Lib.hid (rplace_walk m [] k W h.dl List.Pairwise.nil (Nat.zero_le _))
  have HD : Hid (∀ (L' : SL) (W3 : World) (v3 : Value), Below W.heap.size W W3 → W3.ownsRow W.heap.size 70 2 v3 L'.length (pcs L') → DSTo w W (W3.setCell ⟨m, 0, none⟩ v3) m L' R) := Lib.hid fun L' W3 v3 hb ho => lay_done h hb v3 ho
  have c0 := (hp_cell (i := 0) hm).trans rfl
  have f0 := hp_free (i := 0) hm
  have HM := Lib.hid hm
  clear hm h
  cases th with
  | false =>
    go_enter Tryz.func71, Tryz.ntmps71
    go_wp2_with (first | (go_at_call 74; refine HPl.out.mono ?_; rintro e w1 ⟨he, rfl⟩; obtain rfl : e = .returned (.int .i64 (0 : Nat)) := he) | (at_builtin; refine wpList_append_own_none rfl _ _ _ rfl W.heap.size 70 i0 2 Tryz.underlying27 hi _ _ _ rfl (World.ownsRow_nil _ _ _ _) rfl ?_))
    go_end0
    exact ⟨rfl, HD.out [] _ _ (Below.refl _ _) (World.ownsRow_nil _ _ _ _)⟩
  | true =>
    go_enter Tryz.func71, Tryz.ntmps71
    go_wp2_with (first
      | (go_at_call 74; refine HPl.out.mono ?_; rintro e w1 ⟨he, rfl⟩; obtain rfl : e = .returned (.int .i64 (0 : Nat)) := he)
      | (at_builtin; refine wpList_append_own_none rfl _ _ _ rfl W.heap.size 70 i0 2 Tryz.underlying27 hi _ _ _ rfl (HO.out.1) rfl ?_)
      | (at_builtin; refine wpList_append_own_none rfl _ _ _ rfl W.heap.size 70 i0 2 Tryz.underlying27 hi _ _ _ rfl (World.ownsRow_nil _ _ _ _) rfl ?_)
      | (at_builtin; refine wpList_append_own _ rfl _ _ _ rfl W.heap.size 70 i0 _ 2 32 Tryz.underlying27 hi hz0 hz1 hz2 rfl (by omega) _ 0 [] rfl (World.ownsRow_nil _ _ _ _) ⟨W.heap.size, 0, none⟩ 1 1 [.string k, .string v] rfl rfl (World.news_of_block (cs := #[.string k, .string v]) (t := 70) (fr := (0, 0)) (heap_alloc_new W _)) (by simp [Value.oneCell']) (by unfold maxLen; omega) (by omega) (by simp) ?_; intro v2 w5 hown2 hgrow _; have hb2 : Below W.heap.size W w5 := (((Below.refl _ W).alloc (Nat.le_refl _) (.cells #[.string k, .string v] 70)).grown hgrow (by simp) (fun q hq => (by cases hq))); have hm5 := (hb2.block m (hp_lt HM.out)).trans HM.out; have c5 := (hp_cell (i := 0) hm5).trans rfl; have f5 := hp_free (i := 0) hm5; obtain ⟨A2, C2, rfl, _⟩ := row_pairs (l := [(k, v)]) hown2; have HO := Lib.hid (And.intro hown2 hb2); clear hown2 hgrow hb2 hm5))
    go_end0
    exact ⟨rfl, HD.out [(k, v)] _ _ HO.out.2 HO.out.1⟩
set_option maxRecDepth 100000 in
set_option maxHeartbeats 4000000 in
theorem lay_some (w W : World) (m : Nat) (L : SL) (R : List Ch) (k v : ByteArray) (th : Bool) (h : DS w W m L R) (hr : Rising (skeys L)) (hN : L.length < 1000000) (vP : Value) (g cap : Nat) (hm : W.heap[m]? = some (Obj.cells #[.slice (some ⟨g, 0, none⟩) L.length cap, vP] 30 (0, 0)))
    (ho : W.ownsRow w.heap.size 70 2 (.slice (some ⟨g, 0, none⟩) L.length cap) L.length (pcs L)) :
    Calls Tryz.prog 71 #[.pointer (some ⟨m, 0, none⟩), .string k, .string v, .bool th] W fun e W' => e = .returned (.tuple #[]) ∧ DSTo w W W' m (if th = true then sset L k v else sdel L k) R := by
  obtain ⟨i0, hi, hz0, hz1, hz2⟩ := info_parts infoPair
  have HPl := Lib.hid (rplace_walk m L k W h.dl hr (by omega))
  have hsg := rsget_at k L hr
  have e1 := sset_parts hr k v
  have e2 := sdel_parts2 hr k
  have hKl := klo_le (skeys L) k
  have hkl : (skeys L).length = L.length := by unfold skeys; simp
  have hcap : L.length ≤ cap := by
    rcases ho.2 with ⟨h1, _⟩ | ⟨g', cap', cur, h1, _, _, h2, _⟩
    · cases h1
    · cases h1; exact h2
  have HD : Hid (∀ (L' : SL) (W3 : World) (v3 : Value), Below W.heap.size W W3 → W3.ownsRow W.heap.size 70 2 v3 L'.length (pcs L') → DSTo w W (W3.setCell ⟨m, 0, none⟩ v3) m L' R) := Lib.hid fun L' W3 v3 hb ho => lay_done h hb v3 ho
  generalize hK : klo (skeys L) k = K at *
  have hKn : K ≤ L.length := by omega
  obtain ⟨K', hK'⟩ : ∃ K', K' = if (sget L k).isSome = true then K + 1 else K := ⟨_, rfl⟩
  rw [← hK'] at e1 e2
  have hwhere : ((sget L k).isSome = true ∧ ∃ hlt : K < L.length, (L[K]).1 = k) ∨ ((sget L k).isSome = false ∧ (K < L.length → ∃ hlt : K < L.length, (L[K]).1 ≠ k)) := by
    by_cases hlt : K < L.length
    · rw [List.getElem?_eq_getElem hlt, Option.bind_some] at hsg
      by_cases e : (L[K]).1 = k
      · rw [if_pos e] at hsg; exact .inl ⟨by rw [hsg]; rfl, hlt, e⟩
      · rw [if_neg e] at hsg; exact .inr ⟨by rw [hsg]; rfl, fun _ => ⟨hlt, e⟩⟩
    · rw [List.getElem?_eq_none (by omega)] at hsg
      exact .inr ⟨by rw [hsg]; rfl, fun h => absurd h hlt⟩
  have hK'n : K' ≤ L.length := by
    rcases hwhere with ⟨h1, h2, _⟩ | ⟨h1, _⟩ <;> rw [h1] at hK' <;> simp at hK' <;> omega
  have hlt0 : (L.take K).length = K := by rw [List.length_take]; omega
  have HLn : Hid ((pcs (L.take K)).length = K * 2 ∧ (pcs (L.drop K')).length = (L.length - K') * 2) := Lib.hid ⟨by rw [pcs_len2, hlt0], by rw [pcs_len2, List.length_drop]⟩
  have s1 : ∀ j u, (pcs (L.take K))[j]? = some u → W.cell? ((⟨g, 0, none⟩ : Addr).add j) = some u := fun j u hu => by
    have := pcs_mid ho [] (L.take K) (L.drop K) (by simp) j u hu
    rw [Addr.add_lit]
    simpa using this
  have s2 : ∀ W5, Below W.heap.size W W5 → ∀ j u, (pcs (L.drop K'))[j]? = some u → W5.cell? ((⟨g, K' * 2, none⟩ : Addr).add j) = some u := fun W5 hb j u hu => by
    have := pcs_mid ho (L.take K') (L.drop K') [] (by simp) j u hu
    rw [List.length_take, Nat.min_eq_left hK'n] at this
    rw [Addr.add_lit, hb.cell (p := ⟨g, K' * 2 + j, none⟩) (ho.lt g rfl).2]
    exact this
  have s3 : cap = K' → ∀ W5 : World, ∀ j u, (pcs (L.drop K'))[j]? = some u → W5.cell? ((⟨g, 0, none⟩ : Addr).add j) = some u := fun hc W5 j u hu => by
    rw [List.drop_eq_nil_of_le (by omega)] at hu
    cases hu
  have hend : (L.take K ++ [(k, v)] ++ L.drop K' : SL).length = K + 1 + (L.length - K') ∧ (L.take K ++ L.drop K' : SL).length = K + (L.length - K') := by
    constructor
    · simp only [List.length_append, hlt0, List.length_drop, List.length_cons, List.length_nil]
    · simp only [List.length_append, hlt0, List.length_drop]
  have HE := Lib.hid (And.intro e1 (And.intro e2 hend))
  have c0 := (hp_cell (i := 0) hm).trans rfl
  have f0 := hp_free (i := 0) hm
  have HM := Lib.hid hm
  have hcells : ∀ hlt : K < L.length, W.cell? ⟨g, K * 2, none⟩ = some (.string (L[K]).1) := fun hlt => ownsRow_cell ho rfl (pcs_at L K hlt).1
  obtain ⟨n, hn⟩ : ∃ n, n = L.length := ⟨_, rfl⟩
  clear hm h hend e1 e2 hsg hKl hkl hlt0 ho hr
  rcases hwhere with ⟨q1, q2, q3⟩ | ⟨q1, q2⟩
  · obtain rfl : K' = K + 1 := by rw [hK', if_pos q1]
    have c1 := hcells q2
    rw [q3] at c1
    have p2 : (k.toList == k.toList) = true := beq_self_eq_true _
    have p1 : (K : Int) < (L.length : Int) := by omega
    clear hK' hcells q1 q2 q3 hK
    cases th with
    | true =>
      by_cases hc : cap = K + 1
      · have HSr := Lib.hid (And.intro s1 (And.intro s2 (s3 hc)))
        clear s1 s2 s3
        have HNl : Hid ((pcs (L.drop (K + 1))).length = 0 * 2) := Lib.hid (by rw [List.drop_eq_nil_of_le (by omega)]; rfl)
        have HSz : Hid (L.length - (K + 1) = 0) := Lib.hid (by omega)
        have hcs := hc.symm
        subst hcs
        go_enter Tryz.func71, Tryz.ntmps71
        go_wp2_with (first
          | (at_builtin; refine wpList_append_own _ rfl _ _ _ rfl W.heap.size 70 i0 _ 2 32 Tryz.underlying27 hi hz0 hz1 hz2 rfl (by omega) _ (K + 1) (pcs (L.take K) ++ [Value.string k, Value.string v]) rfl HO2.out.1 _ _ _ (pcs (L.drop (K + 1))) rfl (by first | exact HLn.out.2 | exact HNl.out) (HSr.out.2.2 _) (pcs_one _) (by unfold maxLen; omega) (by omega) HO2.out.2.size ?_; intro v4 w7 hown2 hgrow _; have hb2 : Below W.heap.size W w7 := (HO2.out.2.grown hgrow HO2.out.2.size (fun q hq => (HO2.out.1.lt q hq).1)); have hm5 := (hb2.block m (hp_lt HM.out)).trans HM.out; have c7 := (hp_cell (i := 0) hm5).trans rfl; have f7 := hp_free (i := 0) hm5; have hown3 : w7.ownsRow W.heap.size 70 2 v4 (L.take K ++ [(k, v)] ++ L.drop (K + 1) : SL).length (pcs (L.take K ++ [(k, v)] ++ L.drop (K + 1))) := (by rw [HE.out.2.2.1]; simp only [pcs_app]; first | exact hown2 | (rw [HSz.out]; exact hown2)); obtain ⟨A4, C4, ev4, _⟩ := row_pairs hown3; obtain ⟨N4, hN4⟩ : ∃ y, y = (L.take K ++ [(k, v)] ++ L.drop (K + 1) : SL).length := ⟨_, rfl⟩; rw [← hN4] at ev4; subst ev4; have HO3 := Lib.hid (And.intro hown3 hb2); clear hN4; clear hown2 hown3 hgrow hb2 hm5)
          | (at_builtin; refine wpList_append_own _ rfl _ _ _ rfl W.heap.size 70 i0 _ 2 32 Tryz.underlying27 hi hz0 hz1 hz2 rfl (by omega) _ K (pcs (L.take K)) rfl (HO1.out.1.alloc _) ⟨w5.heap.size, 0, none⟩ 1 1 [.string k, .string v] rfl rfl (World.news_of_block (cs := #[.string k, .string v]) (t := 70) (fr := (0, 0)) (heap_alloc_new w5 _)) (by simp [Value.oneCell']) (by unfold maxLen; omega) (by omega) (Nat.le_trans HO1.out.2.size (by simp)) ?_; intro v3 w6 hown2 hgrow _; have hb2 : Below W.heap.size W w6 := ((HO1.out.2.alloc HO1.out.2.size (.cells #[.string k, .string v] 70)).grown hgrow (Nat.le_trans HO1.out.2.size (by simp)) (fun q hq => (HO1.out.1.lt q hq).1)); have hm5 := (hb2.block m (hp_lt HM.out)).trans HM.out; have c6 := (hp_cell (i := 0) hm5).trans rfl; have f6 := hp_free (i := 0) hm5; have HO2 := Lib.hid (And.intro hown2 hb2); clear hown2 hgrow hb2 hm5)
          | (at_builtin; refine wpList_append_own _ rfl _ _ _ rfl W.heap.size 70 i0 _ 2 32 Tryz.underlying27 hi hz0 hz1 hz2 rfl (by omega) _ 0 [] rfl (World.ownsRow_nil _ _ _ _) ⟨g, 0, none⟩ K _ (pcs (L.take K)) rfl HLn.out.1 HSr.out.1 (pcs_one _) (by unfold maxLen; omega) (by omega) (Nat.le_refl _) ?_; intro v2 w5 hown2 hgrow _; have hb2 : Below W.heap.size W w5 := ((Below.refl _ W).grown hgrow (Nat.le_refl _) (fun q hq => (by cases hq))); have hm5 := (hb2.block m (hp_lt HM.out)).trans HM.out; have c5 := (hp_cell (i := 0) hm5).trans rfl; have f5 := hp_free (i := 0) hm5; rw [Nat.zero_add, List.nil_append] at hown2; have HO1 := Lib.hid (And.intro hown2 hb2); clear hown2 hgrow hb2 hm5)
          | (go_at_call 74; refine HPl.out.mono ?_; rintro e w1 ⟨rfl, rfl⟩))
        go_end0
        refine ⟨rfl, ?_⟩
        have HF := HD.out (L.take K ++ [(k, v)] ++ L.drop (K + 1)) _ _ HO3.out.2 HO3.out.1
        show DSTo w W _ m (sset L k v) R
        rw [HE.out.1]
        exact HF
      · have HSr := Lib.hid (And.intro s1 (And.intro s2 s2))
        clear s1 s2 s3
        go_enter Tryz.func71, Tryz.ntmps71
        go_wp2_with (first
          | (at_builtin; refine wpList_append_own _ rfl _ _ _ rfl W.heap.size 70 i0 _ 2 32 Tryz.underlying27 hi hz0 hz1 hz2 rfl (by omega) _ (K + 1) (pcs (L.take K) ++ [Value.string k, Value.string v]) rfl HO2.out.1 _ _ _ (pcs (L.drop (K + 1))) rfl (by first | exact HLn.out.2 | exact HNl.out) (HSr.out.2.1 _ HO2.out.2) (pcs_one _) (by unfold maxLen; omega) (by omega) HO2.out.2.size ?_; intro v4 w7 hown2 hgrow _; have hb2 : Below W.heap.size W w7 := (HO2.out.2.grown hgrow HO2.out.2.size (fun q hq => (HO2.out.1.lt q hq).1)); have hm5 := (hb2.block m (hp_lt HM.out)).trans HM.out; have c7 := (hp_cell (i := 0) hm5).trans rfl; have f7 := hp_free (i := 0) hm5; have hown3 : w7.ownsRow W.heap.size 70 2 v4 (L.take K ++ [(k, v)] ++ L.drop (K + 1) : SL).length (pcs (L.take K ++ [(k, v)] ++ L.drop (K + 1))) := (by rw [HE.out.2.2.1]; simp only [pcs_app]; first | exact hown2 | (rw [HSz.out]; exact hown2)); obtain ⟨A4, C4, ev4, _⟩ := row_pairs hown3; obtain ⟨N4, hN4⟩ : ∃ y, y = (L.take K ++ [(k, v)] ++ L.drop (K + 1) : SL).length := ⟨_, rfl⟩; rw [← hN4] at ev4; subst ev4; have HO3 := Lib.hid (And.intro hown3 hb2); clear hN4; clear hown2 hown3 hgrow hb2 hm5)
          | (at_builtin; refine wpList_append_own _ rfl _ _ _ rfl W.heap.size 70 i0 _ 2 32 Tryz.underlying27 hi hz0 hz1 hz2 rfl (by omega) _ K (pcs (L.take K)) rfl (HO1.out.1.alloc _) ⟨w5.heap.size, 0, none⟩ 1 1 [.string k, .string v] rfl rfl (World.news_of_block (cs := #[.string k, .string v]) (t := 70) (fr := (0, 0)) (heap_alloc_new w5 _)) (by simp [Value.oneCell']) (by unfold maxLen; omega) (by omega) (Nat.le_trans HO1.out.2.size (by simp)) ?_; intro v3 w6 hown2 hgrow _; have hb2 : Below W.heap.size W w6 := ((HO1.out.2.alloc HO1.out.2.size (.cells #[.string k, .string v] 70)).grown hgrow (Nat.le_trans HO1.out.2.size (by simp)) (fun q hq => (HO1.out.1.lt q hq).1)); have hm5 := (hb2.block m (hp_lt HM.out)).trans HM.out; have c6 := (hp_cell (i := 0) hm5).trans rfl; have f6 := hp_free (i := 0) hm5; have HO2 := Lib.hid (And.intro hown2 hb2); clear hown2 hgrow hb2 hm5)
          | (at_builtin; refine wpList_append_own _ rfl _ _ _ rfl W.heap.size 70 i0 _ 2 32 Tryz.underlying27 hi hz0 hz1 hz2 rfl (by omega) _ 0 [] rfl (World.ownsRow_nil _ _ _ _) ⟨g, 0, none⟩ K _ (pcs (L.take K)) rfl HLn.out.1 HSr.out.1 (pcs_one _) (by unfold maxLen; omega) (by omega) (Nat.le_refl _) ?_; intro v2 w5 hown2 hgrow _; have hb2 : Below W.heap.size W w5 := ((Below.refl _ W).grown hgrow (Nat.le_refl _) (fun q hq => (by cases hq))); have hm5 := (hb2.block m (hp_lt HM.out)).trans HM.out; have c5 := (hp_cell (i := 0) hm5).trans rfl; have f5 := hp_free (i := 0) hm5; rw [Nat.zero_add, List.nil_append] at hown2; have HO1 := Lib.hid (And.intro hown2 hb2); clear hown2 hgrow hb2 hm5)
          | (go_at_call 74; refine HPl.out.mono ?_; rintro e w1 ⟨rfl, rfl⟩))
        go_end0
        refine ⟨rfl, ?_⟩
        have HF := HD.out (L.take K ++ [(k, v)] ++ L.drop (K + 1)) _ _ HO3.out.2 HO3.out.1
        show DSTo w W _ m (sset L k v) R
        rw [HE.out.1]
        exact HF
    | false =>
      by_cases hc : cap = K + 1
      · have HSr := Lib.hid (And.intro s1 (And.intro s2 (s3 hc)))
        clear s1 s2 s3
        have HNl : Hid ((pcs (L.drop (K + 1))).length = 0 * 2) := Lib.hid (by rw [List.drop_eq_nil_of_le (by omega)]; rfl)
        have HSz : Hid (L.length - (K + 1) = 0) := Lib.hid (by omega)
        have hcs := hc.symm
        subst hcs
        go_enter Tryz.func71, Tryz.ntmps71
        go_wp2_with (first
          | (at_builtin; refine wpList_append_own _ rfl _ _ _ rfl W.heap.size 70 i0 _ 2 32 Tryz.underlying27 hi hz0 hz1 hz2 rfl (by omega) _ (K) (pcs (L.take K)) rfl HO1.out.1 _ _ _ (pcs (L.drop (K + 1))) rfl (by first | exact HLn.out.2 | exact HNl.out) (HSr.out.2.2 _) (pcs_one _) (by unfold maxLen; omega) (by omega) HO1.out.2.size ?_; intro v4 w7 hown2 hgrow _; have hb2 : Below W.heap.size W w7 := (HO1.out.2.grown hgrow HO1.out.2.size (fun q hq => (HO1.out.1.lt q hq).1)); have hm5 := (hb2.block m (hp_lt HM.out)).trans HM.out; have c7 := (hp_cell (i := 0) hm5).trans rfl; have f7 := hp_free (i := 0) hm5; have hown3 : w7.ownsRow W.heap.size 70 2 v4 (L.take K ++ L.drop (K + 1) : SL).length (pcs (L.take K ++ L.drop (K + 1))) := (by rw [HE.out.2.2.2]; simp only [pcs_app]; first | exact hown2 | (rw [HSz.out]; exact hown2)); obtain ⟨A4, C4, ev4, _⟩ := row_pairs hown3; obtain ⟨N4, hN4⟩ : ∃ y, y = (L.take K ++ L.drop (K + 1) : SL).length := ⟨_, rfl⟩; rw [← hN4] at ev4; subst ev4; have HO3 := Lib.hid (And.intro hown3 hb2); clear hN4; clear hown2 hown3 hgrow hb2 hm5)
          | (at_builtin; refine wpList_append_own _ rfl _ _ _ rfl W.heap.size 70 i0 _ 2 32 Tryz.underlying27 hi hz0 hz1 hz2 rfl (by omega) _ 0 [] rfl (World.ownsRow_nil _ _ _ _) ⟨g, 0, none⟩ K _ (pcs (L.take K)) rfl HLn.out.1 HSr.out.1 (pcs_one _) (by unfold maxLen; omega) (by omega) (Nat.le_refl _) ?_; intro v2 w5 hown2 hgrow _; have hb2 : Below W.heap.size W w5 := ((Below.refl _ W).grown hgrow (Nat.le_refl _) (fun q hq => (by cases hq))); have hm5 := (hb2.block m (hp_lt HM.out)).trans HM.out; have c5 := (hp_cell (i := 0) hm5).trans rfl; have f5 := hp_free (i := 0) hm5; rw [Nat.zero_add, List.nil_append] at hown2; have HO1 := Lib.hid (And.intro hown2 hb2); clear hown2 hgrow hb2 hm5)
          | (go_at_call 74; refine HPl.out.mono ?_; rintro e w1 ⟨rfl, rfl⟩))
        go_end0
        refine ⟨rfl, ?_⟩
        have HF := HD.out (L.take K ++ L.drop (K + 1)) _ _ HO3.out.2 HO3.out.1
        show DSTo w W _ m (sdel L k) R
        rw [HE.out.2.1]
        exact HF
      · have HSr := Lib.hid (And.intro s1 (And.intro s2 s2))
        clear s1 s2 s3
        go_enter Tryz.func71, Tryz.ntmps71
        go_wp2_with (first
          | (at_builtin; refine wpList_append_own _ rfl _ _ _ rfl W.heap.size 70 i0 _ 2 32 Tryz.underlying27 hi hz0 hz1 hz2 rfl (by omega) _ (K) (pcs (L.take K)) rfl HO1.out.1 _ _ _ (pcs (L.drop (K + 1))) rfl (by first | exact HLn.out.2 | exact HNl.out) (HSr.out.2.1 _ HO1.out.2) (pcs_one _) (by unfold maxLen; omega) (by omega) HO1.out.2.size ?_; intro v4 w7 hown2 hgrow _; have hb2 : Below W.heap.size W w7 := (HO1.out.2.grown hgrow HO1.out.2.size (fun q hq => (HO1.out.1.lt q hq).1)); have hm5 := (hb2.block m (hp_lt HM.out)).trans HM.out; have c7 := (hp_cell (i := 0) hm5).trans rfl; have f7 := hp_free (i := 0) hm5; have hown3 : w7.ownsRow W.heap.size 70 2 v4 (L.take K ++ L.drop (K + 1) : SL).length (pcs (L.take K ++ L.drop (K + 1))) := (by rw [HE.out.2.2.2]; simp only [pcs_app]; first | exact hown2 | (rw [HSz.out]; exact hown2)); obtain ⟨A4, C4, ev4, _⟩ := row_pairs hown3; obtain ⟨N4, hN4⟩ : ∃ y, y = (L.take K ++ L.drop (K + 1) : SL).length := ⟨_, rfl⟩; rw [← hN4] at ev4; subst ev4; have HO3 := Lib.hid (And.intro hown3 hb2); clear hN4; clear hown2 hown3 hgrow hb2 hm5)
          | (at_builtin; refine wpList_append_own _ rfl _ _ _ rfl W.heap.size 70 i0 _ 2 32 Tryz.underlying27 hi hz0 hz1 hz2 rfl (by omega) _ 0 [] rfl (World.ownsRow_nil _ _ _ _) ⟨g, 0, none⟩ K _ (pcs (L.take K)) rfl HLn.out.1 HSr.out.1 (pcs_one _) (by unfold maxLen; omega) (by omega) (Nat.le_refl _) ?_; intro v2 w5 hown2 hgrow _; have hb2 : Below W.heap.size W w5 := ((Below.refl _ W).grown hgrow (Nat.le_refl _) (fun q hq => (by cases hq))); have hm5 := (hb2.block m (hp_lt HM.out)).trans HM.out; have c5 := (hp_cell (i := 0) hm5).trans rfl; have f5 := hp_free (i := 0) hm5; rw [Nat.zero_add, List.nil_append] at hown2; have HO1 := Lib.hid (And.intro hown2 hb2); clear hown2 hgrow hb2 hm5)
          | (go_at_call 74; refine HPl.out.mono ?_; rintro e w1 ⟨rfl, rfl⟩))
        go_end0
        refine ⟨rfl, ?_⟩
        have HF := HD.out (L.take K ++ L.drop (K + 1)) _ _ HO3.out.2 HO3.out.1
        show DSTo w W _ m (sdel L k) R
        rw [HE.out.2.1]
        exact HF
  · obtain rfl : K' = K := by rw [hK', q1]; rfl
    by_cases hlt : K' < L.length
    · have c1 := hcells hlt
      obtain ⟨y, hy⟩ : ∃ y, y = (L[K']).1 := ⟨_, rfl⟩
      obtain ⟨_, q3⟩ := q2 hlt
      rw [← hy] at c1 q3
      have p2 : (y.toList == k.toList) = false := str_ne2 q3
      have p1 : (K' : Int) < (L.length : Int) := by omega
      clear hK' hcells q1 q2 q3 hK hy
      cases th with
      | true =>
        by_cases hc : cap = K'
        · exact absurd hcap (by omega)
        · have HSr := Lib.hid (And.intro s1 (And.intro s2 s2))
          clear s1 s2 s3
          go_enter Tryz.func71, Tryz.ntmps71
          go_wp2_with (first
            | (at_builtin; refine wpList_append_own _ rfl _ _ _ rfl W.heap.size 70 i0 _ 2 32 Tryz.underlying27 hi hz0 hz1 hz2 rfl (by omega) _ (K' + 1) (pcs (L.take K') ++ [Value.string k, Value.string v]) rfl HO2.out.1 _ _ _ (pcs (L.drop (K'))) rfl (by first | exact HLn.out.2 | exact HNl.out) (HSr.out.2.1 _ HO2.out.2) (pcs_one _) (by unfold maxLen; omega) (by omega) HO2.out.2.size ?_; intro v4 w7 hown2 hgrow _; have hb2 : Below W.heap.size W w7 := (HO2.out.2.grown hgrow HO2.out.2.size (fun q hq => (HO2.out.1.lt q hq).1)); have hm5 := (hb2.block m (hp_lt HM.out)).trans HM.out; have c7 := (hp_cell (i := 0) hm5).trans rfl; have f7 := hp_free (i := 0) hm5; have hown3 : w7.ownsRow W.heap.size 70 2 v4 (L.take K' ++ [(k, v)] ++ L.drop (K') : SL).length (pcs (L.take K' ++ [(k, v)] ++ L.drop (K'))) := (by rw [HE.out.2.2.1]; simp only [pcs_app]; first | exact hown2 | (rw [HSz.out]; exact hown2)); obtain ⟨A4, C4, ev4, _⟩ := row_pairs hown3; obtain ⟨N4, hN4⟩ : ∃ y, y = (L.take K' ++ [(k, v)] ++ L.drop (K') : SL).length := ⟨_, rfl⟩; rw [← hN4] at ev4; subst ev4; have HO3 := Lib.hid (And.intro hown3 hb2); clear hN4; clear hown2 hown3 hgrow hb2 hm5)
            | (at_builtin; refine wpList_append_own _ rfl _ _ _ rfl W.heap.size 70 i0 _ 2 32 Tryz.underlying27 hi hz0 hz1 hz2 rfl (by omega) _ K' (pcs (L.take K')) rfl (HO1.out.1.alloc _) ⟨w5.heap.size, 0, none⟩ 1 1 [.string k, .string v] rfl rfl (World.news_of_block (cs := #[.string k, .string v]) (t := 70) (fr := (0, 0)) (heap_alloc_new w5 _)) (by simp [Value.oneCell']) (by unfold maxLen; omega) (by omega) (Nat.le_trans HO1.out.2.size (by simp)) ?_; intro v3 w6 hown2 hgrow _; have hb2 : Below W.heap.size W w6 := ((HO1.out.2.alloc HO1.out.2.size (.cells #[.string k, .string v] 70)).grown hgrow (Nat.le_trans HO1.out.2.size (by simp)) (fun q hq => (HO1.out.1.lt q hq).1)); have hm5 := (hb2.block m (hp_lt HM.out)).trans HM.out; have c6 := (hp_cell (i := 0) hm5).trans rfl; have f6 := hp_free (i := 0) hm5; have HO2 := Lib.hid (And.intro hown2 hb2); clear hown2 hgrow hb2 hm5)
            | (at_builtin; refine wpList_append_own _ rfl _ _ _ rfl W.heap.size 70 i0 _ 2 32 Tryz.underlying27 hi hz0 hz1 hz2 rfl (by omega) _ 0 [] rfl (World.ownsRow_nil _ _ _ _) ⟨g, 0, none⟩ K' _ (pcs (L.take K')) rfl HLn.out.1 HSr.out.1 (pcs_one _) (by unfold maxLen; omega) (by omega) (Nat.le_refl _) ?_; intro v2 w5 hown2 hgrow _; have hb2 : Below W.heap.size W w5 := ((Below.refl _ W).grown hgrow (Nat.le_refl _) (fun q hq => (by cases hq))); have hm5 := (hb2.block m (hp_lt HM.out)).trans HM.out; have c5 := (hp_cell (i := 0) hm5).trans rfl; have f5 := hp_free (i := 0) hm5; rw [Nat.zero_add, List.nil_append] at hown2; have HO1 := Lib.hid (And.intro hown2 hb2); clear hown2 hgrow hb2 hm5)
            | (go_at_call 74; refine HPl.out.mono ?_; rintro e w1 ⟨rfl, rfl⟩))
          go_end0
          refine ⟨rfl, ?_⟩
          have HF := HD.out (L.take K' ++ [(k, v)] ++ L.drop (K')) _ _ HO3.out.2 HO3.out.1
          show DSTo w W _ m (sset L k v) R
          rw [HE.out.1]
          exact HF
      | false =>
        by_cases hc : cap = K'
        · exact absurd hcap (by omega)
        · have HSr := Lib.hid (And.intro s1 (And.intro s2 s2))
          clear s1 s2 s3
          go_enter Tryz.func71, Tryz.ntmps71
          go_wp2_with (first
            | (at_builtin; refine wpList_append_own _ rfl _ _ _ rfl W.heap.size 70 i0 _ 2 32 Tryz.underlying27 hi hz0 hz1 hz2 rfl (by omega) _ (K') (pcs (L.take K')) rfl HO1.out.1 _ _ _ (pcs (L.drop (K'))) rfl (by first | exact HLn.out.2 | exact HNl.out) (HSr.out.2.1 _ HO1.out.2) (pcs_one _) (by unfold maxLen; omega) (by omega) HO1.out.2.size ?_; intro v4 w7 hown2 hgrow _; have hb2 : Below W.heap.size W w7 := (HO1.out.2.grown hgrow HO1.out.2.size (fun q hq => (HO1.out.1.lt q hq).1)); have hm5 := (hb2.block m (hp_lt HM.out)).trans HM.out; have c7 := (hp_cell (i := 0) hm5).trans rfl; have f7 := hp_free (i := 0) hm5; have hown3 : w7.ownsRow W.heap.size 70 2 v4 (L.take K' ++ L.drop (K') : SL).length (pcs (L.take K' ++ L.drop (K'))) := (by rw [HE.out.2.2.2]; simp only [pcs_app]; first | exact hown2 | (rw [HSz.out]; exact hown2)); obtain ⟨A4, C4, ev4, _⟩ := row_pairs hown3; obtain ⟨N4, hN4⟩ : ∃ y, y = (L.take K' ++ L.drop (K') : SL).length := ⟨_, rfl⟩; rw [← hN4] at ev4; subst ev4; have HO3 := Lib.hid (And.intro hown3 hb2); clear hN4; clear hown2 hown3 hgrow hb2 hm5)
            | (at_builtin; refine wpList_append_own _ rfl _ _ _ rfl W.heap.size 70 i0 _ 2 32 Tryz.underlying27 hi hz0 hz1 hz2 rfl (by omega) _ 0 [] rfl (World.ownsRow_nil _ _ _ _) ⟨g, 0, none⟩ K' _ (pcs (L.take K')) rfl HLn.out.1 HSr.out.1 (pcs_one _) (by unfold maxLen; omega) (by omega) (Nat.le_refl _) ?_; intro v2 w5 hown2 hgrow _; have hb2 : Below W.heap.size W w5 := ((Below.refl _ W).grown hgrow (Nat.le_refl _) (fun q hq => (by cases hq))); have hm5 := (hb2.block m (hp_lt HM.out)).trans HM.out; have c5 := (hp_cell (i := 0) hm5).trans rfl; have f5 := hp_free (i := 0) hm5; rw [Nat.zero_add, List.nil_append] at hown2; have HO1 := Lib.hid (And.intro hown2 hb2); clear hown2 hgrow hb2 hm5)
            | (go_at_call 74; refine HPl.out.mono ?_; rintro e w1 ⟨rfl, rfl⟩))
          go_end0
          refine ⟨rfl, ?_⟩
          have HF := HD.out (L.take K' ++ L.drop (K')) _ _ HO3.out.2 HO3.out.1
          show DSTo w W _ m (sdel L k) R
          rw [HE.out.2.1]
          exact HF
    · have p1 : ¬ (K' : Int) < (L.length : Int) := by omega
      clear hK' hcells q1 q2 hK
      cases th with
      | true =>
        by_cases hc : cap = K'
        · have HSr := Lib.hid (And.intro s1 (And.intro s2 (s3 hc)))
          clear s1 s2 s3
          have HNl : Hid ((pcs (L.drop (K'))).length = 0 * 2) := Lib.hid (by rw [List.drop_eq_nil_of_le (by omega)]; rfl)
          have HSz : Hid (L.length - (K') = 0) := Lib.hid (by omega)
          have hcs := hc.symm
          subst hcs
          go_enter Tryz.func71, Tryz.ntmps71
          go_wp2_with (first
            | (at_builtin; refine wpList_append_own _ rfl _ _ _ rfl W.heap.size 70 i0 _ 2 32 Tryz.underlying27 hi hz0 hz1 hz2 rfl (by omega) _ (K' + 1) (pcs (L.take K') ++ [Value.string k, Value.string v]) rfl HO2.out.1 _ _ _ (pcs (L.drop (K'))) rfl (by first | exact HLn.out.2 | exact HNl.out) (HSr.out.2.2 _) (pcs_one _) (by unfold maxLen; omega) (by omega) HO2.out.2.size ?_; intro v4 w7 hown2 hgrow _; have hb2 : Below W.heap.size W w7 := (HO2.out.2.grown hgrow HO2.out.2.size (fun q hq => (HO2.out.1.lt q hq).1)); have hm5 := (hb2.block m (hp_lt HM.out)).trans HM.out; have c7 := (hp_cell (i := 0) hm5).trans rfl; have f7 := hp_free (i := 0) hm5; have hown3 : w7.ownsRow W.heap.size 70 2 v4 (L.take K' ++ [(k, v)] ++ L.drop (K') : SL).length (pcs (L.take K' ++ [(k, v)] ++ L.drop (K'))) := (by rw [HE.out.2.2.1]; simp only [pcs_app]; first | exact hown2 | (rw [HSz.out]; exact hown2)); obtain ⟨A4, C4, ev4, _⟩ := row_pairs hown3; obtain ⟨N4, hN4⟩ : ∃ y, y = (L.take K' ++ [(k, v)] ++ L.drop (K') : SL).length := ⟨_, rfl⟩; rw [← hN4] at ev4; subst ev4; have HO3 := Lib.hid (And.intro hown3 hb2); clear hN4; clear hown2 hown3 hgrow hb2 hm5)
            | (at_builtin; refine wpList_append_own _ rfl _ _ _ rfl W.heap.size 70 i0 _ 2 32 Tryz.underlying27 hi hz0 hz1 hz2 rfl (by omega) _ K' (pcs (L.take K')) rfl (HO1.out.1.alloc _) ⟨w5.heap.size, 0, none⟩ 1 1 [.string k, .string v] rfl rfl (World.news_of_block (cs := #[.string k, .string v]) (t := 70) (fr := (0, 0)) (heap_alloc_new w5 _)) (by simp [Value.oneCell']) (by unfold maxLen; omega) (by omega) (Nat.le_trans HO1.out.2.size (by simp)) ?_; intro v3 w6 hown2 hgrow _; have hb2 : Below W.heap.size W w6 := ((HO1.out.2.alloc HO1.out.2.size (.cells #[.string k, .string v] 70)).grown hgrow (Nat.le_trans HO1.out.2.size (by simp)) (fun q hq => (HO1.out.1.lt q hq).1)); have hm5 := (hb2.block m (hp_lt HM.out)).trans HM.out; have c6 := (hp_cell (i := 0) hm5).trans rfl; have f6 := hp_free (i := 0) hm5; have HO2 := Lib.hid (And.intro hown2 hb2); clear hown2 hgrow hb2 hm5)
            | (at_builtin; refine wpList_append_own _ rfl _ _ _ rfl W.heap.size 70 i0 _ 2 32 Tryz.underlying27 hi hz0 hz1 hz2 rfl (by omega) _ 0 [] rfl (World.ownsRow_nil _ _ _ _) ⟨g, 0, none⟩ K' _ (pcs (L.take K')) rfl HLn.out.1 HSr.out.1 (pcs_one _) (by unfold maxLen; omega) (by omega) (Nat.le_refl _) ?_; intro v2 w5 hown2 hgrow _; have hb2 : Below W.heap.size W w5 := ((Below.refl _ W).grown hgrow (Nat.le_refl _) (fun q hq => (by cases hq))); have hm5 := (hb2.block m (hp_lt HM.out)).trans HM.out; have c5 := (hp_cell (i := 0) hm5).trans rfl; have f5 := hp_free (i := 0) hm5; rw [Nat.zero_add, List.nil_append] at hown2; have HO1 := Lib.hid (And.intro hown2 hb2); clear hown2 hgrow hb2 hm5)
            | (go_at_call 74; refine HPl.out.mono ?_; rintro e w1 ⟨rfl, rfl⟩))
          go_end0
          refine ⟨rfl, ?_⟩
          have HF := HD.out (L.take K' ++ [(k, v)] ++ L.drop (K')) _ _ HO3.out.2 HO3.out.1
          show DSTo w W _ m (sset L k v) R
          rw [HE.out.1]
          exact HF
        · have HSr := Lib.hid (And.intro s1 (And.intro s2 s2))
          clear s1 s2 s3
          go_enter Tryz.func71, Tryz.ntmps71
          go_wp2_with (first
            | (at_builtin; refine wpList_append_own _ rfl _ _ _ rfl W.heap.size 70 i0 _ 2 32 Tryz.underlying27 hi hz0 hz1 hz2 rfl (by omega) _ (K' + 1) (pcs (L.take K') ++ [Value.string k, Value.string v]) rfl HO2.out.1 _ _ _ (pcs (L.drop (K'))) rfl (by first | exact HLn.out.2 | exact HNl.out) (HSr.out.2.1 _ HO2.out.2) (pcs_one _) (by unfold maxLen; omega) (by omega) HO2.out.2.size ?_; intro v4 w7 hown2 hgrow _; have hb2 : Below W.heap.size W w7 := (HO2.out.2.grown hgrow HO2.out.2.size (fun q hq => (HO2.out.1.lt q hq).1)); have hm5 := (hb2.block m (hp_lt HM.out)).trans HM.out; have c7 := (hp_cell (i := 0) hm5).trans rfl; have f7 := hp_free (i := 0) hm5; have hown3 : w7.ownsRow W.heap.size 70 2 v4 (L.take K' ++ [(k, v)] ++ L.drop (K') : SL).length (pcs (L.take K' ++ [(k, v)] ++ L.drop (K'))) := (by rw [HE.out.2.2.1]; simp only [pcs_app]; first | exact hown2 | (rw [HSz.out]; exact hown2)); obtain ⟨A4, C4, ev4, _⟩ := row_pairs hown3; obtain ⟨N4, hN4⟩ : ∃ y, y = (L.take K' ++ [(k, v)] ++ L.drop (K') : SL).length := ⟨_, rfl⟩; rw [← hN4] at ev4; subst ev4; have HO3 := Lib.hid (And.intro hown3 hb2); clear hN4; clear hown2 hown3 hgrow hb2 hm5)
            | (at_builtin; refine wpList_append_own _ rfl _ _ _ rfl W.heap.size 70 i0 _ 2 32 Tryz.underlying27 hi hz0 hz1 hz2 rfl (by omega) _ K' (pcs (L.take K')) rfl (HO1.out.1.alloc _) ⟨w5.heap.size, 0, none⟩ 1 1 [.string k, .string v] rfl rfl (World.news_of_block (cs := #[.string k, .string v]) (t := 70) (fr := (0, 0)) (heap_alloc_new w5 _)) (by simp [Value.oneCell']) (by unfold maxLen; omega) (by omega) (Nat.le_trans HO1.out.2.size (by simp)) ?_; intro v3 w6 hown2 hgrow _; have hb2 : Below W.heap.size W w6 := ((HO1.out.2.alloc HO1.out.2.size (.cells #[.string k, .string v] 70)).grown hgrow (Nat.le_trans HO1.out.2.size (by simp)) (fun q hq => (HO1.out.1.lt q hq).1)); have hm5 := (hb2.block m (hp_lt HM.out)).trans HM.out; have c6 := (hp_cell (i := 0) hm5).trans rfl; have f6 := hp_free (i := 0) hm5; have HO2 := Lib.hid (And.intro hown2 hb2); clear hown2 hgrow hb2 hm5)
            | (at_builtin; refine wpList_append_own _ rfl _ _ _ rfl W.heap.size 70 i0 _ 2 32 Tryz.underlying27 hi hz0 hz1 hz2 rfl (by omega) _ 0 [] rfl (World.ownsRow_nil _ _ _ _) ⟨g, 0, none⟩ K' _ (pcs (L.take K')) rfl HLn.out.1 HSr.out.1 (pcs_one _) (by unfold maxLen; omega) (by omega) (Nat.le_refl _) ?_; intro v2 w5 hown2 hgrow _; have hb2 : Below W.heap.size W w5 := ((Below.refl _ W).grown hgrow (Nat.le_refl _) (fun q hq => (by cases hq))); have hm5 := (hb2.block m (hp_lt HM.out)).trans HM.out; have c5 := (hp_cell (i := 0) hm5).trans rfl; have f5 := hp_free (i := 0) hm5; rw [Nat.zero_add, List.nil_append] at hown2; have HO1 := Lib.hid (And.intro hown2 hb2); clear hown2 hgrow hb2 hm5)
            | (go_at_call 74; refine HPl.out.mono ?_; rintro e w1 ⟨rfl, rfl⟩))
          go_end0
          refine ⟨rfl, ?_⟩
          have HF := HD.out (L.take K' ++ [(k, v)] ++ L.drop (K')) _ _ HO3.out.2 HO3.out.1
          show DSTo w W _ m (sset L k v) R
          rw [HE.out.1]
          exact HF
      | false =>
        by_cases hc : cap = K'
        · have HSr := Lib.hid (And.intro s1 (And.intro s2 (s3 hc)))
          clear s1 s2 s3
          have HNl : Hid ((pcs (L.drop (K'))).length = 0 * 2) := Lib.hid (by rw [List.drop_eq_nil_of_le (by omega)]; rfl)
          have HSz : Hid (L.length - (K') = 0) := Lib.hid (by omega)
          have hcs := hc.symm
          subst hcs
          go_enter Tryz.func71, Tryz.ntmps71
          go_wp2_with (first
            | (at_builtin; refine wpList_append_own _ rfl _ _ _ rfl W.heap.size 70 i0 _ 2 32 Tryz.underlying27 hi hz0 hz1 hz2 rfl (by omega) _ (K') (pcs (L.take K')) rfl HO1.out.1 _ _ _ (pcs (L.drop (K'))) rfl (by first | exact HLn.out.2 | exact HNl.out) (HSr.out.2.2 _) (pcs_one _) (by unfold maxLen; omega) (by omega) HO1.out.2.size ?_; intro v4 w7 hown2 hgrow _; have hb2 : Below W.heap.size W w7 := (HO1.out.2.grown hgrow HO1.out.2.size (fun q hq => (HO1.out.1.lt q hq).1)); have hm5 := (hb2.block m (hp_lt HM.out)).trans HM.out; have c7 := (hp_cell (i := 0) hm5).trans rfl; have f7 := hp_free (i := 0) hm5; have hown3 : w7.ownsRow W.heap.size 70 2 v4 (L.take K' ++ L.drop (K') : SL).length (pcs (L.take K' ++ L.drop (K'))) := (by rw [HE.out.2.2.2]; simp only [pcs_app]; first | exact hown2 | (rw [HSz.out]; exact hown2)); obtain ⟨A4, C4, ev4, _⟩ := row_pairs hown3; obtain ⟨N4, hN4⟩ : ∃ y, y = (L.take K' ++ L.drop (K') : SL).length := ⟨_, rfl⟩; rw [← hN4] at ev4; subst ev4; have HO3 := Lib.hid (And.intro hown3 hb2); clear hN4; clear hown2 hown3 hgrow hb2 hm5)
            | (at_builtin; refine wpList_append_own _ rfl _ _ _ rfl W.heap.size 70 i0 _ 2 32 Tryz.underlying27 hi hz0 hz1 hz2 rfl (by omega) _ 0 [] rfl (World.ownsRow_nil _ _ _ _) ⟨g, 0, none⟩ K' _ (pcs (L.take K')) rfl HLn.out.1 HSr.out.1 (pcs_one _) (by unfold maxLen; omega) (by omega) (Nat.le_refl _) ?_; intro v2 w5 hown2 hgrow _; have hb2 : Below W.heap.size W w5 := ((Below.refl _ W).grown hgrow (Nat.le_refl _) (fun q hq => (by cases hq))); have hm5 := (hb2.block m (hp_lt HM.out)).trans HM.out; have c5 := (hp_cell (i := 0) hm5).trans rfl; have f5 := hp_free (i := 0) hm5; rw [Nat.zero_add, List.nil_append] at hown2; have HO1 := Lib.hid (And.intro hown2 hb2); clear hown2 hgrow hb2 hm5)
            | (go_at_call 74; refine HPl.out.mono ?_; rintro e w1 ⟨rfl, rfl⟩))
          go_end0
          refine ⟨rfl, ?_⟩
          have HF := HD.out (L.take K' ++ L.drop (K')) _ _ HO3.out.2 HO3.out.1
          show DSTo w W _ m (sdel L k) R
          rw [HE.out.2.1]
          exact HF
        · have HSr := Lib.hid (And.intro s1 (And.intro s2 s2))
          clear s1 s2 s3
          go_enter Tryz.func71, Tryz.ntmps71
          go_wp2_with (first
            | (at_builtin; refine wpList_append_own _ rfl _ _ _ rfl W.heap.size 70 i0 _ 2 32 Tryz.underlying27 hi hz0 hz1 hz2 rfl (by omega) _ (K') (pcs (L.take K')) rfl HO1.out.1 _ _ _ (pcs (L.drop (K'))) rfl (by first | exact HLn.out.2 | exact HNl.out) (HSr.out.2.1 _ HO1.out.2) (pcs_one _) (by unfold maxLen; omega) (by omega) HO1.out.2.size ?_; intro v4 w7 hown2 hgrow _; have hb2 : Below W.heap.size W w7 := (HO1.out.2.grown hgrow HO1.out.2.size (fun q hq => (HO1.out.1.lt q hq).1)); have hm5 := (hb2.block m (hp_lt HM.out)).trans HM.out; have c7 := (hp_cell (i := 0) hm5).trans rfl; have f7 := hp_free (i := 0) hm5; have hown3 : w7.ownsRow W.heap.size 70 2 v4 (L.take K' ++ L.drop (K') : SL).length (pcs (L.take K' ++ L.drop (K'))) := (by rw [HE.out.2.2.2]; simp only [pcs_app]; first | exact hown2 | (rw [HSz.out]; exact hown2)); obtain ⟨A4, C4, ev4, _⟩ := row_pairs hown3; obtain ⟨N4, hN4⟩ : ∃ y, y = (L.take K' ++ L.drop (K') : SL).length := ⟨_, rfl⟩; rw [← hN4] at ev4; subst ev4; have HO3 := Lib.hid (And.intro hown3 hb2); clear hN4; clear hown2 hown3 hgrow hb2 hm5)
            | (at_builtin; refine wpList_append_own _ rfl _ _ _ rfl W.heap.size 70 i0 _ 2 32 Tryz.underlying27 hi hz0 hz1 hz2 rfl (by omega) _ 0 [] rfl (World.ownsRow_nil _ _ _ _) ⟨g, 0, none⟩ K' _ (pcs (L.take K')) rfl HLn.out.1 HSr.out.1 (pcs_one _) (by unfold maxLen; omega) (by omega) (Nat.le_refl _) ?_; intro v2 w5 hown2 hgrow _; have hb2 : Below W.heap.size W w5 := ((Below.refl _ W).grown hgrow (Nat.le_refl _) (fun q hq => (by cases hq))); have hm5 := (hb2.block m (hp_lt HM.out)).trans HM.out; have c5 := (hp_cell (i := 0) hm5).trans rfl; have f5 := hp_free (i := 0) hm5; rw [Nat.zero_add, List.nil_append] at hown2; have HO1 := Lib.hid (And.intro hown2 hb2); clear hown2 hgrow hb2 hm5)
            | (go_at_call 74; refine HPl.out.mono ?_; rintro e w1 ⟨rfl, rfl⟩))
          go_end0
          refine ⟨rfl, ?_⟩
          have HF := HD.out (L.take K' ++ L.drop (K')) _ _ HO3.out.2 HO3.out.1
          show DSTo w W _ m (sdel L k) R
          rw [HE.out.2.1]
          exact HF
end Go.Proofs.YtffipojlpdphiaaGreat
