/- delay.Set of the document's example on an empty store; lives of layer 28. -/
import Derived.Test.YtedkhpnlhkjjgaaTG
namespace Go.Proofs.Ytedkhpnlhkjjgaa
open Go.RowKit Go.Maps

set_option maxRecDepth 100000 in
theorem dwithin_ok (x : Int) (w : World) (h1 : 0 ≤ x) (h2 : x ≤ 1099511627776) : Calls Try.prog 106 #[.int .i64 x] w fun e w' => e = .returned (.bool true) ∧ w = w' := by
  go_enter Try.func106, Try.ntmps106
  go_wp2
  go_ret
  exact ⟨rfl, rfl⟩
def L25 : SL := [(K25, rowV f25 5)]
theorem L25_get : sget L25 K25 = some (rowV f25 5) := by simp [L25, sget, keq_self]
theorem L25_set : setL [] K25 (rowV f25 5) = L25 := by
  unfold setL
  rw [if_neg (by simp [sget])]
  rfl
set_option maxRecDepth 100000 in
set_option maxHeartbeats 4000000 in
theorem dset_walk {w W : World} {b : Nat} {F : List Nat} {q : Nat} {qs : List Value} (hs : SNew w W b F [] q qs) (hq : q < 1000000) (A : Option Addr) (c : Nat) (hl : Il W A 1 (fun _ => 7)) :
    Calls Try.prog 57 #[.pointer (some ⟨b, 0, none⟩), .int .i64 25, .slice A 1 c, .int .i64 5, .int .i64 10, .int .i64 3] W fun e W' => e = .returned (.int .i64 0) ∧ LiveTo w W W' b F L25 (q + 1) := by
  have HM := Lib.hid (made_live b F [] q qs W hs.s)
  have HK := Lib.hid (key_walk 25 A 1 c (fun _ => 7) W hl (by omega))
  rw [show KeyPost 25 (fun _ => 7) 1 = fun w e w' => e = .returned (.string K25) ∧ Below w.heap.size w w' from by funext w e w'; unfold KeyPost; rw [key25]] at HK
  have HG := Lib.hid (fun (W1 : World) (hb : Below W.heap.size W W1) => dget_none (hs.below hb) rfl A c (hl.below hb))
  have HP := Lib.hid (fun (W1 : World) (hb : Below W.heap.size W W1) => (dput_walk (hs.below hb) K25 false 0 5 13 true (by decide) (by decide) (by decide) (by decide) (by decide) (by decide) hq).mono fun e W' hp => (⟨hp.1, by rw [← L25_set]; exact hp.2.pre hb⟩ : e = .returned (.tuple #[]) ∧ LiveTo w W W' b F L25 (q + 1)))
  have HS0 := Lib.hid (settle0 10)
  have HS1 := Lib.hid (fun w => settle_stays false 0 5 13 10 w (by decide))
  have HKne := ba_nil (k := K25) (by decide)
  obtain ⟨kk, hkk⟩ : ∃ x, x = K25 := ⟨_, rfl⟩
  rw [← hkk] at HK HP HKne
  obtain ⟨LL, hLL⟩ : ∃ x, x = L25 := ⟨_, rfl⟩
  rw [← hLL] at HP ⊢
  clear hs hq hl hkk hLL
  unfold dv0 at HG HS0
  unfold dval at HP HS1
  go_enter Try.func57, Try.ntmps57
  go_wp2_with (first
    | (go_at_call 108; refine (HP.out _ (((((HB9.out.setCell HB8.out.size _).setCell HB8.out.size _).setCell HB8.out.size _).setCell HB8.out.size _).setCell HB8.out.size _)).mono ?_; rintro e w10 ⟨rfl, h10⟩; have H10 := Lib.hid h10; clear h10)
    | (go_at_call 107; have g8 := HB8; clear g8; with_reducible refine (HS1.out _).mono ?_; rintro e w9 ⟨rfl, hb9⟩; have ra := (hb9.block w7.heap.size (by simp; have := Z8.out; omega)).trans ((heap_alloc_old w8 (.cells #[.bool false, .int .i64 0, .int .i64 5, .int .i64 13, .bool true] 100) Z8.out).trans R8.out); have rb := (hb9.block w8.heap.size (by simp)).trans (heap_alloc_new w8 (.cells #[.bool false, .int .i64 0, .int .i64 5, .int .i64 13, .bool true] 100)); have a0 := (hp_cell (i := 0) ra).trans rfl; have b0 := (hp_cell (i := 0) rb).trans rfl; have g0 := hp_free (i := 0) rb; have a1 := (hp_cell (i := 1) ra).trans rfl; have b1 := (hp_cell (i := 1) rb).trans rfl; have g1 := hp_free (i := 1) rb; have a2 := (hp_cell (i := 2) ra).trans rfl; have b2 := (hp_cell (i := 2) rb).trans rfl; have g2 := hp_free (i := 2) rb; have a3 := (hp_cell (i := 3) ra).trans rfl; have b3 := (hp_cell (i := 3) rb).trans rfl; have g3 := hp_free (i := 3) rb; have a4 := (hp_cell (i := 4) ra).trans rfl; have b4 := (hp_cell (i := 4) rb).trans rfl; have g4 := hp_free (i := 4) rb; have hbg := HB8.out.alloc HB8.out.size (.cells #[.bool false, .int .i64 0, .int .i64 5, .int .i64 13, .bool true] 100); have HB9 := Lib.hid (hbg.trans (hb9.mono hbg.size)); have Z9 := hp_lt ra; have Y9 := hp_lt rb; have Z8' := Z8.out; clear hb9 hbg ra rb)
    | (go_at_call 107; with_reducible refine (HS0.out _).mono ?_; rintro e w8 ⟨rfl, hb8⟩; have hbg := HB7.out.alloc HB7.out.size (.cells #[.bool false, .int .i64 0, .int .i64 0, .int .i64 0, .bool false] 100); have HB8 := Lib.hid (hbg.trans (hb8.mono hbg.size)); have R8 := Lib.hid ((hb8.block w7.heap.size (by simp)).trans (heap_alloc_new w7 (.cells #[.bool false, .int .i64 0, .int .i64 0, .int .i64 0, .bool false] 100))); have Z8 := Lib.hid (hp_lt R8.out); clear hb8 hbg)
    | (go_at_call 59; refine (HG.out w6 HB6.out).mono ?_; rintro e w7 ⟨rfl, hb7⟩; have HB7 := Lib.hid (HB6.out.trans (hb7.mono HB6.out.size)); clear hb7)
    | (go_at_call 106; refine (dwithin_ok _ _ (by decide) (by decide)).mono ?_; rintro e w5 ⟨rfl, rfl⟩)
    | (go_at_call 60; refine HK.out.mono ?_; rintro e w6 ⟨rfl, hb6⟩; have HB6 := Lib.hid hb6; clear hb6)
    | (go_at_call 27; refine HM.out.mono ?_; rintro e w1 ⟨rfl, rfl⟩))
  go_ret
  exact ⟨rfl, H10.out⟩
theorem il7 (w : World) : Il (w.alloc (.cells #[.int .i64 7] 3)) (some ⟨w.heap.size, 0, none⟩) 1 (fun _ => 7) :=
  ⟨fun _ => by decide, fun _ => ⟨w.heap.size, 0, rfl, by simp, fun i hi => by obtain rfl : i = 0 := (by omega); exact (World.cell?_alloc_at _ _ _ _ rfl).trans rfl⟩⟩
theorem SNew.al {w W : World} {b : Nat} {F : List Nat} {L : SL} {q : Nat} {qs : List Value} (h : SNew w W b F L q qs) (o : Obj) : SNew w (W.alloc o) b F L q qs := h.below ((Below.refl _ _).alloc (Nat.le_refl _) o)
set_option maxRecDepth 100000 in
set_option maxHeartbeats 4000000 in
theorem lives28_walk (w : World) : Calls Try.prog 56 #[] w fun e w' => e = .returned (.bool true) ∧ Below w.heap.size w w' := by
  have H12 := Lib.hid (fun w => show Calls Try.prog 58 #[V25, .int .i64 12] w fun e w' => e = .returned (.tuple #[.int .i64 0, .bool false]) ∧ Below w.heap.size w w' from of_of false 0 5 13 true false 0 5 13 true 12 w fun w => settle_stays false 0 5 13 12 w (by decide))
  have H13 := Lib.hid (fun w => show Calls Try.prog 58 #[V25, .int .i64 13] w fun e w' => e = .returned (.tuple #[.int .i64 5, .bool true]) ∧ Below w.heap.size w w' from of_of false 0 5 13 true true 5 0 0 false 13 w fun w => settle_turns false 0 5 13 13 w (by decide))
  go_enter Try.func56, Try.ntmps56
  go_wp2_with (first
    | (go_at_call 58; have g5 := h5; clear g5; refine (H13.out _).mono ?_; rintro e w6 ⟨rfl, hb6⟩; have h6 := Lib.hid (h5.out.below hb6); clear hb6)
    | (go_at_call 59; have g5 := h4; clear g5; refine (dget_some (h4.out.al _) L25_get _ _ (il7 w4)).mono ?_; rintro e w5 ⟨rfl, hb5⟩; have h5 := Lib.hid ((h4.out.al _).below hb5); clear hb5)
    | (go_at_call 58; have g5 := h3; clear g5; refine (H12.out _).mono ?_; rintro e w4 ⟨rfl, hb4⟩; have h4 := Lib.hid (h3.out.below hb4); clear hb4)
    | (go_at_call 59; have g5 := h2; clear g5; refine (dget_some (h2.out.al _) L25_get _ _ (il7 w2)).mono ?_; rintro e w3 ⟨rfl, hb3⟩; have h3 := Lib.hid ((h2.out.al _).below hb3); clear hb3)
    | (go_at_call 57; refine (dset_walk (h1.out.al _) (by decide) _ _ (il7 w1)).mono ?_; rintro e w2 ⟨rfl, F2, q2, qs2, hs2, _, _, _⟩; have h2 := Lib.hid hs2; clear hs2)
    | (go_at_call 13; refine (SNew.new w _ (Below.refl _ _)).mono ?_; rintro e w1 ⟨b, F1, rfl, hs1, _, _⟩; have h1 := Lib.hid hs1; clear hs1))
  go_ret
  exact ⟨rfl, h6.out.l⟩
end Go.Proofs.Ytedkhpnlhkjjgaa
