/- roster: on a dead store; Is, Of, Register, Choose, Leave on a live one; lives of layer 21. -/
import Derived.Test.YtfoppgbbjmoofaaTW
namespace Go.Proofs.Ytfoppgbbjmoofaa
open Go.RowKit Go.Maps

set_option maxRecDepth 100000 in
theorem istok_c (t : Int) (w : World) (h1 : 1 ≤ t) (h2 : t ≤ 1000) : Calls Try.prog 32 #[.int .i64 t] w fun e w' => e = .returned (.bool true) ∧ w = w' := by
  go_enter Try.func32, Try.ntmps32
  go_wp2
  go_ret
  exact ⟨rfl, rfl⟩
set_option maxRecDepth 100000 in
theorem bgood_c (t a : Int) (w : World) (h1 : 1 ≤ t) (h2 : t ≤ 1000) (h3 : 1 ≤ a) (h4 : a ≤ 4294967295) : Calls Try.prog 25 #[.int .i64 t, .int .i64 a] w fun e w' => e = .returned (.bool true) ∧ w = w' := by
  have HT := Lib.hid (istok_c t w h1 h2)
  clear h1 h2
  go_enter Try.func25, Try.ntmps25
  go_wp2_with (go_at_call 32; refine HT.out.mono ?_; rintro e w1 ⟨rfl, rfl⟩)
  go_ret
  exact ⟨rfl, rfl⟩
/-! ### a dead store -/
set_option maxRecDepth 100000 in
set_option maxHeartbeats 400000 in
theorem reg_dead (p : Value) (a : Int) (w : World) (h : SDead w p) : Calls Try.prog 11 #[p, .int .i64 a] w fun e w' => e = .returned (.int .i64 1) ∧ w = w' := by
  have HM := Lib.hid (made_dead p w h)
  clear h
  go_enter Try.func11, Try.ntmps11
  go_wp2_with (go_at_call 40; refine HM.out.mono ?_; rintro e w1 ⟨rfl, rfl⟩)
  go_ret
  exact ⟨rfl, rfl⟩
set_option maxRecDepth 100000 in
set_option maxHeartbeats 400000 in
theorem choose_dead (p : Value) (a c : Int) (w : World) (h : SDead w p) : Calls Try.prog 12 #[p, .int .i64 a, .int .i64 c] w fun e w' => e = .returned (.int .i64 1) ∧ w = w' := by
  have HM := Lib.hid (made_dead p w h)
  clear h
  go_enter Try.func12, Try.ntmps12
  go_wp2_with (go_at_call 40; refine HM.out.mono ?_; rintro e w1 ⟨rfl, rfl⟩)
  go_ret
  exact ⟨rfl, rfl⟩
set_option maxRecDepth 100000 in
set_option maxHeartbeats 400000 in
theorem leave_dead (p : Value) (a : Int) (w : World) (h : SDead w p) : Calls Try.prog 13 #[p, .int .i64 a] w fun e w' => e = .returned (.int .i64 1) ∧ w = w' := by
  have HM := Lib.hid (made_dead p w h)
  clear h
  go_enter Try.func13, Try.ntmps13
  go_wp2_with (go_at_call 40; refine HM.out.mono ?_; rintro e w1 ⟨rfl, rfl⟩)
  go_ret
  exact ⟨rfl, rfl⟩
set_option maxRecDepth 100000 in
set_option maxHeartbeats 400000 in
theorem ris_dead (p : Value) (a : Int) (w : World) (h : SDead w p) (ha : a < 2 ^ 63) : Calls Try.prog 14 #[p, .int .i64 a] w fun e w' => e = .returned (.bool false) ∧ Below w.heap.size w w' := by
  have HK := Lib.hid (key_some 8 (some ⟨w.heap.size, 0, none⟩) 1 1 (fun _ => a) _ (il1 a w 3 ha) (by omega))
  have HB0 := Lib.hid ((Below.refl w.heap.size w).alloc (Nat.le_refl _) (.cells #[.int .i64 a] 3))
  have HD := Lib.hid h
  clear h ha
  go_enter Try.func14, Try.ntmps14
  go_wp2_with (first
    | (go_at_call 44; refine (cint_dead p K w1 (HD.out.below HB1.out)).mono ?_; rintro e w2 ⟨rfl, hb2⟩; have HB2 := Lib.hid (HB1.out.trans (hb2.mono HB1.out.size)); clear hb2)
    | (go_at_call 36; refine HK.out.mono ?_; rintro e w1 ⟨⟨K, rfl, _⟩, hb1⟩; have HB1 := Lib.hid (HB0.out.trans (hb1.mono HB0.out.size)); clear hb1))
  go_ret
  exact ⟨rfl, HB2.out⟩
set_option maxRecDepth 100000 in
set_option maxHeartbeats 400000 in
theorem rof_dead (p : Value) (a : Int) (w : World) (h : SDead w p) (ha : a < 2 ^ 63) : Calls Try.prog 15 #[p, .int .i64 a] w fun e w' => e = .returned (.int .i64 0) ∧ Below w.heap.size w w' := by
  have HK := Lib.hid (key_some 9 (some ⟨w.heap.size, 0, none⟩) 1 1 (fun _ => a) _ (il1 a w 3 ha) (by omega))
  have HB0 := Lib.hid ((Below.refl w.heap.size w).alloc (Nat.le_refl _) (.cells #[.int .i64 a] 3))
  have HD := Lib.hid h
  clear h ha
  go_enter Try.func15, Try.ntmps15
  go_wp2_with (first
    | (go_at_call 44; refine (cint_dead p K w1 (HD.out.below HB1.out)).mono ?_; rintro e w2 ⟨rfl, hb2⟩; have HB2 := Lib.hid (HB1.out.trans (hb2.mono HB1.out.size)); clear hb2)
    | (go_at_call 36; refine HK.out.mono ?_; rintro e w1 ⟨⟨K, rfl, _⟩, hb1⟩; have HB1 := Lib.hid (HB0.out.trans (hb1.mono HB0.out.size)); clear hb1))
  go_ret
  exact ⟨rfl, HB2.out⟩
/-! ### a live store -/
set_option maxRecDepth 100000 in
set_option maxHeartbeats 400000 in
theorem ris_live {w W : World} {b : Nat} {F : List Nat} {L : SL} {q : Nat} {qs : List Value} (h : SNew w W b F L q qs) (a : Int) (K : ByteArray) (hK : keyStr 8 (fun _ => a) 1 = K) (ha : a < 2 ^ 63) (hk : K.size ≤ maxLen) (n : Nat) (he : intAt L K n) (hn : n < 2 ^ 63) :
    Calls Try.prog 14 #[.pointer (some ⟨b, 0, none⟩), .int .i64 a] W fun e W' => e = .returned (.bool (decide (n = 1))) ∧ Below W.heap.size W W' := by
  have HK := Lib.hid (key_is 8 (some ⟨W.heap.size, 0, none⟩) 1 1 (fun _ => a) K hK _ (il1 a W 3 ha) (by omega))
  have HB0 := Lib.hid ((Below.refl W.heap.size W).alloc (Nat.le_refl _) (.cells #[.int .i64 a] 3))
  have HI := Lib.hid (fun (W1 : World) (hb : Below W.heap.size W W1) => cint_at (h.below hb) K n hk he hn)
  clear h hK ha hk he hn
  by_cases h1 : n = 1
  · subst h1
    go_enter Try.func14, Try.ntmps14
    go_wp2_with (first
      | (go_at_call 44; refine (HI.out w1 HB1.out).mono ?_; rintro e w2 ⟨rfl, hb2⟩; have HB2 := Lib.hid (HB1.out.trans (hb2.mono HB1.out.size)); clear hb2)
      | (go_at_call 36; refine HK.out.mono ?_; rintro e w1 ⟨rfl, hb1⟩; have HB1 := Lib.hid (HB0.out.trans (hb1.mono HB0.out.size)); clear hb1))
    go_ret
    exact ⟨rfl, HB2.out⟩
  · rw [decide_eq_false h1]
    have p1 : ((n : Int) == 1) = false := by rw [beq_eq_false_iff_ne]; omega
    go_enter Try.func14, Try.ntmps14
    go_wp2_with (first
      | (go_at_call 44; refine (HI.out w1 HB1.out).mono ?_; rintro e w2 ⟨rfl, hb2⟩; have HB2 := Lib.hid (HB1.out.trans (hb2.mono HB1.out.size)); clear hb2)
      | (go_at_call 36; refine HK.out.mono ?_; rintro e w1 ⟨rfl, hb1⟩; have HB1 := Lib.hid (HB0.out.trans (hb1.mono HB0.out.size)); clear hb1))
    go_ret
    exact ⟨rfl, HB2.out⟩
set_option maxRecDepth 100000 in
set_option maxHeartbeats 400000 in
theorem rof_live {w W : World} {b : Nat} {F : List Nat} {L : SL} {q : Nat} {qs : List Value} (h : SNew w W b F L q qs) (a : Int) (K : ByteArray) (hK : keyStr 9 (fun _ => a) 1 = K) (ha : a < 2 ^ 63) (hk : K.size ≤ maxLen) (n : Nat) (he : intAt L K n) (hn : n < 2 ^ 63) :
    Calls Try.prog 15 #[.pointer (some ⟨b, 0, none⟩), .int .i64 a] W fun e W' => e = .returned (.int .i64 (n : Nat)) ∧ Below W.heap.size W W' := by
  have HK := Lib.hid (key_is 9 (some ⟨W.heap.size, 0, none⟩) 1 1 (fun _ => a) K hK _ (il1 a W 3 ha) (by omega))
  have HB0 := Lib.hid ((Below.refl W.heap.size W).alloc (Nat.le_refl _) (.cells #[.int .i64 a] 3))
  have HI := Lib.hid (fun (W1 : World) (hb : Below W.heap.size W W1) => cint_at (h.below hb) K n hk he hn)
  clear h hK ha hk he hn
  go_enter Try.func15, Try.ntmps15
  go_wp2_with (first
    | (go_at_call 44; refine (HI.out w1 HB1.out).mono ?_; rintro e w2 ⟨rfl, hb2⟩; have HB2 := Lib.hid (HB1.out.trans (hb2.mono HB1.out.size)); clear hb2)
    | (go_at_call 36; refine HK.out.mono ?_; rintro e w1 ⟨rfl, hb1⟩; have HB1 := Lib.hid (HB0.out.trans (hb1.mono HB0.out.size)); clear hb1))
  go_ret
  exact ⟨rfl, HB2.out⟩
set_option maxRecDepth 100000 in
set_option maxHeartbeats 2000000 in
theorem reg_live {w W : World} {b : Nat} {F : List Nat} {L : SL} {q : Nat} {qs : List Value} (h : SNew w W b F L q qs) (a : Nat) (K8 K9 : ByteArray) (hK8 : keyStr 8 (fun _ => (a : Int)) 1 = K8) (hK9 : keyStr 9 (fun _ => (a : Int)) 1 = K9) (ha1 : 1 ≤ a) (ha2 : a ≤ 4294967295)
    (h8 : intAt L K8 0) (h9 : intAt L K9 0) (hk8 : K8.size ≤ maxLen) (hk9 : K9.size ≤ maxLen) (hn8 : K8 ≠ ⟨#[]⟩) (hn9 : K9 ≠ ⟨#[]⟩) (hN : (setL L K8 (numStr 1)).length < 128) (hN0 : L.length < 128) (hq : q + 2 < 1000000) :
    Calls Try.prog 11 #[.pointer (some ⟨b, 0, none⟩), .int .i64 (a : Nat)] W fun e W' => e = .returned (.int .i64 0) ∧ LiveTo w W W' b F (setL (setL L K8 (numStr 1)) K9 (numStr (a : Int))) (q + 2) := by
  have H0 := Lib.hid h.start
  have HM := Lib.hid (made_live b F L q qs W h.s)
  have HG := Lib.hid (fun w => bgood_c 1 (a : Int) w (by decide) (by decide) (by omega) (by omega))
  have HI := Lib.hid (fun (W1 : World) (hl : LiveTo w W W1 b F L q) => hl.read (fun F1 qa qsa hs _ => ris_live hs (a : Int) K8 hK8 (by omega) hk8 0 h8 (by decide)))
  have HO := Lib.hid (fun (W1 : World) (hl : LiveTo w W W1 b F L q) => hl.read (fun F1 qa qsa hs _ => rof_live hs (a : Int) K9 hK9 (by omega) hk9 0 h9 (by decide)))
  have HK8 := Lib.hid (fun (W1 : World) => key_is 8 (some ⟨W1.heap.size, 0, none⟩) 1 1 (fun _ => (a : Int)) K8 hK8 _ (il1 (a : Int) W1 3 (by omega)) (by omega))
  have HK9 := Lib.hid (fun (W1 : World) => key_is 9 (some ⟨W1.heap.size, 0, none⟩) 1 1 (fun _ => (a : Int)) K9 hK9 _ (il1 (a : Int) W1 3 (by omega)) (by omega))
  have HS8 := Lib.hid (fun (W1 : World) (hl : LiveTo w W W1 b F L q) => hl.seq 1 (fun F1 qa qsa hs hqa => csetInt_set hs K8 1 hk8 hn8 (by decide) (by decide) hN0 (by omega)))
  have HS9 := Lib.hid (fun (W1 : World) (hl : LiveTo w W W1 b F (setL L K8 (numStr 1)) (q + 1)) => hl.seq 1 (fun F1 qa qsa hs hqa => csetInt_set hs K9 (a : Int) hk9 hn9 (by omega) (by omega) hN (by omega)))
  clear h hK8 hK9 ha1 ha2 h8 h9 hk8 hk9 hn8 hn9 hN hN0 hq
  go_enter Try.func11, Try.ntmps11
  go_wp2_with (first
    | (go_at_call 43; have g5 := H6; clear g5; refine (HS9.out _ H6.out).mono ?_; rintro e w7 ⟨rfl, h7⟩; have H7 := Lib.hid h7; clear h7)
    | (go_at_call 36; have g5 := H5; clear g5; refine (HK9.out _).mono ?_; rintro e w6 ⟨rfl, hb6⟩; have H6 := Lib.hid ((H5.out.al _).post hb6); clear hb6)
    | (go_at_call 43; refine (HS8.out _ H4.out).mono ?_; rintro e w5 ⟨rfl, h5⟩; have H5 := Lib.hid h5; clear h5)
    | (go_at_call 36; refine (HK8.out _).mono ?_; rintro e w4 ⟨rfl, hb4⟩; have H4 := Lib.hid ((H3.out.al _).post hb4); clear hb4)
    | (go_at_call 15; refine (HO.out _ H2.out).mono ?_; rintro e w3 ⟨rfl, h3, _⟩; have H3 := Lib.hid h3; clear h3)
    | (go_at_call 14; refine (HI.out _ H0.out).mono ?_; rintro e w2 ⟨rfl, h2, _⟩; have H2 := Lib.hid h2; clear h2)
    | (go_at_call 25; refine (HG.out _).mono ?_; rintro e w1 ⟨rfl, rfl⟩)
    | (go_at_call 40; refine HM.out.mono ?_; rintro e w1 ⟨rfl, rfl⟩))
  go_ret
  exact ⟨rfl, H7.out⟩
set_option maxRecDepth 100000 in
set_option maxHeartbeats 2000000 in
theorem choose_live {w W : World} {b : Nat} {F : List Nat} {L : SL} {q : Nat} {qs : List Value} (h : SNew w W b F L q qs) (a o : Nat) (K8 K9 : ByteArray) (hK8 : keyStr 8 (fun _ => (o : Int)) 1 = K8) (hK9 : keyStr 9 (fun _ => (a : Int)) 1 = K9) (ha1 : 1 ≤ a) (ha2 : a ≤ 4294967295) (ho1 : 1 ≤ o) (ho2 : o ≤ 4294967295)
    (h8 : intAt L K8 1) (h9 : intAt L K9 0) (hk8 : K8.size ≤ maxLen) (hk9 : K9.size ≤ maxLen) (hn9 : K9 ≠ ⟨#[]⟩) (hN0 : L.length < 128) (hq : q + 2 < 1000000) :
    Calls Try.prog 12 #[.pointer (some ⟨b, 0, none⟩), .int .i64 (a : Nat), .int .i64 (o : Nat)] W fun e W' => e = .returned (.int .i64 0) ∧ LiveTo w W W' b F (setL L K9 (numStr (o : Int))) (q + 1) := by
  have H0 := Lib.hid h.start
  have HM := Lib.hid (made_live b F L q qs W h.s)
  have HG := Lib.hid (fun w => bgood_c 1 (a : Int) w (by decide) (by decide) (by omega) (by omega))
  have HI := Lib.hid (fun (W1 : World) (hl : LiveTo w W W1 b F L q) => hl.read (fun F1 qa qsa hs _ => ris_live hs (o : Int) K8 hK8 (by omega) hk8 1 h8 (by decide)))
  have HO := Lib.hid (fun (W1 : World) (hl : LiveTo w W W1 b F L q) => hl.read (fun F1 qa qsa hs _ => rof_live hs (a : Int) K9 hK9 (by omega) hk9 0 h9 (by decide)))
  have HK9 := Lib.hid (fun (W1 : World) => key_is 9 (some ⟨W1.heap.size, 0, none⟩) 1 1 (fun _ => (a : Int)) K9 hK9 _ (il1 (a : Int) W1 3 (by omega)) (by omega))
  have HS9 := Lib.hid (fun (W1 : World) (hl : LiveTo w W W1 b F L q) => hl.seq 1 (fun F1 qa qsa hs hqa => csetInt_set hs K9 (o : Int) hk9 hn9 (by omega) (by omega) hN0 (by omega)))
  clear h hK8 hK9 ha1 ha2 ho1 ho2 h8 h9 hk8 hk9 hn9 hN0 hq
  go_enter Try.func12, Try.ntmps12
  go_wp2_with (first
    | (go_at_call 43; refine (HS9.out _ H4.out).mono ?_; rintro e w5 ⟨rfl, h5⟩; have H5 := Lib.hid h5; clear h5)
    | (go_at_call 36; refine (HK9.out _).mono ?_; rintro e w4 ⟨rfl, hb4⟩; have H4 := Lib.hid ((H3.out.al _).post hb4); clear hb4)
    | (go_at_call 15; refine (HO.out _ H2.out).mono ?_; rintro e w3 ⟨rfl, h3, _⟩; have H3 := Lib.hid h3; clear h3)
    | (go_at_call 14; refine (HI.out _ H0.out).mono ?_; rintro e w2 ⟨rfl, h2, _⟩; have H2 := Lib.hid h2; clear h2)
    | (go_at_call 25; refine (HG.out _).mono ?_; rintro e w1 ⟨rfl, rfl⟩)
    | (go_at_call 40; refine HM.out.mono ?_; rintro e w1 ⟨rfl, rfl⟩))
  go_ret
  exact ⟨rfl, H5.out⟩
set_option maxRecDepth 100000 in
set_option maxHeartbeats 2000000 in
theorem leave_live {w W : World} {b : Nat} {F : List Nat} {L : SL} {q : Nat} {qs : List Value} (h : SNew w W b F L q qs) (a n : Nat) (K8 K9 : ByteArray) (hK8 : keyStr 8 (fun _ => (a : Int)) 1 = K8) (hK9 : keyStr 9 (fun _ => (a : Int)) 1 = K9) (ha2 : a ≤ 4294967295) (hn1 : 1 ≤ n) (hn2 : n < 2 ^ 63)
    (h8 : intAt L K8 0) (h9 : intAt L K9 n) (hk8 : K8.size ≤ maxLen) (hk9 : K9.size ≤ maxLen) (hN0 : L.length < 128) (hq : q + 2 < 1000000) :
    Calls Try.prog 13 #[.pointer (some ⟨b, 0, none⟩), .int .i64 (a : Nat)] W fun e W' => e = .returned (.int .i64 0) ∧ LiveTo w W W' b F (sdel L K9) (q + 1) := by
  have H0 := Lib.hid h.start
  have HM := Lib.hid (made_live b F L q qs W h.s)
  have HI := Lib.hid (fun (W1 : World) (hl : LiveTo w W W1 b F L q) => hl.read (fun F1 qa qsa hs _ => ris_live hs (a : Int) K8 hK8 (by omega) hk8 0 h8 (by decide)))
  have HO := Lib.hid (fun (W1 : World) (hl : LiveTo w W W1 b F L q) => hl.read (fun F1 qa qsa hs _ => rof_live hs (a : Int) K9 hK9 (by omega) hk9 n h9 hn2))
  have HK9 := Lib.hid (fun (W1 : World) => key_is 9 (some ⟨W1.heap.size, 0, none⟩) 1 1 (fun _ => (a : Int)) K9 hK9 _ (il1 (a : Int) W1 3 (by omega)) (by omega))
  have HS9 := Lib.hid (fun (W1 : World) (hl : LiveTo w W W1 b F L q) => hl.seq 1 (fun F1 qa qsa hs hqa => csetInt_del hs K9 0 hk9 (by decide) (by omega) (by omega)))
  have p1 : ¬ (n : Int) = 0 := by omega
  clear h hK8 hK9 ha2 hn1 hn2 h8 h9 hk8 hk9 hN0 hq
  go_enter Try.func13, Try.ntmps13
  go_wp2_with (first
    | (go_at_call 43; refine (HS9.out _ H4.out).mono ?_; rintro e w5 ⟨rfl, h5⟩; have H5 := Lib.hid h5; clear h5)
    | (go_at_call 36; refine (HK9.out _).mono ?_; rintro e w4 ⟨rfl, hb4⟩; have H4 := Lib.hid ((H3.out.al _).post hb4); clear hb4)
    | (go_at_call 14; refine (HI.out _ H2.out).mono ?_; rintro e w3 ⟨rfl, h3, _⟩; have H3 := Lib.hid h3; clear h3)
    | (go_at_call 15; refine (HO.out _ H0.out).mono ?_; rintro e w2 ⟨rfl, h2, _⟩; have H2 := Lib.hid h2; clear h2)
    | (go_at_call 40; refine HM.out.mono ?_; rintro e w1 ⟨rfl, rfl⟩))
  go_ret
  exact ⟨rfl, H5.out⟩
set_option maxRecDepth 100000 in
set_option maxHeartbeats 2000000 in
theorem leave_op {w W : World} {b : Nat} {F : List Nat} {L : SL} {q : Nat} {qs : List Value} (h : SNew w W b F L q qs) (a n : Nat) (K8 K9 : ByteArray) (hK8 : keyStr 8 (fun _ => (a : Int)) 1 = K8) (hK9 : keyStr 9 (fun _ => (a : Int)) 1 = K9) (ha2 : a ≤ 4294967295) (hn1 : 1 ≤ n) (hn2 : n < 2 ^ 63)
    (h8 : intAt L K8 1) (h9 : intAt L K9 n) (hk8 : K8.size ≤ maxLen) (hk9 : K9.size ≤ maxLen) :
    Calls Try.prog 13 #[.pointer (some ⟨b, 0, none⟩), .int .i64 (a : Nat)] W fun e W' => e = .returned (.int .i64 10) ∧ Below W.heap.size W W' := by
  have H0 := Lib.hid (And.intro h.start (Below.refl W.heap.size W))
  have HM := Lib.hid (made_live b F L q qs W h.s)
  have HI := Lib.hid (fun (W1 : World) (hl : LiveTo w W W1 b F L q) => hl.read (fun F1 qa qsa hs _ => ris_live hs (a : Int) K8 hK8 (by omega) hk8 1 h8 (by decide)))
  have HO := Lib.hid (fun (W1 : World) (hl : LiveTo w W W1 b F L q) => hl.read (fun F1 qa qsa hs _ => rof_live hs (a : Int) K9 hK9 (by omega) hk9 n h9 hn2))
  have p1 : ¬ (n : Int) = 0 := by omega
  clear h hK8 hK9 ha2 hn1 hn2 h8 h9 hk8 hk9
  go_enter Try.func13, Try.ntmps13
  go_wp2_with (first
    | (go_at_call 14; refine (HI.out _ H2.out.1).mono ?_; rintro e w3 ⟨rfl, h3, hb3⟩; have H3 := Lib.hid (H2.out.2.trans (hb3.mono H2.out.2.size)); clear h3 hb3)
    | (go_at_call 15; refine (HO.out _ H0.out.1).mono ?_; rintro e w2 ⟨rfl, h2, hb2⟩; have H2 := Lib.hid (And.intro h2 hb2); clear h2 hb2)
    | (go_at_call 40; refine HM.out.mono ?_; rintro e w1 ⟨rfl, rfl⟩))
  go_ret
  exact ⟨rfl, H3.out⟩
/-! ### the document's example -/
def K87 : ByteArray := ⟨#[8, 0, 0, 0, 0, 0, 0, 0, 7]⟩
def K97 : ByteArray := ⟨#[9, 0, 0, 0, 0, 0, 0, 0, 7]⟩
def K88 : ByteArray := ⟨#[8, 0, 0, 0, 0, 0, 0, 0, 8]⟩
def K98 : ByteArray := ⟨#[9, 0, 0, 0, 0, 0, 0, 0, 8]⟩
def R1 : SL := setL (setL [] K87 (numStr 1)) K97 (numStr ((7 : Nat) : Int))
def R2 : SL := setL R1 K98 (numStr ((7 : Nat) : Int))
def R3 : SL := sdel R2 K98
theorem key87 : keyStr 8 (fun _ => ((7 : Nat) : Int)) 1 = K87 := by decide +kernel
theorem key97 : keyStr 9 (fun _ => ((7 : Nat) : Int)) 1 = K97 := by decide +kernel
theorem key88 : keyStr 8 (fun _ => ((8 : Nat) : Int)) 1 = K88 := by decide +kernel
theorem key98 : keyStr 9 (fun _ => ((8 : Nat) : Int)) 1 = K98 := by decide +kernel
theorem R1a : intAt R1 K87 1 := .inr (by decide +kernel)
theorem R1b : intAt R1 K98 0 := .inl ⟨rfl, by decide +kernel⟩
theorem R2a : intAt R2 K88 0 := .inl ⟨rfl, by decide +kernel⟩
theorem R2b : intAt R2 K98 7 := .inr (by decide +kernel)
theorem R3a : intAt R3 K87 1 := .inr (by decide +kernel)
theorem R3b : intAt R3 K97 7 := .inr (by decide +kernel)
set_option maxRecDepth 100000 in
set_option maxHeartbeats 4000000 in
theorem lives21_walk (w : World) : Calls Try.prog 18 #[] w fun e w' => e = .returned (.bool true) ∧ Below w.heap.size w w' := by
  have D1 := Lib.hid (fun (W W1 : World) (b : Nat) (F : List Nat) (hl : LiveTo w W W1 b F [] 0) => hl.seq 2 (fun F1 qa qsa hs hqa => reg_live hs 7 K87 K97 key87 key97 (by decide) (by decide) (.inl ⟨rfl, rfl⟩) (.inl ⟨rfl, rfl⟩) (by decide) (by decide) (by decide) (by decide) (by decide +kernel) (by decide) (by omega)))
  have D2 := Lib.hid (fun (W W1 : World) (b : Nat) (F : List Nat) (hl : LiveTo w W W1 b F R1 2) => hl.seq 1 (fun F1 qa qsa hs hqa => choose_live hs 8 7 K87 K98 key87 key98 (by decide) (by decide) (by decide) (by decide) R1a R1b (by decide) (by decide) (by decide) (by decide +kernel) (by omega)))
  have D3 := Lib.hid (fun (W W1 : World) (b : Nat) (F : List Nat) (hl : LiveTo w W W1 b F R2 3) => hl.seq 1 (fun F1 qa qsa hs hqa => leave_live hs 8 7 K88 K98 key88 key98 (by decide) (by decide) (by decide) R2a R2b (by decide) (by decide) (by decide +kernel) (by omega)))
  have D4 := Lib.hid (fun (W W1 : World) (b : Nat) (F : List Nat) (hl : LiveTo w W W1 b F R3 4) => hl.read (fun F1 qa qsa hs hqa => rof_live hs 7 K97 key97 (by decide) (by decide) 7 R3b (by decide)))
  have D5 := Lib.hid (fun (W W1 : World) (b : Nat) (F : List Nat) (hl : LiveTo w W W1 b F R3 4) => hl.read (fun F1 qa qsa hs hqa => leave_op hs 7 7 K87 K97 key87 key97 (by decide) (by decide) (by decide) R3a R3b (by decide) (by decide)))
  obtain ⟨r1, e1⟩ : ∃ x, x = R1 := ⟨_, rfl⟩
  obtain ⟨r2, e2⟩ : ∃ x, x = R2 := ⟨_, rfl⟩
  obtain ⟨r3, e3⟩ : ∃ x, x = R3 := ⟨_, rfl⟩
  change Hid (∀ (W W1 : World) (b : Nat) (F : List Nat) (hl : LiveTo w W W1 b F [] 0), Calls Try.prog 11 #[.pointer (some ⟨b, 0, none⟩), .int .i64 ((7 : Nat) : Int)] W1 fun e W2 => e = .returned (.int .i64 0) ∧ LiveTo w W W2 b F R1 (0 + 2)) at D1
  change Hid (∀ (W W1 : World) (b : Nat) (F : List Nat) (hl : LiveTo w W W1 b F R1 2), Calls Try.prog 12 #[.pointer (some ⟨b, 0, none⟩), .int .i64 ((8 : Nat) : Int), .int .i64 ((7 : Nat) : Int)] W1 fun e W2 => e = .returned (.int .i64 0) ∧ LiveTo w W W2 b F R2 (2 + 1)) at D2
  change Hid (∀ (W W1 : World) (b : Nat) (F : List Nat) (hl : LiveTo w W W1 b F R2 3), Calls Try.prog 13 #[.pointer (some ⟨b, 0, none⟩), .int .i64 ((8 : Nat) : Int)] W1 fun e W2 => e = .returned (.int .i64 0) ∧ LiveTo w W W2 b F R3 (3 + 1)) at D3
  rw [← e1] at D1 D2
  rw [← e2] at D2 D3
  rw [← e3] at D3 D4 D5
  clear e1 e2 e3
  go_enter Try.func18, Try.ntmps18
  go_wp2_with (first
    | (go_at_call 13; have g5 := h5; clear g5; refine (D5.out _ _ _ _ h5.out).mono ?_; rintro e w6 ⟨rfl, hs6, _⟩; have h6 := Lib.hid hs6; clear hs6)
    | (go_at_call 15; refine (D4.out _ _ _ _ h4.out).mono ?_; rintro e w5 ⟨rfl, hs5, _⟩; have h5 := Lib.hid hs5; clear hs5)
    | (go_at_call 13; refine (D3.out _ _ _ _ h3.out).mono ?_; rintro e w4 ⟨rfl, hs4⟩; have h4 := Lib.hid hs4; clear hs4)
    | (go_at_call 12; refine (D2.out _ _ _ _ h2.out).mono ?_; rintro e w3 ⟨rfl, hs3⟩; have h3 := Lib.hid hs3; clear hs3)
    | (go_at_call 11; refine (D1.out _ _ _ _ h1.out.start).mono ?_; rintro e w2 ⟨rfl, hs2⟩; have h2 := Lib.hid hs2; clear hs2)
    | (go_at_call 41; refine (SNew.new w _ (Below.refl _ _)).mono ?_; rintro e w1 ⟨b, F1, rfl, hs1, _, _⟩; have h1 := Lib.hid hs1; clear hs1))
  go_ret
  exact ⟨rfl, h6.out.l⟩
end Go.Proofs.Ytfoppgbbjmoofaa
