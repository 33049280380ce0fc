/- service and the document's (tallageref26): Is, Register. -/
import Derived.Test.YtoaepgiajooecaaGreatG33
namespace Go.Proofs.YtoaepgiajooecaaGreat
open Go.RowKit Go.Maps Go.Sort

set_option maxRecDepth 100000 in
set_option maxHeartbeats 400000 in
theorem ris26_at (w W : World) (m : Nat) (L : SL) (R : List Ch) (a : Int) (K : ByteArray) (n : Nat) (h : DS w W m L R) (hK : keyStr 21 (fun _ => a) 1 = K) (ha : a < 2 ^ 63) (hr : Rising (skeys L)) (hN : L.length ≤ 1000000) (he : intAt L K n) (hn : n < 2 ^ 63) :
    Calls Tryz.prog 23 #[.pointer (some ⟨m, 0, none⟩), .int .i64 a] W fun e W' => e = .returned (.bool (decide (n = 1))) ∧ Below W.heap.size W W' := by
  have hk := rkey9_walk 21 (some ⟨W.heap.size, 0, none⟩) 1 1 (fun _ => a) _ (il1 a W 3 ha) (by omega)
  unfold KeyPost at hk
  rw [hK] at hk
  have HK := Lib.hid hk
  have HB0 := Lib.hid ((Below.refl W.heap.size W).alloc (Nat.le_refl _) (.cells #[.int .i64 a] 3))
  have HI := Lib.hid (fun (W1 : World) (hb : Below W.heap.size W W1) => rint_walk w W1 m L R K n (h.below hb) hr hN he hn)
  clear h hK ha hr hN he hn hk
  by_cases h1 : n = 1
  · subst h1
    go_enter Tryz.func23, Tryz.ntmps23
    go_wp2_with (first
      | (go_at_call 49; refine (HI.out w1 HB1.out).mono ?_; rintro e w2 ⟨rfl, hb2⟩; have HB2 := Lib.hid (HB1.out.trans (hb2.mono HB1.out.size)); clear hb2)
      | (go_at_call 43; refine HK.out.mono ?_; rintro e w1 ⟨rfl, hb1⟩; have HB1 := Lib.hid (HB0.out.trans (hb1.mono HB0.out.size)); clear hb1))
    go_ret
    exact ⟨rfl, HB2.out⟩
  · rw [decide_eq_false h1]
    have p1 : ((n : Int) == 1) = false := by rw [beq_eq_false_iff_ne]; omega
    go_enter Tryz.func23, Tryz.ntmps23
    go_wp2_with (first
      | (go_at_call 49; refine (HI.out w1 HB1.out).mono ?_; rintro e w2 ⟨rfl, hb2⟩; have HB2 := Lib.hid (HB1.out.trans (hb2.mono HB1.out.size)); clear hb2)
      | (go_at_call 43; refine HK.out.mono ?_; rintro e w1 ⟨rfl, hb1⟩; have HB1 := Lib.hid (HB0.out.trans (hb1.mono HB0.out.size)); clear hb1))
    go_ret
    exact ⟨rfl, HB2.out⟩
set_option maxRecDepth 100000 in
set_option maxHeartbeats 400000 in
theorem sis_live {w W : World} {b : Nat} {F : List Nat} {L : SL} {q : Nat} {qs : List Value} (h : SNew w W b F L q qs) (a : Int) (K : ByteArray) (hK : keyStr 21 (fun _ => a) 1 = K) (ha : a < 2 ^ 63) (hk : K.size ≤ maxLen) (n : Nat) (he : intAt L K n) (hn : n < 2 ^ 63) :
    Calls Tryz.prog 44 #[.pointer (some ⟨b, 0, none⟩), .int .i64 a] W fun e W' => e = .returned (.bool (decide (n = 1))) ∧ Below W.heap.size W W' := by
  have HK := Lib.hid (key_is 21 (some ⟨W.heap.size, 0, none⟩) 1 1 (fun _ => a) K hK _ (il1 a W 3 ha) (by omega))
  have HB0 := Lib.hid ((Below.refl W.heap.size W).alloc (Nat.le_refl _) (.cells #[.int .i64 a] 3))
  have HI := Lib.hid (fun (W1 : World) (hb : Below W.heap.size W W1) => cint_at (h.below hb) K n hk he hn)
  clear h hK ha hk he hn
  by_cases h1 : n = 1
  · subst h1
    go_enter Tryz.func44, Tryz.ntmps44
    go_wp2_with (first
      | (go_at_call 63; refine (HI.out w1 HB1.out).mono ?_; rintro e w2 ⟨rfl, hb2⟩; have HB2 := Lib.hid (HB1.out.trans (hb2.mono HB1.out.size)); clear hb2)
      | (go_at_call 39; refine HK.out.mono ?_; rintro e w1 ⟨rfl, hb1⟩; have HB1 := Lib.hid (HB0.out.trans (hb1.mono HB0.out.size)); clear hb1))
    go_ret
    exact ⟨rfl, HB2.out⟩
  · rw [decide_eq_false h1]
    have p1 : ((n : Int) == 1) = false := by rw [beq_eq_false_iff_ne]; omega
    go_enter Tryz.func44, Tryz.ntmps44
    go_wp2_with (first
      | (go_at_call 63; refine (HI.out w1 HB1.out).mono ?_; rintro e w2 ⟨rfl, hb2⟩; have HB2 := Lib.hid (HB1.out.trans (hb2.mono HB1.out.size)); clear hb2)
      | (go_at_call 39; refine HK.out.mono ?_; rintro e w1 ⟨rfl, hb1⟩; have HB1 := Lib.hid (HB0.out.trans (hb1.mono HB0.out.size)); clear hb1))
    go_ret
    exact ⟨rfl, HB2.out⟩
set_option maxRecDepth 100000 in
set_option maxHeartbeats 2000000 in
theorem sreg_live {w W : World} {b : Nat} {F : List Nat} {L : SL} {q : Nat} {qs : List Value} (h : SNew w W b F L q qs) (a : Nat) (K : ByteArray) (hK : keyStr 21 (fun _ => (a : Int)) 1 = K) (ha1 : 1 ≤ a) (ha2 : a ≤ 4294967295) (h8 : intAt L K 0) (hk : K.size ≤ maxLen) (hn8 : K ≠ ⟨#[]⟩) (hN0 : L.length < 1000000) (hq : q + 1 < 1000000) :
    Calls Tryz.prog 16 #[.pointer (some ⟨b, 0, none⟩), .int .i64 (a : Nat)] W fun e W' => e = .returned (.int .i64 0) ∧ LiveTo w W W' b F (setL L K (numStr 1)) (q + 1) := by
  have HM := Lib.hid (made_live b F L q qs W h.s)
  have HG := Lib.hid (fun w => bgood_c 1 (a : Int) w (by decide) (by decide) (by omega) (by omega))
  have HI := Lib.hid (sis_live h (a : Int) K hK (by omega) hk 0 h8 (by decide))
  have HK := Lib.hid (fun (W1 : World) => key_is 21 (some ⟨W1.heap.size, 0, none⟩) 1 1 (fun _ => (a : Int)) K hK _ (il1 (a : Int) W1 3 (by omega)) (by omega))
  have HS := Lib.hid (fun (W1 : World) (hb : Below W.heap.size W W1) => (csetInt_set (h.below hb) K 1 hk hn8 (by decide) (by decide) hN0 (by omega)).mono fun e W' hp => (⟨hp.1, hp.2.pre hb⟩ : e = .returned (.tuple #[]) ∧ LiveTo w W W' b F (setL L K (numStr 1)) (q + 1)))
  obtain ⟨L1, eL1⟩ : ∃ z, z = setL L K (numStr 1) := ⟨_, rfl⟩
  rw [← eL1] at HS ⊢
  clear h hK ha1 ha2 h8 hk hn8 hN0 hq eL1
  go_enter Tryz.func16, Tryz.ntmps16
  go_wp2_with (first
    | (go_at_call 38; refine (HS.out _ H4.out).mono ?_; rintro e w5 ⟨rfl, h5⟩; have H5 := Lib.hid h5; clear h5)
    | (go_at_call 39; refine (HK.out _).mono ?_; rintro e w4 ⟨rfl, hb4⟩; have hbx := H2.out.alloc H2.out.size (.cells #[.int .i64 (a : Int)] 3); have H4 := Lib.hid (hbx.trans (hb4.mono hbx.size)); clear hb4 hbx)
    | (go_at_call 44; refine HI.out.mono ?_; rintro e w2 ⟨rfl, hb2⟩; have H2 := Lib.hid hb2; clear hb2)
    | (go_at_call 35; refine (HG.out _).mono ?_; rintro e w1 ⟨rfl, rfl⟩)
    | (go_at_call 18; refine HM.out.mono ?_; rintro e w1 ⟨rfl, rfl⟩))
  go_ret
  exact ⟨rfl, H5.out⟩
set_option maxRecDepth 100000 in
set_option maxHeartbeats 2000000 in
theorem rreg26_ok (w W : World) (m : Nat) (L : SL) (R : List Ch) (a : Int) (K : ByteArray) (h : DS w W m L R) (hK : keyStr 21 (fun _ => a) 1 = K) (ha1 : 1 ≤ a) (ha2 : a ≤ 4294967295) (hn8 : K ≠ ⟨#[]⟩) (hr : Rising (skeys L)) (hN : L.length < 900000) (hR : R.length < 900000) (h8 : intAt L K 0) :
    Calls Tryz.prog 17 #[.pointer (some ⟨m, 0, none⟩), .int .i64 a] W fun e W' => e = .returned (.int .i64 0) ∧ DSTo w W W' m (setL L K (numStr 1)) (setR L R K (numStr 1)) := by
  have HIs := Lib.hid (ris26_at w W m L R a K 0 h hK (by omega) hr (by omega) h8 (by decide))
  have HI := Lib.hid (ris17c a W ha1 ha2)
  have HK := Lib.hid (fun (W1 : World) => (show Calls Tryz.prog 43 #[.int .i64 21, .slice (some ⟨W1.heap.size, 0, none⟩) 1 1] (W1.alloc (.cells #[.int .i64 a] 3)) fun e w' => e = .returned (.string K) ∧ Below (W1.alloc (.cells #[.int .i64 a] 3)).heap.size (W1.alloc (.cells #[.int .i64 a] 3)) w' from by
    have hk := rkey9_walk 21 (some ⟨W1.heap.size, 0, none⟩) 1 1 (fun _ => a) _ (il1 a W1 3 (by omega)) (by omega)
    unfold KeyPost at hk
    rwa [hK] at hk))
  have HS := Lib.hid (fun (W1 : World) (hb : Below W.heap.size W W1) => (rsetInt_pos w W1 m L R K 1 (h.below hb) hn8 hr (by omega) (by omega) (by omega) (by omega)).mono fun e W' hp => (⟨hp.1, DSTo.pre h hb hp.2⟩ : e = .returned (.tuple #[]) ∧ DSTo w W W' m (setL L K (numStr 1)) (setR L R K (numStr 1))))
  obtain ⟨L1, eL1⟩ : ∃ z, z = setL L K (numStr 1) := ⟨_, rfl⟩
  obtain ⟨R1, eR1⟩ : ∃ z, z = setR L R K (numStr 1) := ⟨_, rfl⟩
  rw [← eL1, ← eR1] at HS ⊢
  clear h hK ha1 ha2 hn8 hr hN hR h8 eL1 eR1
  go_enter Tryz.func17, Tryz.ntmps17
  go_wp2_with (first
    | (go_at_call 42; refine (HS.out _ H4.out).mono ?_; rintro e w5 ⟨rfl, h5⟩; have H5 := Lib.hid h5; clear h5)
    | (go_at_call 43; refine (HK.out _).mono ?_; rintro e w4 ⟨rfl, hb4⟩; have hbx := H2.out.alloc H2.out.size (.cells #[.int .i64 a] 3); have H4 := Lib.hid (hbx.trans (hb4.mono hbx.size)); clear hb4 hbx)
    | (go_at_call 23; refine HIs.out.mono ?_; rintro e w2 ⟨rfl, hb2⟩; have H2 := Lib.hid hb2; clear hb2)
    | (go_at_call 40; refine HI.out.mono ?_; rintro e w1 ⟨rfl, rfl⟩))
  go_ret
  exact ⟨rfl, H5.out⟩
end Go.Proofs.YtoaepgiajooecaaGreat

namespace Go.Proofs.YtoaepgiajooecaaGreat
open Go.RowKit Go.Maps Go.Sort

set_option maxRecDepth 100000 in
theorem known_walk (P : Value) (o s : Int) (b1 b2 : Bool) (w : World) (H1 : Calls Tryz.prog 36 #[P, .int .i64 o] w fun e w' => e = .returned (.bool b1) ∧ Below w.heap.size w w') (H2 : ∀ W, Below w.heap.size w W → Calls Tryz.prog 44 #[P, .int .i64 s] W fun e w' => e = .returned (.bool b2) ∧ Below W.heap.size W w') :
    Calls Tryz.prog 19 #[P, .int .i64 o, .int .i64 s] w fun e w' => e = .returned (.bool (b1 && b2)) ∧ Below w.heap.size w w' := by
  have H1s := Lib.hid H1
  have H2s := Lib.hid H2
  clear H1 H2
  cases b1
  · go_enter Tryz.func19, Tryz.ntmps19
    go_wp2_with (go_at_call 36; refine H1s.out.mono ?_; rintro e w1 ⟨rfl, hb1⟩; have HB1 := Lib.hid hb1; clear hb1)
    go_ret
    exact ⟨rfl, HB1.out⟩
  · go_enter Tryz.func19, Tryz.ntmps19
    go_wp2_with (first
      | (go_at_call 44; refine (H2s.out _ HB1.out).mono ?_; rintro e w2 ⟨rfl, hb2⟩; have HB2 := Lib.hid (HB1.out.trans (hb2.mono HB1.out.size)); clear hb2)
      | (go_at_call 36; refine H1s.out.mono ?_; rintro e w1 ⟨rfl, hb1⟩; have HB1 := Lib.hid hb1; clear hb1))
    go_ret
    exact ⟨rfl, HB2.out⟩
set_option maxRecDepth 100000 in
theorem isBips_any (x : Int) (w : World) : Calls Tryz.prog 20 #[.int .i64 x] w fun e w' => e = .returned (.bool (decide (0 ≤ x ∧ x ≤ 10000))) ∧ w = w' := by
  by_cases h1 : 0 ≤ x
  · by_cases h2 : x ≤ 10000
    · rw [decide_eq_true ⟨h1, h2⟩]
      go_enter Tryz.func20, Tryz.ntmps20
      go_wp2
      go_ret
      first | exact ⟨rfl, rfl⟩ | exact ⟨by simp [h1, h2], rfl⟩
    · rw [decide_eq_false (fun h => h2 h.2)]
      go_enter Tryz.func20, Tryz.ntmps20
      go_wp2
      go_ret
      first | exact ⟨rfl, rfl⟩ | exact ⟨by simp [h1, h2], rfl⟩
  · rw [decide_eq_false (fun h => h1 h.1)]
    go_enter Tryz.func20, Tryz.ntmps20
    go_wp2
    go_ret
    first | exact ⟨rfl, rfl⟩ | exact ⟨by simp [h1], rfl⟩
set_option maxRecDepth 100000 in
set_option maxHeartbeats 1000000 in
/-- Set, whatever delay.Set tells -/
theorem ssplit_walk {w W : World} {b : Nat} {F : List Nat} {L : SL} {q : Nat} {qs : List Value} (hs : SNew w W b F L q qs) (o s x blk wait : Int) (ho : o < 2 ^ 63) (hsv : s < 2 ^ 63) (n1 n2 : Nat) (hn1 : n1 < 2 ^ 63) (hn2 : n2 < 2 ^ 63) (h1 : intAt L (keyStr 8 (fun _ => o) 1) n1) (h2 : intAt L (keyStr 21 (fun _ => s) 1) n2) (er : Int) (E : World → Prop)
    (hno : (¬ (n1 = 1 ∧ n2 = 1) → er = 8) ∧ ((n1 = 1 ∧ n2 = 1) → ¬ (0 ≤ x ∧ x ≤ 10000) → er = 5)) (hE : ∀ W1, Below W.heap.size W W1 → ¬ ((n1 = 1 ∧ n2 = 1) ∧ 0 ≤ x ∧ x ≤ 10000) → E W1)
    (hD : (n1 = 1 ∧ n2 = 1) → 0 ≤ x ∧ x ≤ 10000 → ∀ W1, Below W.heap.size W W1 → Calls Tryz.prog 21 #[.pointer (some ⟨b, 0, none⟩), .int .i64 41, .slice (some ⟨W1.heap.size, 0, none⟩) 2 2, .int .i64 x, .int .i64 blk, .int .i64 wait] (W1.alloc (.cells #[.int .i64 o, .int .i64 s] 3)) fun e W' => e = .returned (.int .i64 er) ∧ E W') :
    Calls Tryz.prog 6 #[.pointer (some ⟨b, 0, none⟩), .int .i64 o, .int .i64 s, .int .i64 x, .int .i64 blk, .int .i64 wait] W fun e W' => e = .returned (.int .i64 er) ∧ E W' := by
  have HM := Lib.hid (made_live b F L q qs W hs.s)
  have hk8 : (keyStr 8 (fun _ => o) 1).size ≤ maxLen := by have := keyStr_size 8 (fun _ => o) 1; unfold maxLen; omega
  have hk21 : (keyStr 21 (fun _ => s) 1).size ≤ maxLen := by have := keyStr_size 21 (fun _ => s) 1; unfold maxLen; omega
  have HKn := Lib.hid (known_walk (.pointer (some ⟨b, 0, none⟩)) o s (decide (n1 = 1)) (decide (n2 = 1)) W (ris_live hs o _ rfl ho hk8 n1 h1 hn1) (fun W1 hb => sis_live (hs.below hb) s _ rfl hsv hk21 n2 h2 hn2))
  have HBi := Lib.hid (fun w => isBips_any x w)
  by_cases hk : n1 = 1 ∧ n2 = 1
  · rw [decide_eq_true hk.1, decide_eq_true hk.2] at HKn
    simp only [Bool.and_self] at HKn
    by_cases hx : 0 ≤ x ∧ x ≤ 10000
    · rw [decide_eq_true hx] at HBi
      have HD := Lib.hid (hD hk hx)
      clear hs ho hsv hn1 hn2 h1 h2 hno hE hD hk8 hk21 hk hx
      go_enter Tryz.func6, Tryz.ntmps6
      go_wp2_with (first
        | (go_at_call 21; refine (HD.out _ HB1.out).mono ?_; rintro e w4 ⟨rfl, h4⟩; have H4 := Lib.hid h4; clear h4)
        | (go_at_call 20; refine (HBi.out _).mono ?_; rintro e w3 ⟨rfl, rfl⟩)
        | (go_at_call 19; refine HKn.out.mono ?_; rintro e w2 ⟨rfl, hb1⟩; have HB1 := Lib.hid hb1; clear hb1)
        | (go_at_call 18; refine HM.out.mono ?_; rintro e w1 ⟨rfl, rfl⟩))
      go_ret
      exact ⟨rfl, H4.out⟩
    · rw [decide_eq_false hx] at HBi
      have HE := Lib.hid (fun W1 hb => hE W1 hb (fun h => hx h.2))
      obtain rfl := hno.2 hk hx
      clear hs ho hsv hn1 hn2 h1 h2 hno hE hD hk8 hk21 hk hx
      go_enter Tryz.func6, Tryz.ntmps6
      go_wp2_with (first
        | (go_at_call 20; refine (HBi.out _).mono ?_; rintro e w3 ⟨rfl, rfl⟩)
        | (go_at_call 19; refine HKn.out.mono ?_; rintro e w2 ⟨rfl, hb1⟩; have HB1 := Lib.hid hb1; clear hb1)
        | (go_at_call 18; refine HM.out.mono ?_; rintro e w1 ⟨rfl, rfl⟩))
      go_ret
      exact ⟨rfl, HE.out _ HB1.out⟩
  · have hf : (decide (n1 = 1) && decide (n2 = 1)) = false := by
      rw [Bool.eq_false_iff]
      intro h
      rw [Bool.and_eq_true] at h
      exact hk ⟨of_decide_eq_true h.1, of_decide_eq_true h.2⟩
    rw [hf] at HKn
    have HE := Lib.hid (fun W1 hb => hE W1 hb (fun h => hk h.1))
    obtain rfl := hno.1 hk
    clear hs ho hsv hn1 hn2 h1 h2 hno hE hD hk8 hk21 hk hf
    go_enter Tryz.func6, Tryz.ntmps6
    go_wp2_with (first
      | (go_at_call 19; refine HKn.out.mono ?_; rintro e w2 ⟨rfl, hb1⟩; have HB1 := Lib.hid hb1; clear hb1)
      | (go_at_call 18; refine HM.out.mono ?_; rintro e w1 ⟨rfl, rfl⟩))
    go_ret
    exact ⟨rfl, HE.out _ HB1.out⟩
set_option maxRecDepth 100000 in
set_option maxHeartbeats 1000000 in
/-- the document's Set, whatever its delayed one tells -/
theorem rsplit_walk (w W : World) (m : Nat) (L : SL) (R : List Ch) (hd : DS w W m L R) (hr : Rising (skeys L)) (hN : L.length ≤ 1000000) (o s x blk wait : Int) (ho : o < 2 ^ 63) (hsv : s < 2 ^ 63) (n1 n2 : Nat) (hn1 : n1 < 2 ^ 63) (hn2 : n2 < 2 ^ 63) (h1 : intAt L (keyStr 8 (fun _ => o) 1) n1) (h2 : intAt L (keyStr 21 (fun _ => s) 1) n2) (er : Int) (E : World → Prop)
    (hno : (¬ (n1 = 1 ∧ n2 = 1) → er = 8) ∧ ((n1 = 1 ∧ n2 = 1) → ¬ (0 ≤ x ∧ x ≤ 10000) → er = 5)) (hE : ∀ W1, Below W.heap.size W W1 → ¬ ((n1 = 1 ∧ n2 = 1) ∧ 0 ≤ x ∧ x ≤ 10000) → E W1)
    (hD : (n1 = 1 ∧ n2 = 1) → 0 ≤ x ∧ x ≤ 10000 → ∀ W1, Below W.heap.size W W1 → Calls Tryz.prog 24 #[.pointer (some ⟨m, 0, none⟩), .int .i64 41, .slice (some ⟨W1.heap.size, 0, none⟩) 2 2, .int .i64 x, .int .i64 blk, .int .i64 wait] (W1.alloc (.cells #[.int .i64 o, .int .i64 s] 3)) fun e W' => e = .returned (.int .i64 er) ∧ E W') :
    Calls Tryz.prog 7 #[.pointer (some ⟨m, 0, none⟩), .int .i64 o, .int .i64 s, .int .i64 x, .int .i64 blk, .int .i64 wait] W fun e W' => e = .returned (.int .i64 er) ∧ E W' := by
  have HI1 := Lib.hid (ris21_at w W m L R o _ n1 hd rfl ho hr hN h1 hn1)
  have HI2 := Lib.hid (fun (W1 : World) (hb : Below W.heap.size W W1) => ris26_at w W1 m L R s _ n2 (hd.below hb) rfl hsv hr hN h2 hn2)
  by_cases hk1 : n1 = 1
  · by_cases hk2 : n2 = 1
    · rw [decide_eq_true hk1] at HI1
      rw [decide_eq_true hk2] at HI2
      by_cases hx : 0 ≤ x ∧ x ≤ 10000
      · have q1 : ¬ x < 0 := by omega
        have q2 : ¬ 10000 < x := by omega
        have HD := Lib.hid (hD ⟨hk1, hk2⟩ hx)
        clear hd hr hN ho hsv hn1 hn2 h1 h2 hno hE hD hk1 hk2 hx
        go_enter Tryz.func7, Tryz.ntmps7
        go_wp2_with (first
          | (go_at_call 24; refine (HD.out _ HB2.out).mono ?_; rintro e w4 ⟨rfl, h4⟩; have H4 := Lib.hid h4; clear h4)
          | (go_at_call 23; refine (HI2.out _ HB1.out).mono ?_; rintro e w2 ⟨rfl, hb2⟩; have HB2 := Lib.hid (HB1.out.trans (hb2.mono HB1.out.size)); clear hb2)
          | (go_at_call 22; refine HI1.out.mono ?_; rintro e w1 ⟨rfl, hb1⟩; have HB1 := Lib.hid hb1; clear hb1))
        go_ret
        exact ⟨rfl, H4.out⟩
      · have HE := Lib.hid (fun W1 hb => hE W1 hb (fun h => hx h.2))
        obtain rfl := hno.2 ⟨hk1, hk2⟩ hx
        rcases (by omega : x < 0 ∨ (¬ x < 0 ∧ 10000 < x)) with g1 | ⟨g1, g2⟩
        all_goals
          clear hd hr hN ho hsv hn1 hn2 h1 h2 hno hE hD hk1 hk2 hx
          go_enter Tryz.func7, Tryz.ntmps7
          go_wp2_with (first
            | (go_at_call 23; refine (HI2.out _ HB1.out).mono ?_; rintro e w2 ⟨rfl, hb2⟩; have HB2 := Lib.hid (HB1.out.trans (hb2.mono HB1.out.size)); clear hb2)
            | (go_at_call 22; refine HI1.out.mono ?_; rintro e w1 ⟨rfl, hb1⟩; have HB1 := Lib.hid hb1; clear hb1))
          go_ret
          exact ⟨rfl, HE.out _ HB2.out⟩
    · rw [decide_eq_true hk1] at HI1
      rw [decide_eq_false hk2] at HI2
      have HE := Lib.hid (fun W1 hb => hE W1 hb (fun h => hk2 h.1.2))
      obtain rfl := hno.1 (fun h => hk2 h.2)
      clear hd hr hN ho hsv hn1 hn2 h1 h2 hno hE hD hk1 hk2
      go_enter Tryz.func7, Tryz.ntmps7
      go_wp2_with (first
        | (go_at_call 23; refine (HI2.out _ HB1.out).mono ?_; rintro e w2 ⟨rfl, hb2⟩; have HB2 := Lib.hid (HB1.out.trans (hb2.mono HB1.out.size)); clear hb2)
        | (go_at_call 22; refine HI1.out.mono ?_; rintro e w1 ⟨rfl, hb1⟩; have HB1 := Lib.hid hb1; clear hb1))
      go_ret
      exact ⟨rfl, HE.out _ HB2.out⟩
  · rw [decide_eq_false hk1] at HI1
    have HE := Lib.hid (fun W1 hb => hE W1 hb (fun h => hk1 h.1.1))
    obtain rfl := hno.1 (fun h => hk1 h.1)
    clear hd hr hN ho hsv hn1 hn2 h1 h2 hno hE hD hk1
    go_enter Tryz.func7, Tryz.ntmps7
    go_wp2_with (go_at_call 22; refine HI1.out.mono ?_; rintro e w1 ⟨rfl, hb1⟩; have HB1 := Lib.hid hb1; clear hb1)
    go_ret
    exact ⟨rfl, HE.out _ HB1.out⟩
set_option maxRecDepth 100000 in
set_option maxHeartbeats 1000000 in
theorem ssplitGet_walk (P : Value) (W : World) (o s blk : Int) (v u : DV) (hu : u = settleD v blk)
    (HG : Calls Tryz.prog 26 #[P, .int .i64 41, .slice (some ⟨W.heap.size, 0, none⟩) 2 2] (W.alloc (.cells #[.int .i64 o, .int .i64 s] 3)) fun e W' => e = .returned v.val ∧ Below (W.alloc (.cells #[.int .i64 o, .int .i64 s] 3)).heap.size (W.alloc (.cells #[.int .i64 o, .int .i64 s] 3)) W') :
    Calls Tryz.prog 8 #[P, .int .i64 o, .int .i64 s, .int .i64 blk] W fun e W' => e = .returned (.int .i64 (if u.h = true then u.n else 1000)) ∧ Below W.heap.size W W' := by
  have hO := fun w => of_any v blk w
  rw [← hu] at hO
  obtain ⟨h, n, x, a, mm⟩ := u
  simp only at hO ⊢
  have HO := Lib.hid hO
  have HGs := Lib.hid HG
  have HB0 := Lib.hid ((Below.refl W.heap.size W).alloc (Nat.le_refl _) (.cells #[.int .i64 o, .int .i64 s] 3))
  obtain ⟨vv, hv⟩ : ∃ y, y = v.val := ⟨_, rfl⟩
  rw [← hv] at HO HGs
  clear hO HG hu hv
  cases h
  all_goals
    go_enter Tryz.func8, Tryz.ntmps8
    go_wp2_with (first
      | (go_at_call 25; refine (HO.out _).mono ?_; rintro e w2 ⟨rfl, hb2⟩; have HB2 := Lib.hid (HB1.out.trans (hb2.mono HB1.out.size)); clear hb2)
      | (go_at_call 26; refine HGs.out.mono ?_; rintro e w1 ⟨rfl, hb1⟩; have HB1 := Lib.hid (HB0.out.trans (hb1.mono HB0.out.size)); clear hb1))
    go_ret
    exact ⟨rfl, HB2.out⟩
set_option maxRecDepth 100000 in
set_option maxHeartbeats 1000000 in
theorem rsplitGet_walk (P : Value) (W : World) (o s blk : Int) (v u : DV) (hu : u = settleD v blk)
    (HG : Calls Tryz.prog 28 #[P, .int .i64 41, .slice (some ⟨W.heap.size, 0, none⟩) 2 2] (W.alloc (.cells #[.int .i64 o, .int .i64 s] 3)) fun e W' => e = .returned v.val ∧ Below (W.alloc (.cells #[.int .i64 o, .int .i64 s] 3)).heap.size (W.alloc (.cells #[.int .i64 o, .int .i64 s] 3)) W') :
    Calls Tryz.prog 9 #[P, .int .i64 o, .int .i64 s, .int .i64 blk] W fun e W' => e = .returned (.int .i64 (if u.h = true then u.n else 1000)) ∧ Below W.heap.size W W' := by
  have hO := fun w => rof_any v blk w
  rw [← hu] at hO
  obtain ⟨h, n, x, a, mm⟩ := u
  simp only at hO ⊢
  have HO := Lib.hid hO
  have HGs := Lib.hid HG
  have HB0 := Lib.hid ((Below.refl W.heap.size W).alloc (Nat.le_refl _) (.cells #[.int .i64 o, .int .i64 s] 3))
  obtain ⟨vv, hv⟩ : ∃ y, y = v.val := ⟨_, rfl⟩
  rw [← hv] at HO HGs
  clear hO HG hu hv
  cases h
  all_goals
    go_enter Tryz.func9, Tryz.ntmps9
    go_wp2_with (first
      | (go_at_call 27; refine (HO.out _).mono ?_; rintro e w2 ⟨rfl, hb2⟩; have HB2 := Lib.hid (HB1.out.trans (hb2.mono HB1.out.size)); clear hb2)
      | (go_at_call 28; refine HGs.out.mono ?_; rintro e w1 ⟨rfl, hb1⟩; have HB1 := Lib.hid (HB0.out.trans (hb1.mono HB0.out.size)); clear hb1))
    go_ret
    exact ⟨rfl, HB2.out⟩
theorem il2o (o s : Int) (ho : o < 2 ^ 63) (hs : s < 2 ^ 63) (W : World) : Il (W.alloc (.cells #[.int .i64 o, .int .i64 s] 3)) (some ⟨W.heap.size, 0, none⟩) 2 (two2 o s) := il2 o s W 3 ho hs
/-- both Sets, both Gets -/
theorem split_both (w : World) (b m : Nat) (L0 L : SL) (h0 : NL L0) (hM : DP (41 : Nat) 2 L0 L) (hN : L.length < 800000) (o s x blk wait : Int) (ho : o < 2 ^ 63) (hs : s < 2 ^ 63) :
    ∃ (er : Int) (L2 : SL), DP (41 : Nat) 2 L0 L2 ∧ L2.length ≤ L.length + 1 ∧
      (∀ (W : World) (F : List Nat) (q : Nat) (qs : List Value), SNew w W b F L q qs → q < 800000 →
        Calls Tryz.prog 6 #[.pointer (some ⟨b, 0, none⟩), .int .i64 o, .int .i64 s, .int .i64 x, .int .i64 blk, .int .i64 wait] W fun e W' => e = .returned (.int .i64 er) ∧ LiveTo w W W' b F L2 (q + 1)) ∧
      (∀ (W : World) (R : List Ch), DS w W m L R → R.length < 800000 →
        Calls Tryz.prog 7 #[.pointer (some ⟨m, 0, none⟩), .int .i64 o, .int .i64 s, .int .i64 x, .int .i64 blk, .int .i64 wait] W fun e W' => e = .returned (.int .i64 er) ∧ ∃ R', R'.length ≤ R.length + 1 ∧ DSTo w W W' m L2 R') := by
  obtain ⟨n1, hn1, h1⟩ := hM.int (s := 8) (m := 1) h0 (by omega) (by omega) (by omega) (fun _ => o)
  obtain ⟨n2, hn2, h2⟩ := hM.int (s := 21) (m := 1) h0 (by omega) (by omega) (by omega) (fun _ => s)
  by_cases hc : (n1 = 1 ∧ n2 = 1) ∧ 0 ≤ x ∧ x ≤ 10000
  · obtain ⟨er, L2, v2, _, _, hM2, hL2, hO, hD⟩ := delay_beside w b m 41 2 2 L0 L hM (by omega) (two2 o s) (by omega) x blk wait
    refine ⟨er, L2, hM2, hL2, fun W F q qs hs1 hq => ?_, fun W R hd hR => ?_⟩
    · exact ssplit_walk hs1 o s x blk wait ho hs n1 n2 hn1 hn2 h1 h2 er _ ⟨fun h => absurd hc.1 h, fun _ h => absurd hc.2 h⟩ (fun W1 hb h => absurd hc h) (fun _ _ W1 hb => (hO _ F q qs _ ((hs1.below hb).al _) (il2o o s ho hs W1) (by omega)).mono fun e W' h => ⟨h.1, h.2.pre (hb.alloc hb.size _)⟩)
    · exact rsplit_walk w W m L R hd hM.r (by omega) o s x blk wait ho hs n1 n2 hn1 hn2 h1 h2 er _ ⟨fun h => absurd hc.1 h, fun _ h => absurd hc.2 h⟩ (fun W1 hb h => absurd hc h) (fun _ _ W1 hb => (hD _ R _ (hd.below (hb.alloc hb.size _)) (il2o o s ho hs W1) (by omega)).mono fun e W' h => ⟨h.1, h.2.choose, h.2.choose_spec.1, DSTo.pre hd (hb.alloc hb.size _) h.2.choose_spec.2⟩)
  · obtain ⟨er, he⟩ : ∃ er : Int, er = if n1 = 1 ∧ n2 = 1 then 5 else 8 := ⟨_, rfl⟩
    have hno : (¬ (n1 = 1 ∧ n2 = 1) → er = 8) ∧ ((n1 = 1 ∧ n2 = 1) → ¬ (0 ≤ x ∧ x ≤ 10000) → er = 5) := ⟨fun h => by rw [he, if_neg h], fun h _ => by rw [he, if_pos h]⟩
    refine ⟨er, L, hM, Nat.le_succ _, fun W F q qs hs1 hq => ?_, fun W R hd hR => ?_⟩
    · exact ssplit_walk hs1 o s x blk wait ho hs n1 n2 hn1 hn2 h1 h2 er _ hno (fun W1 hb _ => (hs1.same hb).le (Nat.le_succ _)) (fun h h' => absurd ⟨h, h'⟩ hc)
    · exact rsplit_walk w W m L R hd hM.r (by omega) o s x blk wait ho hs n1 n2 hn1 hn2 h1 h2 er _ hno (fun W1 hb _ => ⟨R, Nat.le_succ _, DSTo.of_below hd hb⟩) (fun h h' => absurd ⟨h, h'⟩ hc)
theorem split_get (w : World) (b m : Nat) (L0 L : SL) (hM : DP (41 : Nat) 2 L0 L) (hN : L.length < 800000) (o s blk : Int) (ho : o < 2 ^ 63) (hs : s < 2 ^ 63) :
    ∃ r : Int, (∀ (W : World) (F : List Nat) (q : Nat) (qs : List Value), SNew w W b F L q qs → Calls Tryz.prog 8 #[.pointer (some ⟨b, 0, none⟩), .int .i64 o, .int .i64 s, .int .i64 blk] W fun e W' => e = .returned (.int .i64 r) ∧ Below W.heap.size W W') ∧
      (∀ (W : World) (R : List Ch), DS w W m L R → Calls Tryz.prog 9 #[.pointer (some ⟨m, 0, none⟩), .int .i64 o, .int .i64 s, .int .i64 blk] W fun e W' => e = .returned (.int .i64 r) ∧ Below W.heap.size W W') := by
  obtain ⟨v, hv, hat⟩ := hM.v (two2 o s)
  have hk : (keyStr 41 (two2 o s) 2).size ≤ maxLen := by have := keyStr_size 41 (two2 o s) 2; unfold maxLen; omega
  refine ⟨if (settleD v blk).h = true then (settleD v blk).n else 1000, fun W F q qs hs1 => ?_, fun W R hd => ?_⟩
  · exact ssplitGet_walk _ W o s blk v _ rfl (dget_at (hs1.al _) 41 _ 2 2 (two2 o s) _ rfl (by omega) hk v hv hat (il2o o s ho hs W))
  · exact rsplitGet_walk _ W o s blk v _ rfl (rdget_at w _ m L R 41 _ 2 2 (two2 o s) _ rfl (hd.below ((Below.refl _ _).alloc (Nat.le_refl _) _)) (il2o o s ho hs W) (by omega) hM.r (by omega) v hv hat)
end Go.Proofs.YtoaepgiajooecaaGreat

namespace Go.Proofs.YtoaepgiajooecaaGreat
open Go.RowKit Go.Maps Go.Sort

abbrev k8 (i : Int) : ByteArray := keyStr 8 (fun _ => i) 1
abbrev k9 (i : Int) : ByteArray := keyStr 9 (fun _ => i) 1
abbrev k21 (i : Int) : ByteArray := keyStr 21 (fun _ => i) 1
def W34 (L : SL) (i : Nat) : SL := setL (setL (setL L (k8 (i : Nat)) (numStr 1)) (k9 (i : Nat)) (numStr (i : Nat))) (k21 ((i + 7 : Nat) : Int)) (numStr 1)
def L34 : Nat → SL
  | 0 => []
  | i + 1 => W34 (L34 i) (i + 1)
theorem key1_size (t : Int) (f : Nat → Int) : (keyStr t f 1).size ≤ maxLen := by have := keyStr_size t f 1; unfold maxLen; omega
theorem NL.w34 {L : SL} (h : NL L) (i : Nat) (hi : i < 2 ^ 63) : NL (W34 L i) := ((h.set (k8 (i : Nat)) (key1_size _ _) 1 (by decide)).set (k9 (i : Nat)) (key1_size _ _) i hi).set (k21 ((i + 7 : Nat) : Int)) (key1_size _ _) 1 (by decide)
theorem NL.l34 : ∀ i, i < 100 → NL (L34 i)
  | 0, _ => NL.nil
  | i + 1, h => (NL.l34 i (by omega)).w34 (i + 1) (by omega)
theorem L34_len : ∀ i, (L34 i).length ≤ 3 * i
  | 0 => Nat.le_refl _
  | i + 1 => by
    have h := L34_len i
    have h1 := setL_le (L34 i) (k8 ((i + 1 : Nat) : Int)) (numStr 1)
    have h2 := setL_le (setL (L34 i) (k8 ((i + 1 : Nat) : Int)) (numStr 1)) (k9 ((i + 1 : Nat) : Int)) (numStr ((i + 1 : Nat) : Int))
    have h3 := setL_le (setL (setL (L34 i) (k8 ((i + 1 : Nat) : Int)) (numStr 1)) (k9 ((i + 1 : Nat) : Int)) (numStr ((i + 1 : Nat) : Int))) (k21 ((i + 1 + 7 : Nat) : Int)) (numStr 1)
    show (setL (setL (setL (L34 i) (k8 ((i + 1 : Nat) : Int)) (numStr 1)) (k9 ((i + 1 : Nat) : Int)) (numStr ((i + 1 : Nat) : Int))) (k21 ((i + 1 + 7 : Nat) : Int)) (numStr 1)).length ≤ 3 * (i + 1)
    omega
theorem l34_free8 : ∀ i, i < 2 → sget (L34 i) (k8 ((i + 1 : Nat) : Int)) = none := by decide +kernel
theorem l34_free9 : ∀ i, i < 2 → sget (L34 i) (k9 ((i + 1 : Nat) : Int)) = none := by decide +kernel
theorem l34_free21 : ∀ i, i < 2 → sget (setL (setL (L34 i) (k8 ((i + 1 : Nat) : Int)) (numStr 1)) (k9 ((i + 1 : Nat) : Int)) (numStr ((i + 1 : Nat) : Int))) (k21 ((i + 1 + 7 : Nat) : Int)) = none := by decide +kernel
theorem k1_ne : ∀ i, i < 2 → k8 ((i + 1 : Nat) : Int) ≠ ⟨#[]⟩ ∧ k9 ((i + 1 : Nat) : Int) ≠ ⟨#[]⟩ ∧ k21 ((i + 1 + 7 : Nat) : Int) ≠ ⟨#[]⟩ := by decide +kernel
theorem l34_no41 (f : Nat → Int) : sget (L34 2) (keyStr ((41 : Nat) : Int) f 2) = none := by
  have h : ∀ (L : SL) (s : Nat) (g : Nat → Int) (v : ByteArray), (1 ≤ s ∧ s ≤ 255) → 41 ≠ s → keyStr (s : Int) g 1 ≠ ⟨#[]⟩ → sget L (keyStr ((41 : Nat) : Int) f 2) = none → sget (setL L (keyStr (s : Int) g 1) v) (keyStr ((41 : Nat) : Int) f 2) = none := fun L s g v hs hne h0 hl => by
    rw [sget_setL, if_neg (fun e => h0 (keyStr_first (t := 41) (s := s) (by omega) hs hne e))]
    exact hl
  obtain ⟨a1, a2, a3⟩ := k1_ne 0 (by omega)
  obtain ⟨b1, b2, b3⟩ := k1_ne 1 (by omega)
  have s1 := h [] 8 (fun _ => ((0 + 1 : Nat) : Int)) (numStr 1) (by omega) (by omega) a1 rfl
  have s2 := h _ 9 (fun _ => ((0 + 1 : Nat) : Int)) (numStr ((0 + 1 : Nat) : Int)) (by omega) (by omega) a2 s1
  have s3 := h _ 21 (fun _ => ((0 + 1 + 7 : Nat) : Int)) (numStr 1) (by omega) (by omega) a3 s2
  have s4 := h _ 8 (fun _ => ((1 + 1 : Nat) : Int)) (numStr 1) (by omega) (by omega) b1 s3
  have s5 := h _ 9 (fun _ => ((1 + 1 : Nat) : Int)) (numStr ((1 + 1 : Nat) : Int)) (by omega) (by omega) b2 s4
  exact h _ 21 (fun _ => ((1 + 1 + 7 : Nat) : Int)) (numStr 1) (by omega) (by omega) b3 s5
set_option maxRecDepth 100000 in
set_option maxHeartbeats 4000000 in
theorem world34_walk (w : World) : Calls Tryz.prog 5 #[] w fun e w' => (∃ b m, e = .returned (.tuple #[.pointer (some ⟨b, 0, none⟩), .pointer (some ⟨m, 0, none⟩)]) ∧ ∃ F q qs R, SNew w w' b F (L34 2) q qs ∧ q ≤ 6 ∧ DS w w' m (L34 2) R ∧ R.length ≤ 6) ∧ Below w.heap.size w w' := by
  go_enter Tryz.func5, Tryz.ntmps5
  go_upto_region 2 with (go_at_call 13; with_reducible refine (SNew.new w _ (Below.refl _ _)).mono ?_; rintro e w3 ⟨b, F1, rfl, hs1, _, _⟩; have H3 := Lib.hid hs1; clear hs1)
  obtain ⟨m, hm⟩ : ∃ m, m = w3.heap.size := ⟨_, rfl⟩
  have hd4 := DS.new w w3 H3.out.l (.bool true) (.bool true) _ rfl
  have hb4 := (Below.refl w3.heap.size w3).alloc (Nat.le_refl _) (.cells #[.slice none 0 0, .slice none 0 0] 40)
  rw [← hm] at hd4
  rw [← hm]
  have H4 := Lib.hid (And.intro (H3.out.below hb4) hd4)
  clear hd4 hb4 hm
  generalize w3.alloc (.cells #[.slice none 0 0, .slice none 0 0] 40) = w4 at H4 ⊢
  go_wp2
  go_loopw [4] (fun x wr => ∃ (k : Nat) (F : List Nat) (q : Nat) (qs : List Value) (R : List Ch), k ≤ 2 ∧ x = .int .i64 ((k + 1 : Nat) : Int) ∧ SNew w wr b F (L34 k) q qs ∧ q ≤ 3 * k ∧ DS w wr m (L34 k) R ∧ R.length ≤ 3 * k) (fun x _ => 4 - (intOf x).toNat)
  case atStart => exact ⟨0, F1, 0, [], [], by omega, rfl, H4.out.1, by omega, H4.out.2, by simp⟩
  case round =>
    obtain ⟨k, F, q, qs, R, hk, rfl, hs, hq, hd, hR⟩ := hrel
    by_cases hlt : k < 2
    · have p1 : ((k + 1 : Nat) : Int) ≤ 2 := by omega
      have i1 : IntKind.i64.wrap (7 + ((k + 1 : Nat) : Int)) = ((k + 1 + 7 : Nat) : Int) := by rw [IntWalk.i64_in _ (by omega)]; omega
      have i2 : IntKind.i64.wrap (((k + 1 : Nat) : Int) + 1) = ((k + 1 + 1 : Nat) : Int) := by rw [IntWalk.i64_in _ (by omega)]; omega
      obtain ⟨n8, n9, n21⟩ := k1_ne k hlt
      have hl := L34_len k
      have hnl := NL.l34 k (by omega)
      have l1 := setL_le (L34 k) (k8 ((k + 1 : Nat) : Int)) (numStr 1)
      have l2 := setL_le (setL (L34 k) (k8 ((k + 1 : Nat) : Int)) (numStr 1)) (k9 ((k + 1 : Nat) : Int)) (numStr ((k + 1 : Nat) : Int))
      have hnl2 := (hnl.set (k8 ((k + 1 : Nat) : Int)) (key1_size _ _) 1 (by decide)).set (k9 ((k + 1 : Nat) : Int)) (key1_size _ _) (k + 1) (by omega)
      have hR1 := setR_le9 (L34 k) R (k8 ((k + 1 : Nat) : Int)) (numStr 1)
      have hR2 := setR_le9 (setL (L34 k) (k8 ((k + 1 : Nat) : Int)) (numStr 1)) (setR (L34 k) R (k8 ((k + 1 : Nat) : Int)) (numStr 1)) (k9 ((k + 1 : Nat) : Int)) (numStr ((k + 1 : Nat) : Int))
      have HA := Lib.hid (reg_live hs (k + 1) _ _ rfl rfl (by omega) (by omega) (.inl ⟨rfl, l34_free8 k hlt⟩) (.inl ⟨rfl, l34_free9 k hlt⟩) (key1_size _ _) (key1_size _ _) n8 n9 (Nat.lt_of_le_of_lt l1 (by omega)) (by omega) (by omega))
      have HB := Lib.hid (fun (W1 : World) (hd1 : DS w W1 m (L34 k) R) => rreg21_ok w W1 m (L34 k) R ((k + 1 : Nat) : Int) _ _ hd1 rfl rfl (by omega) (by omega) n8 n9 hnl.r (by omega) (by omega) (.inl ⟨rfl, l34_free8 k hlt⟩) (.inl ⟨rfl, l34_free9 k hlt⟩))
      have HC := Lib.hid (fun (W1 : World) (F1 : List Nat) (q1 : Nat) (qs1 : List Value) (hs1 : SNew w W1 b F1 (setL (setL (L34 k) (k8 ((k + 1 : Nat) : Int)) (numStr 1)) (k9 ((k + 1 : Nat) : Int)) (numStr ((k + 1 : Nat) : Int))) q1 qs1) (hq1 : q1 ≤ 100) => sreg_live hs1 (k + 1 + 7) _ rfl (by omega) (by omega) (.inl ⟨rfl, l34_free21 k hlt⟩) (key1_size _ _) n21 (Nat.lt_of_le_of_lt l2 (by omega)) (by omega))
      have HD := Lib.hid (fun (W1 : World) (R1 : List Ch) (hd1 : DS w W1 m (setL (setL (L34 k) (k8 ((k + 1 : Nat) : Int)) (numStr 1)) (k9 ((k + 1 : Nat) : Int)) (numStr ((k + 1 : Nat) : Int))) R1) (hR : R1.length ≤ 100) => (rreg26_ok w W1 m _ R1 ((k + 1 + 7 : Nat) : Int) _ hd1 rfl (by omega) (by omega) n21 hnl2.r (Nat.lt_of_le_of_lt l2 (by omega)) (by omega) (.inl ⟨rfl, l34_free21 k hlt⟩)).mono fun e W' hp => (⟨hp.1, _, setR_le9 _ _ _ _, hp.2⟩ : e = .returned (.int .i64 0) ∧ ∃ R2, R2.length ≤ R1.length + 1 ∧ DSTo w W1 W' m (setL (setL (setL (L34 k) (k8 ((k + 1 : Nat) : Int)) (numStr 1)) (k9 ((k + 1 : Nat) : Int)) (numStr ((k + 1 : Nat) : Int))) (k21 ((k + 1 + 7 : Nat) : Int)) (numStr 1)) R2))
      obtain ⟨R2, eR2⟩ : ∃ z, z = setR (setL (L34 k) (k8 ((k + 1 : Nat) : Int)) (numStr 1)) (setR (L34 k) R (k8 ((k + 1 : Nat) : Int)) (numStr 1)) (k9 ((k + 1 : Nat) : Int)) (numStr ((k + 1 : Nat) : Int)) := ⟨_, rfl⟩
      rw [← eR2] at HB hR2
      have hL1 : setL (setL (setL (L34 k) (k8 ((k + 1 : Nat) : Int)) (numStr 1)) (k9 ((k + 1 : Nat) : Int)) (numStr ((k + 1 : Nat) : Int))) (k21 ((k + 1 + 7 : Nat) : Int)) (numStr 1) = L34 (k + 1) := rfl
      rw [hL1] at HC HD
      obtain ⟨La, eLa⟩ : ∃ z, z = L34 k := ⟨_, rfl⟩
      obtain ⟨Lb, eLb⟩ : ∃ z, z = setL (setL (L34 k) (k8 ((k + 1 : Nat) : Int)) (numStr 1)) (k9 ((k + 1 : Nat) : Int)) (numStr ((k + 1 : Nat) : Int)) := ⟨_, rfl⟩
      rw [← eLb] at HA HB HC HD
      rw [← eLa] at HB hs hd
      have HSD := Lib.hid (And.intro hs hd)
      have HQ := Lib.hid (And.intro hq (And.intro hR (And.intro hlt (show R2.length ≤ R.length + 2 by omega))))
      obtain ⟨x1, ex1⟩ : ∃ y : Int, y = ((k + 1 : Nat) : Int) := ⟨_, rfl⟩
      obtain ⟨x8, ex8⟩ : ∃ y : Int, y = ((k + 1 + 7 : Nat) : Int) := ⟨_, rfl⟩
      obtain ⟨x2, ex2⟩ : ∃ y : Int, y = ((k + 1 + 1 : Nat) : Int) := ⟨_, rfl⟩
      rw [← ex1] at HA HB p1 i1 i2 ⊢
      rw [← ex8] at HC HD i1
      rw [← ex2] at i2
      have HX2 := Lib.hid (And.intro ex1 ex2)
      clear hs hd hq hR hlt hk n8 n9 n21 hl hnl l1 l2 hnl2 hR1 hR2 hL1 eR2 eLa eLb ex1 ex8 ex2
      go_wp2_with (first
        | (go_at_call 17; refine (HD.out _ R2 H7.out.2 (by have := HQ.out.2.1; have := HQ.out.2.2.2; have := HQ.out.2.2.1; omega)).mono ?_; rintro e w8 ⟨rfl, R8, hR8, h8⟩; have H8 := Lib.hid (And.intro (snew_other H7.out.1 h8) h8.s); have HR8 := Lib.hid hR8; clear h8 hR8)
        | (go_at_call 16; refine (HC.out _ F5 q5 qs5 H6.out.1 (by have := HQ5.out; have := HQ.out.1; have := HQ.out.2.2.1; omega)).mono ?_; rintro e w7 ⟨rfl, h7⟩; have d7 := ds_live H6.out.2 H6.out.1 h7; obtain ⟨F7, q7, qs7, hs7, hq7, _⟩ := h7; have H7 := Lib.hid (And.intro hs7 d7); have HQ7 := Lib.hid hq7; clear d7 hs7 hq7)
        | (go_at_call 15; refine (HB.out _ H5.out.2).mono ?_; rintro e w6 ⟨rfl, h6⟩; have H6 := Lib.hid (And.intro (snew_other H5.out.1 h6) h6.s); clear h6)
        | (go_at_call 14; refine HA.out.mono ?_; rintro e w5 ⟨rfl, h5⟩; have d5 := ds_live HSD.out.2 HSD.out.1 h5; obtain ⟨F5, q5, qs5, hs5, hq5, _⟩ := h5; have H5 := Lib.hid (And.intro hs5 d5); have HQ5 := Lib.hid hq5; clear d5 hs5 hq5))
      exact ⟨⟨k + 1, F7, q7, qs7, R8, by have := HQ.out.2.2.1; omega, by rw [HX2.out.2], H8.out.1, by have := HQ7.out; have := HQ5.out; have := HQ.out.1; omega, H8.out.2, by have := HR8.out; have := HQ.out.2.1; have := HQ.out.2.2.2; omega⟩, by have h1 := HX2.out.1; have h2 := HX2.out.2; simp [intOf]; omega⟩
    · obtain rfl : k = 2 := by omega
      have HSD := Lib.hid (And.intro hs (And.intro hd (And.intro hq hR)))
      clear hs hd hq hR
      go_wp2
      refine bodyPost_ret (v := .tuple #[.pointer (some ⟨b, 0, none⟩), .pointer (some ⟨m, 0, none⟩)]) (by simp [results, Tryz.results5, go_sem]) rfl ⟨⟨b, m, rfl, F, q, qs, R, HSD.out.1, by have := HSD.out.2.2.1; omega, HSD.out.2.1, by have := HSD.out.2.2.2; omega⟩, HSD.out.1.l⟩
end Go.Proofs.YtoaepgiajooecaaGreat
