/- The law PauseBits, walked from its arguments. -/
import Derived.Test.YtdffnehblhehpaaDoorWQ
namespace Go.Proofs.YtdffnehblhehpaaDoor
open Go.RowKit Go.Maps

theorem bitN_cases : ∀ j, j < 29 → bitN j = 0 ∨ (1 ≤ j ∧ bitN j ≤ 128 ∧ bitN j ≠ 0 ∧ bits .and .i64 ((bitN j : Nat) : Int) (((bitN j : Nat) : Int) - 1) = 0) := by decide +kernel
theorem bitV_cases (k : Int) : bitV k = 0 ∨ (1 ≤ k ∧ k ≤ 28 ∧ bitV k ≤ 128 ∧ bitV k ≠ 0 ∧ bits .and .i64 ((bitV k : Nat) : Int) (((bitV k : Nat) : Int) - 1) = 0) := by
  unfold bitV
  by_cases h : 0 ≤ k ∧ k < 29
  · rw [if_pos h]
    rcases bitN_cases k.toNat (by omega) with h1 | ⟨h1, h2, h3, h4⟩
    · exact .inl h1
    · exact .inr ⟨by omega, by omega, h2, h3, h4⟩
  · rw [if_neg h]; exact .inl rfl
theorem bits_comm (x y : Int) : bits .and .i64 x y = bits .and .i64 y x := by
  unfold bits
  simp [BitVec.and_comm]
theorem zero_and (x : Int) : bits .and .i64 0 x = 0 := by rw [bits_comm]; exact and_zero x
theorem bitV2 : bitV 2 = 0 := by decide
/-- the box of settings -/
abbrev SBox (w w1 : World) (o p u d t c a : Int) : Prop := w1.heap[w.heap.size]? = some (.cells #[.int .i64 o, .int .i64 p, .int .i64 u, .int .i64 d, .int .i64 t, .int .i64 c, .int .i64 a] 23 (0, 0))
set_option maxRecDepth 100000 in
set_option maxHeartbeats 4000000 in
theorem pauseBits_of (o p u d t c a k f : Int) (v wh n : Nat) (m : Bool) (w : World) (hv : Vp w) (hn1 : IntKind.u8.wrap a = (n : Nat)) (hn2 : n ≤ 255)
    (hwh : (wh = 0 ∧ m = true) ∨ (wh = 1 ∧ (f == o) = true ∧ (f != o) = false ∧ m = true) ∨ (wh = 2 ∧ (f == p) = true ∧ (f != p) = false ∧ m = true) ∨ (wh = 3 ∧ (f == u) = true ∧ (f != u) = false ∧ m = true) ∨ (wh ≠ 0 ∧ m = false)) (ev : v = bitV k) (ewh : wh = whoV k) (em : m = mayV o p u k f)
    (hvv : v = 0 ∨ (1 ≤ k ∧ k ≤ 28 ∧ v ≤ 128 ∧ v ≠ 0 ∧ bits .and .i64 ((v : Nat) : Int) (((v : Nat) : Int) - 1) = 0)) :
    Calls Tryd.prog 5 #[.agg #[.int .i64 o, .int .i64 p, .int .i64 u, .int .i64 d, .int .i64 t, .int .i64 c, .int .i64 a], .int .i64 k, .int .i64 f] w fun e w' => e = .returned (.bool true) ∧ Below w.heap.size w w' := by
  have hb1 := (Below.refl w.heap.size w).alloc (Nat.le_refl _) (.cells #[.int .i64 o, .int .i64 p, .int .i64 u, .int .i64 d, .int .i64 t, .int .i64 c, .int .i64 a] 23)
  have r1 : (w.alloc (.cells #[.int .i64 o, .int .i64 p, .int .i64 u, .int .i64 d, .int .i64 t, .int .i64 c, .int .i64 a] 23)).heap[w.heap.size]? = some (.cells #[.int .i64 o, .int .i64 p, .int .i64 u, .int .i64 d, .int .i64 t, .int .i64 c, .int .i64 a] 23 (0, 0)) := heap_alloc_new _ _
  have z1 : w.heap.size < (w.alloc (.cells #[.int .i64 o, .int .i64 p, .int .i64 u, .int .i64 d, .int .i64 t, .int .i64 c, .int .i64 a] 23)).heap.size := hp_lt r1
  have HB1 := Lib.hid hb1
  have R1 := Lib.hid r1
  have Z1 := Lib.hid z1
  have HV := Lib.hid (hv.below hb1)
  have HK := Lib.hid (fun (w : World) (h : Vp w) => show Calls Tryd.prog 9 #[.int .i64 k] w fun e w' => e = .returned (.int .i64 (v : Nat)) ∧ w = w' from by rw [ev]; exact bit_walk k w h)
  have HW := Lib.hid (fun (w : World) => show Calls Tryd.prog 11 #[.int .i64 k] w fun e w' => e = .returned (.int .i64 (wh : Nat)) ∧ w = w' from by rw [ewh]; exact who_walk k w)
  have HMy := Lib.hid (fun (w : World) => show Calls Tryd.prog 13 #[.agg #[.int .i64 o, .int .i64 p, .int .i64 u, .int .i64 d, .int .i64 t, .int .i64 c, .int .i64 a], .int .i64 k, .int .i64 f] w fun e w' => e = .returned (.bool m) ∧ Below w.heap.size w w' from by rw [em]; exact may_walk o p u d t c a k f w)
  have HP2 := Lib.hid (fun (W : World) (b : Nat) (F : List Nat) (q : Nat) (qs : List Value) (h : SNew (w.alloc (.cells #[.int .i64 o, .int .i64 p, .int .i64 u, .int .i64 d, .int .i64 t, .int .i64 c, .int .i64 a] 23)) W b F (flagsL n) q qs) (hp : Vp W) => show Calls Tryd.prog 21 #[.pointer (some ⟨b, 0, none⟩), .int .i64 2] W fun e W' => e = .returned (.bool false) ∧ SNew (w.alloc (.cells #[.int .i64 o, .int .i64 p, .int .i64 u, .int .i64 d, .int .i64 t, .int .i64 c, .int .i64 a] 23)) W' b F (flagsL n) q qs ∧ Vp W' from (paused_live h 2 (by omega) hp).mono fun e W' hh => ⟨by rw [hh.1, bitV2]; exact congrArg (fun x => Ending.returned (.bool (x != 0))) (zero_and _), hh.2⟩)
  have HPk := Lib.hid (fun (W : World) (b : Nat) (F : List Nat) (q : Nat) (qs : List Value) (h : SNew (w.alloc (.cells #[.int .i64 o, .int .i64 p, .int .i64 u, .int .i64 d, .int .i64 t, .int .i64 c, .int .i64 a] 23)) W b F (flagsL n) q qs) (hp : Vp W) => show Calls Tryd.prog 21 #[.pointer (some ⟨b, 0, none⟩), .int .i64 k] W fun e W' => e = .returned (.bool (bits .and .i64 (n : Nat) (v : Nat) != 0)) ∧ SNew (w.alloc (.cells #[.int .i64 o, .int .i64 p, .int .i64 u, .int .i64 d, .int .i64 t, .int .i64 c, .int .i64 a] 23)) W' b F (flagsL n) q qs ∧ Vp W' from (paused_live h k (by omega) hp).mono fun e W' hh => ⟨by rw [hh.1, ev, bits_comm], hh.2⟩)
  have HN2 := Lib.hid hn2
  have hn3 : (n : Int) ≤ 255 := by omega
  have hn4 : IntKind.i64.wrap (n : Int) = (n : Int) := IntWalk.i64_in _ (by omega)
  clear hv hb1 r1 z1 ev ewh em
  have hvv' : (v = 0 ∧ bits .and .i64 (0 : Int) (-1) = 0) ∨ ((¬ k < 1) ∧ (¬ 28 < k) ∧ (v : Int) ≤ 128 ∧ v ≠ 0 ∧ IntKind.i64.wrap ((v : Int) - 1) = (v : Int) - 1 ∧ bits .and .i64 ((v : Nat) : Int) (((v : Nat) : Int) - 1) = 0) := by
    rcases hvv with h | ⟨h1, h2, h3, h4, h5⟩
    · exact .inl ⟨h, zero_and _⟩
    · exact .inr ⟨by omega, by omega, by omega, h4, IntWalk.i64_in _ (by omega), h5⟩
  clear hvv
  obtain ⟨B, hB⟩ : ∃ x, x = (bits .and .i64 (n : Nat) (v : Nat) != 0) := ⟨_, rfl⟩
  rw [← hB] at HPk
  have hB2 : (bits .and .i64 (n : Int) (v : Int) != 0) = B := hB.symm
  clear hB
  have hvv : (v = 0 ∧ B = false ∧ bits .and .i64 (n : Int) 0 = 0 ∧ bits .and .i64 (0 : Int) (-1) = 0) ∨ ((¬ k < 1) ∧ (¬ 28 < k) ∧ (v : Int) ≤ 128 ∧ v ≠ 0 ∧ IntKind.i64.wrap ((v : Int) - 1) = (v : Int) - 1 ∧ bits .and .i64 ((v : Nat) : Int) (((v : Nat) : Int) - 1) = 0) := by
    rcases hvv' with ⟨h1, h2⟩ | h
    · refine .inl ⟨h1, ?_, and_zero _, h2⟩
      rw [← hB2, h1]
      exact congrArg (fun x => x != 0) (and_zero _)
    · exact .inr h
  clear hvv'
  rcases hvv with ⟨rfl, rfl, v0, v1⟩ | ⟨v1, v2, v3, v4, v5, v6⟩ <;> rcases hwh with ⟨rfl, rfl⟩ | ⟨rfl, f1, f2, rfl⟩ | ⟨rfl, f1, f2, rfl⟩ | ⟨rfl, f1, f2, rfl⟩ | ⟨w1, rfl⟩ <;>
    (go_enter Tryd.func5, Tryd.ntmps5
     go_wp2_with (first
       | (go_at_call 15; refine (lives35_walk _ (HV.out.far B8.out (Nat.le_refl _))).mono ?_; rintro e w9 ⟨rfl, hb9⟩; have B9 := Lib.hid (B8.out.trans (hb9.mono B8.out.size)); clear hb9)
       | (go_at_call 15; refine (lives35_walk _ (HV.out.far B7.out (Nat.le_refl _))).mono ?_; rintro e w9 ⟨rfl, hb9⟩; have B9 := Lib.hid (B7.out.trans (hb9.mono B7.out.size)); clear hb9)
       | (go_at_call 13; have g7 := B7; clear g7; refine (HMy.out _).mono ?_; rintro e w8 ⟨rfl, hb8⟩; have B8 := Lib.hid (B7.out.trans (hb8.mono B7.out.size)); clear hb8)
       | (go_at_call 13; have g5 := h5; clear g5; refine (HMy.out _).mono ?_; rintro e w7 ⟨rfl, hb7⟩; have r7 := (hb7.block w.heap.size (Nat.lt_of_lt_of_le Z1.out h5.out.1.l.size)).trans ((h5.out.1.l.block w.heap.size Z1.out).trans R1.out); have B7 := Lib.hid (h5.out.1.l.trans (hb7.mono h5.out.1.l.size)); have c0 := (hp_cell (i := 0) r7).trans rfl; have c1 := (hp_cell (i := 1) r7).trans rfl; have c2 := (hp_cell (i := 2) r7).trans rfl; have c3 := (hp_cell (i := 3) r7).trans rfl; have c4 := (hp_cell (i := 4) r7).trans rfl; have c5 := (hp_cell (i := 5) r7).trans rfl; have c6 := (hp_cell (i := 6) r7).trans rfl; clear hb7 r7)
       | (go_at_call 11; refine (HW.out _).mono ?_; rintro e w6 ⟨rfl, rfl⟩)
       | (go_at_call 21; have g5 := h4; clear g5; refine (HPk.out _ _ _ _ _ h4.out.1 h4.out.2).mono ?_; rintro e w5 ⟨rfl, h5'⟩; have h5 := Lib.hid h5'; have r5 := (h5'.1.l.block w.heap.size Z1.out).trans R1.out; have c0 := (hp_cell (i := 0) r5).trans rfl; have c1 := (hp_cell (i := 1) r5).trans rfl; have c2 := (hp_cell (i := 2) r5).trans rfl; have c3 := (hp_cell (i := 3) r5).trans rfl; have c4 := (hp_cell (i := 4) r5).trans rfl; have c5 := (hp_cell (i := 5) r5).trans rfl; have c6 := (hp_cell (i := 6) r5).trans rfl; clear h5' r5)
       | (go_at_call 21; refine (HP2.out _ _ _ _ _ h3.out (HV.out.far h3.out.l (Nat.le_refl _))).mono ?_; rintro e w4 ⟨rfl, h4'⟩; have h4 := Lib.hid h4'; clear h4')
       | (go_at_call 17; refine (pset_flags h2.out n HN2.out (by omega)).mono ?_; rintro e w3 ⟨rfl, F3, q3, qs3, hs3⟩; have h3 := Lib.hid hs3; clear hs3)
       | (go_at_call 16; refine (SNew.new (w.alloc (.cells #[.int .i64 o, .int .i64 p, .int .i64 u, .int .i64 d, .int .i64 t, .int .i64 c, .int .i64 a] 23)) _ (Below.refl _ _)).mono ?_; rintro e w2 ⟨b, F2, rfl, hs2, _, _⟩; have h2 := Lib.hid hs2; clear hs2)
       | (go_at_call 9; refine (HK.out _ HV.out).mono ?_; rintro e w1 ⟨rfl, rfl⟩))
     go_ret
     exact ⟨rfl, HB1.out.trans (B9.out.mono HB1.out.size)⟩)
theorem pauseBits_walk (o p u d t c a k f : Int) (w : World) (hv : Vp w) : Calls Tryd.prog 5 #[.agg #[.int .i64 o, .int .i64 p, .int .i64 u, .int .i64 d, .int .i64 t, .int .i64 c, .int .i64 a], .int .i64 k, .int .i64 f] w fun e w' => e = .returned (.bool true) ∧ Below w.heap.size w w' := by
  have hu : 0 ≤ IntKind.u8.wrap a ∧ IntKind.u8.wrap a ≤ 255 := by rw [IntKind.wrap_u8]; omega
  refine pauseBits_of o p u d t c a k f (bitV k) (whoV k) (IntKind.u8.wrap a).toNat (mayV o p u k f) w hv (by omega) (by omega) ?_ rfl rfl rfl (bitV_cases k)
  rcases mayV_cases o p u k f with ⟨h, e⟩ | ⟨h, e⟩ | ⟨h, e⟩ | ⟨h, e⟩
  · exact .inl ⟨h, e⟩
  · by_cases hf : f = o
    · exact .inr (.inl ⟨h, by rw [hf]; exact beq_self_eq_true _, by rw [hf]; simp, by rw [e, hf]; exact beq_self_eq_true _⟩)
    · exact .inr (.inr (.inr (.inr ⟨by omega, by rw [e]; simpa using hf⟩)))
  · by_cases hf : f = p
    · exact .inr (.inr (.inl ⟨h, by rw [hf]; exact beq_self_eq_true _, by rw [hf]; simp, by rw [e, hf]; exact beq_self_eq_true _⟩))
    · exact .inr (.inr (.inr (.inr ⟨by omega, by rw [e]; simpa using hf⟩)))
  · by_cases hf : f = u
    · exact .inr (.inr (.inr (.inl ⟨h, by rw [hf]; exact beq_self_eq_true _, by rw [hf]; simp, by rw [e, hf]; exact beq_self_eq_true _⟩)))
    · exact .inr (.inr (.inr (.inr ⟨by omega, by rw [e]; simpa using hf⟩)))
end Go.Proofs.YtdffnehblhehpaaDoor
