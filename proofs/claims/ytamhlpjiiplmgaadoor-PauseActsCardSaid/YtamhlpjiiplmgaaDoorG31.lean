/- pause: Bit, Who, Set, Flags, Paused, on a dead and on a live store; lives of layer 35. -/
import Derived.Test.YtamhlpjiiplmgaaDoorG10
import Derived.Lib.QuietBelow
namespace Go.Proofs.YtamhlpjiiplmgaaDoor
open Go.RowKit Go.Maps

def bitN (i : Nat) : Nat := [0, 0, 0, 0, 0, 128, 1, 1, 2, 2, 2, 2, 4, 4, 16, 8, 8, 8, 8, 8, 8, 16, 32, 64, 64, 64, 64, 64, 64].getD i 0
def bitV (k : Int) : Nat := if 0 ≤ k ∧ k < 29 then bitN k.toNat else 0
/-- the listed variable pause.bits, where it was laid -/
structure Vp (w : World) : Prop where
  c : ∀ i, i < 29 → w.cell? ⟨0, i, none⟩ = some (.int .i64 (bitN i : Nat))
  s : 0 < w.heap.size
theorem Vp.below {w w' : World} (h : Vp w) (hb : Below w.heap.size w w') : Vp w' := ⟨fun i hi => by rw [hb.cell (p := ⟨0, i, none⟩) h.s]; exact h.c i hi, Nat.lt_of_lt_of_le h.s hb.size⟩
theorem Vp.far {w w' : World} {n : Nat} (h : Vp w) (hb : Below n w w') (hn : w.heap.size ≤ n) : Vp w' := h.below (hb.mono hn)
set_option maxRecDepth 100000 in
set_option maxHeartbeats 400000 in
theorem bit_walk (k : Int) (w : World) (h : Vp w) : Calls Tryd.prog 21 #[.int .i64 k] w fun e w' => e = .returned (.int .i64 (bitV k : Nat)) ∧ w = w' := by
  by_cases h0 : k < 0
  · have e0 : bitV k = 0 := by unfold bitV; rw [if_neg (by omega)]
    rw [e0]
    clear h
    go_enter Tryd.func21, Tryd.ntmps21
    go_wp2
    go_ret
    exact ⟨rfl, rfl⟩
  · by_cases h1 : k < 29
    · obtain ⟨j, rfl⟩ : ∃ j : Nat, k = (j : Nat) := ⟨k.toNat, by omega⟩
      have e0 : bitV (j : Nat) = bitN j := by unfold bitV; rw [if_pos (by omega)]; rfl
      rw [e0]
      have c := h.c j (by omega)
      obtain ⟨v, hv⟩ : ∃ v, v = bitN j := ⟨_, rfl⟩
      rw [← hv] at c ⊢
      have n1 : ¬ (29 : Int) ≤ (j : Int) := by omega
      have n2 : ¬ (j : Int) < 0 := by omega
      have n3 : (j : Int) < 29 := by omega
      have n4 : j < 29 := by omega
      clear h hv e0 h0 h1
      go_enter Tryd.func21, Tryd.ntmps21
      go_wp2
      go_ret
      exact ⟨rfl, rfl⟩
    · have e0 : bitV k = 0 := by unfold bitV; rw [if_neg (by omega)]
      rw [e0]
      have n1 : (29 : Int) ≤ k := by omega
      clear h h1
      go_enter Tryd.func21, Tryd.ntmps21
      go_wp2
      go_ret
      exact ⟨rfl, rfl⟩
def whoV (k : Int) : Nat := if k = 1 ∨ k = 3 ∨ k = 4 then 1 else if k = 2 then 2 else if k = 24 ∨ k = 25 then 3 else 0
theorem key42 : keyStr 42 (fun _ => 0) 0 = ⟨#[42]⟩ := by decide +kernel
set_option maxRecDepth 100000 in
theorem table42 (w : World) : Calls Tryd.prog 16 #[.int .i64 42] w fun e w' => e = .returned (.string ⟨#[42]⟩) ∧ Below w.heap.size w w' := by
  have hk := Lib.hid (fun w => key_walk 42 none 0 0 (fun _ => 0) w ⟨fun _ => by decide, fun h => absurd h (by omega)⟩ (by omega))
  go_enter Tryd.func16, Tryd.ntmps16
  go_wp2_with (go_at_call 26; refine (hk.out _).mono ?_; rintro e w1 ⟨rfl, hb1⟩)
  go_ret
  exact ⟨rfl, hb1⟩
set_option maxRecDepth 100000 in
set_option maxHeartbeats 400000 in
theorem pset_dead (p : Value) (n : Int) (w : World) (h : SDead w p) : Calls Tryd.prog 6 #[p, .int .i64 n] w fun e w' => e = .returned (.int .i64 1) ∧ w = w' := by
  have HM := Lib.hid (made_dead p w h)
  clear h
  go_enter Tryd.func6, Tryd.ntmps6
  go_wp2_with (go_at_call 14; refine HM.out.mono ?_; rintro e w1 ⟨rfl, rfl⟩)
  go_ret
  exact ⟨rfl, rfl⟩
set_option maxRecDepth 100000 in
set_option maxHeartbeats 400000 in
theorem pflags_dead (p : Value) (w : World) (h : SDead w p) : Calls Tryd.prog 8 #[p] w fun e w' => e = .returned (.int .i64 0) ∧ Below w.heap.size w w' := by
  have HT := Lib.hid (table42 w)
  have HI := Lib.hid (fun (w1 : World) (hb : Below w.heap.size w w1) => cint_dead p ⟨#[42]⟩ w1 (h.below hb))
  clear h
  go_enter Tryd.func8, Tryd.ntmps8
  go_wp2_with (first
    | (go_at_call 19; refine (HI.out w1 HB1.out).mono ?_; rintro e w2 ⟨rfl, hb2⟩; have HB2 := Lib.hid (HB1.out.trans (hb2.mono HB1.out.size)); clear hb2)
    | (go_at_call 16; refine HT.out.mono ?_; rintro e w1 ⟨rfl, hb1⟩; have HB1 := Lib.hid hb1; clear hb1))
  go_ret
  exact ⟨rfl, HB2.out⟩
theorem and_zero (x : Int) : bits BinOp.and IntKind.i64 x 0 = 0 := by simp [bits]; decide
set_option maxRecDepth 100000 in
set_option maxHeartbeats 400000 in
theorem paused_of (p : Value) (k n : Int) (w : World) (hp : Vp w) (HF : Calls Tryd.prog 8 #[p] w fun e w' => e = .returned (.int .i64 n) ∧ Below w.heap.size w w') :
    Calls Tryd.prog 10 #[p, .int .i64 k] w fun e w' => e = .returned (.bool (bits BinOp.and IntKind.i64 (bitV k : Nat) n != 0)) ∧ Below w.heap.size w w' := by
  have HK := Lib.hid (bit_walk k w hp)
  have HFe := Lib.hid HF
  clear hp HF
  obtain ⟨v, hv⟩ : ∃ v, v = bitV k := ⟨_, rfl⟩
  rw [← hv] at HK ⊢
  clear hv
  go_enter Tryd.func10, Tryd.ntmps10
  go_wp2_with (first
    | (go_at_call 8; refine HFe.out.mono ?_; rintro e w2 ⟨rfl, hb2⟩; have HB2 := Lib.hid hb2; clear hb2)
    | (go_at_call 21; refine HK.out.mono ?_; rintro e w1 ⟨rfl, rfl⟩))
  go_ret
  exact ⟨rfl, HB2.out⟩
set_option maxRecDepth 100000 in
set_option maxHeartbeats 400000 in
theorem paused_dead (p : Value) (k : Int) (w : World) (h : SDead w p) (hp : Vp w) : Calls Tryd.prog 10 #[p, .int .i64 k] w fun e w' => e = .returned (.bool false) ∧ Below w.heap.size w w' := by
  refine (paused_of p k 0 w hp (pflags_dead p w h)).mono ?_
  rintro e w' ⟨rfl, hb⟩
  exact ⟨by rw [and_zero]; rfl, hb⟩
def K42 : ByteArray := ⟨#[42]⟩
set_option maxRecDepth 100000 in
set_option maxHeartbeats 400000 in
theorem pset_some {w W : World} {b : Nat} {F : List Nat} {L : SL} {q : Nat} {qs : List Value} (h : SNew w W b F L q qs) (n : Int) (h1 : 1 ≤ n) (h2 : n ≤ 255) (hN : L.length < 1000000) (hq : q < 1000000) :
    Calls Tryd.prog 6 #[.pointer (some ⟨b, 0, none⟩), .int .i64 n] W fun e W' => e = .returned (.int .i64 0) ∧ LiveTo w W W' b F (setL L K42 (numStr n)) (q + 1) := by
  have HM := Lib.hid (made_live b F L q qs W h.s)
  have HT := Lib.hid (table42 W)
  have HS := Lib.hid (fun (W1 : World) (hb : Below W.heap.size W W1) => (csetInt_set (h.below hb) K42 n (by decide) (by decide) h1 (by omega) hN hq).mono fun e W' hp => (⟨hp.1, hp.2.pre hb⟩ : e = .returned (.tuple #[]) ∧ LiveTo w W W' b F (setL L K42 (numStr n)) (q + 1)))
  have p1 : ¬ n < 0 := by omega
  have p2 : ¬ 255 < n := by omega
  clear h h1 h2 hN hq
  go_enter Tryd.func6, Tryd.ntmps6
  go_wp2_with (first
    | (go_at_call 15; refine (HS.out w1 HB1.out).mono ?_; rintro e w2 ⟨rfl, h1⟩; have H1 := Lib.hid h1; clear h1)
    | (go_at_call 16; refine HT.out.mono ?_; rintro e w1 ⟨rfl, hb1⟩; have HB1 := Lib.hid hb1; clear hb1)
    | (go_at_call 14; refine HM.out.mono ?_; rintro e w0 ⟨rfl, rfl⟩))
  go_ret
  exact ⟨rfl, H1.out⟩
set_option maxRecDepth 100000 in
set_option maxHeartbeats 400000 in
theorem pset_zero {w W : World} {b : Nat} {F : List Nat} {L : SL} {q : Nat} {qs : List Value} (h : SNew w W b F L q qs) (he : sget L K42 = none) :
    Calls Tryd.prog 6 #[.pointer (some ⟨b, 0, none⟩), .int .i64 0] W fun e W' => e = .returned (.int .i64 0) ∧ LiveTo w W W' b F L q := by
  have HM := Lib.hid (made_live b F L q qs W h.s)
  have HT := Lib.hid (table42 W)
  have HS := Lib.hid (fun (W1 : World) (hb : Below W.heap.size W W1) => (csetInt_none (h.below hb) K42 0 (by decide) he (by omega)).mono fun e W' hp => (⟨hp.1, hp.2.pre hb⟩ : e = .returned (.tuple #[]) ∧ LiveTo w W W' b F L q))
  clear h he
  go_enter Tryd.func6, Tryd.ntmps6
  go_wp2_with (first
    | (go_at_call 15; refine (HS.out w1 HB1.out).mono ?_; rintro e w2 ⟨rfl, h1⟩; have H1 := Lib.hid h1; clear h1)
    | (go_at_call 16; refine HT.out.mono ?_; rintro e w1 ⟨rfl, hb1⟩; have HB1 := Lib.hid hb1; clear hb1)
    | (go_at_call 14; refine HM.out.mono ?_; rintro e w0 ⟨rfl, rfl⟩))
  go_ret
  exact ⟨rfl, H1.out⟩
set_option maxRecDepth 100000 in
set_option maxHeartbeats 400000 in
theorem pset_wild {w W : World} {b : Nat} {F : List Nat} {L : SL} {q : Nat} {qs : List Value} (h : SNew w W b F L q qs) (n : Int) (hn : n < 0 ∨ 255 < n) :
    Calls Tryd.prog 6 #[.pointer (some ⟨b, 0, none⟩), .int .i64 n] W fun e W' => e = .returned (.int .i64 5) ∧ W' = W := by
  have HM := Lib.hid (made_live b F L q qs W h.s)
  clear h
  rcases hn with hn | hn
  · go_enter Tryd.func6, Tryd.ntmps6
    go_wp2_with (go_at_call 14; refine HM.out.mono ?_; rintro e w0 ⟨rfl, rfl⟩)
    go_ret
    exact ⟨rfl, rfl⟩
  · have p1 : ¬ n < 0 := by omega
    go_enter Tryd.func6, Tryd.ntmps6
    go_wp2_with (go_at_call 14; refine HM.out.mono ?_; rintro e w0 ⟨rfl, rfl⟩)
    go_ret
    exact ⟨rfl, rfl⟩
/-- what a store that holds flags alone holds -/
def flagsL (n : Nat) : SL := if n = 0 then [] else [(K42, numStr n)]
theorem flagsL_get {n : Nat} : sget (flagsL n) K42 = if n = 0 then none else some (numStr n) := by
  unfold flagsL
  split
  · rfl
  · simp [sget, keq_self]
set_option maxRecDepth 100000 in
set_option maxHeartbeats 400000 in
theorem pflags_live {w W : World} {b : Nat} {F : List Nat} {n : Nat} {q : Nat} {qs : List Value} (h : SNew w W b F (flagsL n) q qs) (hn : n < 2 ^ 63) :
    Calls Tryd.prog 8 #[.pointer (some ⟨b, 0, none⟩)] W fun e W' => e = .returned (.int .i64 (n : Nat)) ∧ Below W.heap.size W W' := by
  have HT := Lib.hid (table42 W)
  have HI := Lib.hid (fun (w1 : World) (hb : Below W.heap.size W w1) => show Calls Tryd.prog 19 #[.pointer (some ⟨b, 0, none⟩), .string K42] w1 fun e W' => e = .returned (.int .i64 (n : Nat)) ∧ Below w1.heap.size w1 W' from by
    by_cases h0 : n = 0
    · subst h0
      exact cint_none (h.below hb) K42 (by decide) (by rw [flagsL_get]; rfl)
    · exact cint_some (h.below hb) K42 n (by decide) (by rw [flagsL_get, if_neg h0]) hn)
  clear h hn
  go_enter Tryd.func8, Tryd.ntmps8
  go_wp2_with (first
    | (go_at_call 19; refine (HI.out w1 HB1.out).mono ?_; rintro e w2 ⟨rfl, hb2⟩; have HB2 := Lib.hid (HB1.out.trans (hb2.mono HB1.out.size)); clear hb2)
    | (go_at_call 16; refine HT.out.mono ?_; rintro e w1 ⟨rfl, hb1⟩; have HB1 := Lib.hid hb1; clear hb1))
  go_ret
  exact ⟨rfl, HB2.out⟩
/-- pause.Set on an empty store, whatever flags there may be -/
theorem pset_flags {w W : World} {b : Nat} {F : List Nat} {q : Nat} {qs : List Value} (h : SNew w W b F [] q qs) (n : Nat) (h2 : n ≤ 255) (hq : q < 1000000) :
    Calls Tryd.prog 6 #[.pointer (some ⟨b, 0, none⟩), .int .i64 (n : Nat)] W fun e W' => e = .returned (.int .i64 0) ∧ ∃ F' q' qs', SNew w W' b F' (flagsL n) q' qs' := by
  by_cases h0 : n = 0
  · subst h0
    refine (pset_zero h rfl).mono ?_
    rintro e W' ⟨he, F', q', qs', hs, _⟩
    exact ⟨he, F', q', qs', hs⟩
  · refine (pset_some h (n : Nat) (by omega) (by omega) (by decide) hq).mono ?_
    rintro e W' ⟨he, F', q', qs', hs, _⟩
    refine ⟨he, F', q', qs', ?_⟩
    have e1 : setL [] K42 (numStr (n : Nat)) = flagsL n := by
      unfold setL flagsL
      rw [if_neg h0]
      rfl
    rw [← e1]
    exact hs
theorem paused_live {w W : World} {b : Nat} {F : List Nat} {n : Nat} {q : Nat} {qs : List Value} (h : SNew w W b F (flagsL n) q qs) (k : Int) (hn : n < 2 ^ 63) (hp : Vp W) :
    Calls Tryd.prog 10 #[.pointer (some ⟨b, 0, none⟩), .int .i64 k] W fun e W' => e = .returned (.bool (bits BinOp.and IntKind.i64 (bitV k : Nat) (n : Nat) != 0)) ∧ SNew w W' b F (flagsL n) q qs ∧ Vp W' := by
  refine (paused_of _ k (n : Nat) W hp (pflags_live h hn)).mono ?_
  rintro e W' ⟨he, hb⟩
  exact ⟨he, h.below hb, hp.below hb⟩
theorem SNew.mono_paused {w W : World} {b : Nat} {F : List Nat} {q : Nat} {qs : List Value} (h : SNew w W b F (flagsL 3) q qs) (k : Int) {bt : Bool} (hp : Vp W) (hb : (bits BinOp.and IntKind.i64 (bitV k : Nat) 3 != 0) = bt) :
    Calls Tryd.prog 10 #[.pointer (some ⟨b, 0, none⟩), .int .i64 k] W fun e W' => e = .returned (.bool bt) ∧ SNew w W' b F (flagsL 3) q qs ∧ Vp W' := by
  refine (paused_live h k (by decide) hp).mono ?_
  rintro e W' ⟨he, hh⟩
  exact ⟨by rw [he]; exact congrArg (fun b => Ending.returned (.bool b)) hb, hh⟩
set_option maxRecDepth 100000 in
set_option maxHeartbeats 4000000 in
theorem lives35_walk (w : World) (hp : Vp w) : Calls Tryd.prog 4 #[] w fun e w' => e = .returned (.bool true) ∧ Below w.heap.size w w' := by
  have HV := Lib.hid hp
  clear hp
  go_enter Tryd.func4, Tryd.ntmps4
  go_wp2_with (first
    | (go_at_call 10; have g5 := h4; clear g5; refine (h4.out.1.mono_paused 12 (bt := false) h4.out.2 (by decide +kernel)).mono ?_; rintro e w6 ⟨rfl, h5'⟩; have h5 := Lib.hid h5'; clear h5')
    | (go_at_call 10; have g5 := h3; clear g5; refine (h3.out.1.mono_paused 9 (bt := true) h3.out.2 (by decide +kernel)).mono ?_; rintro e w5 ⟨rfl, h4'⟩; have h4 := Lib.hid h4'; clear h4')
    | (go_at_call 10; refine (h2.out.mono_paused 6 (bt := true) (HV.out.far h2.out.l (Nat.le_refl _)) (by decide +kernel)).mono ?_; rintro e w4 ⟨rfl, h3'⟩; have h3 := Lib.hid h3'; clear h3')
    | (go_at_call 6; refine (pset_flags h1.out 3 (by omega) (by omega)).mono ?_; rintro e w2 ⟨rfl, F2, q2, qs2, hs2⟩; have h2 := Lib.hid hs2; clear hs2)
    | (go_at_call 5; refine (SNew.new w _ (Below.refl _ _)).mono ?_; rintro e w1 ⟨b, F1, rfl, hs1, _, _⟩; have h1 := Lib.hid hs1; clear hs1))
  go_ret
  exact ⟨rfl, h5.out.1.l⟩
end Go.Proofs.YtamhlpjiiplmgaaDoor

namespace Go.Proofs.YtamhlpjiiplmgaaDoor
open Go.RowKit Go.Maps

def mayV (o p u k f : Int) : Bool := if whoV k = 1 then (f == o) else if whoV k = 2 then (f == p) else if whoV k = 3 then (f == u) else true
theorem whoV_cases (k : Int) : whoV k = 0 ∨ whoV k = 1 ∨ whoV k = 2 ∨ whoV k = 3 := by
  unfold whoV
  split
  · simp
  · split
    · simp
    · split <;> simp
theorem mayV_cases (o p u k f : Int) : (whoV k = 0 ∧ mayV o p u k f = true) ∨ (whoV k = 1 ∧ mayV o p u k f = (f == o)) ∨ (whoV k = 2 ∧ mayV o p u k f = (f == p)) ∨ (whoV k = 3 ∧ mayV o p u k f = (f == u)) := by
  unfold mayV
  rcases whoV_cases k with h | h | h | h <;> simp [h]
end Go.Proofs.YtamhlpjiiplmgaaDoor

namespace Go.Proofs.YtamhlpjiiplmgaaDoor
open Go.RowKit Go.Maps

def accV (x : Int) : Bool := decide (1 ≤ x ∧ x ≤ 4294967295)
def witV (x l : Int) : Bool := decide (l ≤ x ∧ x ≤ 1000000)
def goodV (o p u d t c a : Int) : Bool := accV o && accV p && accV u && witV d 1 && witV t 1 && witV c 0 && witV a 0
def el3 (o p u : Int) : Nat → Int
  | 0 => o
  | 1 => p
  | _ => u
def el4 (d t c a : Int) : Nat → Int
  | 0 => d
  | 1 => t
  | 2 => c
  | _ => a
theorem goodV_acc {o p u d t c a : Int} {j : Nat} (hj : j < 3) (h : accV (el3 o p u j) = false) : goodV o p u d t c a = false := by
  unfold goodV
  rcases (by omega : j = 0 ∨ j = 1 ∨ j = 2) with rfl | rfl | rfl
  · have h' : accV o = false := h
    simp [h']
  · have h' : accV p = false := h
    simp [h']
  · have h' : accV u = false := h
    simp [h']
theorem goodV_in {o p u d t c a : Int} (h : ∀ j, j < 3 → accV (el3 o p u j) = true) : goodV o p u d t c a = (witV d 1 && witV t 1 && witV c 0 && witV a 0) := by
  have h0 : accV o = true := h 0 (by decide)
  have h1 : accV p = true := h 1 (by decide)
  have h2 : accV u = true := h 2 (by decide)
  unfold goodV
  simp [h0, h1, h2]
def inV (x : Int) : Bool := decide (0 ≤ x ∧ x ≤ 1000000)
theorem goodV_wild {o p u d t c a : Int} {j : Nat} (hj : j < 4) (h : inV (el4 d t c a j) = false) : goodV o p u d t c a = false := by
  have key : ∀ x l : Int, 0 ≤ l → inV x = false → witV x l = false := fun x l hl h => by
    unfold inV at h
    have := of_decide_eq_false h
    exact decide_eq_false (by omega)
  unfold goodV
  rcases (by omega : j = 0 ∨ j = 1 ∨ j = 2 ∨ j = 3) with rfl | rfl | rfl | rfl
  · rw [key d 1 (by omega) h]; simp
  · rw [key t 1 (by omega) h]; simp
  · rw [key c 0 (by omega) h]; simp
  · rw [key a 0 (by omega) h]; simp
theorem goodV_end {o p u d t c a : Int} (h3 : ∀ j, j < 3 → accV (el3 o p u j) = true) (h4 : ∀ j, j < 4 → inV (el4 d t c a j) = true) : goodV o p u d t c a = (decide (1 ≤ d) && decide (1 ≤ t)) := by
  rw [goodV_in h3]
  have q0 := of_decide_eq_true (h4 0 (by decide))
  have q1 := of_decide_eq_true (h4 1 (by decide))
  have q2 := of_decide_eq_true (h4 2 (by decide))
  have q3 := of_decide_eq_true (h4 3 (by decide))
  unfold el4 at q0 q1 q2 q3
  simp only at q0 q1 q2 q3
  unfold witV
  rw [decide_eq_true q2, decide_eq_true q3, Bool.and_true, Bool.and_true]
  congr 1
  · exact decide_eq_decide.2 ⟨fun h => h.1, fun h => ⟨h, q0.2⟩⟩
  · exact decide_eq_decide.2 ⟨fun h => h.1, fun h => ⟨h, q1.2⟩⟩
end Go.Proofs.YtamhlpjiiplmgaaDoor
