/- delay on a live store: a value's row, put, Get, Set of the document's example; lives of layer 28. -/
import Derived.Test.YthloohoefjmmoaaG11
import Derived.Test.YthloohoefjmmoaaG10
namespace Go.Proofs.Ythloohoefjmmoaa
open Go.RowKit Go.Maps

/-- the numbers of a value's row -/
def rowF (h : Bool) (n x a : Int) (m : Bool) : Nat → Int
  | 0 => if h then 1 else 0
  | 1 => n
  | 2 => if m then 1 else 0
  | 3 => x
  | _ => a
theorem rowF_nonneg {h : Bool} {n x a : Int} {m : Bool} (hn : 0 ≤ n) (hx : 0 ≤ x) (ha : 0 ≤ a) : ∀ i, i < 5 → 0 ≤ rowF h n x a m i := by
  intro i hi
  rcases (by omega : i = 0 ∨ i = 1 ∨ i = 2 ∨ i = 3 ∨ i = 4) with rfl | rfl | rfl | rfl | rfl
  · show (0 : Int) ≤ if h then 1 else 0
    split <;> decide
  · exact hn
  · show (0 : Int) ≤ if m then 1 else 0
    split <;> decide
  · exact hx
  · exact ha
/-- the example's key -/
def K25 : ByteArray := ⟨#[25, 0, 0, 0, 0, 0, 0, 0, 7]⟩
theorem key25 : keyStr 25 (fun _ => 7) 1 = K25 := by decide +kernel
/-- the example's value, and its row -/
def V25 : Value := dval false 0 5 13 true
abbrev f25 : Nat → Int := rowF false 0 5 13 true
end Go.Proofs.Ythloohoefjmmoaa

namespace Go.Proofs.Ythloohoefjmmoaa
open Go.RowKit Go.Maps

def L25 : SL := [(K25, rowV f25 5)]
theorem L25_get : sget L25 K25 = some (rowV f25 5) := by simp [L25, sget, keq_self]
theorem L25_set : setL [] K25 (rowV f25 5) = L25 := by
  unfold setL
  rw [if_neg (by simp [sget])]
  rfl
theorem il7 (w : World) : Il (w.alloc (.cells #[.int .i64 7] 3)) (some ⟨w.heap.size, 0, none⟩) 1 (fun _ => 7) :=
  ⟨fun _ => by decide, fun _ => ⟨w.heap.size, 0, rfl, by simp, fun i hi => by obtain rfl : i = 0 := (by omega); exact (World.cell?_alloc_at _ _ _ _ rfl).trans rfl⟩⟩
theorem SNew.al {w W : World} {b : Nat} {F : List Nat} {L : SL} {q : Nat} {qs : List Value} (h : SNew w W b F L q qs) (o : Obj) : SNew w (W.alloc o) b F L q qs := h.below ((Below.refl _ _).alloc (Nat.le_refl _) o)
end Go.Proofs.Ythloohoefjmmoaa

namespace Go.Proofs.Ythloohoefjmmoaa
open Go.RowKit Go.Maps

/-- a key that is known -/
theorem key_is (t : Int) (A : Option Addr) (n c : Nat) (f : Nat → Int) (K : ByteArray) (hK : keyStr t f n = K) (w : World) (hl : Il w A n f) (hn : n ≤ 100) :
    Calls Try.prog 26 #[.int .i64 t, .slice A n c] w fun e w' => e = .returned (.string K) ∧ Below w.heap.size w w' := by
  refine (key_walk t A n c f w hl hn).mono ?_
  rintro e w' ⟨he, hb⟩
  rw [hK] at he
  exact ⟨he, hb⟩
theorem keyStr_size (t : Int) (f : Nat → Int) (n : Nat) : (keyStr t f n).size ≤ 1 + 8 * n := by
  unfold keyStr
  split
  · rw [strOfNums_size]
    simp [ints, kbs_length]
  · exact Nat.zero_le _
/-- some key -/
theorem key_some (t : Int) (A : Option Addr) (n c : Nat) (f : Nat → Int) (w : World) (hl : Il w A n f) (hn : n ≤ 100) :
    Calls Try.prog 26 #[.int .i64 t, .slice A n c] w fun e w' => (∃ K : ByteArray, e = .returned (.string K) ∧ K.size ≤ 801) ∧ Below w.heap.size w w' := by
  refine (key_walk t A n c f w hl hn).mono ?_
  rintro e w' ⟨he, hb⟩
  exact ⟨⟨_, he, Nat.le_trans (keyStr_size t f n) (by omega)⟩, hb⟩
set_option maxRecDepth 100000 in
theorem tbl_is (t : Int) (K : ByteArray) (hK : keyStr t (fun _ => 0) 0 = K) (w : World) : Calls Try.prog 22 #[.int .i64 t] w fun e w' => e = .returned (.string K) ∧ Below w.heap.size w w' := by
  have hk := Lib.hid (fun w => key_is t none 0 0 (fun _ => 0) K hK w ⟨fun _ => by decide, fun h => absurd h (by omega)⟩ (by omega))
  go_enter Try.func22, Try.ntmps22
  go_wp2_with (go_at_call 26; refine (hk.out _).mono ?_; rintro e w1 ⟨rfl, hb1⟩)
  go_ret
  exact ⟨rfl, hb1⟩
theorem tbl_some (t : Int) (w : World) : Calls Try.prog 22 #[.int .i64 t] w fun e w' => (∃ K : ByteArray, e = .returned (.string K) ∧ K.size ≤ 801) ∧ Below w.heap.size w w' := by
  refine (tbl_is t _ rfl w).mono ?_
  rintro e w' ⟨he, hb⟩
  exact ⟨⟨_, he, Nat.le_trans (keyStr_size _ _ _) (by omega)⟩, hb⟩
theorem il1 (a : Int) (w : World) (t : TypeId) (ha : a < 2 ^ 63) : Il (w.alloc (.cells #[.int .i64 a] t)) (some ⟨w.heap.size, 0, none⟩) 1 (fun _ => a) :=
  ⟨fun _ => ha, fun _ => ⟨w.heap.size, 0, rfl, by simp, fun i hi => by obtain rfl : i = 0 := (by omega); exact (World.cell?_alloc_at _ _ _ _ rfl).trans rfl⟩⟩
/-! ### steps one behind the other -/
theorem SNew.start {w W : World} {b : Nat} {F : List Nat} {L : SL} {q : Nat} {qs : List Value} (h : SNew w W b F L q qs) : LiveTo w W W b F L q := h.same (Below.refl _ _)
theorem LiveTo.l {w W W' : World} {b : Nat} {F : List Nat} {L : SL} {q : Nat} (h : LiveTo w W W' b F L q) : Below w.heap.size w W' := by
  obtain ⟨_, _, _, hs, _⟩ := h
  exact hs.l
theorem LiveTo.grows {w W W' : World} {b : Nat} {F : List Nat} {L : SL} {q : Nat} (h : LiveTo w W W' b F L q) : W.heap.size ≤ W'.heap.size := by
  obtain ⟨_, _, _, _, _, ht, _⟩ := h
  exact ht.size
theorem LiveTo.al {w W W' : World} {b : Nat} {F : List Nat} {L : SL} {q : Nat} (h : LiveTo w W W' b F L q) (o : Obj) : LiveTo w W (W'.alloc o) b F L q := h.post ((Below.refl _ _).alloc (Nat.le_refl _) o)
/-- a call that changes the store, behind others -/
theorem LiveTo.seq {w W W1 : World} {b : Nat} {F : List Nat} {L1 : SL} {q1 : Nat} (h1 : LiveTo w W W1 b F L1 q1) (d : Nat) {f : FuncId} {args : Array Value} {E : Ending → Prop} {L2 : SL}
    (hc : ∀ F1 qa qsa, SNew w W1 b F1 L1 qa qsa → qa ≤ q1 → Calls Try.prog f args W1 fun e W2 => E e ∧ LiveTo w W1 W2 b F1 L2 (qa + d)) :
    Calls Try.prog f args W1 fun e W2 => E e ∧ LiveTo w W W2 b F L2 (q1 + d) := by
  have hz := h1.grows
  obtain ⟨F1, qa, qsa, hs, hq, ht, hf⟩ := h1
  refine (hc F1 qa qsa hs hq).mono ?_
  rintro e W2 ⟨he, F2, q2, qs2, hs2, hq2, ht2, hf2⟩
  refine ⟨he, F2, q2, qs2, hs2, by omega, ht.trans hf ht2, fun k hk => ?_⟩
  rcases hf2 k hk with h | h
  · exact hf k h
  · right; omega
/-- a call that looks at the store, behind others -/
theorem LiveTo.read {w W W1 : World} {b : Nat} {F : List Nat} {L1 : SL} {q1 : Nat} (h1 : LiveTo w W W1 b F L1 q1) {f : FuncId} {args : Array Value} {E : Ending → World → Prop}
    (hc : ∀ F1 qa qsa, SNew w W1 b F1 L1 qa qsa → qa ≤ q1 → Calls Try.prog f args W1 fun e W2 => E e W2 ∧ Below W1.heap.size W1 W2) :
    Calls Try.prog f args W1 fun e W2 => E e W2 ∧ LiveTo w W W2 b F L1 q1 ∧ Below W1.heap.size W1 W2 := by
  have h2 := h1
  obtain ⟨F1, qa, qsa, hs, hq, _⟩ := h2
  refine (hc F1 qa qsa hs hq).mono ?_
  rintro e W2 ⟨he, hb⟩
  exact ⟨he, h1.post hb, hb⟩
/-- blocks of one's own may be written beside -/
theorem LiveTo.own {w W W1 W' W'' : World} {b : Nat} {F : List Nat} {L : SL} {q : Nat} (h : LiveTo w W1 W' b F L q) (hwW : w.heap.size ≤ W.heap.size) (hF : ∀ k ∈ F, k < W.heap.size) (hb : Below W.heap.size W W1) (G : List Nat) (hG : ∀ g ∈ G, W.heap.size ≤ g ∧ g < W1.heap.size) (ht : Touch G W' W'') : LiveTo w W W'' b F L q := by
  obtain ⟨F', q', qs', hs, hq, ht1, hf⟩ := h
  have hd : ∀ k ∈ F', k ∉ G := fun k hk hg => by
    have := hG k hg
    rcases hf k hk with h | h
    · have := hF k h; omega
    · omega
  refine ⟨F', q', qs', ⟨hs.s.touch ht hd, hs.f, hs.l.trans (ht.below (fun k hk => by have := hG k hk; omega) hs.l.size)⟩, hq, ?_, fun k hk => ?_⟩
  · refine ((Touch.of_below hb).trans (fun _ hk => .inl hk) ht1).trans (F' := G) (fun g hg => .inr (hG g hg).1) ht
  · rcases hf k hk with h | h
    · exact .inl h
    · right; have := hb.size; omega
theorem touch_set4 {G : List Nat} {w : World} {b : Nat} {x0 x1 x2 x3 : Value} (h : b ∈ G) : Touch G w ((((w.setCell ⟨b, 0, none⟩ x0).setCell ⟨b, 1, none⟩ x1).setCell ⟨b, 2, none⟩ x2).setCell ⟨b, 3, none⟩ x3) :=
  (((Touch.setCell w ⟨b, 0, none⟩ x0 h).trans (fun _ hk => .inl hk) (Touch.setCell _ ⟨b, 1, none⟩ x1 h)).trans (fun _ hk => .inl hk) (Touch.setCell _ ⟨b, 2, none⟩ x2 h)).trans (fun _ hk => .inl hk) (Touch.setCell _ ⟨b, 3, none⟩ x3 h)
/-- what a step on an empty key makes of the list -/
theorem setL_nil (k v : ByteArray) : setL [] k v = [(k, v)] := by
  unfold setL
  rw [if_neg (by simp [sget])]
  rfl
end Go.Proofs.Ythloohoefjmmoaa
