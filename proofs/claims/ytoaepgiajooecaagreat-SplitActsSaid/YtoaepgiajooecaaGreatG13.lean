/- delay.Set of the document's example on an empty store; lives of layer 28. -/
import Derived.Test.YtoaepgiajooecaaGreatG12
import Derived.Test.YtoaepgiajooecaaGreatG11
namespace Go.Proofs.YtoaepgiajooecaaGreat
open Go.RowKit Go.Maps

set_option maxRecDepth 100000 in
theorem dwithin_ok (x : Int) (w : World) (h1 : 0 ≤ x) (h2 : x ≤ 1099511627776) : Calls Tryz.prog 45 #[.int .i64 x] w fun e w' => e = .returned (.bool true) ∧ w = w' := by
  go_enter Tryz.func45, Tryz.ntmps45
  go_wp2
  go_ret
  exact ⟨rfl, rfl⟩
def L25 : SL := [(K25, rowV f25 5)]
theorem L25_get : sget L25 K25 = some (rowV f25 5) := by simp [L25, sget, keq_self]
theorem L25_set : setL [] K25 (rowV f25 5) = L25 := by
  unfold setL
  rw [if_neg (by simp [sget])]
  rfl
set_option maxRecDepth 100000 in
set_option maxHeartbeats 4000000 in
theorem dset_walk {w W : World} {b : Nat} {F : List Nat} {q : Nat} {qs : List Value} (hs : SNew w W b F [] q qs) (hq : q < 1000000) (A : Option Addr) (c : Nat) (hl : Il W A 1 (fun _ => 7)) :
    Calls Tryz.prog 21 #[.pointer (some ⟨b, 0, none⟩), .int .i64 25, .slice A 1 c, .int .i64 5, .int .i64 10, .int .i64 3] W fun e W' => e = .returned (.int .i64 0) ∧ LiveTo w W W' b F L25 (q + 1) := by
  have HM := Lib.hid (made_live b F [] q qs W hs.s)
  have HK := Lib.hid (key_walk 25 A 1 c (fun _ => 7) W hl (by omega))
  rw [show KeyPost 25 (fun _ => 7) 1 = fun w e w' => e = .returned (.string K25) ∧ Below w.heap.size w w' from by funext w e w'; unfold KeyPost; rw [key25]] at HK
  have HG := Lib.hid (fun (W1 : World) (hb : Below W.heap.size W W1) => dget_none (hs.below hb) rfl A c (hl.below hb))
  have HP := Lib.hid (fun (W1 : World) (hb : Below W.heap.size W W1) => (dput_walk (hs.below hb) K25 false 0 5 13 true (by decide) (by decide) (by decide) (by decide) (by decide) (by decide) hq).mono fun e W' hp => (⟨hp.1, by rw [← L25_set]; exact hp.2.pre hb⟩ : e = .returned (.tuple #[]) ∧ LiveTo w W W' b F L25 (q + 1)))
  have HS0 := Lib.hid (settle0 10)
  have HS1 := Lib.hid (fun w => settle_stays false 0 5 13 10 w (by decide))
  have HKne := ba_nil (k := K25) (by decide)
  obtain ⟨kk, hkk⟩ : ∃ x, x = K25 := ⟨_, rfl⟩
  rw [← hkk] at HK HP HKne
  obtain ⟨LL, hLL⟩ : ∃ x, x = L25 := ⟨_, rfl⟩
  rw [← hLL] at HP ⊢
  clear hs hq hl hkk hLL
  unfold dv0 at HG HS0
  unfold dval at HP HS1
  go_enter Tryz.func21, Tryz.ntmps21
  go_wp2_with (first
    | (go_at_call 47; refine (HP.out _ (((((HB9.out.setCell HB8.out.size _).setCell HB8.out.size _).setCell HB8.out.size _).setCell HB8.out.size _).setCell HB8.out.size _)).mono ?_; rintro e w10 ⟨rfl, h10⟩; have H10 := Lib.hid h10; clear h10)
    | (go_at_call 46; have g8 := HB8; clear g8; with_reducible refine (HS1.out _).mono ?_; rintro e w9 ⟨rfl, hb9⟩; have ra := (hb9.block w7.heap.size (by simp; have := Z8.out; omega)).trans ((heap_alloc_old w8 (.cells #[.bool false, .int .i64 0, .int .i64 5, .int .i64 13, .bool true] 59) Z8.out).trans R8.out); have rb := (hb9.block w8.heap.size (by simp)).trans (heap_alloc_new w8 (.cells #[.bool false, .int .i64 0, .int .i64 5, .int .i64 13, .bool true] 59)); have a0 := (hp_cell (i := 0) ra).trans rfl; have b0 := (hp_cell (i := 0) rb).trans rfl; have g0 := hp_free (i := 0) rb; have a1 := (hp_cell (i := 1) ra).trans rfl; have b1 := (hp_cell (i := 1) rb).trans rfl; have g1 := hp_free (i := 1) rb; have a2 := (hp_cell (i := 2) ra).trans rfl; have b2 := (hp_cell (i := 2) rb).trans rfl; have g2 := hp_free (i := 2) rb; have a3 := (hp_cell (i := 3) ra).trans rfl; have b3 := (hp_cell (i := 3) rb).trans rfl; have g3 := hp_free (i := 3) rb; have a4 := (hp_cell (i := 4) ra).trans rfl; have b4 := (hp_cell (i := 4) rb).trans rfl; have g4 := hp_free (i := 4) rb; have hbg := HB8.out.alloc HB8.out.size (.cells #[.bool false, .int .i64 0, .int .i64 5, .int .i64 13, .bool true] 59); have HB9 := Lib.hid (hbg.trans (hb9.mono hbg.size)); have Z9 := hp_lt ra; have Y9 := hp_lt rb; have Z8' := Z8.out; clear hb9 hbg ra rb)
    | (go_at_call 46; with_reducible refine (HS0.out _).mono ?_; rintro e w8 ⟨rfl, hb8⟩; have hbg := HB7.out.alloc HB7.out.size (.cells #[.bool false, .int .i64 0, .int .i64 0, .int .i64 0, .bool false] 59); have HB8 := Lib.hid (hbg.trans (hb8.mono hbg.size)); have R8 := Lib.hid ((hb8.block w7.heap.size (by simp)).trans (heap_alloc_new w7 (.cells #[.bool false, .int .i64 0, .int .i64 0, .int .i64 0, .bool false] 59))); have Z8 := Lib.hid (hp_lt R8.out); clear hb8 hbg)
    | (go_at_call 26; refine (HG.out w6 HB6.out).mono ?_; rintro e w7 ⟨rfl, hb7⟩; have HB7 := Lib.hid (HB6.out.trans (hb7.mono HB6.out.size)); clear hb7)
    | (go_at_call 45; refine (dwithin_ok _ _ (by decide) (by decide)).mono ?_; rintro e w5 ⟨rfl, rfl⟩)
    | (go_at_call 39; refine HK.out.mono ?_; rintro e w6 ⟨rfl, hb6⟩; have HB6 := Lib.hid hb6; clear hb6)
    | (go_at_call 18; refine HM.out.mono ?_; rintro e w1 ⟨rfl, rfl⟩))
  go_ret
  exact ⟨rfl, H10.out⟩
theorem il7 (w : World) : Il (w.alloc (.cells #[.int .i64 7] 3)) (some ⟨w.heap.size, 0, none⟩) 1 (fun _ => 7) :=
  ⟨fun _ => by decide, fun _ => ⟨w.heap.size, 0, rfl, by simp, fun i hi => by obtain rfl : i = 0 := (by omega); exact (World.cell?_alloc_at _ _ _ _ rfl).trans rfl⟩⟩
theorem SNew.al {w W : World} {b : Nat} {F : List Nat} {L : SL} {q : Nat} {qs : List Value} (h : SNew w W b F L q qs) (o : Obj) : SNew w (W.alloc o) b F L q qs := h.below ((Below.refl _ _).alloc (Nat.le_refl _) o)
end Go.Proofs.YtoaepgiajooecaaGreat

namespace Go.Proofs.YtoaepgiajooecaaGreat
open Go.RowKit Go.Maps

/-- a key that is known -/
theorem key_is (t : Int) (A : Option Addr) (n c : Nat) (f : Nat → Int) (K : ByteArray) (hK : keyStr t f n = K) (w : World) (hl : Il w A n f) (hn : n ≤ 100) :
    Calls Tryz.prog 39 #[.int .i64 t, .slice A n c] w fun e w' => e = .returned (.string K) ∧ Below w.heap.size w w' := by
  refine (key_walk t A n c f w hl hn).mono ?_
  rintro e w' ⟨he, hb⟩
  rw [hK] at he
  exact ⟨he, hb⟩
theorem keyStr_size (t : Int) (f : Nat → Int) (n : Nat) : (keyStr t f n).size ≤ 1 + 8 * n := by
  unfold keyStr
  split
  · rw [strOfNums_size]
    simp [ints, kbs_length]
  · exact Nat.zero_le _
/-- some key -/
theorem key_some (t : Int) (A : Option Addr) (n c : Nat) (f : Nat → Int) (w : World) (hl : Il w A n f) (hn : n ≤ 100) :
    Calls Tryz.prog 39 #[.int .i64 t, .slice A n c] w fun e w' => (∃ K : ByteArray, e = .returned (.string K) ∧ K.size ≤ 801) ∧ Below w.heap.size w w' := by
  refine (key_walk t A n c f w hl hn).mono ?_
  rintro e w' ⟨he, hb⟩
  exact ⟨⟨_, he, Nat.le_trans (keyStr_size t f n) (by omega)⟩, hb⟩
theorem il1 (a : Int) (w : World) (t : TypeId) (ha : a < 2 ^ 63) : Il (w.alloc (.cells #[.int .i64 a] t)) (some ⟨w.heap.size, 0, none⟩) 1 (fun _ => a) :=
  ⟨fun _ => ha, fun _ => ⟨w.heap.size, 0, rfl, by simp, fun i hi => by obtain rfl : i = 0 := (by omega); exact (World.cell?_alloc_at _ _ _ _ rfl).trans rfl⟩⟩
/-! ### steps one behind the other -/
theorem SNew.start {w W : World} {b : Nat} {F : List Nat} {L : SL} {q : Nat} {qs : List Value} (h : SNew w W b F L q qs) : LiveTo w W W b F L q := h.same (Below.refl _ _)
theorem LiveTo.l {w W W' : World} {b : Nat} {F : List Nat} {L : SL} {q : Nat} (h : LiveTo w W W' b F L q) : Below w.heap.size w W' := by
  obtain ⟨_, _, _, hs, _⟩ := h
  exact hs.l
theorem LiveTo.grows {w W W' : World} {b : Nat} {F : List Nat} {L : SL} {q : Nat} (h : LiveTo w W W' b F L q) : W.heap.size ≤ W'.heap.size := by
  obtain ⟨_, _, _, _, _, ht, _⟩ := h
  exact ht.size
theorem LiveTo.al {w W W' : World} {b : Nat} {F : List Nat} {L : SL} {q : Nat} (h : LiveTo w W W' b F L q) (o : Obj) : LiveTo w W (W'.alloc o) b F L q := h.post ((Below.refl _ _).alloc (Nat.le_refl _) o)
/-- a call that changes the store, behind others -/
theorem LiveTo.seq {w W W1 : World} {b : Nat} {F : List Nat} {L1 : SL} {q1 : Nat} (h1 : LiveTo w W W1 b F L1 q1) (d : Nat) {f : FuncId} {args : Array Value} {E : Ending → Prop} {L2 : SL}
    (hc : ∀ F1 qa qsa, SNew w W1 b F1 L1 qa qsa → qa ≤ q1 → Calls Tryz.prog f args W1 fun e W2 => E e ∧ LiveTo w W1 W2 b F1 L2 (qa + d)) :
    Calls Tryz.prog f args W1 fun e W2 => E e ∧ LiveTo w W W2 b F L2 (q1 + d) := by
  have hz := h1.grows
  obtain ⟨F1, qa, qsa, hs, hq, ht, hf⟩ := h1
  refine (hc F1 qa qsa hs hq).mono ?_
  rintro e W2 ⟨he, F2, q2, qs2, hs2, hq2, ht2, hf2⟩
  refine ⟨he, F2, q2, qs2, hs2, by omega, ht.trans hf ht2, fun k hk => ?_⟩
  rcases hf2 k hk with h | h
  · exact hf k h
  · right; omega
/-- a call that looks at the store, behind others -/
theorem LiveTo.read {w W W1 : World} {b : Nat} {F : List Nat} {L1 : SL} {q1 : Nat} (h1 : LiveTo w W W1 b F L1 q1) {f : FuncId} {args : Array Value} {E : Ending → World → Prop}
    (hc : ∀ F1 qa qsa, SNew w W1 b F1 L1 qa qsa → qa ≤ q1 → Calls Tryz.prog f args W1 fun e W2 => E e W2 ∧ Below W1.heap.size W1 W2) :
    Calls Tryz.prog f args W1 fun e W2 => E e W2 ∧ LiveTo w W W2 b F L1 q1 ∧ Below W1.heap.size W1 W2 := by
  have h2 := h1
  obtain ⟨F1, qa, qsa, hs, hq, _⟩ := h2
  refine (hc F1 qa qsa hs hq).mono ?_
  rintro e W2 ⟨he, hb⟩
  exact ⟨he, h1.post hb, hb⟩
/-- blocks of one's own may be written beside -/
theorem LiveTo.own {w W W1 W' W'' : World} {b : Nat} {F : List Nat} {L : SL} {q : Nat} (h : LiveTo w W1 W' b F L q) (hwW : w.heap.size ≤ W.heap.size) (hF : ∀ k ∈ F, k < W.heap.size) (hb : Below W.heap.size W W1) (G : List Nat) (hG : ∀ g ∈ G, W.heap.size ≤ g ∧ g < W1.heap.size) (ht : Touch G W' W'') : LiveTo w W W'' b F L q := by
  obtain ⟨F', q', qs', hs, hq, ht1, hf⟩ := h
  have hd : ∀ k ∈ F', k ∉ G := fun k hk hg => by
    have := hG k hg
    rcases hf k hk with h | h
    · have := hF k h; omega
    · omega
  refine ⟨F', q', qs', ⟨hs.s.touch ht hd, hs.f, hs.l.trans (ht.below (fun k hk => by have := hG k hk; omega) hs.l.size)⟩, hq, ?_, fun k hk => ?_⟩
  · refine ((Touch.of_below hb).trans (fun _ hk => .inl hk) ht1).trans (F' := G) (fun g hg => .inr (hG g hg).1) ht
  · rcases hf k hk with h | h
    · exact .inl h
    · right; have := hb.size; omega
theorem touch_set4 {G : List Nat} {w : World} {b : Nat} {x0 x1 x2 x3 : Value} (h : b ∈ G) : Touch G w ((((w.setCell ⟨b, 0, none⟩ x0).setCell ⟨b, 1, none⟩ x1).setCell ⟨b, 2, none⟩ x2).setCell ⟨b, 3, none⟩ x3) :=
  (((Touch.setCell w ⟨b, 0, none⟩ x0 h).trans (fun _ hk => .inl hk) (Touch.setCell _ ⟨b, 1, none⟩ x1 h)).trans (fun _ hk => .inl hk) (Touch.setCell _ ⟨b, 2, none⟩ x2 h)).trans (fun _ hk => .inl hk) (Touch.setCell _ ⟨b, 3, none⟩ x3 h)
/-- what a step on an empty key makes of the list -/
theorem setL_nil (k v : ByteArray) : setL [] k v = [(k, v)] := by
  unfold setL
  rw [if_neg (by simp [sget])]
  rfl
end Go.Proofs.YtoaepgiajooecaaGreat

namespace Go.Proofs.YtoaepgiajooecaaGreat
open Go.RowKit Go.Maps Go.Sort

theorem sget_setL (L : SL) (k v k' : ByteArray) : sget (setL L k v) k' = if k' = k then some v else sget L k' := by
  unfold setL
  split
  · rename_i h
    split
    · rename_i e; rw [e, h]
    · rfl
  · exact sget_sset L k v k'
theorem setL_len (L : SL) (k v : ByteArray) : (setL L k v).length ≤ L.length + 1 := by
  unfold setL
  split
  · omega
  · unfold sset
    split
    · simp
    · simp; omega
set_option maxRecDepth 100000 in
set_option maxHeartbeats 2000000 in
theorem set_empty (b : Nat) (F : List Nat) (L : SL) (q : Nat) (qs : List Value) (v : ByteArray) (w : World) (h : StP w b F L q qs) :
    Calls Tryz.prog 88 #[.pointer (some ⟨b, 0, none⟩), .string ⟨#[]⟩, .string v] w fun e w' => e = .returned (.int .i64 2) ∧ w = w' := by
  have HM := Lib.hid (made_live b F L q qs w h)
  have hk1 : (⟨#[]⟩ : ByteArray).toList.isEmpty = true := by rw [Lib.toList_data]; rfl
  clear h
  go_enter Tryz.func88, Tryz.ntmps88
  go_wp2_with (go_at_call 18; refine HM.out.mono ?_; rintro e w1 ⟨rfl, rfl⟩)
  go_ret
  exact ⟨rfl, rfl⟩
/-- what Set makes of the entries -/
def setE (L : SL) (k v : ByteArray) : SL := if k = ⟨#[]⟩ then L else setL L k v
theorem SNew.setAny {w W : World} {b : Nat} {F : List Nat} {L : SL} {q : Nat} {qs : List Value} (h : SNew w W b F L q qs) (k v : ByteArray) (hk : k.size ≤ maxLen) (hv : v.size ≤ maxLen) (hN : L.length < 1000000) (hq : q < 1000000) :
    Calls Tryz.prog 88 #[.pointer (some ⟨b, 0, none⟩), .string k, .string v] W fun e W' => (∃ r, e = .returned (.int .i64 r)) ∧ LiveTo w W W' b F (setE L k v) (q + 1) := by
  unfold setE
  by_cases hk0 : k = ⟨#[]⟩
  · rw [if_pos hk0]
    subst hk0
    refine (set_empty b F L q qs v W h.s).mono ?_
    rintro e W' ⟨rfl, rfl⟩
    obtain ⟨F', q', qs', h1, h2, h3⟩ := h.start
    exact ⟨⟨2, rfl⟩, F', q', qs', h1, by omega, h3⟩
  · rw [if_neg hk0]
    refine (h.sets k v hk hv hk0 hN hq).mono ?_
    rintro e W' ⟨he, hl⟩
    exact ⟨⟨0, he⟩, hl⟩
end Go.Proofs.YtoaepgiajooecaaGreat
