/- fifo on a live store, any id: Push, Peek, Pop. -/
import Derived.Test.YtedkhpnlhkjjgaaG18
import Derived.Test.YtedkhpnlhkjjgaaG08
namespace Go.Proofs.Ytedkhpnlhkjjgaa
open Go.RowKit Go.Maps Go.Sort

theorem ends_liveA {w W : World} {b : Nat} {F : List Nat} {L : SL} {q : Nat} {qs : List Value} (h : SNew w W b F L q qs) (t : Int) (A : Option Addr) (n c : Nat) (f : Nat → Int) (hl : Il W A n f) (hn : n ≤ 20) (K0 : ByteArray) (hK : keyStr t f n = K0) (hk : K0.size ≤ maxLen) (x y : Int) (hE : endsAt L K0 x y) :
    Calls Try.prog 70 #[.agg #[.pointer (some ⟨b, 0, none⟩), .int .i64 t, .slice A n c]] W fun e w' => e = .returned (.agg #[.int .i64 x, .int .i64 y]) ∧ Below W.heap.size W w' := by
  rcases hE with ⟨rfl, rfl, hs⟩ | ⟨h1, h2, h3, hs⟩
  · exact ends_none _ t A n c f K0 hK W hl hn fun W1 hb => crow_none (h.below hb) K0 hk hs
  · exact ends_two _ t A n c f K0 hK x y h2 W hl hn fun W1 hb => (crow_some (h.below hb) K0 (two2 x y) 2 (by omega) (by omega) (fun i _ => by unfold two2; split <;> omega) hk hs).mono fun e w' hh => by
      obtain ⟨⟨g, he, hc, _⟩, hb'⟩ := hh
      exact ⟨⟨g, he, hc 0 (by omega), hc 1 (by omega)⟩, hb'⟩
set_option maxRecDepth 100000 in
set_option maxHeartbeats 4000000 in
theorem push_liveA {w W : World} {b : Nat} {F : List Nat} {L : SL} {q : Nat} {qs : List Value} (h : SNew w W b F L q qs) (t : Int) (A : Option Addr) (n c : Nat) (f : Nat → Int) (hI : ∀ W', Touch F W W' → Il W' A n f) (hz : A = none → n = 0 ∧ c = 0) (hn : n ≤ 20) (K0 Ky : ByteArray) (x y : Int) (hK : keyStr t f n = K0) (hKy : keyStr t (icat f n fun _ => y) (n + 1) = Ky) (hk : K0.size ≤ maxLen) (hk0 : K0 ≠ ⟨#[]⟩) (hky : Ky.size ≤ maxLen) (hky0 : Ky ≠ ⟨#[]⟩)
    (hE : endsAt L K0 x y) (most : Int) (hmo : y - x < most) (A2 : Option Addr) (m c2 : Nat) (g : Nat → Int) (hl : Il W A2 m g) (hm1 : 1 ≤ m) (hm : m ≤ 100) (hg : ∀ i, i < m → 0 ≤ g i) (hE1 : endsAt (setL L Ky (rowV g m)) K0 x y) (hN : L.length < 128) (hN1 : (setL L Ky (rowV g m)).length < 128) (hq : q + 2 < 1000000) :
    Calls Try.prog 20 #[.pointer (some ⟨b, 0, none⟩), .int .i64 t, .slice A n c, .int .i64 most, .slice A2 m c2] W fun e W' => e = .returned (.int .i64 0) ∧ LiveTo w W W' b F (setL (setL L Ky (rowV g m)) K0 (rowV (two2 (x + 0) (y + 1)) 2)) (q + 2) := by
  have hxy := hE.bounds
  have HM := Lib.hid (made_live b F L q qs W h.s)
  obtain ⟨W0, hW0⟩ : ∃ W0, W0 = W.alloc (.cells #[.pointer (some ⟨b, 0, none⟩), .int .i64 t, .slice A n c] 117) := ⟨_, rfl⟩
  have hb0 : Below W.heap.size W W0 := by rw [hW0]; exact (Below.refl _ _).alloc (Nat.le_refl _) _
  have r0 : W0.heap[W.heap.size]? = some (.cells #[.pointer (some ⟨b, 0, none⟩), .int .i64 t, .slice A n c] 117 (0, 0)) := by rw [hW0]; exact heap_alloc_new _ _
  have hFl : ∀ k, W.heap.size ≤ k → k ∉ F := fun k hk hm => by have := h.s.lt _ hm; omega
  have HHd := Lib.hid (fun (W1 : World) (hb : Below W.heap.size W W1) => qhead_is (some ⟨b, 0, none⟩) t A n c f K0 hK W1 ((hI W (Touch.refl _ _)).below hb) hn)
  have HGo := Lib.hid (fun (W1 : World) (hb : Below W.heap.size W W1) => fgood_walk A2 m c2 g W1 (hl.below hb) hm1 hm hg)
  have HEn := Lib.hid (fun (W1 : World) (hb : Below W.heap.size W W1) => ends_liveA (h.below hb) t A n c f ((hI W (Touch.refl _ _)).below hb) hn K0 hK hk x y hE)
  have HAt := Lib.hid (fun (W1 : World) (hb : Below W.heap.size W W1) => qat_is (some ⟨b, 0, none⟩) t A n c f y Ky hKy W1 ((hI W (Touch.refl _ _)).below hb) hz hn (by omega))
  have HSR := Lib.hid (fun (W1 : World) (hb : Below W.heap.size W W1) => (csetRow_set (h.below hb) Ky A2 m c2 g (hl.below hb) hm1 hm hg hky hky0 hN (by omega)).mono fun e W' hp => (⟨hp.1, hp.2⟩ : e = .returned (.tuple #[]) ∧ LiveTo w W1 W' b F (setL L Ky (rowV g m)) (q + 1)))
  have HTu := Lib.hid (fun (W1 : World) (hl1 : LiveTo w W W1 b F (setL L Ky (rowV g m)) (q + 1)) => hl1.seq 1 (fun F1 qa qsa hs hqa => have hIl : Il W1 A n f := (by obtain ⟨_, _, _, _, _, ht, _⟩ := hl1; exact hI W1 ht); turn_live hs t A n c f hIl hn K0 hK hk hk0 x y 0 1 (by omega) (by omega) (by omega) (by omega) (by omega) hN1 (by omega) (fun W2 hb2 => ends_liveA (hs.below hb2) t A n c f (hIl.below hb2) hn K0 hK hk x y hE1)))
  have H0 := Lib.hid (And.intro hb0 r0)
  have HF := Lib.hid hFl
  have HW := Lib.hid hW0
  have hkne := ba_nil hk0
  obtain ⟨l1, e1⟩ : ∃ z, z = setL L Ky (rowV g m) := ⟨_, rfl⟩
  rw [← e1] at HSR HTu ⊢
  have i1 : 0 ≤ x := hxy.1
  have i2 : x ≤ y := hxy.2.1
  have i3 : y ≤ 1000000 := hxy.2.2
  have n1 : ¬ most ≤ y - x := by omega
  have n2 : ¬ most < 1 := by omega
  have n3 : (y == 9223372036854775807) = false := by rw [beq_eq_false_iff_ne]; omega
  clear hI hz hn h hxy hK hKy hk hk0 hky hky0 hE hmo hl hm1 hm hg hE1 hN hN1 hq hFl hW0 hb0 r0 e1
  go_enter Try.func20, Try.ntmps20
  go_upto_region 4 with (go_at_call 27; refine HM.out.mono ?_; rintro e w1 ⟨rfl, rfl⟩)
  rw [← HW.out]
  have c0 := (hp_cell (i := 0) H0.out.2).trans rfl
  have c1 := (hp_cell (i := 1) H0.out.2).trans rfl
  have c2' := (hp_cell (i := 2) H0.out.2).trans rfl
  have l0 := hp_lt H0.out.2
  go_upto_region 7 with (first
    | (go_at_call 70; refine (HEn.out _ H3.out.1).mono ?_; rintro e w4 ⟨rfl, hb4⟩; have r4 := (hb4.block _ (hp_lt H3.out.2)).trans H3.out.2; have H4 := Lib.hid (And.intro (H3.out.1.trans (hb4.mono H3.out.1.size)) r4); clear r4 hb4)
    | (go_at_call 21; refine (HGo.out _ H2.out.1).mono ?_; rintro e w3 ⟨rfl, rfl⟩; have H3 := Lib.hid H2.out; have d0 := (hp_cell (i := 0) H3.out.2).trans rfl; have d1 := (hp_cell (i := 1) H3.out.2).trans rfl; have d2 := (hp_cell (i := 2) H3.out.2).trans rfl; have l3 := hp_lt H3.out.2)
    | (go_at_call 69; refine (HHd.out _ H0.out.1).mono ?_; rintro e w2 ⟨rfl, hb2⟩; have r2 := (hb2.block _ (hp_lt H0.out.2)).trans H0.out.2; have H2 := Lib.hid (And.intro (H0.out.1.trans (hb2.mono H0.out.1.size)) r2); clear r2 hb2))
  obtain ⟨W5, hW5⟩ : ∃ W5, W5 = w4.alloc (.cells #[.int .i64 x, .int .i64 y] 119) := ⟨_, rfl⟩
  have hb5 : Below w4.heap.size w4 W5 := by rw [hW5]; exact (Below.refl _ _).alloc (Nat.le_refl _) _
  have r5 : W5.heap[w4.heap.size]? = some (.cells #[.int .i64 x, .int .i64 y] 119 (0, 0)) := by rw [hW5]; exact heap_alloc_new _ _
  have rq := (hb5.block _ (hp_lt H4.out.2)).trans H4.out.2
  rw [← hW5]
  clear c0 c1 c2' l0 d0 d1 d2 l3 hW5
  have H5 := Lib.hid (And.intro (H4.out.1.trans (hb5.mono H4.out.1.size)) rq)
  have c0 := (hp_cell (i := 0) rq).trans rfl
  have c1 := (hp_cell (i := 1) rq).trans rfl
  have c2' := (hp_cell (i := 2) rq).trans rfl
  have l0 := hp_lt rq
  have d0 := (hp_cell (i := 0) r5).trans rfl
  have d1 := (hp_cell (i := 1) r5).trans rfl
  have l5 := hp_lt r5
  clear rq r5 hb5
  go_wp2_with (first
    | (go_at_call 73; refine (HTu.out _ (H7.out.pre H6.out.1)).mono ?_; rintro e w8 ⟨rfl, h8⟩; have H8 := Lib.hid h8; clear h8)
    | (go_at_call 71; refine (HSR.out _ H6.out.1).mono ?_; rintro e w7 ⟨rfl, h7⟩; have H7 := Lib.hid h7; have hT7 : Touch F w6 w7 := (by obtain ⟨_, _, _, _, _, ht, _⟩ := h7; exact ht); have r7 := (hT7.block _ (hp_lt H6.out.2) (HF.out _ (Nat.le_refl _))).trans H6.out.2; have c0 := (hp_cell (i := 0) r7).trans rfl; have c1 := (hp_cell (i := 1) r7).trans rfl; have c2' := (hp_cell (i := 2) r7).trans rfl; clear h7 hT7 r7)
    | (go_at_call 72; refine (HAt.out _ H5.out.1).mono ?_; rintro e w6 ⟨rfl, hb6⟩; have r6 := (hb6.block _ (hp_lt H5.out.2)).trans H5.out.2; have H6 := Lib.hid (And.intro (H5.out.1.trans (hb6.mono H5.out.1.size)) r6); clear r6 hb6))
  go_ret
  exact ⟨rfl, H8.out⟩
set_option maxRecDepth 100000 in
set_option maxHeartbeats 2000000 in
theorem peek_liveA {w W : World} {b : Nat} {F : List Nat} {L : SL} {q : Nat} {qs : List Value} (h : SNew w W b F L q qs) (t : Int) (A : Option Addr) (n c : Nat) (f : Nat → Int) (hI : ∀ W', Touch F W W' → Il W' A n f) (hz : A = none → n = 0 ∧ c = 0) (hn : n ≤ 20) (K0 Kx : ByteArray) (x y : Int) (hK : keyStr t f n = K0) (hKx : keyStr t (icat f n fun _ => x) (n + 1) = Kx) (hk : K0.size ≤ maxLen) (hkx : Kx.size ≤ maxLen)
    (hE : endsAt L K0 x y) (hlt : x < y) (m : Nat) (g : Nat → Int) (hm1 : 1 ≤ m) (hm : m ≤ 100) (hg : ∀ i, i < m → 0 ≤ g i ∧ g i < 2 ^ 63) (hR : sget L Kx = some (rowV g m)) :
    Calls Try.prog 75 #[.pointer (some ⟨b, 0, none⟩), .int .i64 t, .slice A n c] W fun e w' => (∃ G, e = .returned (.tuple #[.slice (some ⟨G, 0, none⟩) m m, .bool true]) ∧ (∀ i, i < m → w'.cell? ⟨G, i, none⟩ = some (.int .i64 (g i))) ∧ G < w'.heap.size ∧ W.heap.size ≤ G) ∧ Below W.heap.size W w' := by
  have hxy := hE.bounds
  obtain ⟨W0, hW0⟩ : ∃ W0, W0 = W.alloc (.cells #[.pointer (some ⟨b, 0, none⟩), .int .i64 t, .slice A n c] 117) := ⟨_, rfl⟩
  have hb0 : Below W.heap.size W W0 := by rw [hW0]; exact (Below.refl _ _).alloc (Nat.le_refl _) _
  have r0 : W0.heap[W.heap.size]? = some (.cells #[.pointer (some ⟨b, 0, none⟩), .int .i64 t, .slice A n c] 117 (0, 0)) := by rw [hW0]; exact heap_alloc_new _ _
  have f0 := fun (dq : Nat) (osq : Array Obj) => cell_regrown (w := W0) (a := ⟨W.heap.size, 0, none⟩) ((hp_cell (i := 0) r0).trans rfl) dq osq
  have f1 := fun (dq : Nat) (osq : Array Obj) => cell_regrown (w := W0) (a := ⟨W.heap.size, 1, none⟩) ((hp_cell (i := 1) r0).trans rfl) dq osq
  have f2 := fun (dq : Nat) (osq : Array Obj) => cell_regrown (w := W0) (a := ⟨W.heap.size, 2, none⟩) ((hp_cell (i := 2) r0).trans rfl) dq osq
  have HEs := Lib.hid (fun (dq : Nat) (osq : Array Obj) => ends_liveA (h.below (hb0.trans ((below_regrown W0 dq osq).mono hb0.size))) t A n c f ((hI W (Touch.refl _ _)).below (hb0.trans ((below_regrown W0 dq osq).mono hb0.size))) hn K0 hK hk x y hE)
  have HAt := Lib.hid (fun (dq : Nat) (osq : Array Obj) => qat_is (some ⟨b, 0, none⟩) t A n c f x Kx hKx (grow (redrawn W0 dq) osq) ((hI W (Touch.refl _ _)).below (hb0.trans ((below_regrown W0 dq osq).mono hb0.size))) hz hn (by omega))
  have HRw := Lib.hid (fun (W1 : World) (hb : Below W.heap.size W W1) => crow_fresh (h.below hb) Kx g m hm1 hm hg hkx hR)
  have HLn := Lib.hid (fun (W1 : World) (hb : Below W.heap.size W W1) => qlen_walk (some ⟨b, 0, none⟩) t A n c x y hxy.1 hxy.2.1 hxy.2.2 W1 (fun W2 hb1 => ends_liveA (h.below (hb.trans (hb1.mono hb.size))) t A n c f ((hI W (Touch.refl _ _)).below (hb.trans (hb1.mono hb.size))) hn K0 hK hk x y hE))
  have H0 := Lib.hid hb0
  have HW := Lib.hid hW0
  have hix := idx20
  have n1 : ((y - x) == 0) = false := by rw [beq_eq_false_iff_ne]; omega
  have n2 : ((m : Int) == 0) = false := by rw [beq_eq_false_iff_ne]; omega
  clear hI hz hn h hxy hK hKx hk hkx hE hlt hm1 hm hg hR hb0 hW0 r0
  go_enter Try.func75, Try.ntmps75
  go_upto_region 2 with fail
  rw [← HW.out]
  refine wp_region_quiet_tail 6 (by kernel_rfl) (by kernel_rfl) ?_
  simp only [List.take_succ_cons, List.take_zero]
  repeat (quiet_step (first
    | (go_at_call 70; with_reducible exact Calls.regrown_of (HEs.out _ _))
    | (go_at_call 72; with_reducible exact Calls.regrown_of (HAt.out _ _))))
  refine wpQuiet_nil ?_
  intro _ hw'
  obtain ⟨⟨dq, osq⟩, hw''⟩ := hw'
  subst hw''
  have H1 := Lib.hid (H0.out.trans ((below_regrown W0 dq osq).mono H0.out.size))
  clear f0 f1 f2 HEs HAt
  simp only [List.drop_succ_cons, List.drop_zero]
  go_wp2_with (first
    | (go_at_call 68; refine (HLn.out _ H2.out).mono ?_; rintro e w3 ⟨rfl, hb3⟩; have H3 := Lib.hid (H2.out.trans (hb3.mono H2.out.size)); have HR3 := Lib.hid (And.intro (fun i (hi : i < m) => (hb3.cell (p := ⟨G, i, none⟩) HR2.out.2.1).trans (HR2.out.1 i hi)) (And.intro (Nat.lt_of_lt_of_le HR2.out.2.1 hb3.size) HR2.out.2.2)); clear hb3)
    | (go_at_call 77; refine (HRw.out _ H1.out).mono ?_; rintro e w2 ⟨⟨G, rfl, hc, hg2, hz⟩, hb2⟩; have HR2 := Lib.hid (And.intro hc (And.intro hg2 (Nat.le_trans H1.out.size hz))); have H2 := Lib.hid (H1.out.trans (hb2.mono H1.out.size)); clear hb2 hc hg2 hz))
  go_ret2
  exact ⟨⟨G, rfl, HR3.out.1, HR3.out.2.1, HR3.out.2.2⟩, H3.out⟩
set_option maxRecDepth 100000 in
set_option maxHeartbeats 4000000 in
theorem pop_liveA {w W : World} {b : Nat} {F : List Nat} {L : SL} {q : Nat} {qs : List Value} (h : SNew w W b F L q qs) (t : Int) (A : Option Addr) (n c : Nat) (f : Nat → Int) (hI : ∀ W', Touch F W W' → Il W' A n f) (hz : A = none → n = 0 ∧ c = 0) (hn : n ≤ 20) (K0 Kx : ByteArray) (x y : Int) (hK : keyStr t f n = K0) (hKx : keyStr t (icat f n fun _ => x) (n + 1) = Kx) (hk : K0.size ≤ maxLen) (hk0 : K0 ≠ ⟨#[]⟩) (hkx : Kx.size ≤ maxLen)
    (hE : endsAt L K0 x y) (hlt : x < y) (m : Nat) (g : Nat → Int) (hm1 : 1 ≤ m) (hm : m ≤ 100) (hg : ∀ i, i < m → 0 ≤ g i ∧ g i < 2 ^ 63) (hR : sget L Kx = some (rowV g m)) (hE1 : endsAt (sdel L Kx) K0 x y) (hne : x + 1 ≠ y + 0) (hN : L.length < 128) (hN1 : (sdel L Kx).length < 128) (hq : q + 2 < 1000000) :
    Calls Try.prog 22 #[.pointer (some ⟨b, 0, none⟩), .int .i64 t, .slice A n c] W fun e w' => (∃ G, e = .returned (.tuple #[.slice (some ⟨G, 0, none⟩) m m, .bool true]) ∧ (∀ i, i < m → w'.cell? ⟨G, i, none⟩ = some (.int .i64 (g i))) ∧ G < w'.heap.size) ∧ LiveTo w W w' b F (setL (sdel L Kx) K0 (rowV (two2 (x + 1) (y + 0)) 2)) (q + 2) := by
  have hxy := hE.bounds
  have HPk := Lib.hid (peek_liveA h t A n c f hI hz hn K0 Kx x y hK hKx hk hkx hE hlt m g hm1 hm hg hR)
  have hFl : ∀ k, W.heap.size ≤ k → k ∉ F := fun k hk hm => by have := h.s.lt _ hm; omega
  have HEn := Lib.hid (fun (W1 : World) (hb : Below W.heap.size W W1) => ends_liveA (h.below hb) t A n c f ((hI W (Touch.refl _ _)).below hb) hn K0 hK hk x y hE)
  have HAt := Lib.hid (fun (W1 : World) (hb : Below W.heap.size W W1) => qat_is (some ⟨b, 0, none⟩) t A n c f x Kx hKx W1 ((hI W (Touch.refl _ _)).below hb) hz hn (by omega))
  have HDe := Lib.hid (fun (W1 : World) (hb : Below W.heap.size W W1) => show Calls Try.prog 76 #[.pointer (some ⟨b, 0, none⟩), .string Kx] W1 fun e W' => e = .returned (.bool true) ∧ LiveTo w W1 W' b F (sdel L Kx) (q + 1) from by
    have := (h.below hb).del Kx hkx (by omega) (by omega)
    rw [hR] at this
    exact this)
  have HTu := Lib.hid (fun (W0 W1 : World) (hb0 : Below W.heap.size W W0) (hl1 : LiveTo w W0 W1 b F (sdel L Kx) (q + 1)) => LiveTo.seqK hFl hb0 hl1 1 (fun F1 qa qsa hs hqa => have hIl : Il W1 A n f := (by obtain ⟨_, _, _, _, _, ht, _⟩ := hl1; exact hI W1 ((Touch.of_below hb0).trans (fun _ hk => .inl hk) ht)); turn_live hs t A n c f hIl hn K0 hK hk hk0 x y 1 0 (by omega) (by omega) (by omega) (by omega) hne hN1 (by omega) (fun W2 hb2 => ends_liveA (hs.below hb2) t A n c f (hIl.below hb2) hn K0 hK hk x y hE1)))
  have HF := Lib.hid hFl
  have hix := idx20
  obtain ⟨l1, e1⟩ : ∃ z, z = sdel L Kx := ⟨_, rfl⟩
  rw [← e1] at HDe HTu ⊢
  clear hI hz hn h hxy hK hKx hk hk0 hkx hE hlt hm1 hm hg hR hE1 hne hN hN1 hq hFl e1
  go_enter Try.func22, Try.ntmps22
  go_upto_region 4 with (go_at_call 75; refine HPk.out.mono ?_; rintro e w2 ⟨⟨G, rfl, hc, hg2, hz⟩, hb2⟩; have H2 := Lib.hid (And.intro hb2 (And.intro hc (And.intro hg2 hz))); clear hc hg2 hz hb2)
  obtain ⟨W3, hW3⟩ : ∃ W3, W3 = w2.alloc (.cells #[.pointer (some ⟨b, 0, none⟩), .int .i64 t, .slice A n c] 117) := ⟨_, rfl⟩
  have hb3 : Below w2.heap.size w2 W3 := by rw [hW3]; exact (Below.refl _ _).alloc (Nat.le_refl _) _
  have r3 : W3.heap[w2.heap.size]? = some (.cells #[.pointer (some ⟨b, 0, none⟩), .int .i64 t, .slice A n c] 117 (0, 0)) := by rw [hW3]; exact heap_alloc_new _ _
  rw [← hW3]
  have f0 := fun (dq : Nat) (osq : Array Obj) => cell_regrown (w := W3) (a := ⟨w2.heap.size, 0, none⟩) ((hp_cell (i := 0) r3).trans rfl) dq osq
  have f1 := fun (dq : Nat) (osq : Array Obj) => cell_regrown (w := W3) (a := ⟨w2.heap.size, 1, none⟩) ((hp_cell (i := 1) r3).trans rfl) dq osq
  have f2 := fun (dq : Nat) (osq : Array Obj) => cell_regrown (w := W3) (a := ⟨w2.heap.size, 2, none⟩) ((hp_cell (i := 2) r3).trans rfl) dq osq
  have H3 := Lib.hid (And.intro (H2.out.1.trans (hb3.mono H2.out.1.size)) (And.intro r3 (And.intro (fun i (hi : i < m) => (hb3.cell (p := ⟨G, i, none⟩) H2.out.2.2.1).trans (H2.out.2.1 i hi)) (Nat.lt_of_lt_of_le H2.out.2.2.1 hb3.size))))
  have HA3 := Lib.hid (fun (dq : Nat) (osq : Array Obj) => HAt.out (grow (redrawn W3 dq) osq) (H3.out.1.trans ((below_regrown W3 dq osq).mono H3.out.1.size)))
  have HE3 := Lib.hid (fun (dq : Nat) (osq : Array Obj) => HEn.out (grow (redrawn W3 dq) osq) (H3.out.1.trans ((below_regrown W3 dq osq).mono H3.out.1.size)))
  clear hb3 r3 hW3
  refine wp_region_quiet_tail 7 (by kernel_rfl) (by kernel_rfl) ?_
  simp only [List.take_succ_cons, List.take_zero]
  repeat (quiet_step (first
    | (go_at_call 70; with_reducible exact Calls.regrown_of (HE3.out _ _))
    | (go_at_call 72; with_reducible exact Calls.regrown_of (HA3.out _ _))))
  refine wpQuiet_nil ?_
  intro _ hw'
  obtain ⟨⟨dq, osq⟩, hw''⟩ := hw'
  subst hw''
  have hb4 := below_regrown W3 dq osq
  have H4 := Lib.hid (And.intro (H3.out.1.trans (hb4.mono H3.out.1.size)) (And.intro ((hb4.block _ (hp_lt H3.out.2.1)).trans H3.out.2.1) (And.intro (fun i (hi : i < m) => (hb4.cell (p := ⟨G, i, none⟩) H3.out.2.2.2).trans (H3.out.2.2.1 i hi)) (Nat.lt_of_lt_of_le H3.out.2.2.2 hb4.size))))
  obtain ⟨W4, hW4⟩ : ∃ W4, W4 = grow (redrawn W3 dq) osq := ⟨_, rfl⟩
  rw [← hW4] at H4 ⊢
  clear f0 f1 f2 HE3 HA3 hb4 hW4
  simp only [List.drop_succ_cons, List.drop_zero]
  go_wp2_with (first
    | (go_at_call 73; refine (HTu.out _ _ H4.out.1 H6.out.1).mono ?_; rintro e w8 ⟨rfl, h8⟩; have H8 := Lib.hid h8; clear h8)
    | (go_at_call 76; refine (HDe.out _ H4.out.1).mono ?_; rintro e w6 ⟨rfl, h6⟩; have hT6 : Touch F W4 w6 := (by obtain ⟨_, _, _, _, _, ht, _⟩ := h6; exact ht); have r6 := (hT6.block _ (hp_lt H4.out.2.1) (HF.out _ H2.out.1.size)).trans H4.out.2.1; have H6 := Lib.hid (And.intro h6 hT6); have c0 := (hp_cell (i := 0) r6).trans rfl; have c1 := (hp_cell (i := 1) r6).trans rfl; have c2' := (hp_cell (i := 2) r6).trans rfl; clear h6 hT6 r6))
  go_ret2
  have hGW : W.heap.size ≤ G := H2.out.2.2.2
  have hG4 : G < W4.heap.size := H4.out.2.2.2
  refine ⟨⟨G, rfl, fun i hi => ?_, ?_⟩, H8.out.1⟩
  · have e1 : w8.heap[G]? = W4.heap[G]? := (H8.out.2.1 G hGW hG4).trans (H6.out.2.block G hG4 (HF.out G hGW))
    rw [← H4.out.2.2.1 i hi]
    simp only [World.cell?, e1]
  · exact Nat.lt_of_lt_of_le hG4 (Nat.le_trans H6.out.2.size H8.out.2.2)
end Go.Proofs.Ytedkhpnlhkjjgaa

namespace Go.Proofs.Ytedkhpnlhkjjgaa
open Go.RowKit Go.Maps Go.Sort

set_option maxRecDepth 100000 in
set_option maxHeartbeats 2000000 in
theorem turn_gone {w W : World} {b : Nat} {F : List Nat} {L : SL} {q : Nat} {qs : List Value} (h : SNew w W b F L q qs) (t : Int) (A : Option Addr) (n c : Nat) (f : Nat → Int) (hl : Il W A n f) (hn : n ≤ 20) (K0 : ByteArray) (hK : keyStr t f n = K0) (hk : K0.size ≤ maxLen) (hk0 : K0 ≠ ⟨#[]⟩)
    (x y dx dy : Int) (hx : 0 ≤ x ∧ x ≤ 1000000) (hy : 0 ≤ y ∧ y ≤ 1000000) (hdx : 0 ≤ dx ∧ dx ≤ 1) (hdy : 0 ≤ dy ∧ dy ≤ 1) (hne : x + dx = y + dy) (hN : L.length ≤ 1000000) (hq : q < 1000000)
    (HE : ∀ W', Below W.heap.size W W' → Calls Try.prog 70 #[.agg #[.pointer (some ⟨b, 0, none⟩), .int .i64 t, .slice A n c]] W' fun e w' => e = .returned (.agg #[.int .i64 x, .int .i64 y]) ∧ Below W'.heap.size W' w') :
    Calls Try.prog 73 #[.agg #[.pointer (some ⟨b, 0, none⟩), .int .i64 t, .slice A n c], .int .i64 dx, .int .i64 dy] W fun e W' => e = .returned (.tuple #[]) ∧ LiveTo w W W' b F (sdel L K0) (q + 1) := by
  have hb0 := (Below.refl W.heap.size W).alloc (Nat.le_refl _) (.cells #[.pointer (some ⟨b, 0, none⟩), .int .i64 t, .slice A n c] 117)
  have r0 := heap_alloc_new W (.cells #[.pointer (some ⟨b, 0, none⟩), .int .i64 t, .slice A n c] 117)
  have HEs := Lib.hid (HE _ hb0)
  have H0 := Lib.hid (And.intro hb0 r0)
  have HHd := Lib.hid (fun (W1 : World) (hb : Below W.heap.size W W1) => qhead_is (some ⟨b, 0, none⟩) t A n c f K0 hK W1 (hl.below hb) hn)
  have hxd := hx
  have HSR := Lib.hid (fun (W1 : World) (hb : Below W.heap.size W W1) => ((h.below hb).del K0 hk hN hq).mono fun e W' hp => (⟨hp.1, hp.2.pre hb⟩ : e = .returned (.bool (sget L K0).isSome) ∧ LiveTo w W W' b F (sdel L K0) (q + 1)))
  obtain ⟨lm, elm⟩ : ∃ z, z = sdel L K0 := ⟨_, rfl⟩
  obtain ⟨bo, ebo⟩ : ∃ z, z = (sget L K0).isSome := ⟨_, rfl⟩
  rw [← elm, ← ebo] at HSR
  rw [← elm]
  have n1 : ((x + dx) == (y + dy)) = true := by simpa using hne
  clear HE hb0 r0 h hl hn hK hk hk0 hne hN hq elm ebo
  go_enter Try.func73, Try.ntmps73
  go_upto_region 5 with (go_at_call 70; refine HEs.out.mono ?_; rintro e w1 ⟨rfl, hb1⟩; have H1 := Lib.hid (And.intro (H0.out.1.trans (hb1.mono H0.out.1.size)) ((hb1.block _ (hp_lt H0.out.2)).trans H0.out.2)); clear hb1)
  obtain ⟨W6, hW6⟩ : ∃ W6, W6 = w1.alloc (.cells #[.int .i64 (x + dx), .int .i64 (y + dy)] 119) := ⟨_, rfl⟩
  have hb6 : Below w1.heap.size w1 W6 := by rw [hW6]; exact (Below.refl _ _).alloc (Nat.le_refl _) _
  have r6 : W6.heap[w1.heap.size]? = some (.cells #[.int .i64 (x + dx), .int .i64 (y + dy)] 119 (0, 0)) := by rw [hW6]; exact heap_alloc_new _ _
  have rq := (hb6.block _ (hp_lt H1.out.2)).trans H1.out.2
  rw [← hW6]
  have H6 := Lib.hid (And.intro (H1.out.1.trans (hb6.mono H1.out.1.size)) r6)
  have f0 := fun (dq : Nat) (osq : Array Obj) => cell_regrown (w := W6) (a := ⟨W.heap.size, 0, none⟩) ((hp_cell (i := 0) rq).trans rfl) dq osq
  have f1 := fun (dq : Nat) (osq : Array Obj) => cell_regrown (w := W6) (a := ⟨W.heap.size, 1, none⟩) ((hp_cell (i := 1) rq).trans rfl) dq osq
  have f2 := fun (dq : Nat) (osq : Array Obj) => cell_regrown (w := W6) (a := ⟨W.heap.size, 2, none⟩) ((hp_cell (i := 2) rq).trans rfl) dq osq
  have hsl := arr2_all
  clear hW6 hb6 r6 rq
  have HH6 := Lib.hid (fun (dq : Nat) (osq : Array Obj) => HHd.out (grow (redrawn W6 dq) osq) (H6.out.1.trans ((below_regrown W6 dq osq).mono H6.out.1.size)))
  refine wp_region_quiet_tail 4 (by kernel_rfl) (by kernel_rfl) ?_
  simp only [List.take_succ_cons, List.take_zero]
  repeat (quiet_step (first | (go_at_call 69; with_reducible exact Calls.regrown_of (HH6.out _ _))))
  refine wpQuiet_nil ?_
  intro _ hw'
  obtain ⟨⟨dq, osq⟩, hw''⟩ := hw'
  subst hw''
  have H7 := Lib.hid (HSR.out _ (H6.out.1.trans ((below_regrown W6 dq osq).mono H6.out.1.size)))
  clear f0 f1 f2 HH6 hsl
  simp only [List.drop_succ_cons, List.drop_zero]
  go_wp2_with (go_at_call 76; refine H7.out.mono ?_; rintro e w9 ⟨rfl, h9⟩; have H9 := Lib.hid h9; clear h9)
  refine bodyPost_ret (results_none rfl _ _ _) rfl ?_
  exact ⟨rfl, H9.out⟩
set_option maxRecDepth 100000 in
set_option maxHeartbeats 4000000 in
theorem pop_lastA {w W : World} {b : Nat} {F : List Nat} {L : SL} {q : Nat} {qs : List Value} (h : SNew w W b F L q qs) (t : Int) (A : Option Addr) (n c : Nat) (f : Nat → Int) (hI : ∀ W', Touch F W W' → Il W' A n f) (hz : A = none → n = 0 ∧ c = 0) (hn : n ≤ 20) (K0 Kx : ByteArray) (x y : Int) (hK : keyStr t f n = K0) (hKx : keyStr t (icat f n fun _ => x) (n + 1) = Kx) (hk : K0.size ≤ maxLen) (hk0 : K0 ≠ ⟨#[]⟩) (hkx : Kx.size ≤ maxLen)
    (hE : endsAt L K0 x y) (hlt : x < y) (m : Nat) (g : Nat → Int) (hm1 : 1 ≤ m) (hm : m ≤ 100) (hg : ∀ i, i < m → 0 ≤ g i ∧ g i < 2 ^ 63) (hR : sget L Kx = some (rowV g m)) (hE1 : endsAt (sdel L Kx) K0 x y) (hne : x + 1 = y + 0) (hN : L.length < 128) (hN1 : (sdel L Kx).length < 128) (hq : q + 2 < 1000000) :
    Calls Try.prog 22 #[.pointer (some ⟨b, 0, none⟩), .int .i64 t, .slice A n c] W fun e w' => (∃ G, e = .returned (.tuple #[.slice (some ⟨G, 0, none⟩) m m, .bool true]) ∧ (∀ i, i < m → w'.cell? ⟨G, i, none⟩ = some (.int .i64 (g i))) ∧ G < w'.heap.size) ∧ LiveTo w W w' b F (sdel (sdel L Kx) K0) (q + 2) := by
  have hxy := hE.bounds
  have HPk := Lib.hid (peek_liveA h t A n c f hI hz hn K0 Kx x y hK hKx hk hkx hE hlt m g hm1 hm hg hR)
  have hFl : ∀ k, W.heap.size ≤ k → k ∉ F := fun k hk hm => by have := h.s.lt _ hm; omega
  have HEn := Lib.hid (fun (W1 : World) (hb : Below W.heap.size W W1) => ends_liveA (h.below hb) t A n c f ((hI W (Touch.refl _ _)).below hb) hn K0 hK hk x y hE)
  have HAt := Lib.hid (fun (W1 : World) (hb : Below W.heap.size W W1) => qat_is (some ⟨b, 0, none⟩) t A n c f x Kx hKx W1 ((hI W (Touch.refl _ _)).below hb) hz hn (by omega))
  have HDe := Lib.hid (fun (W1 : World) (hb : Below W.heap.size W W1) => show Calls Try.prog 76 #[.pointer (some ⟨b, 0, none⟩), .string Kx] W1 fun e W' => e = .returned (.bool true) ∧ LiveTo w W1 W' b F (sdel L Kx) (q + 1) from by
    have := (h.below hb).del Kx hkx (by omega) (by omega)
    rw [hR] at this
    exact this)
  have HTu := Lib.hid (fun (W0 W1 : World) (hb0 : Below W.heap.size W W0) (hl1 : LiveTo w W0 W1 b F (sdel L Kx) (q + 1)) => LiveTo.seqK hFl hb0 hl1 1 (fun F1 qa qsa hs hqa => have hIl : Il W1 A n f := (by obtain ⟨_, _, _, _, _, ht, _⟩ := hl1; exact hI W1 ((Touch.of_below hb0).trans (fun _ hk => .inl hk) ht)); turn_gone hs t A n c f hIl hn K0 hK hk hk0 x y 1 0 (by omega) (by omega) (by omega) (by omega) hne (by omega) (by omega) (fun W2 hb2 => ends_liveA (hs.below hb2) t A n c f (hIl.below hb2) hn K0 hK hk x y hE1)))
  have HF := Lib.hid hFl
  have hix := idx20
  obtain ⟨l1, e1⟩ : ∃ z, z = sdel L Kx := ⟨_, rfl⟩
  rw [← e1] at HDe HTu ⊢
  clear hI hz hn h hxy hK hKx hk hk0 hkx hE hlt hm1 hm hg hR hE1 hne hN hN1 hq hFl e1
  go_enter Try.func22, Try.ntmps22
  go_upto_region 4 with (go_at_call 75; refine HPk.out.mono ?_; rintro e w2 ⟨⟨G, rfl, hc, hg2, hz⟩, hb2⟩; have H2 := Lib.hid (And.intro hb2 (And.intro hc (And.intro hg2 hz))); clear hc hg2 hz hb2)
  obtain ⟨W3, hW3⟩ : ∃ W3, W3 = w2.alloc (.cells #[.pointer (some ⟨b, 0, none⟩), .int .i64 t, .slice A n c] 117) := ⟨_, rfl⟩
  have hb3 : Below w2.heap.size w2 W3 := by rw [hW3]; exact (Below.refl _ _).alloc (Nat.le_refl _) _
  have r3 : W3.heap[w2.heap.size]? = some (.cells #[.pointer (some ⟨b, 0, none⟩), .int .i64 t, .slice A n c] 117 (0, 0)) := by rw [hW3]; exact heap_alloc_new _ _
  rw [← hW3]
  have f0 := fun (dq : Nat) (osq : Array Obj) => cell_regrown (w := W3) (a := ⟨w2.heap.size, 0, none⟩) ((hp_cell (i := 0) r3).trans rfl) dq osq
  have f1 := fun (dq : Nat) (osq : Array Obj) => cell_regrown (w := W3) (a := ⟨w2.heap.size, 1, none⟩) ((hp_cell (i := 1) r3).trans rfl) dq osq
  have f2 := fun (dq : Nat) (osq : Array Obj) => cell_regrown (w := W3) (a := ⟨w2.heap.size, 2, none⟩) ((hp_cell (i := 2) r3).trans rfl) dq osq
  have H3 := Lib.hid (And.intro (H2.out.1.trans (hb3.mono H2.out.1.size)) (And.intro r3 (And.intro (fun i (hi : i < m) => (hb3.cell (p := ⟨G, i, none⟩) H2.out.2.2.1).trans (H2.out.2.1 i hi)) (Nat.lt_of_lt_of_le H2.out.2.2.1 hb3.size))))
  have HA3 := Lib.hid (fun (dq : Nat) (osq : Array Obj) => HAt.out (grow (redrawn W3 dq) osq) (H3.out.1.trans ((below_regrown W3 dq osq).mono H3.out.1.size)))
  have HE3 := Lib.hid (fun (dq : Nat) (osq : Array Obj) => HEn.out (grow (redrawn W3 dq) osq) (H3.out.1.trans ((below_regrown W3 dq osq).mono H3.out.1.size)))
  clear hb3 r3 hW3
  refine wp_region_quiet_tail 7 (by kernel_rfl) (by kernel_rfl) ?_
  simp only [List.take_succ_cons, List.take_zero]
  repeat (quiet_step (first
    | (go_at_call 70; with_reducible exact Calls.regrown_of (HE3.out _ _))
    | (go_at_call 72; with_reducible exact Calls.regrown_of (HA3.out _ _))))
  refine wpQuiet_nil ?_
  intro _ hw'
  obtain ⟨⟨dq, osq⟩, hw''⟩ := hw'
  subst hw''
  have hb4 := below_regrown W3 dq osq
  have H4 := Lib.hid (And.intro (H3.out.1.trans (hb4.mono H3.out.1.size)) (And.intro ((hb4.block _ (hp_lt H3.out.2.1)).trans H3.out.2.1) (And.intro (fun i (hi : i < m) => (hb4.cell (p := ⟨G, i, none⟩) H3.out.2.2.2).trans (H3.out.2.2.1 i hi)) (Nat.lt_of_lt_of_le H3.out.2.2.2 hb4.size))))
  obtain ⟨W4, hW4⟩ : ∃ W4, W4 = grow (redrawn W3 dq) osq := ⟨_, rfl⟩
  rw [← hW4] at H4 ⊢
  clear f0 f1 f2 HE3 HA3 hb4 hW4
  simp only [List.drop_succ_cons, List.drop_zero]
  go_wp2_with (first
    | (go_at_call 73; refine (HTu.out _ _ H4.out.1 H6.out.1).mono ?_; rintro e w8 ⟨rfl, h8⟩; have H8 := Lib.hid h8; clear h8)
    | (go_at_call 76; refine (HDe.out _ H4.out.1).mono ?_; rintro e w6 ⟨rfl, h6⟩; have hT6 : Touch F W4 w6 := (by obtain ⟨_, _, _, _, _, ht, _⟩ := h6; exact ht); have r6 := (hT6.block _ (hp_lt H4.out.2.1) (HF.out _ H2.out.1.size)).trans H4.out.2.1; have H6 := Lib.hid (And.intro h6 hT6); have c0 := (hp_cell (i := 0) r6).trans rfl; have c1 := (hp_cell (i := 1) r6).trans rfl; have c2' := (hp_cell (i := 2) r6).trans rfl; clear h6 hT6 r6))
  go_ret2
  have hGW : W.heap.size ≤ G := H2.out.2.2.2
  have hG4 : G < W4.heap.size := H4.out.2.2.2
  refine ⟨⟨G, rfl, fun i hi => ?_, ?_⟩, H8.out.1⟩
  · have e1 : w8.heap[G]? = W4.heap[G]? := (H8.out.2.1 G hGW hG4).trans (H6.out.2.block G hG4 (HF.out G hGW))
    rw [← H4.out.2.2.1 i hi]
    simp only [World.cell?, e1]
  · exact Nat.lt_of_lt_of_le hG4 (Nat.le_trans H6.out.2.size H8.out.2.2)
end Go.Proofs.Ytedkhpnlhkjjgaa

namespace Go.Proofs.Ytedkhpnlhkjjgaa
open Go.RowKit Go.Maps Go.Sort

/-- the cells of pairs -/
def pcs (l : SL) : List Value := l.flatMap fun p => [.string p.1, .string p.2]
theorem pcs_snoc (l : SL) (p : ByteArray × ByteArray) : pcs (l ++ [p]) = pcs l ++ [.string p.1, .string p.2] := by simp [pcs]
def hpre (x : ByteArray) (p : ByteArray × ByteArray) : Bool := Lib.hasPrefix p.1.data.toList x.data.toList
/-- what stands under x -/
def under (L : SL) (x : ByteArray) : SL := (L.drop (klo (skeys L) x)).takeWhile (hpre x)
theorem takeWhile_here {α : Type} (P : α → Bool) : ∀ (l : List α) (k : Nat), k ≤ l.length → (∀ j (h : j < l.length), j < k → P l[j] = true) → (∀ h : k < l.length, P l[k] = false) → l.takeWhile P = l.take k
  | [], k, _, _, _ => by simp
  | a :: r, 0, _, _, h => by
    have := h (by simp)
    simp only [List.getElem_cons_zero] at this
    simp [this]
  | a :: r, k + 1, hk, ha, h => by
    have h0 := ha 0 (by simp) (by omega)
    simp only [List.getElem_cons_zero] at h0
    rw [List.takeWhile_cons, h0, List.take_succ_cons]
    simp only [if_true]
    congr 1
    refine takeWhile_here P r k (by simpa using hk) (fun j hj hlt => ?_) (fun hh => ?_)
    · have := ha (j + 1) (by simpa using hj) (by omega)
      simpa using this
    · have := h (by simpa using hh)
      simpa using this
theorem infoPair : (Try.prog.info? 184).map (fun i => (i.zero, i.size, i.bytes)) = some (some (.agg #[.string { data := #[] }, .string { data := #[] }]), 2, 32) := by kernel_rfl
/-- 'm[k]' -/
theorem MapAt.plain {w : World} {bm : Nat} {L : SL} (h : MapAt w bm L) (k : ByteArray) (hk : k.size ≤ maxLen) :
    (Instr.lookup 103 (.map (some bm)) (.string k) false).run Try.prog w = .ok (.agg #[.string ((sget L k).getD { data := #[] })]) w := by
  obtain ⟨D, ho, hR⟩ := h
  obtain ⟨v, ps, hrun, hv⟩ := ho.lookup skeyed Try.underlying103 (zeroEntry w) (entR_mk (s := { data := #[] }) (by decide)) (keyOf_s hk)
  obtain ⟨s, rfl, hz⟩ := entR_inv hv
  have e := hR.get (k := k) (s := s) (by have := congrArg Prod.fst hz; simpa using this)
  rw [hrun, e]
theorem sget_at : ∀ (L : SL), Rising (skeys L) → ∀ i (h : i < L.length), sget L L[i].1 = some L[i].2
  | [], _, i, h => absurd h (Nat.not_lt_zero _)
  | p :: r, hr, i, h => by
    cases i with
    | zero => simp [sget, keq_self]
    | succ i =>
      have hi : i < r.length := by simpa using h
      have hr' := List.pairwise_cons.1 hr
      have hlt : p.1.data.toList < r[i].1.data.toList := hr'.1 r[i].1 (List.mem_map.2 ⟨r[i], List.getElem_mem _, rfl⟩)
      have hne : keq p.1 r[i].1 = false := keq_ne fun e => by rw [e] at hlt; exact List.lt_irrefl _ hlt
      have ih := sget_at r hr'.2 i hi
      unfold sget at ih ⊢
      simp only [List.getElem_cons_succ]
      rw [List.find?_cons, hne]
      exact ih
/-- what the rounds of Under read -/
structure UnAt (w : World) (b bm ba bk bc kc : Nat) (L : SL) : Prop where
  r0 : w.cell? ⟨b, 0, none⟩ = some (.map (some bm))
  r1 : w.cell? ⟨b, 1, none⟩ = some (.slice (some ⟨ba, 0, none⟩) 1 bc)
  ka : w.cell? ⟨ba, 0, none⟩ = some (.slice (some ⟨bk, 0, none⟩) L.length kc)
  kj : ∀ i (h : i < L.length), w.cell? ⟨bk, i, none⟩ = some (.string L[i].1)
  lk : ∀ i (h : i < L.length), (Instr.lookup 103 (.map (some bm)) (.string L[i].1) false).run Try.prog w = .ok (.agg #[.string L[i].2]) w
theorem unAt_of {w : World} {b bm : Nat} {vb vk vq : Value} {L : SL} {q : Nat} {qs : List Value} (h : StM w b bm vb vk vq L q qs) (hL : L ≠ []) (hks : ∀ p ∈ L, p.1.size ≤ maxLen) :
    ∃ ba bk bc kc, vb = .slice (some ⟨ba, 0, none⟩) 1 bc ∧ vk = .slice (some ⟨bk, 0, none⟩) L.length kc ∧ L.length ≤ kc ∧ (∀ w', Below w.heap.size w w' → UnAt w' b bm ba bk bc kc L) := by
  have hn : 0 < L.length := List.length_pos_iff.2 hL
  have hkb := h.kb
  rw [if_neg hL, if_neg hL] at hkb
  obtain ⟨ba, bc, hvb, _⟩ := ownsRow_form hkb (by omega)
  have hkk := h.kk hL
  obtain ⟨bk, kc, hvk, hcap⟩ : ∃ bk kc, vk = .slice (some ⟨bk, 0, none⟩) L.length kc ∧ L.length ≤ kc := by
    rcases hkk.2 with ⟨rfl, h0⟩ | ⟨g, cap, cur, rfl, hb, hg, hc, _⟩
    · omega
    · exact ⟨g, cap, rfl, hc⟩
  refine ⟨ba, bk, bc, kc, hvb, hvk, hcap, fun w' hB => ?_⟩
  have h' := h.below hB
  have hkb' := h'.kb
  rw [if_neg hL, if_neg hL] at hkb'
  have e1 : ∀ i (h : i < L.length), ((skeys L).map Value.string)[i]? = some (.string L[i].1) := fun i hi => by simp [skeys, hi]
  refine ⟨(hp_cell (i := 0) h'.r).trans rfl, (hp_cell (i := 1) h'.r).trans (by rw [hvb]; rfl), (ownsRow_cell hkb' hvb (j := 0) rfl).trans (by rw [hvk]), fun i hi => ownsRow_cell (h'.kk hL) hvk (e1 i hi), fun i hi => ?_⟩
  have := h'.m.plain L[i].1 (hks _ (List.getElem_mem _))
  rw [sget_at L h.so i hi] at this
  exact this
/-- the pairs so far, the first k of D -/
def UnRel (D : SL) (x : ByteArray) (w : World) (v i : Value) (wr : World) : Prop :=
  ∃ k : Nat, k ≤ D.length ∧ i = .int .i64 (k : Nat) ∧ wr.ownsRow w.heap.size 184 2 v k (pcs (D.take k)) ∧ (∀ j (h : j < D.length), j < k → hpre x D[j] = true) ∧ Below w.heap.size w wr
/-- the outer rounds -/
def UnOut (L : SL) (l : Nat) (x : ByteArray) (w : World) (v i j : Value) (wr : World) : Prop :=
  (i = .int .i64 0 ∧ j = .int .i64 (l : Nat) ∧ v = .slice none 0 0 ∧ Below w.heap.size w wr) ∨
  (i = .int .i64 1 ∧ j = .int .i64 0 ∧ wr.ownsRow w.heap.size 184 2 v (L.drop l).length (pcs (L.drop l)) ∧ (∀ p ∈ L.drop l, hpre x p = true) ∧ Below w.heap.size w wr)
def UnPost (L : SL) (x : ByteArray) (w : World) (e : Ending) (w' : World) : Prop :=
  (∃ v, e = .returned v ∧ w'.ownsRow w.heap.size 184 2 v (under L x).length (pcs (under L x))) ∧ Below w.heap.size w w'
theorem un_nil {L : SL} {x : ByteArray} {w w' : World} (h : under L x = []) (hb : Below w.heap.size w w') : UnPost L x w (Ending.returned (.slice none 0 0)) w' := by
  refine ⟨⟨_, rfl, ?_⟩, hb⟩
  rw [h]
  exact World.ownsRow_nil _ _ _ _
set_option maxRecDepth 100000 in
set_option maxHeartbeats 2000000 in
/-- no keys: no blocks -/
theorem under_none (b : Nat) (F : List Nat) (q : Nat) (qs : List Value) (W : World) (h : StP W b F [] q qs) (x : ByteArray) :
    Calls Try.prog 124 #[.pointer (some ⟨b, 0, none⟩), .string x] W fun e w' => UnPost [] x W e w' := by
  have HM := Lib.hid (made_live b F [] q qs W h)
  obtain ⟨bm, vb, vk, vq, rfl, hS⟩ := h
  obtain ⟨A, c, rfl⟩ : ∃ A c, vb = .slice A 0 c := by
    have hkb := hS.kb
    rw [if_pos rfl, if_pos rfl] at hkb
    rcases hkb.2 with ⟨rfl, _⟩ | ⟨g, cap, cur, rfl, _⟩
    · exact ⟨_, _, rfl⟩
    · exact ⟨_, _, rfl⟩
  have HP := Lib.hid (place_none b bm A c vq x W hS.r)
  have HR := Lib.hid (fun w' (hB : Below W.heap.size W w') => (hp_cell (i := 1) ((hB.block b (hp_lt hS.r)).trans hS.r)).trans rfl)
  clear hS
  go_enter Try.func124, Try.ntmps124
  go_wp2_with (first | (go_at_call 27; refine HM.out.mono ?_; rintro e w1 ⟨rfl, rfl⟩) | (go_at_call 145; refine HP.out.mono ?_; rintro e w2 ⟨rfl, hb2⟩; have B2 := Lib.hid hb2; have r1 := HR.out _ hb2; clear hb2))
  go_loopw [5, 6, 7] (fun v i j wr => v = .slice none 0 0 ∧ i = .int .i64 0 ∧ j = .int .i64 0 ∧ w2 = wr) (fun _ _ _ _ => 0)
  case atStart => exact ⟨rfl, rfl, rfl, rfl⟩
  case round =>
    obtain ⟨rfl, rfl, rfl, rfl⟩ := hrel
    go_wp2
    go_ret
    exact un_nil (by simp [under]) B2.out
theorem fieldE (v : ByteArray) (w : World) : (Instr.field 148 (.agg #[.string v]) 0).run Try.prog w = .ok (.string v) w := by kernel_rfl
set_option maxRecDepth 100000 in
set_option maxHeartbeats 4000000 in
theorem under_some (b : Nat) (F : List Nat) (L : SL) (q : Nat) (qs : List Value) (W : World) (h : StP W b F L q qs) (x : ByteArray) (hL : L ≠ []) (hks : ∀ p ∈ L, p.1.size ≤ maxLen) (hN : L.length < 128) :
    Calls Try.prog 124 #[.pointer (some ⟨b, 0, none⟩), .string x] W fun e w' => UnPost L x W e w' := by
  obtain ⟨i0, hi, hz0, hz1, hz2⟩ := info_parts infoPair
  have HM := Lib.hid (made_live b F L q qs W h)
  obtain ⟨bm, vb, vk, vq, rfl, hS⟩ := h
  obtain ⟨ba, bk, bc, kc, rfl, rfl, hcap, hU⟩ := unAt_of hS hL hks
  have hn : 0 < L.length := List.length_pos_iff.2 hL
  have hlen : (skeys L).length = L.length := by simp [skeys]
  have hUW := hU W (Below.refl _ _)
  have hP := place_some b bm ba bc bk kc (skeys L) vq x W (by omega) (by omega) hS.so (by rw [hS.r]) (by rw [hlen]; exact hUW.ka) (fun i hi => by rw [hUW.kj i (by omega)]; simp [skeys])
  rw [hlen] at hP
  obtain ⟨l, hl⟩ : ∃ l, l = klo (skeys L) x := ⟨_, rfl⟩
  have hle : l ≤ L.length := by have := klo_le (skeys L) x; omega
  have hund : under L x = (L.drop l).takeWhile (hpre x) := by rw [hl]; rfl
  rw [← hl] at hP
  have HU := Lib.hid hU
  clear hS hks hUW hl hU
  by_cases hend : l = L.length
  · rw [if_pos hend] at hP
    have HP := Lib.hid hP
    have HE := Lib.hid (show under L x = [] by rw [hund, hend, List.drop_length]; rfl)
    clear hP hund hend hle hN hcap hL hn hlen
    go_enter Try.func124, Try.ntmps124
    go_wp2_with (first | (go_at_call 27; refine HM.out.mono ?_; rintro e w1 ⟨rfl, rfl⟩) | (go_at_call 145; refine HP.out.mono ?_; rintro e w2 ⟨rfl, hb2⟩; have B2 := Lib.hid hb2; have r1 := (HU.out _ hb2).r1; clear hb2))
    go_loopw [5, 6, 7] (fun v i j wr => v = .slice none 0 0 ∧ i = .int .i64 1 ∧ j = .int .i64 0 ∧ w2 = wr) (fun _ _ _ _ => 0)
    case atStart => exact ⟨rfl, rfl, rfl, rfl⟩
    case round =>
      obtain ⟨rfl, rfl, rfl, rfl⟩ := hrel
      go_wp2
      go_ret
      exact un_nil HE.out B2.out
  · rw [if_neg hend] at hP
    have HP := Lib.hid hP
    have hlt : l < L.length := by omega
    have HS := Lib.hid hund
    have HL := Lib.hid hlt
    have HC := Lib.hid hcap
    obtain ⟨n, hnn⟩ : ∃ n, n = L.length := ⟨_, rfl⟩
    have HNN := Lib.hid hnn
    have hn1 : (l : Int) < (n : Int) := by omega
    have hn2 : (l : Int) ≤ (n : Int) := by omega
    have hn3 : (n : Int) ≤ (kc : Int) := by omega
    have hn4 : (l : Int) < (kc : Int) := by omega
    have hn5 : (n : Int) < 128 := by omega
    have hn6 : (l : Int) ≤ (kc : Int) := by omega
    have hn7 : (0 : Int) ≤ (l : Int) := by omega
    clear hP hund hend hle hN hcap hL hn hlen hlt hnn
    go_enter Try.func124, Try.ntmps124
    go_wp2_with (first | (go_at_call 27; refine HM.out.mono ?_; rintro e w1 ⟨rfl, rfl⟩) | (go_at_call 145; refine HP.out.mono ?_; rintro e w2 ⟨rfl, hb2⟩; have B2 := Lib.hid hb2; clear hb2))
    go_loopw [5, 6, 7] (UnOut L l x W) (fun _ i _ _ => 1 - (intOf i).toNat)
    case atStart => exact .inl ⟨rfl, rfl, rfl, B2.out⟩
    case round =>
      rcases hrel with ⟨rfl, rfl, rfl, hb⟩ | ⟨rfl, rfl, hv, hall, hb⟩
      · have hA := HU.out _ hb
        have r1 := hA.r1
        have ka := hA.ka
        rw [← HNN.out] at ka
        have HB := Lib.hid hb
        clear hA hb
        go_wp2
        go_loopw [5, 38] (UnRel (L.drop l) x W) (fun _ i _ => n - (intOf i).toNat)
        case atStart => exact ⟨0, Nat.zero_le _, rfl, World.ownsRow_nil _ _ _ _, fun j h h' => absurd h' (Nat.not_lt_zero _), HB.out⟩
        case round =>
          obtain ⟨k, hk, rfl, hown, hpr, hbel⟩ := hrel
          have HPr := Lib.hid hpr
          have HO := Lib.hid hown
          have HBl := Lib.hid hbel
          by_cases hlt : k < n - l
          · have hkl : l + k < L.length := by have := HNN.out; omega
            have hA := HU.out _ hbel
            have r0 := hA.r0
            have ck := hA.kj _ hkl
            have lk := hA.lk _ hkl
            have hkD : k < (L.drop l).length := by rw [List.length_drop]; omega
            have hDk : (L.drop l)[k] = L[l + k] := List.getElem_drop
            obtain ⟨⟨ky, vl⟩, hkv⟩ : ∃ p, p = L[l + k] := ⟨_, rfl⟩
            rw [← hkv] at ck lk hDk
            have hx := Lib.hid (Try.strings_HasPrefix ky x)
            have HD := Lib.hid hDk
            have HKD := Lib.hid hkD
            have hk63 : (k : Int) < 128 := by omega
            have hbs := hbel.size
            have hfd := fieldE vl
            have hpd : hpre x (ky, vl) = Lib.hasPrefix ky.data.toList x.data.toList := rfl
            clear hA hDk hkv hk hpr hbel
            cases hpx : hpre x (ky, vl) with
            | true =>
              rw [hpd] at hpx
              have HPX := Lib.hid hpx
              rw [hpx] at hx
              clear hpd
              go_wp2_with (first | (go_at_call 148; refine (hx.out _).mono ?_; rintro e w3 ⟨rfl, hw3⟩; have hw4 := hw3.symm; clear hw3; subst hw4) | (at_builtin; refine wpList_append_own _ rfl _ _ _ rfl W.heap.size 184 i0 _ 2 32 Try.underlying76 hi hz0 hz1 hz2 rfl (by omega) _ k (pcs ((L.drop l).take k)) rfl (hown.alloc _) ⟨wr.heap.size, 0, none⟩ 1 1 [.string ky, .string vl] rfl rfl (World.news_of_block (cs := #[.string ky, .string vl]) (t := 184) (fr := (0, 0)) (heap_alloc_new wr _)) (by simp [Value.oneCell']) (by unfold maxLen; omega) (by omega) (by simp; omega) ?_; intro v2 w5 hown2 hgrow _; have HB2 := Lib.hid (((HBl.out.alloc HBl.out.size (.cells #[.string ky, .string vl] 184)).grown hgrow (by simp only [World.size_alloc]; omega) (fun q hq => ((HO.out).lt q hq).1) : Below W.heap.size W w5)); have HO2 := Lib.hid hown2; clear hown2 hgrow hown))
              refine ⟨⟨k + 1, HKD.out, by simp, ?_, fun j hj hjk => ?_, HB2.out⟩, by simp [intOf]; omega⟩
              · have e : (L.drop l).take (k + 1) = (L.drop l).take k ++ [(ky, vl)] := by rw [List.take_succ_eq_append_getElem HKD.out, HD.out]
                rw [e, pcs_snoc]
                exact HO2.out
              · rcases (by omega : j < k ∨ j = k) with h1 | rfl
                · exact HPr.out j hj h1
                · rw [HD.out]; exact HPX.out
            | false =>
              rw [hpd] at hpx
              rw [hpx] at hx
              go_wp2_with (go_at_call 148; refine (hx.out _).mono ?_; rintro e w3 ⟨rfl, hw3⟩; have hw4 := hw3.symm; clear hw3; subst hw4)
              go_ret
              have e : under L x = (L.drop l).take k := by rw [HS.out]; exact takeWhile_here _ _ _ (Nat.le_of_lt HKD.out) HPr.out (fun h => by rw [HD.out, hpd]; exact hpx)
              refine ⟨⟨_, rfl, ?_⟩, HBl.out⟩
              rw [e, List.length_take, Nat.min_eq_left (Nat.le_of_lt HKD.out)]
              exact HO.out
          · have hkn : k = (L.drop l).length := by have := HNN.out; rw [List.length_drop] at hk ⊢; omega
            have HKN := Lib.hid hkn
            clear hk hpr hbel hkn hown
            go_wp2
            refine ⟨.inr ⟨rfl, rfl, ?_, fun p hp => ?_, HBl.out⟩, by simp [intOf]⟩
            · have := HO.out
              rw [HKN.out, List.take_length] at this
              exact this
            · obtain ⟨j, hj, rfl⟩ := List.mem_iff_getElem.1 hp
              exact HPr.out j hj (by have := HKN.out; omega)
      · have r1 := (HU.out _ hb).r1
        have HV := Lib.hid hv
        have HB := Lib.hid hb
        have HA := Lib.hid hall
        clear hv hb hall
        go_wp2
        go_ret
        refine ⟨⟨_, rfl, ?_⟩, HB.out⟩
        have e : under L x = L.drop l := by rw [HS.out, takeWhile_here _ _ _ (Nat.le_refl _) (fun j h _ => HA.out _ (List.getElem_mem _)) (fun h => absurd h (Nat.lt_irrefl _)), List.take_length]
        rw [e]
        exact HV.out
/-- Under on a live store -/
theorem under_live (b : Nat) (F : List Nat) (L : SL) (q : Nat) (qs : List Value) (W : World) (h : StP W b F L q qs) (x : ByteArray) (hks : ∀ p ∈ L, p.1.size ≤ maxLen) (hN : L.length < 128) :
    Calls Try.prog 124 #[.pointer (some ⟨b, 0, none⟩), .string x] W fun e w' => UnPost L x W e w' := by
  by_cases hL : L = []
  · subst hL; exact under_none b F q qs W h x
  · exact under_some b F L q qs W h x hL hks hN
end Go.Proofs.Ytedkhpnlhkjjgaa
