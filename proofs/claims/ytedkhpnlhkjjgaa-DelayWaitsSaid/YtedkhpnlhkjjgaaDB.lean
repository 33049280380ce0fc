/- delay.Set on a live store, whatever comes. -/
import Derived.Test.YtedkhpnlhkjjgaaDA
namespace Go.Proofs.Ytedkhpnlhkjjgaa
open Go.RowKit Go.Maps

theorem deqV (h : Bool) (n x a : Int) (m h' : Bool) (n' x' a' : Int) (m' : Bool) (w : World) : (Op.equalIn 10000 100 (.agg #[.bool h, .int .i64 n, .int .i64 x, .int .i64 a, .bool m]) (.agg #[.bool h', .int .i64 n', .int .i64 x', .int .i64 a', .bool m'])).run Try.prog w =
   .ok (h == h' && n == n' && x == x' && a == a' && m == m') w := by
  have u1 := Try.underlying3
  have u2 := Try.underlying4
  have i1 := Try.isAgg3
  have i2 := Try.isAgg4
  have z1 := Try.sizeOf3
  have z2 := Try.sizeOf4
  rw [show (10000 : Nat) = 9999 + 1 from rfl, Op.equalIn]
  simp only [Sem.run_bind, run_underlying Try.underlying100, Result.andThen_ok]
  go_simp
  by_cases h1 : h = h' <;> by_cases h2 : n = n' <;> by_cases h3 : x = x' <;> by_cases h4 : a = a' <;> by_cases h5 : m = m' <;> simp [h1, h2, h3, h4, h5]
theorem dwithin_any (x : Int) (w : World) : Calls Try.prog 106 #[.int .i64 x] w fun e w' => e = .returned (.bool (decide (0 ≤ x ∧ x ≤ 1099511627776))) ∧ w = w' := by
  by_cases h1 : 0 ≤ x
  · by_cases h2 : x ≤ 1099511627776
    · rw [decide_eq_true ⟨h1, h2⟩]; exact dwithin_ok x w h1 h2
    · rw [decide_eq_false (fun h => h2 h.2)]
      go_enter Try.func106, Try.ntmps106
      go_wp2
      go_ret
      exact ⟨rfl, rfl⟩
  · rw [decide_eq_false (fun h => h1 h.1)]
    have p1 : x < 0 := by omega
    go_enter Try.func106, Try.ntmps106
    go_wp2
    go_ret
    exact ⟨rfl, rfl⟩
def dIn (x : Int) : Bool := decide (0 ≤ x ∧ x ≤ 1099511627776)
set_option maxRecDepth 100000 in
set_option maxHeartbeats 1000000 in
/-- what may not be: nothing is done -/
theorem dset_bad {w W : World} {b : Nat} {F : List Nat} {L : SL} {q : Nat} {qs : List Value} (hs : SNew w W b F L q qs) (t : Int) (A : Option Addr) (n c : Nat) (f : Nat → Int) (K : ByteArray) (hK : keyStr t f n = K) (hn : n ≤ 100) (hl : Il W A n f) (hK0 : K ≠ ⟨#[]⟩) (x blk wait : Int)
    (h : dIn x = false ∨ dIn x = true ∧ dIn blk = false ∨ dIn x = true ∧ dIn blk = true ∧ dIn wait = false) :
    Calls Try.prog 57 #[.pointer (some ⟨b, 0, none⟩), .int .i64 t, .slice A n c, .int .i64 x, .int .i64 blk, .int .i64 wait] W fun e W' => e = .returned (.int .i64 2) ∧ LiveTo w W W' b F L q := by
  have HM := Lib.hid (made_live b F L q qs W hs.s)
  have HK := Lib.hid (key_is t A n c f K hK W hl hn)
  have HS := Lib.hid (fun (W1 : World) (hb : Below W.heap.size W W1) => hs.same hb)
  have HKne := ba_nil hK0
  have HW := Lib.hid dwithin_any
  clear hs hK hn hl hK0
  rcases h with h1 | ⟨h1, h2⟩ | ⟨h1, h2, h3⟩
  · have H1 := Lib.hid (fun w => show Calls Try.prog 106 #[.int .i64 x] w fun e w' => e = .returned (.bool false) ∧ w = w' from by have := HW.out x w; unfold dIn at h1; rwa [h1] at this)
    clear h1
    go_enter Try.func57, Try.ntmps57
    go_wp2_with (first
      | (go_at_call 106; with_reducible refine (H1.out _).mono ?_; rintro e w5 ⟨rfl, rfl⟩)
      | (go_at_call 60; with_reducible refine HK.out.mono ?_; rintro e w6 ⟨rfl, hb6⟩; have HB6 := Lib.hid hb6; clear hb6)
      | (go_at_call 27; with_reducible refine HM.out.mono ?_; rintro e w1 ⟨rfl, rfl⟩))
    go_ret
    exact ⟨rfl, HS.out _ HB6.out⟩
  · have H1 := Lib.hid (fun w => show Calls Try.prog 106 #[.int .i64 x] w fun e w' => e = .returned (.bool true) ∧ w = w' from by have := HW.out x w; unfold dIn at h1; rwa [h1] at this)
    have H2 := Lib.hid (fun w => show Calls Try.prog 106 #[.int .i64 blk] w fun e w' => e = .returned (.bool false) ∧ w = w' from by have := HW.out blk w; unfold dIn at h2; rwa [h2] at this)
    clear h1 h2
    go_enter Try.func57, Try.ntmps57
    go_wp2_with (first
      | (go_at_call 106; with_reducible refine (H1.out _).mono ?_; rintro e w5 ⟨rfl, rfl⟩)
      | (go_at_call 106; with_reducible refine (H2.out _).mono ?_; rintro e w5 ⟨rfl, rfl⟩)
      | (go_at_call 60; with_reducible refine HK.out.mono ?_; rintro e w6 ⟨rfl, hb6⟩; have HB6 := Lib.hid hb6; clear hb6)
      | (go_at_call 27; with_reducible refine HM.out.mono ?_; rintro e w1 ⟨rfl, rfl⟩))
    go_ret
    exact ⟨rfl, HS.out _ HB6.out⟩
  · have H1 := Lib.hid (fun w => show Calls Try.prog 106 #[.int .i64 x] w fun e w' => e = .returned (.bool true) ∧ w = w' from by have := HW.out x w; unfold dIn at h1; rwa [h1] at this)
    have H2 := Lib.hid (fun w => show Calls Try.prog 106 #[.int .i64 blk] w fun e w' => e = .returned (.bool true) ∧ w = w' from by have := HW.out blk w; unfold dIn at h2; rwa [h2] at this)
    have H3 := Lib.hid (fun w => show Calls Try.prog 106 #[.int .i64 wait] w fun e w' => e = .returned (.bool false) ∧ w = w' from by have := HW.out wait w; unfold dIn at h3; rwa [h3] at this)
    clear h1 h2 h3
    go_enter Try.func57, Try.ntmps57
    go_wp2_with (first
      | (go_at_call 106; with_reducible refine (H1.out _).mono ?_; rintro e w5 ⟨rfl, rfl⟩)
      | (go_at_call 106; with_reducible refine (H2.out _).mono ?_; rintro e w5 ⟨rfl, rfl⟩)
      | (go_at_call 106; with_reducible refine (H3.out _).mono ?_; rintro e w5 ⟨rfl, rfl⟩)
      | (go_at_call 60; with_reducible refine HK.out.mono ?_; rintro e w6 ⟨rfl, hb6⟩; have HB6 := Lib.hid hb6; clear hb6)
      | (go_at_call 27; with_reducible refine HM.out.mono ?_; rintro e w1 ⟨rfl, rfl⟩))
    go_ret
    exact ⟨rfl, HS.out _ HB6.out⟩
set_option maxRecDepth 100000 in
set_option maxHeartbeats 4000000 in
/-- the walk, its plain values given: v0 was there, v1 it is at the block, v2 what comes of it -/
theorem dset_core {w W : World} {b : Nat} {F : List Nat} {L : SL} {q : Nat} {qs : List Value} (hs : SNew w W b F L q qs) (t : Int) (A : Option Addr) (n c : Nat) (f : Nat → Int) (K : ByteArray) (hK : keyStr t f n = K) (hn : n ≤ 100) (hk : K.size ≤ maxLen) (hl : Il W A n f) (hK0 : K ≠ ⟨#[]⟩) (x blk wait y : Int)
    (hx : 0 ≤ x ∧ x ≤ 1099511627776) (hb : 0 ≤ blk ∧ blk ≤ 1099511627776) (hw : 0 ≤ wait ∧ wait ≤ 1099511627776) (hy : blk + wait = y) (hN : L.length < 128) (hq : q < 1000000)
    (h0 : Bool) (n0 x0 a0 : Int) (m0 : Bool) (h1 : Bool) (n1 x1 a1 : Int) (m1 : Bool) (h2 : Bool) (n2 x2 a2 : Int) (m2 : Bool) (hv0 : DV.ok ⟨h0, n0, x0, a0, m0⟩) (he : DAt L K ⟨h0, n0, x0, a0, m0⟩) (hv2 : DV.ok ⟨h2, n2, x2, a2, m2⟩)
    (hS1 : ∀ w, Calls Try.prog 107 #[dval h0 n0 x0 a0 m0, .int .i64 blk] w fun e w' => e = .returned (dval h1 n1 x1 a1 m1) ∧ Below w.heap.size w w')
    (hS2 : ∀ w, Calls Try.prog 107 #[dval h1 n1 x y true, .int .i64 blk] w fun e w' => e = .returned (dval h2 n2 x2 a2 m2) ∧ Below w.heap.size w w')
    (B : Bool) (hB : (h2 == h0 && n2 == n0 && x2 == x0 && a2 == a0 && m2 == m0) = B) :
    Calls Try.prog 57 #[.pointer (some ⟨b, 0, none⟩), .int .i64 t, .slice A n c, .int .i64 x, .int .i64 blk, .int .i64 wait] W fun e W' => e = .returned (.int .i64 0) ∧ LiveTo w W W' b F (if B then L else setL L K (rowV (rowF h2 n2 x2 a2 m2) 5)) (q + 1) := by
  have HM := Lib.hid (made_live b F L q qs W hs.s)
  have HK := Lib.hid (key_is t A n c f K hK W hl hn)
  have HG := Lib.hid (fun (W1 : World) (hb : Below W.heap.size W W1) => dget_at (hs.below hb) t A n c f K hK hn hk ⟨h0, n0, x0, a0, m0⟩ hv0 he (hl.below hb))
  have HP := Lib.hid (fun (W1 : World) (hb : Below W.heap.size W W1) => (dput_walk (hs.below hb) K h2 n2 x2 a2 m2 hv2.n hv2.x hv2.a hk hK0 hN hq).mono fun e W' hp => (⟨hp.1, hp.2.pre hb⟩ : e = .returned (.tuple #[]) ∧ LiveTo w W W' b F (setL L K (rowV (rowF h2 n2 x2 a2 m2) 5)) (q + 1)))
  have HS := Lib.hid (fun (W1 : World) (hb : Below W.heap.size W W1) => (show LiveTo w W W1 b F L (q + 1) from by
    obtain ⟨F1, q1, qs1, g1, g2, g3⟩ := hs.same hb
    exact ⟨F1, q1, qs1, g1, by omega, g3⟩))
  have HW := Lib.hid dwithin_ok
  have heq : ∀ w, (Op.equalIn 10000 100 (.agg #[.bool h2, .int .i64 n2, .int .i64 x2, .int .i64 a2, .bool m2]) (.agg #[.bool h0, .int .i64 n0, .int .i64 x0, .int .i64 a0, .bool m0])).run Try.prog w = .ok B w := fun w => by rw [deqV, hB]
  have HKne := ba_nil hK0
  have HS1 := Lib.hid hS1
  have HS2 := Lib.hid hS2
  have HX := Lib.hid (And.intro hx (And.intro hb hw))
  have y0 : 0 ≤ blk := hb.1
  have y1 : blk ≤ 1099511627776 := hb.2
  have y2 : 0 ≤ wait := hw.1
  have y3 : wait ≤ 1099511627776 := hw.2
  obtain ⟨LL, hLL⟩ : ∃ z, z = setL L K (rowV (rowF h2 n2 x2 a2 m2) 5) := ⟨_, rfl⟩
  rw [← hLL] at HP ⊢
  clear hs hK hn hk hl hK0 hx hb hw hN hq hv0 he hv2 hS1 hS2 hB hLL
  subst hy
  unfold DV.val at HG
  unfold dval at HG HP HS1 HS2
  cases B
  · have n1' : True := trivial
    go_enter Try.func57, Try.ntmps57
    go_wp2_with (first
      | (go_at_call 108; refine (HP.out _ (((((HB9.out.setCell HB8.out.size _).setCell HB8.out.size _).setCell HB8.out.size _).setCell HB8.out.size _).setCell HB8.out.size _)).mono ?_; rintro e w10 ⟨rfl, h10⟩; have H10 := Lib.hid h10; clear h10)
      | (go_at_call 107; have g8 := HB8; clear g8; with_reducible refine (HS2.out _).mono ?_; rintro e w9 ⟨rfl, hb9⟩; have ra := (hb9.block w7.heap.size (by simp; have := Z8.out; omega)).trans ((heap_alloc_old w8 (.cells #[.bool h1, .int .i64 n1, .int .i64 x, .int .i64 (blk + wait), .bool true] 100) Z8.out).trans R8.out); have rb := (hb9.block w8.heap.size (by simp)).trans (heap_alloc_new w8 (.cells #[.bool h1, .int .i64 n1, .int .i64 x, .int .i64 (blk + wait), .bool true] 100)); have a0 := (hp_cell (i := 0) ra).trans rfl; have b0 := (hp_cell (i := 0) rb).trans rfl; have g0 := hp_free (i := 0) rb; have a1 := (hp_cell (i := 1) ra).trans rfl; have b1 := (hp_cell (i := 1) rb).trans rfl; have g1 := hp_free (i := 1) rb; have a2 := (hp_cell (i := 2) ra).trans rfl; have b2 := (hp_cell (i := 2) rb).trans rfl; have g2 := hp_free (i := 2) rb; have a3 := (hp_cell (i := 3) ra).trans rfl; have b3 := (hp_cell (i := 3) rb).trans rfl; have g3 := hp_free (i := 3) rb; have a4 := (hp_cell (i := 4) ra).trans rfl; have b4 := (hp_cell (i := 4) rb).trans rfl; have g4 := hp_free (i := 4) rb; have hbg := HB8.out.alloc HB8.out.size (.cells #[.bool h1, .int .i64 n1, .int .i64 x, .int .i64 (blk + wait), .bool true] 100); have HB9 := Lib.hid (hbg.trans (hb9.mono hbg.size)); have Z9 := hp_lt ra; have Y9 := hp_lt rb; have Z8' := Z8.out; clear hb9 hbg ra rb)
      | (go_at_call 107; with_reducible refine (HS1.out _).mono ?_; rintro e w8 ⟨rfl, hb8⟩; have hbg := HB7.out.alloc HB7.out.size (.cells #[.bool h0, .int .i64 n0, .int .i64 x0, .int .i64 a0, .bool m0] 100); have HB8 := Lib.hid (hbg.trans (hb8.mono hbg.size)); have R8 := Lib.hid ((hb8.block w7.heap.size (by simp)).trans (heap_alloc_new w7 (.cells #[.bool h0, .int .i64 n0, .int .i64 x0, .int .i64 a0, .bool m0] 100))); have Z8 := Lib.hid (hp_lt R8.out); clear hb8 hbg)
      | (go_at_call 59; refine (HG.out w6 HB6.out).mono ?_; rintro e w7 ⟨rfl, hb7⟩; have HB7 := Lib.hid (HB6.out.trans (hb7.mono HB6.out.size)); clear hb7)
      | (go_at_call 106; refine (HW.out _ _ (by first | exact HX.out.1.1 | exact HX.out.2.1.1 | exact HX.out.2.2.1) (by first | exact HX.out.1.2 | exact HX.out.2.1.2 | exact HX.out.2.2.2)).mono ?_; rintro e w5 ⟨rfl, rfl⟩)
      | (go_at_call 60; refine HK.out.mono ?_; rintro e w6 ⟨rfl, hb6⟩; have HB6 := Lib.hid hb6; clear hb6)
      | (go_at_call 27; refine HM.out.mono ?_; rintro e w1 ⟨rfl, rfl⟩))
    go_ret
    exact ⟨rfl, H10.out⟩
  · have n1' : True := trivial
    go_enter Try.func57, Try.ntmps57
    go_wp2_with (first
      | (go_at_call 108; refine (HP.out _ (((((HB9.out.setCell HB8.out.size _).setCell HB8.out.size _).setCell HB8.out.size _).setCell HB8.out.size _).setCell HB8.out.size _)).mono ?_; rintro e w10 ⟨rfl, h10⟩; have H10 := Lib.hid h10; clear h10)
      | (go_at_call 107; have g8 := HB8; clear g8; with_reducible refine (HS2.out _).mono ?_; rintro e w9 ⟨rfl, hb9⟩; have ra := (hb9.block w7.heap.size (by simp; have := Z8.out; omega)).trans ((heap_alloc_old w8 (.cells #[.bool h1, .int .i64 n1, .int .i64 x, .int .i64 (blk + wait), .bool true] 100) Z8.out).trans R8.out); have rb := (hb9.block w8.heap.size (by simp)).trans (heap_alloc_new w8 (.cells #[.bool h1, .int .i64 n1, .int .i64 x, .int .i64 (blk + wait), .bool true] 100)); have a0 := (hp_cell (i := 0) ra).trans rfl; have b0 := (hp_cell (i := 0) rb).trans rfl; have g0 := hp_free (i := 0) rb; have a1 := (hp_cell (i := 1) ra).trans rfl; have b1 := (hp_cell (i := 1) rb).trans rfl; have g1 := hp_free (i := 1) rb; have a2 := (hp_cell (i := 2) ra).trans rfl; have b2 := (hp_cell (i := 2) rb).trans rfl; have g2 := hp_free (i := 2) rb; have a3 := (hp_cell (i := 3) ra).trans rfl; have b3 := (hp_cell (i := 3) rb).trans rfl; have g3 := hp_free (i := 3) rb; have a4 := (hp_cell (i := 4) ra).trans rfl; have b4 := (hp_cell (i := 4) rb).trans rfl; have g4 := hp_free (i := 4) rb; have hbg := HB8.out.alloc HB8.out.size (.cells #[.bool h1, .int .i64 n1, .int .i64 x, .int .i64 (blk + wait), .bool true] 100); have HB9 := Lib.hid (hbg.trans (hb9.mono hbg.size)); have Z9 := hp_lt ra; have Y9 := hp_lt rb; have Z8' := Z8.out; clear hb9 hbg ra rb)
      | (go_at_call 107; with_reducible refine (HS1.out _).mono ?_; rintro e w8 ⟨rfl, hb8⟩; have hbg := HB7.out.alloc HB7.out.size (.cells #[.bool h0, .int .i64 n0, .int .i64 x0, .int .i64 a0, .bool m0] 100); have HB8 := Lib.hid (hbg.trans (hb8.mono hbg.size)); have R8 := Lib.hid ((hb8.block w7.heap.size (by simp)).trans (heap_alloc_new w7 (.cells #[.bool h0, .int .i64 n0, .int .i64 x0, .int .i64 a0, .bool m0] 100))); have Z8 := Lib.hid (hp_lt R8.out); clear hb8 hbg)
      | (go_at_call 59; refine (HG.out w6 HB6.out).mono ?_; rintro e w7 ⟨rfl, hb7⟩; have HB7 := Lib.hid (HB6.out.trans (hb7.mono HB6.out.size)); clear hb7)
      | (go_at_call 106; refine (HW.out _ _ (by first | exact HX.out.1.1 | exact HX.out.2.1.1 | exact HX.out.2.2.1) (by first | exact HX.out.1.2 | exact HX.out.2.1.2 | exact HX.out.2.2.2)).mono ?_; rintro e w5 ⟨rfl, rfl⟩)
      | (go_at_call 60; refine HK.out.mono ?_; rintro e w6 ⟨rfl, hb6⟩; have HB6 := Lib.hid hb6; clear hb6)
      | (go_at_call 27; refine HM.out.mono ?_; rintro e w1 ⟨rfl, rfl⟩))
    go_ret
    exact ⟨rfl, HS.out _ (((((HB9.out.setCell HB8.out.size _).setCell HB8.out.size _).setCell HB8.out.size _).setCell HB8.out.size _).setCell HB8.out.size _)⟩
def DV.eqb (u v : DV) : Bool := u.h == v.h && u.n == v.n && u.x == v.x && u.a == v.a && u.m == v.m
theorem DV.of_eqb {u v : DV} (h : u.eqb v = true) : u = v := by
  obtain ⟨a, b, c, d, e⟩ := u
  obtain ⟨a', b', c', d', e'⟩ := v
  unfold DV.eqb at h
  simp only [Bool.and_eq_true, beq_iff_eq] at h
  obtain ⟨⟨⟨⟨rfl, rfl⟩, rfl⟩, rfl⟩, rfl⟩ := h
  rfl
/-- what may be: the value at the key is the next one -/
theorem dset_go {w W : World} {b : Nat} {F : List Nat} {L : SL} {q : Nat} {qs : List Value} (hs : SNew w W b F L q qs) (t : Int) (A : Option Addr) (n c : Nat) (f : Nat → Int) (K : ByteArray) (hK : keyStr t f n = K) (hn : n ≤ 100) (hk : K.size ≤ maxLen) (hl : Il W A n f) (hK0 : K ≠ ⟨#[]⟩) (x blk wait : Int)
    (hx : 0 ≤ x ∧ x ≤ 1099511627776) (hb : 0 ≤ blk ∧ blk ≤ 1099511627776) (hw : 0 ≤ wait ∧ wait ≤ 1099511627776) (hN : L.length < 128) (hq : q < 1000000) (v : DV) (hv : v.ok) (he : DAt L K v) :
    Calls Try.prog 57 #[.pointer (some ⟨b, 0, none⟩), .int .i64 t, .slice A n c, .int .i64 x, .int .i64 blk, .int .i64 wait] W fun e W' => e = .returned (.int .i64 0) ∧ LiveTo w W W' b F (if (stepD v x blk wait).eqb v then L else setL L K (stepD v x blk wait).row) (q + 1) :=
  dset_core hs t A n c f K hK hn hk hl hK0 x blk wait _ hx hb hw rfl hN hq v.h v.n v.x v.a v.m (settleD v blk).h (settleD v blk).n (settleD v blk).x (settleD v blk).a (settleD v blk).m (stepD v x blk wait).h (stepD v x blk wait).n (stepD v x blk wait).x (stepD v x blk wait).a (stepD v x blk wait).m hv he (stepD_ok hv hx hb hw)
    (fun w => settle_any v blk w) (fun w => settle_any (putD v x blk wait) blk w) _ rfl
end Go.Proofs.Ytedkhpnlhkjjgaa
