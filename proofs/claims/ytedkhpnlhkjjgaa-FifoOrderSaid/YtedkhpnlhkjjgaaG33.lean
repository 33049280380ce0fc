/- due.Add on a live store, whatever is due at the block already. -/
import Derived.Test.YtedkhpnlhkjjgaaG29
import Derived.Test.YtedkhpnlhkjjgaaG21
import Derived.Test.YtedkhpnlhkjjgaaG32
namespace Go.Proofs.Ytedkhpnlhkjjgaa
open Go.RowKit Go.Maps Go.Sort
attribute [local go_sem] Oper.semAt_some
attribute [local go_sem] run_store_fn

/-- the number behind the rows that are there -/
def nxt (jj : Nat → Int) (N : Nat) : Int := if N = 0 then 0 else jj (N - 1) + 1
theorem nxt_succ (jj : Nat → Int) (N : Nat) : nxt jj (N + 1) = jj N + 1 := by unfold nxt; rw [if_neg (by omega)]; rfl
/-- between two rounds of Add's loop -/
structure AdI (W : World) (jj : Nat → Int) (pre : List DRow) (V : World) : Prop where
  l : Below W.heap.size W V
  eb : V.heap[W.heap.size]? = some (Obj.cells #[.int .i64 0] 33 (0, 0))
  nb : V.heap[W.heap.size + 1]? = some (Obj.cells #[.int .i64 (nxt jj pre.length)] 3 (0, 0))
  rb : V.heap[W.heap.size + 1 + 1]? = some (Obj.cells #[.func (.func 79) #[] #[]] 127 (0, 0))
theorem AdI.stays (W : World) (jj : Nat → Int) {B : Nat} (hB : W.heap.size ≤ B) : Stays B (AdI W jj) where
  new := fun pre V V' h hb => ⟨h.l.trans (hb.mono h.l.size), (hb.block _ (hp_lt h.eb)).trans h.eb, (hb.block _ (hp_lt h.nb)).trans h.nb, (hb.block _ (hp_lt h.rb)).trans h.rb⟩
  put := fun pre V l o o' h hl hlo ho => by
    have hk := fun T => KeepT.putObj (T := T) V l o o' hlo (isBook_cells ho)
    exact ⟨h.l.grown (grownBy_putObj' V l o') h.l.size (fun j e => by cases e; omega), (hk _).2 _ _ _ h.eb, (hk _).2 _ _ _ h.nb, (hk _).2 _ _ _ h.rb⟩
theorem KeepBook.setCells {V : World} {g o : Nat} {cs : Array Value} {T : TypeId} {fr : Nat × Nat} (hg : V.heap[g]? = some (Obj.cells cs T fr)) (v : Value) (B : Nat) : KeepBook B V (V.setCell ⟨g, o, none⟩ v) :=
  ⟨by simp, fun k o' _ hk hbo => by
    have hne : k ≠ g := fun e => by subst e; rw [hg] at hk; cases hk; cases hbo
    rw [Below.heap_setCell _ _ _ _ hne]
    exact hk⟩
set_option maxRecDepth 100000 in
set_option maxHeartbeats 4000000 in
theorem dueadd_any {w W : World} {b : Nat} {F : List Nat} {L : SL} {q : Nat} {qs : List Value} (h : SNew w W b F L q qs) (blk : Int) (K0 K1 T : ByteArray) (hb0 : 0 ≤ blk) (hb1 : blk ≤ 1099511627776) (hK0 : keyStr 26 (fun _ => blk) 1 = K0)
    (N : Nat) (key : Nat → ByteArray) (bj jj : Nat → Int) (rn : Nat → Nat) (rf : Nat → Nat → Int) (hU : DueRows (under L K0) N key bj jj rn rf) (hj : ∀ i, i < N → jj i < 1000000) (nx : Int) (hnx : nxt jj N = nx) (hK1 : keyStr 26 (two2 blk nx) 2 = K1) (hT : keyStr 27 (fun _ => 0) 0 = T)
    (A : Option Addr) (n c : Nat) (f : Nat → Int) (hl : Il W A n f) (hn0 : 1 ≤ n) (hn : n ≤ 100) (hf : ∀ i, i < n → 0 ≤ f i) (m : Nat) (hm : intAt (setL L K1 (rowV f n)) T m) (hm2 : m + 1 < 2 ^ 63)
    (hk1 : K1.size ≤ maxLen) (hk10 : K1 ≠ ⟨#[]⟩) (hkt : T.size ≤ maxLen) (hkt0 : T ≠ ⟨#[]⟩) (hks : ∀ p ∈ L, p.1.size ≤ maxLen) (hN : L.length < 128) (hN1 : (setL L K1 (rowV f n)).length < 128) (hq : q + 2 < 1000000) :
    Calls Try.prog 29 #[.pointer (some ⟨b, 0, none⟩), .int .i64 blk, .slice A n c] W fun e W' => e = .returned (.int .i64 0) ∧ LiveTo w W W' b F (setL (setL L K1 (rowV f n)) T (numStr ((m : Int) + 1))) (q + 2) := by
  refine (callsIn_wide (n := 3)).1 ?_
  have h1 : 1 ≤ 3 := by omega
  have hwW := h.l.size
  have hFl : ∀ k ∈ F, k < W.heap.size := fun k hk => h.s.lt k hk
  have HM := Lib.hid (fun (W1 : World) (hb : Below W.heap.size W W1) => made_live b F L q qs W1 (h.below hb).s)
  have HG := Lib.hid (fun (W1 : World) (hb : Below W.heap.size W W1) => fgood_walk A n c f W1 (hl.below hb) hn0 hn hf)
  have HA := Lib.hid (fun w => rows_walk (some ⟨b, 0, none⟩) K0 w)
  have HK0 := Lib.hid (fun W1 => key_is 26 (some ⟨W1.heap.size, 0, none⟩) 1 1 (fun _ => blk) K0 hK0 _ (il1 blk W1 3 (by omega)) (by omega))
  have HT := Lib.hid (fun w => tbl_is 27 T hT w)
  have hnx1 : 0 ≤ nx ∧ nx < 1000001 := by
    rw [← hnx]; unfold nxt
    split
    · omega
    · have h1 := hj (N - 1) (by omega); have h2 := (hU.hk (N - 1) (by omega)).2.2; omega
  have HU := Lib.hid (fun (W1 : World) (hb : Below W.heap.size W W1) => under_live b F L q qs W1 (h.below hb).s K0 hks hN)
  have HK1 := Lib.hid (fun W1 => key_is 26 (some ⟨W1.heap.size, 0, none⟩) 2 2 (two2 blk nx) K1 hK1 _ (il2 blk nx W1 3 (by omega) (by omega)) (by omega))
  have HD := Lib.hid (And.intro hU (And.intro hj (And.intro hnx hN)))
  have HS := Lib.hid (fun (W1 : World) (hb : Below W.heap.size W W1) => (csetRow_set (h.below hb) K1 A n c f (hl.below hb) hn0 hn hf hk1 hk10 hN (by omega)).mono (R' := fun e W' => e = .returned (.tuple #[]) ∧ LiveTo w W1 W' b F (setL L K1 (rowV f n)) (q + 1)) fun e w' hh => ⟨hh.1, hh.2⟩)
  have HX := Lib.hid (fun (W1 W2 : World) (hl2 : LiveTo w W1 W2 b F (setL L K1 (rowV f n)) (q + 1)) => hl2.seq 1 (fun F1 qa qsa hs hqa => cnext_walk hs T m hkt hkt0 hm hm2 hN1 (by omega)))
  have x0 := (Below.refl W.heap.size W).alloc (Nat.le_refl _) (.cells #[.int .i64 0] 33)
  have x2 := (x0.alloc (by simp only [World.size_alloc]; omega) (.cells #[.int .i64 0] 3)).alloc (by simp only [World.size_alloc]; omega) (.cells #[.func (.func 79) #[] #[]] 127)
  have x3 := x2.alloc (by simp only [World.size_alloc]; omega) (.cells #[.int .i64 blk] 3)
  have r0 := (heap_alloc_old ((W.alloc (.cells #[.int .i64 0] 33)).alloc (.cells #[.int .i64 0] 3)) (.cells #[.func (.func 79) #[] #[]] 127) (r := W.heap.size) (by simp only [World.size_alloc]; omega)).trans ((heap_alloc_old (W.alloc (.cells #[.int .i64 0] 33)) (.cells #[.int .i64 0] 3) (by simp only [World.size_alloc]; omega)).trans (heap_alloc_new W (.cells #[.int .i64 0] 33)))
  have r1 : (((W.alloc (.cells #[.int .i64 0] 33)).alloc (.cells #[.int .i64 0] 3)).alloc (.cells #[.func (.func 79) #[] #[]] 127)).heap[W.heap.size + 1]? = some (.cells #[.int .i64 0] 3 (0, 0)) := by
    have h := heap_alloc_new (W.alloc (.cells #[.int .i64 0] 33)) (.cells #[.int .i64 0] 3)
    rw [World.size_alloc] at h
    exact (heap_alloc_old _ _ (by simp only [World.size_alloc]; omega)).trans h
  have r2 := heap_alloc_new ((W.alloc (.cells #[.int .i64 0] 33)).alloc (.cells #[.int .i64 0] 3)) (.cells #[.func (.func 79) #[] #[]] 127)
  rw [World.size_alloc, World.size_alloc] at r2
  have R0 := Lib.hid (And.intro x0 (And.intro x3 (And.intro ((heap_alloc_old _ (.cells #[.int .i64 blk] 3) (hp_lt r0)).trans r0) (And.intro ((heap_alloc_old _ (.cells #[.int .i64 blk] 3) (hp_lt r1)).trans r1) ((heap_alloc_old _ (.cells #[.int .i64 blk] 3) (hp_lt r2)).trans r2)))))
  have hk0 := HK0.out (((W.alloc (.cells #[.int .i64 0] 33)).alloc (.cells #[.int .i64 0] 3)).alloc (.cells #[.func (.func 79) #[] #[]] 127))
  simp only [World.size_alloc] at hk0
  have HK0x := Lib.hid hk0
  clear hk0
  have HwF := Lib.hid (And.intro hwW hFl)
  have p1 : ¬ blk < 0 := by omega
  have p2 : ¬ 1099511627776 < blk := by omega
  obtain ⟨l1, el1⟩ : ∃ z, z = setL L K1 (rowV f n) := ⟨_, rfl⟩
  rw [← el1] at HS HX ⊢
  obtain ⟨l2, el2⟩ : ∃ z, z = setL l1 T (numStr ((m : Int) + 1)) := ⟨_, rfl⟩
  rw [← el2]
  have HE2 := Lib.hid el2
  clear h hb0 hb1 hK0 hK1 hT hU hj hnx hnx1 hl hn0 hn hf hm hm2 hk1 hk10 hkt hkt0 hks hN hN1 hq hwW hFl x0 x2 x3 r0 r1 r2 el1 el2
  refine callsIn_of_wp_marks Try.func29 rfl trivial ?_ rfl
  simp only [Try.ntmps29, List.size_toArray, List.length_cons, List.length_nil, Nat.reduceAdd, Nat.reduceSub, Array.replicate_succ, Array.replicate_zero, List.push_toArray, List.append_toArray, List.nil_append, List.cons_append]
  gi_wp2_with (refine ⟨trivial, ?_⟩; first
    | (gi_at_call 80; with_reducible refine (callsIn_wide.2 (HA.out _)).mono ?_; rintro e w2 ⟨rfl, hb, hc1, hc2, hz⟩)
    | (gi_at_call 60; with_reducible refine (callsIn_wide.2 HK0x.out).mono ?_; rintro e w1 ⟨rfl, hb1⟩)
    | (gi_at_call 21; with_reducible refine (callsIn_wide.2 (HG.out _ R0.out.1)).mono ?_; rintro e w0 ⟨rfl, rfl⟩)
    | (gi_at_call 27; with_reducible refine (callsIn_wide.2 (HM.out _ R0.out.1)).mono ?_; rintro e w0 ⟨rfl, rfl⟩))
  obtain ⟨_, x3, r0, r1, r2⟩ := R0.out
  have hb2 := (x3.trans (hb1.mono (by omega))).trans (hb.mono (by have := hb1.size; simp only [World.size_alloc] at this; omega))
  have hs1 := hb1.size
  simp only [World.size_alloc] at hs1
  have q0 := (hb.block _ (by omega)).trans ((hb1.block _ (by omega)).trans r0)
  have q1 := (hb.block _ (by omega)).trans ((hb1.block _ (by omega)).trans r1)
  have q2 := (hb.block _ (by omega)).trans ((hb1.block _ (by omega)).trans r2)
  have hI0 : AdI W jj [] w2 := ⟨hb2, q0, by exact q1, q2⟩
  have HB2 := Lib.hid hb2
  have HI0 := Lib.hid hI0
  have HwW2 := Lib.hid hb2.size
  have hst := AdI.stays W jj hb2.size
  obtain ⟨hU, hj, hnx, hN⟩ := HD.out
  refine wpIn_rangeFunc_tells (α := DRow) (F := Fence.wide) (encs := DRow.encs) (Kp := KeepT 184) (G := DTold N key rn rf w2.heap.size) (w0 := w2) rfl h1 rfl trivial (enters_of Try.func123 (by kernel_rfl) rfl)
    (duer_tells 1 (some ⟨b, 0, none⟩) K0 w1.heap.size (w1.heap.size + 1) N (under L K0) key bj jj rn rf w2 hc1 hc2 hU.at_ hU.len (by rw [← hU.len]; exact Nat.le_trans (under_len L K0) (by omega)) hU.hk hU.hn hU.hf (fun W1 hb' => HU.out W1 (hb2.trans (hb'.mono hb2.size))))
    (fun h k => h.trans k) (fun V l o o' _ hl ho => KeepT.putObj V l o o' hl (isBook_cells ho)) (Below.refl _ _) (fun _ => rfl) (fun pre x V l o o' hG _ hl ho => hG.putObj o' hl (isBook_cells ho))
    (AdI W jj) (fun _ _ _ => False) hst ?_ hI0 (fun x => { tmps := #[.pointer (some ⟨b, 0, none⟩), .int .i64 blk, .slice A n c, undef, undef, undef, .pointer (some ⟨W.heap.size, 0, none⟩), .pointer (some ⟨W.heap.size + 1, 0, none⟩), .pointer (some ⟨W.heap.size + 1 + 1, 0, none⟩), .string x.k, undef, undef, undef, .pointer (some ⟨b, 0, none⟩), .bool true, .bool false, .int .i64 blk, .bool (decide (blk < 0)), .bool (decide (blk < 0)), .int .i64 blk, .bool (decide (1099511627776 < blk)), .bool (decide (blk < 0) || decide (1099511627776 < blk)), .bool (decide (blk < 0) || decide (1099511627776 < blk)), .slice A n c, .bool true, .bool false, .bool (decide (blk < 0) || decide (1099511627776 < blk)), .pointer (some ⟨b, 0, none⟩), .int .i64 blk, .slice (some ⟨W.heap.size + 1 + 1 + 1, 0, none⟩) 1 1, .string K0, .func (.func 123) #[] #[.pointer (some ⟨w1.heap.size, 0, none⟩), .pointer (some ⟨w1.heap.size + 1, 0, none⟩)], .string x.k, .slice (some ⟨x.g, 0, none⟩) x.n x.n, undef, undef, undef, undef, undef, undef, undef, undef, undef, undef, undef, undef, undef, undef, undef, undef, undef, undef, undef, undef, undef], defers := [] }) ?_ ?_ ?_ ?_
  · exact fun c => ⟨fun xs V V' h hb => h.elim, fun xs V l o o' h hl hlo ho => h.elim⟩
  · intro l x V Kc hKc
    unfold DRow.encs
    gi_wp2
    exact hKc
  · rintro l pre x V hl hbk hI ⟨hlt, hx⟩
    have HI := Lib.hid hI
    have hkj := hU.hk _ hlt
    have hjl := hj _ hlt
    have e1 := hx.k
    obtain ⟨xk, exk⟩ : ∃ z, z = x.k := ⟨_, rfl⟩
    rw [← exk] at e1
    have HPl := Lib.hid (fun w => place_is _ _ xk (by rw [e1]; exact hkj.1) hkj.2.1 hkj.2.2 w)
    obtain ⟨xn, exn⟩ : ∃ z, z = x.n := ⟨_, rfl⟩
    obtain ⟨xg, exg⟩ : ∃ z, z = x.g := ⟨_, rfl⟩
    obtain ⟨bjj, ebj⟩ : ∃ z, z = bj pre.length := ⟨_, rfl⟩
    obtain ⟨jjj, ejj⟩ : ∃ z, z = jj pre.length := ⟨_, rfl⟩
    rw [← ebj, ← ejj] at HPl
    rw [← ejj] at hjl
    have hj0 := hkj.2.2.1
    rw [← ejj] at hj0
    have i1 : IntKind.i64.wrap (jjj + 1) = jjj + 1 := IntWalk.i64_in _ (by omega)
    have i2 : (jjj == 9223372036854775807) = false := by rw [beq_eq_false_iff_ne]; omega
    have i3 : ¬ jjj = 9223372036854775807 := by omega
    have cA := (hp_cell (i := 0) hI.rb).trans rfl
    have HE := Lib.hid ejj
    clear hI hx hkj e1 hst hb2 q0 q1 q2 hI0 hU hj hnx hN hbk hb1 hb hc1 hc2 hz ebj ejj x3 r0 r1 r2 hs1
    dsimp only
    rw [← exk, ← exn, ← exg]
    clear exk exn exg hlt
    gi_wp2_with (refine ⟨trivial, ?_⟩; gi_at_call 79; refine (CallsIn.inRound l (callsIn_wide.2 (HPl.out _))).mono ?_; rintro e w5 ⟨rfl, hb5⟩; have B5 := Lib.hid hb5; have r5 := (hb5.block _ (hp_lt HI.out.nb)).trans HI.out.nb; have R5 := Lib.hid r5; have cT5 := (hp_cell (i := 0) r5).trans rfl; have fT5 := hp_free (i := 0) r5; clear hb5 r5)
    have hI5 := (AdI.stays W jj HwW2.out).new _ _ _ HI.out B5.out
    refine ⟨(KeepBook.of_below B5.out).trans (KeepBook.setCells R5.out _ _), (KeepT.of_below B5.out).trans (KeepT.setOther _ R5.out (by decide)), ⟨hI5.l.setCell (by simp) _, ?_, ?_, ?_⟩⟩
    · rw [Below.heap_setCell _ _ _ _ (by simp)]; exact hI5.eb
    · have h9 := heap_setCell_row (o := 0) R5.out (.int .i64 (jjj + 1))
      rw [show nxt jj (pre ++ [x]).length = jjj + 1 by rw [List.length_append]; show nxt jj (pre.length + 1) = _; rw [nxt_succ, HE.out]]
      exact h9
    · rw [Below.heap_setCell _ _ _ _ (by simp)]; exact hI5.rb
  · rintro D pre W3 hD hS hI hK
    have q0 := hI.eb
    have q1 := hI.nb
    rw [hS, hnx] at q1
    have hb3 := hI.l
    have HS2 := Lib.hid hI
    have hD' := Nat.le_trans HwW2.out hD
    have HQ := Lib.hid (And.intro q0 (And.intro hD' (And.intro hb3 hK)))
    have HDl := Lib.hid (show D < W3.heap.size from hp_lt hK)
    have HnD := Lib.hid (show W.heap.size < D from by have := hp_lt R0.out.2.2.1; have := hb2.size; have := hb1.size; have := hb.size; simp only [World.size_alloc] at *; omega)
    have c1 := (hp_cell (i := 0) q1).trans rfl
    have HZ := Lib.hid (fun (w5 w8 : World) (hb5 : Below W3.heap.size W3 w5) (h8 : LiveTo w w5 w8 b F (setL l1 T (numStr ((m : Int) + 1))) (q + 1 + 1)) => show w8.heap[W.heap.size]? = some (.cells #[.int .i64 0] 33 (0, 0)) ∧ w8.heap[D]? = some (.deferred (some [])) from by
      obtain ⟨_, _, _, _, _, ht, _⟩ := h8
      have hn := HnD.out
      exact ⟨(ht.block W.heap.size (Nat.lt_of_lt_of_le (hp_lt q0) hb5.size) (fun hm => Nat.lt_irrefl _ (HwF.out.2 _ hm))).trans ((hb5.block _ (hp_lt q0)).trans q0), (ht.block D (Nat.lt_of_lt_of_le HDl.out hb5.size) (fun hm => by have := HwF.out.2 _ hm; omega)).trans ((hb5.block _ HDl.out).trans hK)⟩)
    clear q0 q1 hD hD' hI hK hb3 hst hb2 q2 hI0 hU hj hnx hN hb1 hb hc1 hc2 hz x3 r0 r1 r2 hs1
    gi_wp2_with (refine ⟨trivial, ?_⟩; first
      | (gi_at_call 63; with_reducible refine (callsIn_wide.2 (HX.out _ _ H7.out)).mono ?_; rintro e w8 ⟨rfl, h8⟩; have HR := Lib.hid (HZ.out w5 w8 B5.out h8); have H8 := Lib.hid h8; have e0 := (hp_cell (i := 0) HR.out.1).trans rfl; have g0 := hp_free (i := 0) HR.out.1; clear h8)
      | (gi_at_call 81; with_reducible refine (callsIn_wide.2 (HT.out _)).mono ?_; rintro e w7 ⟨rfl, hb7⟩; have H7 := Lib.hid (H6.out.post hb7); clear hb7)
      | (gi_at_call 71; with_reducible refine (callsIn_wide.2 (HS.out _ H5.out)).mono ?_; rintro e w6 ⟨rfl, h6⟩; have H6 := Lib.hid h6; clear h6)
      | (gi_at_call 60; with_reducible refine (callsIn_wide.2 (HK1.out _)).mono ?_; rintro e w5 ⟨rfl, hb5⟩; have hbx := (Below.refl W3.heap.size W3).alloc (Nat.le_refl _) (.cells #[.int .i64 blk, .int .i64 nx] 3); have B5 := Lib.hid (hbx.trans (hb5.mono hbx.size)); have H5 := Lib.hid (HQ.out.2.2.1.trans (B5.out.mono HQ.out.2.2.1.size)); clear hb5 hbx))
    have h8 := H8.out
    obtain ⟨r8, k8⟩ := HR.out
    have nD : W.heap.size ≠ D := by have := HnD.out; omega
    obtain ⟨W9, hW9⟩ : ∃ W9, W9 = w8.setCell ⟨W.heap.size, 0, none⟩ (.int .i64 0) := ⟨_, rfl⟩
    have k9 : W9.heap[D]? = some (.deferred (some [])) := by rw [hW9, Below.heap_setCell _ _ _ _ (Ne.symm nD)]; exact k8
    have r9 : W9.heap[W.heap.size]? = some (.cells #[.int .i64 0] 33 (0, 0)) := by rw [hW9]; exact heap_setCell_row r8 (.int .i64 0)
    have t9 : Touch [W.heap.size, D] w8 W9 := by rw [hW9]; exact Touch.setCell _ _ _ (by simp)
    rw [← hW9]
    refine ⟨by simp, .inl ⟨_, _, rfl, run_takeDeferred k9, ?_⟩⟩
    have g9 := ((grownBy_putObj' W9 D (.deferred none)).block _ (hp_lt r9) (fun e => nD (by cases e; rfl))).trans r9
    have e9 := (hp_cell (i := 0) g9).trans rfl
    have tA : Touch [W.heap.size, D] w8 (W9.putObj D (.deferred none)) := t9.trans (fun _ hk => .inl hk) (Touch.grown (grownBy_putObj' W9 D (.deferred none)) (fun k e => by cases e; simp))
    refine ⟨.int .i64 0, by simp [results, Try.results29, go_sem, e9], rfl, ?_⟩
    rw [HE2.out]
    exact h8.own HwF.out.1 HwF.out.2 H5.out [W.heap.size, D] (fun g hg => by
      have h5 := B5.out.size
      have hz := HDl.out
      have hn := HnD.out
      rcases List.mem_cons.1 hg with rfl | hg
      · exact ⟨Nat.le_refl _, by omega⟩
      · obtain rfl : g = D := by simpa using hg
        exact ⟨by omega, by omega⟩) tA
  · rintro D c pre V hD _ hx _
    exact hx.elim
end Go.Proofs.Ytedkhpnlhkjjgaa

namespace Go.Proofs.Ytedkhpnlhkjjgaa
open Go.RowKit Go.Maps Go.Sort

theorem klo_mid {A B : SL} {k : ByteArray} (hA : ∀ p ∈ A, p.1.data.toList < k.data.toList) (hB : ∀ p ∈ B, ¬ p.1.data.toList < k.data.toList) : klo (skeys (A ++ B)) k = A.length := by
  unfold klo skeys
  rw [List.map_append, List.countP_append]
  have h1 : (A.map (·.1)).countP (fun y => decide (y.data.toList < k.data.toList)) = A.length := by
    rw [List.countP_eq_length.2, List.length_map]
    intro y hy
    obtain ⟨p, hp, rfl⟩ := List.mem_map.1 hy
    simpa using hA p hp
  have h2 : (B.map (·.1)).countP (fun y => decide (y.data.toList < k.data.toList)) = 0 := by
    rw [List.countP_eq_zero]
    intro y hy
    obtain ⟨p, hp, rfl⟩ := List.mem_map.1 hy
    simpa using hB p hp
  rw [h1, h2, Nat.add_zero]
theorem sget_not {L : SL} {k : ByteArray} (h : ∀ p ∈ L, p.1 ≠ k) : sget L k = none := by
  unfold sget
  rw [Option.map_eq_none_iff, List.find?_eq_none]
  intro p hp
  rw [keq_ne (h p hp)]
  decide
theorem lt_ne {a b : ByteArray} (h : a.data.toList < b.data.toList) : a ≠ b := fun e => by subst e; exact List.lt_irrefl _ h
theorem sset_mid {A B : SL} {k v : ByteArray} (hA : ∀ p ∈ A, p.1.data.toList < k.data.toList) (hB : ∀ p ∈ B, k.data.toList < p.1.data.toList) : setL (A ++ B) k v = A ++ [(k, v)] ++ B := by
  have hn : sget (A ++ B) k = none := sget_not fun p hp => by
    rcases List.mem_append.1 hp with h | h
    · exact lt_ne (hA p h)
    · exact (lt_ne (hB p h)).symm
  unfold setL
  rw [hn, if_neg (by simp)]
  unfold sset
  rw [hn, if_neg (by simp), klo_mid hA (fun p hp => List.lt_asymm (hB p hp)), List.take_left, List.drop_left]
theorem sset_last {A : SL} {k v v' : ByteArray} (hA : ∀ p ∈ A, p.1 ≠ k) : setL (A ++ [(k, v)]) k v' = A ++ [(k, v')] := by
  have hg : sget (A ++ [(k, v)]) k = some v := by
    have h0 := sget_not hA
    unfold sget at h0 ⊢
    rw [Option.map_eq_none_iff] at h0
    rw [List.find?_append, h0]
    simp [keq_self]
  unfold setL
  rw [hg]
  split
  · rename_i e; cases e; rfl
  · unfold sset
    rw [hg, if_pos (show (some v).isSome = true from rfl), List.map_append]
    congr 1
    · refine (List.map_congr_left fun p hp => ?_).trans (List.map_id _)
      rw [keq_ne (hA p hp)]; rfl
    · simp [keq_self]
theorem sdel_not {A : SL} {k : ByteArray} (hA : ∀ p ∈ A, p.1 ≠ k) : sdel A k = A := by
  unfold sdel
  rw [List.filter_eq_self]
  intro p hp
  rw [keq_ne (hA p hp)]; rfl
theorem sdel_last {A : SL} {k v : ByteArray} (hA : ∀ p ∈ A, p.1 ≠ k) : sdel (A ++ [(k, v)]) k = A := by
  have := sdel_not hA
  unfold sdel at this ⊢
  rw [List.filter_append, this]
  simp [keq_self]
theorem sdel_first {B : SL} {k v : ByteArray} (hB : ∀ p ∈ B, p.1 ≠ k) : sdel ((k, v) :: B) k = B := by
  have := sdel_not hB
  unfold sdel at this ⊢
  rw [List.filter_cons, this]
  simp [keq_self]
theorem under_mid {A B C : SL} {x : ByteArray} (hA : ∀ p ∈ A, p.1.data.toList < x.data.toList) (hB : ∀ p ∈ B, ¬ p.1.data.toList < x.data.toList ∧ hpre x p = true) (hC : ∀ p ∈ C, ¬ p.1.data.toList < x.data.toList ∧ hpre x p = false) : under (A ++ B ++ C) x = B := by
  unfold under
  rw [List.append_assoc, klo_mid hA (fun p hp => by
    rcases List.mem_append.1 hp with h | h
    · exact (hB p h).1
    · exact (hC p h).1), List.drop_left, List.takeWhile_append_of_pos (fun p hp => (hB p hp).2)]
  cases C with
  | nil => simp
  | cons c r => rw [List.takeWhile_cons, (hC c (by simp)).2]; simp
/-! ### the keys -/
theorem kb8_small (b : Nat) (h : b < 256) : kb8 b = [0, 0, 0, 0, 0, 0, 0, b] := by
  have z : ∀ i, 1 ≤ i → kbyte b i = 0 := fun i hi => by
    unfold kbyte
    rw [Nat.div_eq_of_lt (Nat.lt_of_lt_of_le h (by rw [show (256 : Nat) = 2 ^ 8 from rfl]; exact Nat.pow_le_pow_right (by omega) (by omega)))]
  have z0 : kbyte b 0 = b := by unfold kbyte; rw [Nat.mul_zero, Nat.pow_zero, Nat.div_one, Nat.mod_eq_of_lt h]
  unfold kb8
  rw [z 7 (by omega), z 6 (by omega), z 5 (by omega), z 4 (by omega), z 3 (by omega), z 2 (by omega), z 1 (by omega), z0]
def kr (b j : Nat) : ByteArray := keyStr 26 (two2 (b : Int) (j : Int)) 2
def kB (b : Nat) : ByteArray := keyStr 26 (fun _ => (b : Int)) 1
def kT : ByteArray := keyStr 26 (fun _ => 0) 0
def kC : ByteArray := keyStr 27 (fun _ => 0) 0
def kL (b j : Nat) : List UInt8 := [26, 0, 0, 0, 0, 0, 0, 0, UInt8.ofNat b, 0, 0, 0, 0, 0, 0, 0, UInt8.ofNat j]
theorem kr_list (b j : Nat) (hb : b < 256) (hj : j < 256) : (kr b j).data.toList = kL b j := by
  have h := keyStr_yes (t := 26) (f := two2 (b : Int) (j : Int)) (n := 2) (by omega) (by omega) (fun i hi => by
    rcases (by omega : i = 0 ∨ i = 1) with rfl | rfl
    · show (0 : Int) ≤ (b : Int); omega
    · show (0 : Int) ≤ (j : Int); omega)
  unfold kr
  rw [show ((26 : Nat) : Int) = 26 from rfl] at h
  rw [h, strOfNums_data]
  have e : tl (two2 (b : Int) (j : Int)) 0 2 = kb8 b ++ kb8 j := by
    show kb8 ((two2 (b : Int) (j : Int) 0).toNat) ++ (kb8 ((two2 (b : Int) (j : Int) 1).toNat) ++ []) = _
    rw [show two2 (b : Int) (j : Int) 0 = (b : Int) from rfl, show two2 (b : Int) (j : Int) 1 = (j : Int) from rfl, Int.toNat_natCast, Int.toNat_natCast, List.append_nil]
  rw [e, kb8_small b hb, kb8_small j hj]
  simp [ints, kL]
theorem kB_list (b : Nat) (hb : b < 256) : (kB b).data.toList = [26, 0, 0, 0, 0, 0, 0, 0, UInt8.ofNat b] := by
  have h := keyStr_yes (t := 26) (f := fun _ => (b : Int)) (n := 1) (by omega) (by omega) (fun i hi => by show (0 : Int) ≤ (b : Int); omega)
  unfold kB
  rw [show ((26 : Nat) : Int) = 26 from rfl] at h
  rw [h, strOfNums_data]
  have e : tl (fun _ => (b : Int)) 0 1 = kb8 b := by
    show kb8 ((b : Int).toNat) ++ [] = _
    rw [Int.toNat_natCast, List.append_nil]
  rw [e, kb8_small b hb]
  simp [ints]
theorem kT_list : kT.data.toList = [26] := by decide +kernel
theorem kC_list : kC.data.toList = [27] := by decide +kernel
theorem u8_lt {a b : Nat} (ha : a < 256) (hb : b < 256) : UInt8.ofNat a < UInt8.ofNat b ↔ a < b := by
  rw [UInt8.lt_iff_toNat_lt]
  simp only [UInt8.toNat_ofNat']
  rw [Nat.mod_eq_of_lt (by omega), Nat.mod_eq_of_lt (by omega)]
theorem u8_eq {a b : Nat} (ha : a < 256) (hb : b < 256) : UInt8.ofNat a = UInt8.ofNat b ↔ a = b := by
  constructor
  · intro h
    have := congrArg UInt8.toNat h
    simp only [UInt8.toNat_ofNat'] at this
    omega
  · intro h; rw [h]
theorem kL_lt {b j b' j' : Nat} (hb : b < 256) (hj : j < 256) (hb' : b' < 256) (hj' : j' < 256) : kL b j < kL b' j' ↔ b < b' ∨ b = b' ∧ j < j' := by
  unfold kL
  simp [List.cons_lt_cons_iff, u8_lt hb hb', u8_eq hb hb', u8_lt hj hj']
theorem kL_ltB {b j b' : Nat} (hb : b < 256) (hb' : b' < 256) : kL b j < [26, 0, 0, 0, 0, 0, 0, 0, UInt8.ofNat b'] ↔ b < b' := by
  unfold kL
  simp [List.cons_lt_cons_iff, u8_lt hb hb', u8_eq hb hb']
theorem kL_ltC (b j : Nat) : kL b j < [27] := by
  unfold kL
  rw [List.cons_lt_cons_iff]
  exact .inl (by decide)
theorem kL_ltT (b j : Nat) : ¬ kL b j < [26] := by
  unfold kL
  simp [List.cons_lt_cons_iff]
end Go.Proofs.Ytedkhpnlhkjjgaa

namespace Go.Proofs.Ytedkhpnlhkjjgaa
open Go.RowKit Go.Maps Go.Sort

def qK0 : ByteArray := keyStr 3 (fun _ => 1) 1
def qKn (n : Nat) : ByteArray := keyStr 3 (icat (fun _ => 1) 1 fun _ => (n : Int)) (1 + 1)
theorem qK0_list : qK0.data.toList = [3, 0, 0, 0, 0, 0, 0, 0, 1] := by decide +kernel
theorem qKn_list : ∀ n : Fin 256, (qKn n.val).data.toList = [3, 0, 0, 0, 0, 0, 0, 0, 1, 0, 0, 0, 0, 0, 0, 0, UInt8.ofNat n.val] := by decide +kernel
theorem qKn_lt {a b : Nat} (h : a < b) (hb : b < 256) : (qKn a).data.toList < (qKn b).data.toList := by
  have h1 := qKn_list ⟨a, by omega⟩
  have h2 := qKn_list ⟨b, hb⟩
  simp only at h1 h2
  rw [h1, h2]
  simp [List.cons_lt_cons_iff, u8_lt (show a < 256 by omega) hb, h]
theorem qK0_lt {b : Nat} (hb : b < 256) : qK0.data.toList < (qKn b).data.toList := by
  have h2 := qKn_list ⟨b, hb⟩
  simp only at h2
  rw [qK0_list, h2]
  simp [List.cons_lt_cons_iff]
/-- the rows' entries, from number x on -/
def qrows : Nat → List ByteArray → SL
  | _, [] => []
  | x, v :: R => (qKn x, v) :: qrows (x + 1) R
theorem qrows_snoc : ∀ (R : List ByteArray) (x : Nat) (v : ByteArray), qrows x (R ++ [v]) = qrows x R ++ [(qKn (x + R.length), v)]
  | [], x, v => rfl
  | u :: R, x, v => by
    show (qKn x, u) :: qrows (x + 1) (R ++ [v]) = (qKn x, u) :: (qrows (x + 1) R ++ [(qKn (x + (R.length + 1)), v)])
    rw [qrows_snoc R (x + 1) v, show x + 1 + R.length = x + (R.length + 1) by omega]
theorem qrows_mem : ∀ {R : List ByteArray} {x : Nat} {p : ByteArray × ByteArray}, p ∈ qrows x R → ∃ k, x ≤ k ∧ k < x + R.length ∧ p.1 = qKn k
  | [], _, _, h => by cases h
  | u :: R, x, p, h => by
    rcases List.mem_cons.1 h with rfl | h
    · exact ⟨x, Nat.le_refl _, by simp, rfl⟩
    · obtain ⟨k, h1, h2, h3⟩ := qrows_mem h
      exact ⟨k, by omega, by simp; omega, h3⟩
theorem qrows_len : ∀ (R : List ByteArray) (x : Nat), (qrows x R).length = R.length
  | [], _ => rfl
  | _ :: R, x => by show (qrows (x + 1) R).length + 1 = R.length + 1; rw [qrows_len]
/-- the head's entry -/
def qhd (x m : Nat) : ByteArray := rowV (two2 (x : Int) ((x + m : Nat) : Int)) 2
/-- all entries of a queue whose first row has number x -/
def qL (x : Nat) (R : List ByteArray) : SL := if R.length = 0 then [] else (qK0, qhd x R.length) :: qrows x R
theorem sset_first {B : SL} {k v v' : ByteArray} (hB : ∀ p ∈ B, p.1 ≠ k) : setL ((k, v) :: B) k v' = (k, v') :: B := by
  have hg : sget ((k, v) :: B) k = some v := by unfold sget; simp [keq_self]
  unfold setL
  rw [hg]
  split
  · rename_i e; cases e; rfl
  · unfold sset
    rw [hg, if_pos (show (some v).isSome = true from rfl), List.map_cons, keq_self]
    congr 1
    refine (List.map_congr_left fun p hp => ?_).trans (List.map_id _)
    rw [keq_ne (hB p hp)]; rfl
/-- a row more -/
theorem qL_push {x : Nat} {R : List ByteArray} {v : ByteArray} (hx : R.length = 0 → x = 0) (hb : x + R.length < 255) : setL (setL (qL x R) (qKn (x + R.length)) v) qK0 (qhd x (R ++ [v]).length) = qL x (R ++ [v]) := by
  have e2 : qL x (R ++ [v]) = (qK0, qhd x (R ++ [v]).length) :: qrows x (R ++ [v]) := by unfold qL; rw [if_neg (by simp)]
  rw [e2, qrows_snoc]
  unfold qL
  split
  · rename_i h0
    have := List.length_eq_zero_iff.1 h0
    subst this
    have h1 := sset_mid (A := []) (B := []) (k := qKn (x + 0)) (v := v) (fun p hp => by cases hp) (fun p hp => by cases hp)
    have h2 := sset_mid (A := []) (B := [(qKn (x + 0), v)]) (k := qK0) (v := qhd x 1) (fun p hp => by cases hp) (fun p hp => by
      obtain rfl : p = (qKn (x + 0), v) := by simpa using hp
      exact qK0_lt (by simp at hb; omega))
    simp only [List.nil_append, List.append_nil, List.length_nil, List.length_cons] at h1 h2 ⊢
    rw [h1]
    exact h2
  · have h1 := sset_mid (A := (qK0, qhd x R.length) :: qrows x R) (B := []) (k := qKn (x + R.length)) (v := v) (fun p hp => by
      rcases List.mem_cons.1 hp with rfl | h
      · exact qK0_lt (by omega)
      · obtain ⟨k, _, h2, h3⟩ := qrows_mem h
        rw [h3]; exact qKn_lt h2 (by omega)) (fun p hp => by cases hp)
    rw [List.append_nil, List.append_nil, List.cons_append] at h1
    rw [h1]
    refine sset_first fun p hp => ?_
    rcases List.mem_append.1 hp with h | h
    · obtain ⟨k, _, h2, h3⟩ := qrows_mem h
      rw [h3]; exact (lt_ne (qK0_lt (by omega))).symm
    · obtain rfl : p = (qKn (x + R.length), v) := by simpa using h
      exact (lt_ne (qK0_lt (by omega))).symm
/-- the first row goes, others stand behind it -/
theorem qL_pop {x : Nat} {R : List ByteArray} {v : ByteArray} (hR : R.length ≠ 0) (hb : x + R.length < 255) : setL (sdel (qL x (v :: R)) (qKn x)) qK0 (qhd (x + 1) R.length) = qL (x + 1) R := by
  have e1 : sdel (qL x (v :: R)) (qKn x) = (qK0, qhd x (v :: R).length) :: qrows (x + 1) R := by
    unfold qL
    rw [if_neg (by simp)]
    have h1 := sdel_first (k := qKn x) (v := v) (B := qrows (x + 1) R) (fun p hp => by
      obtain ⟨k, h1, h2, h3⟩ := qrows_mem hp
      rw [h3]; exact (lt_ne (qKn_lt (by omega) (by omega))).symm)
    unfold sdel at h1 ⊢
    rw [List.filter_cons, keq_ne (lt_ne (qK0_lt (by omega : x < 256)))]
    show (qK0, _) :: List.filter _ ((qKn x, v) :: qrows (x + 1) R) = _
    rw [h1]
  rw [e1]
  have e2 : qL (x + 1) R = (qK0, qhd (x + 1) R.length) :: qrows (x + 1) R := by unfold qL; rw [if_neg hR]
  rw [e2]
  refine sset_first fun p hp => ?_
  obtain ⟨k, h1, h2, h3⟩ := qrows_mem hp
  rw [h3]; exact (lt_ne (qK0_lt (by omega))).symm
/-- the last row goes -/
theorem qL_last {x : Nat} {v : ByteArray} (hb : x < 255) : sdel (sdel (qL x [v]) (qKn x)) qK0 = [] := by
  have hne : qK0 ≠ qKn x := lt_ne (qK0_lt (by omega))
  unfold qL
  rw [if_neg (by simp)]
  show sdel (sdel [(qK0, qhd x 1), (qKn x, v)] (qKn x)) qK0 = []
  have h1 := sdel_last (A := [(qK0, qhd x 1)]) (k := qKn x) (v := v) (fun p hp => by
    obtain rfl : p = (qK0, qhd x 1) := by simpa using hp
    exact hne)
  rw [List.singleton_append] at h1
  rw [h1]
  exact sdel_first (B := []) (fun p hp => by cases hp)
end Go.Proofs.Ytedkhpnlhkjjgaa
