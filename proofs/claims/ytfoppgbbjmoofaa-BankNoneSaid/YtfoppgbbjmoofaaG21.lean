/- A region that draws its order: a head whose operations only read or lay new blocks, and a tail that runs in its order (a call that changes what was there). No program's functions. -/
import Derived.Lib.QuietBelow
import Derived.StillTail
import Derived.Test.YtfoppgbbjmoofaaG20
namespace Go.Proofs.Ytfoppgbbjmoofaa
open Go Go.Sort Go.RowKit

section
variable {P : Program} {ops : Array Oper} {md : Region.Mode} {C : World → Prop}
def headQ (P : Program) (md : Region.Mode) (ops : Array Oper) (C : World → Prop) (n : Nat) (L : Array Bool → Act → Prop) : Nat → Array Bool → Act → Prop
  | 0, d, a => L d a
  | f + 1, d, a => Region.ready md ops d ≠ [] ∧ ∀ i ∈ Region.ready md ops d, i < n ∧ qOp P ops C i (headQ P md ops C n L f (d.setIfInBounds i true)) a
theorem any_of_headQ {n g : Nat} {L : Array Bool → Act → Prop} {Q' : Exit → Act → World → Prop} (hL : ∀ d a w, C w → L d a → wpAny P md ops Q' g d a w) :
    ∀ (f : Nat) (d : Array Bool) (a : Act) (w : World), C w → headQ P md ops C n L f d a → wpAny P md ops Q' (f + g) d a w := by
  intro f
  induction f with
  | zero => intro d a w hw h; rw [Nat.zero_add]; exact hL _ _ _ hw h
  | succ f ih =>
    intro d a w hw h
    have e : f + 1 + g = (f + g) + 1 := by omega
    rw [e]
    exact ⟨fun h0 => absurd h0 h.1, fun i hi => wpOp_of_qOp hw (fun a' w' hw' h' => ih _ a' w' hw' h') (h.2 i hi).2⟩
theorem headQ_first {n i : Nat} {o : Oper} {v : Value} {L : Array Bool → Act → Prop} (ho : ops[i]? = some o) (hsel : ∀ (j : Nat) (o : Oper) cs b, ops[j]? = some o → o.op ≠ .select cs b)
    (hs : Region.sinkB md ops n = true) (hc : Region.chainB md ops n = true) (hn : n < ops.size) (hin : i < n) (hdone : ∀ d a, L d a → ∀ j ∈ Region.ready md ops d, n ≤ j) :
    ∀ (f : Nat) (d : Array Bool) (a : Act), HeadInv md ops n d →
      (∀ j oj, ops[j]? = some oj → j ≠ i → d.getD j true = false → (∀ e ∈ oj.after, Region.binds md e = true → e.on ≠ i) → o.apart ops oj = true) →
      i ∈ Region.ready md ops d → YieldsIn P ops C o v a → headQ P md ops C n L f (d.setIfInBounds i true) (a.put o.dst v) → headQ P md ops C n L (f + 1) d a := by
  intro f
  induction f with
  | zero =>
    intro d a inv _ hr hy H
    have hu := (mem_ready.1 hr).1
    refine ⟨fun h => (by rw [h] at hr; cases hr), fun j hj => ?_⟩
    have hjn : j < n := Nat.lt_of_not_le fun h => absurd hj (tail_waits hs hc hn inv _ i rfl hin hu j h)
    refine ⟨hjn, ?_⟩
    by_cases e : j = i
    · subst e; exact hy.qOp ho H
    · exact absurd (hdone _ _ H j (ready_mono hj e)) (by omega)
  | succ f ih =>
    intro d a inv hfree hr hy H
    have hu := (mem_ready.1 hr).1
    refine ⟨fun h => (by rw [h] at hr; cases hr), fun j hj => ?_⟩
    have hjn : j < n := Nat.lt_of_not_le fun h => absurd hj (tail_waits hs hc hn inv _ i rfl hin hu j h)
    refine ⟨hjn, ?_⟩
    by_cases e : j = i
    · subst e; exact hy.qOp ho H
    · obtain ⟨hju, oj, hoj, hall⟩ := mem_ready.1 hj
      have hno : ∀ x ∈ oj.after, Region.binds md x = true → x.on ≠ i := fun x hx hb heq => by
        have h1 := hall x hx hb
        rw [heq, getD_both hu] at h1
        cases h1
      have h2 := qOp_put hoj (hfree j oj hoj e hju hno) (fun cs b => hsel i o cs b ho) (fun cs b => hsel j oj cs b hoj) hy (H.2 j (ready_mono hj e)).2
      refine qOp_mono (fun a' h3 => ih (d.setIfInBounds j true) a' (inv.set hj hjn) (fun k ok hk hki hun hno' => hfree k ok hk hki ?_ hno') (ready_mono hr (Ne.symm e)) h3.1 ?_) h2
      · by_cases q : j = k
        · subst q; exact hju
        · rw [getD_set_ne true q] at hun; exact hun
      · rw [Array.setIfInBounds_comm _ _ e]
        exact h3.2
theorem headQ_lex {n g : Nat} {Lq : Act → Prop} (hsel : Region.noSelect ops = true) (hs : Region.sinkB md ops n = true) (hc : Region.chainB md ops n = true) (hn : n < ops.size) :
    ∀ (l : List Oper) (k : Nat) (d : Array Bool) (a : Act), (∀ j, j < l.length → l[j]? = ops[k + j]?) → k + l.length = n → HeadInv md ops n d →
    Region.lexHead md ops g l.length k d = true → wpQuiet P ops C Lq l a → headQ P md ops C n (fun d' a' => Region.seqB md ops g n d' = true ∧ Lq a') l.length d a := by
  intro l
  induction l with
  | nil =>
    intro k d a _ hk _ hB h
    obtain rfl : k = n := by simpa using hk
    exact ⟨by simpa [Region.lexHead] using hB, h⟩
  | cons o l ih =>
    intro k d a hl hk inv hB h
    have h0 : ops[k]? = some o := by simpa using (hl 0 (by simp)).symm
    simp only [List.length_cons, Region.lexHead, Bool.and_eq_true] at hB
    have hkn : k < n := by simp only [List.length_cons] at hk; omega
    have hr : k ∈ Region.ready md ops d := by simpa using hB.1.1
    have hq : qOp P ops C k (wpQuiet P ops C Lq l) a := by unfold qOp; simp only [h0]; exact h
    obtain ⟨v, hy, hK⟩ := yieldsIn_of_qOp h0 hq
    exact headQ_first h0 (Region.noSelect_spec hsel) hs hc hn hkn (fun d' a' hL => seqB_ready hL.1) l.length d a inv (Region.free_spec h0 hB.1.2) hr hy
      (ih (k + 1) _ _ (fun j hj => by have := hl (j + 1) (by simp; omega); simpa [Nat.add_assoc, Nat.add_comm 1 j] using this) (by simp only [List.length_cons] at hk; omega) (inv.set hr hkn) hB.2 hK)
end
/-- the head in its textual order, in every world that has only grown; then the tail -/
theorem wp_region_quiet_tail {P : Program} {id : Nat} {Q : Exit → Act → World → Prop} {a : Act} {w : World} {l : List Oper} (n : Nat) (hm : P.follows .mixedOrders = true) (hB : Region.lexTailB .any l.toArray n = true)
    (h : wpQuiet P l.toArray (fun w' => ∃ p : Regrown, w' = grow (redrawn w p.d) p.os) (fun a' => ∀ w', (∃ p : Regrown, w' = grow (redrawn w p.d) p.os) → wpList P l.toArray Q (l.drop n) a' w') (l.take n) a) : (Code.region id l.toArray true).wp P Q a w := by
  simp only [Region.lexTailB, Bool.and_eq_true, decide_eq_true_eq] at hB
  obtain ⟨⟨⟨⟨hsel, hn⟩, hs⟩, hc⟩, hlex⟩ := hB
  have hn' : n < l.length := by simpa using hn
  have htl : (l.take n).length = n := by simp; omega
  have hdl : (l.drop n).length = l.toArray.size - n := by simp
  have inv0 : HeadInv .any l.toArray n (Array.replicate l.toArray.size false) :=
    ⟨by simp, fun j oj _ hl => (by rw [getD_replicate_false] at hl; cases hl), fun t _ ht => getD_in (by simpa using ht) (getD_replicate_false _ _)⟩
  have H := headQ_lex (md := .any) (C := fun w' => ∃ p : Regrown, w' = grow (redrawn w p.d) p.os) (g := l.toArray.size - n) hsel hs hc hn (l.take n) 0 _ a (fun j hj => by
    have hj' : j < n := by rw [htl] at hj; exact hj
    simp [hj']) (by simpa using htl) inv0 (by rw [htl]; exact hlex) h
  refine wp_region_any hm ?_
  have := any_of_headQ (Q' := Q) (g := l.toArray.size - n) (fun d a' w' hw' hL => by
    have := wpAny_of_seq (md := .any) (Q' := Q) (l.drop n) n d a' w' (fun j => by simp [List.getElem?_drop]) (by rw [hdl]; exact hL.1) (hL.2 w' hw')
    rwa [hdl] at this) _ _ _ { w with drawn := w.drawn + 1 } ⟨⟨w.drawn + 1, #[]⟩, by rw [grow_empty]; rfl⟩ H
  rw [htl, show n + (l.toArray.size - n) = l.toArray.size by omega] at this
  exact this
end Go.Proofs.Ytfoppgbbjmoofaa

namespace Go.Proofs.Ytfoppgbbjmoofaa
open Go.RowKit Go.Maps Go.Sort

set_option maxRecDepth 100000 in
theorem istok_any (t : Int) (w : World) : Calls Try.prog 32 #[.int .i64 t] w fun e w' => e = .returned (.bool (decide (1 ≤ t ∧ t ≤ 1000))) ∧ w = w' := by
  by_cases h1 : 1 ≤ t
  · by_cases h2 : t ≤ 1000
    · rw [decide_eq_true ⟨h1, h2⟩]
      go_enter Try.func32, Try.ntmps32
      go_wp2
      go_ret
      exact ⟨rfl, rfl⟩
    · rw [decide_eq_false (fun h => h2 h.2)]
      go_enter Try.func32, Try.ntmps32
      go_wp2
      go_ret
      exact ⟨rfl, rfl⟩
  · rw [decide_eq_false (fun h => h1 h.1)]
    go_enter Try.func32, Try.ntmps32
    go_wp2
    go_ret
    exact ⟨rfl, rfl⟩
set_option maxRecDepth 100000 in
theorem bgood_any (t a : Int) (w : World) : Calls Try.prog 25 #[.int .i64 t, .int .i64 a] w fun e w' => e = .returned (.bool (decide ((1 ≤ t ∧ t ≤ 1000) ∧ 1 ≤ a ∧ a ≤ 4294967295))) ∧ w = w' := by
  have HT := Lib.hid (istok_any t w)
  by_cases h0 : 1 ≤ t ∧ t ≤ 1000
  · rw [decide_eq_true h0] at HT
    by_cases h1 : 1 ≤ a
    · by_cases h2 : a ≤ 4294967295
      · rw [decide_eq_true ⟨h0, h1, h2⟩]
        clear h0
        go_enter Try.func25, Try.ntmps25
        go_wp2_with (go_at_call 32; refine HT.out.mono ?_; rintro e w1 ⟨rfl, rfl⟩)
        go_ret
        exact ⟨rfl, rfl⟩
      · rw [decide_eq_false (fun h => h2 h.2.2)]
        clear h0
        go_enter Try.func25, Try.ntmps25
        go_wp2_with (go_at_call 32; refine HT.out.mono ?_; rintro e w1 ⟨rfl, rfl⟩)
        go_ret
        exact ⟨by show Ending.returned (.bool (decide (a ≤ 4294967295))) = _; rw [decide_eq_false (by omega)], rfl⟩
    · rw [decide_eq_false (fun h => h1 h.2.1)]
      clear h0
      go_enter Try.func25, Try.ntmps25
      go_wp2_with (go_at_call 32; refine HT.out.mono ?_; rintro e w1 ⟨rfl, rfl⟩)
      go_ret
      exact ⟨rfl, rfl⟩
  · rw [decide_eq_false h0] at HT
    rw [decide_eq_false (fun h => h0 h.1)]
    clear h0
    go_enter Try.func25, Try.ntmps25
    go_wp2_with (go_at_call 32; refine HT.out.mono ?_; rintro e w1 ⟨rfl, rfl⟩)
    go_ret
    exact ⟨rfl, rfl⟩
set_option maxRecDepth 100000 in
theorem account_is (t a : Int) (K : ByteArray) (hK : keyStr 1 (two2 t a) 2 = K) (w : World) (ht : t < 2 ^ 63) (ha : a < 2 ^ 63) : Calls Try.prog 30 #[.int .i64 t, .int .i64 a] w fun e w' => e = .returned (.string K) ∧ Below w.heap.size w w' := by
  have HK := Lib.hid (key_is 1 (some ⟨w.heap.size, 0, none⟩) 2 2 (two2 t a) K hK _ (il2 t a w 3 ht ha) (by omega))
  have HB0 := Lib.hid ((Below.refl w.heap.size w).alloc (Nat.le_refl _) (.cells #[.int .i64 t, .int .i64 a] 3))
  clear hK ht ha
  go_enter Try.func30, Try.ntmps30
  go_wp2_with (go_at_call 36; refine HK.out.mono ?_; rintro e w1 ⟨rfl, hb1⟩; have HB1 := Lib.hid (HB0.out.trans (hb1.mono HB0.out.size)); clear hb1)
  go_ret
  exact ⟨rfl, HB1.out⟩
set_option maxRecDepth 100000 in
theorem supply_is (t : Int) (K : ByteArray) (hK : keyStr 2 (fun _ => t) 1 = K) (w : World) (ht : t < 2 ^ 63) : Calls Try.prog 29 #[.int .i64 t] w fun e w' => e = .returned (.string K) ∧ Below w.heap.size w w' := by
  have HK := Lib.hid (key_is 2 (some ⟨w.heap.size, 0, none⟩) 1 1 (fun _ => t) K hK _ (il1 t w 3 ht) (by omega))
  have HB0 := Lib.hid ((Below.refl w.heap.size w).alloc (Nat.le_refl _) (.cells #[.int .i64 t] 3))
  clear hK ht
  go_enter Try.func29, Try.ntmps29
  go_wp2_with (go_at_call 36; refine HK.out.mono ?_; rintro e w1 ⟨rfl, hb1⟩; have HB1 := Lib.hid (HB0.out.trans (hb1.mono HB0.out.size)); clear hb1)
  go_ret
  exact ⟨rfl, HB1.out⟩
set_option maxRecDepth 100000 in
theorem sink_is (t : Int) (K : ByteArray) (hK : keyStr 3 (fun _ => t) 1 = K) (w : World) (ht : t < 2 ^ 63) : Calls Try.prog 37 #[.int .i64 t] w fun e w' => e = .returned (.string K) ∧ Below w.heap.size w w' := by
  have HK := Lib.hid (key_is 3 (some ⟨w.heap.size, 0, none⟩) 1 1 (fun _ => t) K hK _ (il1 t w 3 ht) (by omega))
  have HB0 := Lib.hid ((Below.refl w.heap.size w).alloc (Nat.le_refl _) (.cells #[.int .i64 t] 3))
  clear hK ht
  go_enter Try.func37, Try.ntmps37
  go_wp2_with (go_at_call 36; refine HK.out.mono ?_; rintro e w1 ⟨rfl, hb1⟩; have HB1 := Lib.hid (HB0.out.trans (hb1.mono HB0.out.size)); clear hb1)
  go_ret
  exact ⟨rfl, HB1.out⟩
set_option maxRecDepth 100000 in
theorem pool_is (t : Int) (K : ByteArray) (hK : keyStr 4 (fun _ => t) 1 = K) (w : World) (ht : t < 2 ^ 63) : Calls Try.prog 38 #[.int .i64 t] w fun e w' => e = .returned (.string K) ∧ Below w.heap.size w w' := by
  have HK := Lib.hid (key_is 4 (some ⟨w.heap.size, 0, none⟩) 1 1 (fun _ => t) K hK _ (il1 t w 3 ht) (by omega))
  have HB0 := Lib.hid ((Below.refl w.heap.size w).alloc (Nat.le_refl _) (.cells #[.int .i64 t] 3))
  clear hK ht
  go_enter Try.func38, Try.ntmps38
  go_wp2_with (go_at_call 36; refine HK.out.mono ?_; rintro e w1 ⟨rfl, hb1⟩; have HB1 := Lib.hid (HB0.out.trans (hb1.mono HB0.out.size)); clear hb1)
  go_ret
  exact ⟨rfl, HB1.out⟩
/-! ### the sum -/
theorem set4_row {w : World} {g : Nat} {t : TypeId} {a b c d : Value} (x0 x1 x2 x3 : Value) (h : w.heap[g]? = some (.cells #[a, b, c, d] t (0, 0))) :
    ((((w.setCell ⟨g, 0, none⟩ x0).setCell ⟨g, 1, none⟩ x1).setCell ⟨g, 2, none⟩ x2).setCell ⟨g, 3, none⟩ x3).heap[g]? = some (.cells #[x0, x1, x2, x3] t (0, 0)) :=
  heap_setCell_row (heap_setCell_row (heap_setCell_row (heap_setCell_row h x0) x1) x2) x3
/-- the two boxes of Total: the sum so far, and that it fits -/
structure Tot (w : World) (g6 g7 S : Nat) : Prop where
  s : w.heap[g6]? = some (.cells #[.int .u64 (limb S 0 : Nat), .int .u64 (limb S 1 : Nat), .int .u64 (limb S 2 : Nat), .int .u64 (limb S 3 : Nat)] 24 (0, 0))
  f : w.heap[g7]? = some (.cells #[.bool true] 4 (0, 0))
theorem Tot.below {w w' : World} {g6 g7 S : Nat} (h : Tot w g6 g7 S) (hb : Below w.heap.size w w') : Tot w' g6 g7 S := ⟨(hb.block _ (hp_lt h.s)).trans h.s, (hb.block _ (hp_lt h.f)).trans h.f⟩
theorem set4_far {w : World} {g g' : Nat} (x0 x1 x2 x3 : Value) (hne : g ≠ g') {o : Obj} (h : w.heap[g']? = some o) :
    ((((w.setCell ⟨g, 0, none⟩ x0).setCell ⟨g, 1, none⟩ x1).setCell ⟨g, 2, none⟩ x2).setCell ⟨g, 3, none⟩ x3).heap[g']? = some o := by
  rw [Below.heap_setCell _ _ _ _ hne.symm, Below.heap_setCell _ _ _ _ hne.symm, Below.heap_setCell _ _ _ _ hne.symm, Below.heap_setCell _ _ _ _ hne.symm]
  exact h
set_option maxRecDepth 100000 in
set_option maxHeartbeats 2000000 in
theorem tell_walk (S a g6 g7 : Nat) (w : World) (ha : a < 2 ^ 256) (hS : S + a < 2 ^ 256) (h : Tot w g6 g7 S) (hne : g6 ≠ g7) :
    Calls Try.prog 34 #[U a, .pointer (some ⟨g7, 0, none⟩), .pointer (some ⟨g6, 0, none⟩)] w fun e w' => e = .returned (.tuple #[]) ∧ Tot w' g6 g7 (S + a) ∧ Touch [g6, g7] w w' := by
  have hA : ∀ W, Calls Try.prog 35 #[U S, U a] W fun e w' => e = .returned (.tuple #[U (S + a), .bool true]) ∧ Below W.heap.size W w' := fun W => (add_walk S a W (by omega) ha).mono fun e w' hh => by
    obtain ⟨he, hb⟩ := hh
    rw [if_pos hS, decide_eq_true hS] at he
    exact ⟨he, hb⟩
  unfold U at hA
  have HA := Lib.hid hA
  have hb0 := (Below.refl w.heap.size w).alloc (Nat.le_refl _) (.cells #[.int .u64 (limb a 0 : Nat), .int .u64 (limb a 1 : Nat), .int .u64 (limb a 2 : Nat), .int .u64 (limb a 3 : Nat)] 24)
  have h0 := h.below hb0
  have H0 := Lib.hid (And.intro hb0 h0)
  have l6 := hp_lt h.s
  have l7 := hp_lt h.f
  have s0 := (hp_cell (i := 0) h0.s).trans rfl
  have s1 := (hp_cell (i := 1) h0.s).trans rfl
  have s2 := (hp_cell (i := 2) h0.s).trans rfl
  have s3 := (hp_cell (i := 3) h0.s).trans rfl
  have s7 := (hp_cell (i := 0) h0.f).trans rfl
  obtain ⟨r, hr⟩ : ∃ r, r = S + a := ⟨_, rfl⟩
  rw [← hr] at HA ⊢
  have HNE := Lib.hid hne
  clear hb0 h0 hA hr ha hS h hne
  unfold U
  go_enter Try.func34, Try.ntmps34
  go_wp2_with (go_at_call 35; refine (HA.out _).mono ?_; rintro e w2 ⟨rfl, hb2⟩; have ht := H0.out.2.below hb2; have H2 := Lib.hid (And.intro (H0.out.1.trans (hb2.mono H0.out.1.size)) ht); have d0 := (hp_cell (i := 0) ht.s).trans rfl; have d1 := (hp_cell (i := 1) ht.s).trans rfl; have d2 := (hp_cell (i := 2) ht.s).trans rfl; have d3 := (hp_cell (i := 3) ht.s).trans rfl; have rs := set4_far (.int .u64 (limb r 0 : Nat)) (.int .u64 (limb r 1 : Nat)) (.int .u64 (limb r 2 : Nat)) (.int .u64 (limb r 3 : Nat)) HNE.out ht.f; have d7 := (hp_cell (i := 0) rs).trans rfl; have g0 := hp_free (i := 0) ht.s; have g1 := hp_free (i := 1) ht.s; have g2 := hp_free (i := 2) ht.s; have g3 := hp_free (i := 3) ht.s; have gf := hp_free (i := 0) rs; clear hb2 ht rs)
  go_end0
  refine ⟨rfl, ⟨?_, ?_⟩, ?_⟩
  · rw [Below.heap_setCell _ _ _ _ HNE.out]
    exact set4_row _ _ _ _ H2.out.2.s
  · exact heap_setCell_row (set4_far _ _ _ _ HNE.out H2.out.2.f) (.bool true)
  · exact ((Touch.of_below H2.out.1).trans (fun _ hk => .inl hk) (touch_set4 (by simp))).trans (fun _ hk => .inl hk) (Touch.setCell _ _ _ (by simp))
end Go.Proofs.Ytfoppgbbjmoofaa

namespace Go.Proofs.Ytfoppgbbjmoofaa
open Go.RowKit Go.Maps Go.Sort

def amS (l : SL) : Nat := (l.map fun p => fbv p.2).sum
theorem amS_snoc (l : SL) (p : ByteArray × ByteArray) : amS (l ++ [p]) = amS l + fbv p.2 := by simp [amS]
def amT (R : Nat → SL) : Nat → Nat
  | 0 => 0
  | i + 1 => amT R i + amS (R i)
theorem amT_le (R : Nat → SL) {i m : Nat} (h : i ≤ m) : amT R i ≤ amT R m := by
  induction h with
  | refl => exact Nat.le_refl _
  | step _ ih => exact Nat.le_trans ih (Nat.le_add_right _ _)
theorem amS_take (l : SL) (j : Nat) (h : j < l.length) : amS (l.take (j + 1)) = amS (l.take j) + fbv l[j].2 := by
  rw [List.take_succ_eq_append_getElem h, amS_snoc]
theorem amS_take_le (l : SL) (j : Nat) : amS (l.take j) ≤ amS l := by
  have h := congrArg amS (List.take_append_drop j l)
  unfold amS at h ⊢
  rw [List.map_append, List.sum_append] at h
  omega
theorem pcs_at : ∀ (l : SL) (j : Nat) (h : j < l.length), (pcs l)[j * 2]? = some (.string l[j].1) ∧ (pcs l)[j * 2 + 1]? = some (.string l[j].2)
  | [], j, h => absurd h (Nat.not_lt_zero _)
  | p :: r, 0, _ => ⟨rfl, rfl⟩
  | p :: r, j + 1, h => by
    have ih := pcs_at r j (by simpa using h)
    have e : pcs (p :: r) = .string p.1 :: .string p.2 :: pcs r := rfl
    rw [e]
    refine ⟨?_, ?_⟩
    · rw [show (j + 1) * 2 = j * 2 + 1 + 1 by omega, List.getElem?_cons_succ, List.getElem?_cons_succ]
      simpa using ih.1
    · rw [show (j + 1) * 2 + 1 = j * 2 + 1 + 1 + 1 by omega, List.getElem?_cons_succ, List.getElem?_cons_succ]
      simpa using ih.2
/-- a row of pairs that was made: how it is read -/
theorem row_pairs {w : World} {B : Nat} {v : Value} {l : SL} (h : w.ownsRow B 100 2 v l.length (pcs l)) :
    ∃ A c, v = .slice A l.length c ∧ (0 < l.length → ∃ g, A = some ⟨g, 0, none⟩ ∧ B ≤ g ∧ g < w.heap.size ∧ ∀ j (h : j < l.length), w.cell? ⟨g, j * 2, none⟩ = some (.string l[j].1) ∧ w.cell? ⟨g, j * 2 + 1, none⟩ = some (.string l[j].2)) := by
  rcases h.2 with ⟨rfl, h0⟩ | ⟨g, cap, cur, rfl, hb, hg, r⟩
  · exact ⟨none, 0, by rw [h0], fun hp => by omega⟩
  · exact ⟨_, cap, rfl, fun _ => ⟨g, rfl, hb, hp_lt hg, fun j hj => ⟨ownsRow_cell h rfl (pcs_at l j hj).1, ownsRow_cell h rfl (pcs_at l j hj).2⟩⟩⟩
theorem cell_touch {F : List Nat} {w w' : World} {g o : Nat} {u : Value} (h : Touch F w w') (hg : g ∉ F) (hc : w.cell? ⟨g, o, none⟩ = some u) : w'.cell? ⟨g, o, none⟩ = some u := by
  have hl := World.block_lt_of_cell? _ _ hc
  rw [← hc]
  simp only [World.cell?, h.block g hl hg]
set_option maxRecDepth 100000 in
set_option maxHeartbeats 4000000 in
theorem each_walk (P : Option Addr) (bb m : Nat) (bs : Nat → ByteArray) (R : Nat → SL) (g6 g7 : Nat) (W : World) (hm : m ≤ 8) (hR : ∀ i, i < m → (R i).length ≤ 128)
    (hb : ∀ i, i < m → W.cell? ⟨bb, i, none⟩ = some (.string (bs i))) (hb6 : bb ≠ g6) (hb7 : bb ≠ g7) (hT : Tot W g6 g7 0) (hne : g6 ≠ g7) (hsum : amT R m < 2 ^ 256)
    (HU : ∀ i W', i < m → Touch [g6, g7] W W' → Calls Try.prog 59 #[.pointer P, .string (bs i)] W' fun e w' => (∃ v, e = .returned v ∧ w'.ownsRow W'.heap.size 100 2 v (R i).length (pcs (R i))) ∧ Below W'.heap.size W' w') :
    Calls Try.prog 33 #[.pointer P, .func (.func 34) #[] #[.pointer (some ⟨g7, 0, none⟩), .pointer (some ⟨g6, 0, none⟩)], .slice (some ⟨bb, 0, none⟩) m m] W fun e w' => e = .returned (.tuple #[]) ∧ Tot w' g6 g7 (amT R m) ∧ Touch [g6, g7] W w' := by
  have HUs := Lib.hid HU
  have HBs := Lib.hid hb
  have HSum := Lib.hid hsum
  have HRl := Lib.hid hR
  have HNE := Lib.hid hne
  have HBB := Lib.hid (show bb ∉ [g6, g7] by simp [hb6, hb7])
  have l6 := hp_lt hT.s
  have l7 := hp_lt hT.f
  have HT0 := Lib.hid hT
  have hM : (m : Int) ≤ 8 := by omega
  clear HU hb hsum hR hne hb6 hb7 hT
  go_enter Try.func33, Try.ntmps33
  go_wp2
  go_loopw [14] (fun x wr => ∃ i : Nat, i ≤ m ∧ x = .int .i64 (i : Nat) ∧ Tot wr g6 g7 (amT R i) ∧ Touch [g6, g7] W wr) (fun x _ => m - (intOf x).toNat)
  case atStart => exact ⟨0, Nat.zero_le _, rfl, HT0.out, Touch.refl _ _⟩
  case round =>
    obtain ⟨i, hi, rfl, htot, htch⟩ := hrel
    by_cases hlt : i < m
    · have p1 : (i : Int) < (m : Int) := by omega
      have cb := cell_touch htch HBB.out (HBs.out i hlt)
      have HU1 := Lib.hid (HUs.out i wr hlt htch)
      have HT1 := Lib.hid htot
      have HC1 := Lib.hid htch
      have hz := htch.size
      have HLT := Lib.hid hlt
      obtain ⟨bsi, ebs⟩ : ∃ x, x = bs i := ⟨_, rfl⟩
      rw [← ebs] at cb HU1
      have hrl := HRl.out i hlt
      have hsi : amT R i + amS (R i) < 2 ^ 256 := Nat.lt_of_le_of_lt (amT_le R (i := i + 1) (by omega)) HSum.out
      obtain ⟨l, el⟩ : ∃ l, l = R i := ⟨_, rfl⟩
      have EL := Lib.hid el
      rw [← el] at HU1 hrl hsi
      have HSI := Lib.hid hsi
      obtain ⟨n, en⟩ : ∃ n, n = l.length := ⟨_, rfl⟩
      have EN := Lib.hid en
      rw [← en] at hrl
      have hn8 : (n : Int) ≤ 128 := by omega
      clear htot htch hlt ebs el hsi en hi hrl
      go_upto_region 4 with (go_at_call 59; refine HU1.out.mono ?_; rintro e w2 ⟨⟨v, rfl, hv⟩, hb2⟩; obtain ⟨A, c, rfl, hcs⟩ := row_pairs hv; rw [← EN.out]; have HV := Lib.hid hcs; have H2 := Lib.hid hb2; clear hv hb2 hcs)
      go_loopw [22] (fun x wr2 => ∃ j : Nat, j ≤ n ∧ x = .int .i64 (j : Nat) ∧ Tot wr2 g6 g7 (amT R i + amS (l.take j)) ∧ Touch [g6, g7] w2 wr2) (fun x _ => n - (intOf x).toNat)
      case atStart => exact ⟨0, Nat.zero_le _, rfl, HT1.out.below H2.out, Touch.refl _ _⟩
      case round =>
        obtain ⟨j, hj, rfl, htot, htch⟩ := hrel
        by_cases hjn : j < n
        · have p2 : (j : Int) < (n : Int) := by omega
          have hjl : j < l.length := by have := EN.out; omega
          obtain ⟨g, rfl, hg1, hg2, hgc⟩ := HV.out (by omega)
          have hgn : g ∉ [g6, g7] := by simp; omega
          have ck := cell_touch htch hgn (hgc j hjl).1
          have cv := cell_touch htch hgn (hgc j hjl).2
          have hS : amT R i + amS (l.take j) + fbv l[j].2 < 2 ^ 256 := by
            have h1 := amS_take_le l (j + 1)
            rw [amS_take l j hjl] at h1
            have := HSI.out
            omega
          have hnx : amT R i + amS (l.take j) + fbv l[j].2 = amT R i + amS (l.take (j + 1)) := by rw [amS_take l j hjl, Nat.add_assoc]
          have HNX := Lib.hid hnx
          obtain ⟨ky, eky⟩ : ∃ x, x = l[j].1 := ⟨_, rfl⟩
          obtain ⟨vl, evl⟩ : ∃ x, x = l[j].2 := ⟨_, rfl⟩
          rw [← eky] at ck
          rw [← evl] at cv hS HNX
          obtain ⟨S, eS⟩ : ∃ S, S = amT R i + amS (l.take j) := ⟨_, rfl⟩
          rw [← eS] at hS htot HNX
          obtain ⟨a, ea⟩ : ∃ a, a = fbv vl := ⟨_, rfl⟩
          rw [← ea] at hS HNX
          obtain ⟨ok, eok⟩ : ∃ ok, ok = decide (vl.size = 32) := ⟨_, rfl⟩
          have hTA := fun W' => toAmount_walk vl a ok W' ea.symm eok.symm
          have hTl := fun W' (ht : Tot W' g6 g7 S) => tell_walk S a g6 g7 W' (by omega) hS ht HNE.out
          unfold U at hTA hTl
          have HTA := Lib.hid hTA
          have HTl := Lib.hid hTl
          have HTt := Lib.hid htot
          have HCt := Lib.hid htch
          clear hTA hTl htot htch eok ea eS evl eky hS hnx hgc hgn hjl hj
          go_wp2_with (first
            | (go_at_call 34; with_reducible refine (HTl.out _ (HTt.out.below (H4.out.alloc H4.out.size _))).mono ?_; rintro e w6 ⟨rfl, ht6, hc6⟩; have H6 := Lib.hid (And.intro ht6 ((HCt.out.trans (fun _ hk => .inl hk) (Touch.of_below (H4.out.alloc H4.out.size _))).trans (fun _ hk => .inl hk) hc6)); clear ht6 hc6)
            | (go_at_call 60; with_reducible refine (HTA.out _).mono ?_; rintro e w4 ⟨rfl, hb4⟩; have hbx := (Below.refl wr.heap.size wr).alloc (Nat.le_refl _) (.cells #[.string ky, .string vl] 100); have H4 := Lib.hid (hbx.trans (hb4.mono hbx.size)); clear hb4 hbx))
          refine ⟨⟨j + 1, by omega, by simp, ?_, H6.out.2⟩, by simp [intOf]; omega⟩
          rw [← HNX.out]
          exact H6.out.1
        · obtain rfl : j = n := by omega
          have p2 : ¬ (j : Int) < (j : Int) := by omega
          have e1 : amT R i + amS (l.take j) = amT R (i + 1) := by rw [EN.out, List.take_length, EL.out]; rfl
          rw [e1] at htot
          have H9 := Lib.hid (And.intro htot ((HC1.out.trans (fun _ hk => .inl hk) (Touch.of_below H2.out)).trans (fun _ hk => .inl hk) htch))
          clear htot htch e1
          go_wp2
          exact ⟨⟨i + 1, HLT.out, by simp, H9.out⟩, by simp [intOf]; omega⟩
    · obtain rfl : i = m := by omega
      have p1 : ¬ (i : Int) < (i : Int) := by omega
      have H9 := Lib.hid (And.intro htot htch)
      clear htot htch
      go_wp2
      go_end0
      exact ⟨rfl, H9.out⟩
/-- what Total is told: the four prefixes -/
def bgs (k1 k3 k4 k6 : ByteArray) : Nat → ByteArray
  | 0 => k1
  | 1 => k3
  | 2 => k4
  | _ => k6
set_option maxRecDepth 100000 in
set_option maxHeartbeats 4000000 in
theorem total_no (P : Option Addr) (t : Int) (w : World) (h : ¬ (1 ≤ t ∧ t ≤ 1000)) : Calls Try.prog 7 #[.pointer P, .int .i64 t] w fun e w' => e = .returned (.tuple #[U 0, .bool false]) ∧ Below w.heap.size w w' := by
  have hT := fun W => istok_any t W
  rw [decide_eq_false h] at hT
  have HT := Lib.hid hT
  have hb0 := (Below.refl w.heap.size w).alloc (Nat.le_refl _) (.cells #[.int .u64 0, .int .u64 0, .int .u64 0, .int .u64 0] 24)
  have r0 := heap_alloc_new w (.cells #[.int .u64 0, .int .u64 0, .int .u64 0, .int .u64 0] 24)
  have H0 := Lib.hid (And.intro hb0 r0)
  clear hb0 r0 hT h
  go_enter Try.func7, Try.ntmps7
  go_wp2_with (go_at_call 32; refine (HT.out _).mono ?_; rintro e w1 ⟨rfl, rfl⟩)
  obtain ⟨e0, e1, e2, e3⟩ := (arr_zero H0.out.2).cells4
  refine bodyPost_ret (v := .tuple #[.agg #[.int .u64 0, .int .u64 0, .int .u64 0, .int .u64 0], .bool false]) (by simp [results, Try.results7, go_sem, e0, e1, e2, e3]) rfl ⟨rfl, H0.out.1⟩
set_option maxRecDepth 100000 in
set_option maxHeartbeats 4000000 in
theorem total_yes (P : Option Addr) (t : Int) (w : World) (k1 k3 k4 k6 : ByteArray) (R : Nat → SL) (ht : 1 ≤ t ∧ t ≤ 1000) (h1 : keyStr 1 (fun _ => t) 1 = k1) (h3 : keyStr 3 (fun _ => t) 1 = k3) (h4 : keyStr 4 (fun _ => t) 1 = k4) (h6 : keyStr 6 (fun _ => t) 1 = k6) (hR : ∀ i, i < 4 → (R i).length ≤ 128) (hsum : amT R 4 < 2 ^ 256)
    (HU : ∀ (i : Nat) (W W' : World) (G : List Nat), i < 4 → Below w.heap.size w W → (∀ g ∈ G, w.heap.size ≤ g) → Touch G W W' → Calls Try.prog 59 #[.pointer P, .string (bgs k1 k3 k4 k6 i)] W' fun e w' => (∃ v, e = .returned v ∧ w'.ownsRow W'.heap.size 100 2 v (R i).length (pcs (R i))) ∧ Below W'.heap.size W' w') :
    Calls Try.prog 7 #[.pointer P, .int .i64 t] w fun e w' => e = .returned (.tuple #[U (amT R 4), .bool true]) ∧ Below w.heap.size w w' := by
  have hT := fun W => istok_any t W
  rw [decide_eq_true ht] at hT
  have HT := Lib.hid hT
  obtain ⟨W3, hW3⟩ : ∃ W3, W3 = ((w.alloc (.cells #[.int .u64 0, .int .u64 0, .int .u64 0, .int .u64 0] 24)).alloc (.cells #[.int .u64 0, .int .u64 0, .int .u64 0, .int .u64 0] 24)).alloc (.cells #[.bool true] 4) := ⟨_, rfl⟩
  have hb3 : Below w.heap.size w W3 := by rw [hW3]; exact (((Below.refl _ _).alloc (Nat.le_refl _) _).alloc (by simp) _).alloc (by simp; omega) _
  have hs3 : W3.heap.size = w.heap.size + 3 := by rw [hW3]; simp
  have r4 : W3.heap[w.heap.size]? = some (.cells #[.int .u64 0, .int .u64 0, .int .u64 0, .int .u64 0] 24 (0, 0)) := by
    rw [hW3]; exact (heap_alloc_old _ _ (by simp only [World.size_alloc]; omega)).trans ((heap_alloc_old _ _ (by simp only [World.size_alloc]; omega)).trans (heap_alloc_new _ _))
  have hTot : Tot W3 (w.heap.size + 1) (w.heap.size + 1 + 1) 0 := by
    have r6 := heap_alloc_new (w.alloc (.cells #[.int .u64 0, .int .u64 0, .int .u64 0, .int .u64 0] 24)) (.cells #[.int .u64 0, .int .u64 0, .int .u64 0, .int .u64 0] 24)
    rw [World.size_alloc] at r6
    have r7 := heap_alloc_new ((w.alloc (.cells #[.int .u64 0, .int .u64 0, .int .u64 0, .int .u64 0] 24)).alloc (.cells #[.int .u64 0, .int .u64 0, .int .u64 0, .int .u64 0] 24)) (.cells #[.bool true] 4)
    rw [World.size_alloc, World.size_alloc] at r7
    rw [hW3]
    exact ⟨(heap_alloc_old _ _ (by simp only [World.size_alloc]; omega)).trans r6, r7⟩
  have HEa := Lib.hid (fun (w8 : World) (hB8 : Below W3.heap.size W3 w8) => by
    have hsz := hB8.size
    have hb8 := hb3.trans (hB8.mono hb3.size)
    have hbx := hb8.alloc hb8.size (.cells #[.string k1, .string k3, .string k4, .string k6] 9)
    exact each_walk P w8.heap.size 4 (bgs k1 k3 k4 k6) R (w.heap.size + 1) (w.heap.size + 1 + 1) (w8.alloc (.cells #[.string k1, .string k3, .string k4, .string k6] 9)) (by omega) hR
      (fun i hi => by rcases (by omega : i = 0 ∨ i = 1 ∨ i = 2 ∨ i = 3) with rfl | rfl | rfl | rfl <;> exact (World.cell?_alloc_at _ _ _ _ rfl).trans rfl) (by omega) (by omega) (hTot.below (hB8.alloc hB8.size _)) (by omega) hsum
      (fun i W' hi ht => HU i _ W' _ hi hbx (by simp; omega) ht))
  have HK1 := Lib.hid (fun (W1 : World) => key_is 1 (some ⟨W1.heap.size, 0, none⟩) 1 1 (fun _ => t) k1 h1 _ (il1 t W1 3 (by omega)) (by omega))
  have HK6 := Lib.hid (fun (W1 : World) => key_is 6 (some ⟨W1.heap.size, 0, none⟩) 1 1 (fun _ => t) k6 h6 _ (il1 t W1 3 (by omega)) (by omega))
  have HK3 := Lib.hid (fun (W1 : World) => sink_is t k3 h3 W1 (by omega))
  have HK4 := Lib.hid (fun (W1 : World) => pool_is t k4 h4 W1 (by omega))
  have H3 := Lib.hid (And.intro hb3 (And.intro r4 hs3))
  have HW := Lib.hid hW3
  obtain ⟨N, hN⟩ : ∃ N, N = amT R 4 := ⟨_, rfl⟩
  rw [← hN] at HEa ⊢
  clear hT ht h1 h3 h4 h6 hR hsum HU hW3 hb3 hs3 r4 hTot hN
  go_enter Try.func7, Try.ntmps7
  go_upto_region 5 with (go_at_call 32; refine (HT.out _).mono ?_; rintro e w1 ⟨rfl, rfl⟩)
  rw [← HW.out]
  clear HW
  go_upto_region 6 with (first
    | (go_at_call 33; with_reducible refine (HEa.out _ B7.out).mono ?_; rintro e w8 ⟨rfl, ht8, hc8⟩; have H8 := Lib.hid (And.intro ht8 ((Touch.of_below (F := [w.heap.size + 1, w.heap.size + 1 + 1]) (B7.out.alloc B7.out.size (.cells #[.string k1, .string k3, .string k4, .string k6] 9))).trans (fun _ hk => .inl hk) hc8)); clear ht8 hc8)
    | (go_at_call 36; have g5 := B6; clear g5; with_reducible refine (HK6.out _).mono ?_; rintro e w7 ⟨rfl, hb7⟩; have hbx := B6.out.alloc B6.out.size (.cells #[.int .i64 t] 3); have B7 := Lib.hid (hbx.trans (hb7.mono hbx.size)); clear hb7 hbx)
    | (go_at_call 38; with_reducible refine (HK4.out _).mono ?_; rintro e w6 ⟨rfl, hb6⟩; have B6 := Lib.hid (B5.out.trans (hb6.mono B5.out.size)); clear hb6)
    | (go_at_call 37; with_reducible refine (HK3.out _).mono ?_; rintro e w5 ⟨rfl, hb5⟩; have B5 := Lib.hid (B4.out.trans (hb5.mono B4.out.size)); clear hb5)
    | (go_at_call 36; with_reducible refine (HK1.out _).mono ?_; rintro e w4 ⟨rfl, hb4⟩; have hbx := (Below.refl W3.heap.size W3).alloc (Nat.le_refl _) (.cells #[.int .i64 t] 3); have B4 := Lib.hid (hbx.trans (hb4.mono hbx.size)); clear hb4 hbx))
  have hb8 : Below w.heap.size w w8 := by
    have hsz := H3.out.2.2
    have hx := H8.out.2.below (n := w.heap.size) (fun k hk => by rcases List.mem_cons.1 hk with rfl | hk; omega; rcases List.mem_cons.1 hk with rfl | hk; omega; cases hk) H3.out.1.size
    exact H3.out.1.trans hx
  have hr4 : w8.heap[w.heap.size]? = some (.cells #[.int .u64 0, .int .u64 0, .int .u64 0, .int .u64 0] 24 (0, 0)) :=
    (H8.out.2.block _ (hp_lt H3.out.2.1) (by simp; omega)).trans H3.out.2.1
  have H9 := Lib.hid (And.intro hr4 hb8)
  have hT8 := H8.out.1
  have c0 := (hp_cell (i := 0) hT8.s).trans rfl
  have c1 := (hp_cell (i := 1) hT8.s).trans rfl
  have c2 := (hp_cell (i := 2) hT8.s).trans rfl
  have c3 := (hp_cell (i := 3) hT8.s).trans rfl
  have c7 := (hp_cell (i := 0) hT8.f).trans rfl
  have d0 := (hp_cell (i := 0) hr4).trans rfl
  have d1 := (hp_cell (i := 1) hr4).trans rfl
  have d2 := (hp_cell (i := 2) hr4).trans rfl
  have d3 := (hp_cell (i := 3) hr4).trans rfl
  have f0 := hp_free (i := 0) hr4
  have f1 := hp_free (i := 1) hr4
  have f2 := hp_free (i := 2) hr4
  have f3 := hp_free (i := 3) hr4
  clear hT8 hr4 hb8
  go_region
  all_goals go_wp2
  all_goals obtain ⟨e0, e1, e2, e3⟩ := (((arr_zero H9.out.1).put4 (n := N)).drew).cells4
  all_goals exact bodyPost_ret (v := .tuple #[.agg #[.int .u64 (limb N 0 : Nat), .int .u64 (limb N 1 : Nat), .int .u64 (limb N 2 : Nat), .int .u64 (limb N 3 : Nat)], .bool true]) (by simp [results, Try.results7, go_sem, e0, e1, e2, e3]) rfl ⟨rfl, (below_set4 H9.out.2 (Nat.le_refl _)).drew⟩
end Go.Proofs.Ytfoppgbbjmoofaa
