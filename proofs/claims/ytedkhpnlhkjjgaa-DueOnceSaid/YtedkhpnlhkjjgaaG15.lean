/- A region that draws its order: a head whose operations only read or lay new blocks, and a tail that runs in its order (a call that changes what was there). No program's functions. -/
import Derived.Lib.QuietBelow
import Derived.StillTail
import Derived.Test.YtedkhpnlhkjjgaaG13
import Derived.Test.YtedkhpnlhkjjgaaG14
import Derived.Deep.RegionHeld
import Derived.StillTailTactics
import Derived.Deep.Quiet
import Derived.Deep.QuietTactic
namespace Go.Proofs.Ytedkhpnlhkjjgaa
open Go Go.Sort Go.RowKit

section
variable {P : Program} {ops : Array Oper} {md : Region.Mode} {C : World → Prop}
def headQ (P : Program) (md : Region.Mode) (ops : Array Oper) (C : World → Prop) (n : Nat) (L : Array Bool → Act → Prop) : Nat → Array Bool → Act → Prop
  | 0, d, a => L d a
  | f + 1, d, a => Region.ready md ops d ≠ [] ∧ ∀ i ∈ Region.ready md ops d, i < n ∧ qOp P ops C i (headQ P md ops C n L f (d.setIfInBounds i true)) a
theorem any_of_headQ {n g : Nat} {L : Array Bool → Act → Prop} {Q' : Exit → Act → World → Prop} (hL : ∀ d a w, C w → L d a → wpAny P md ops Q' g d a w) :
    ∀ (f : Nat) (d : Array Bool) (a : Act) (w : World), C w → headQ P md ops C n L f d a → wpAny P md ops Q' (f + g) d a w := by
  intro f
  induction f with
  | zero => intro d a w hw h; rw [Nat.zero_add]; exact hL _ _ _ hw h
  | succ f ih =>
    intro d a w hw h
    have e : f + 1 + g = (f + g) + 1 := by omega
    rw [e]
    exact ⟨fun h0 => absurd h0 h.1, fun i hi => wpOp_of_qOp hw (fun a' w' hw' h' => ih _ a' w' hw' h') (h.2 i hi).2⟩
theorem headQ_first {n i : Nat} {o : Oper} {v : Value} {L : Array Bool → Act → Prop} (ho : ops[i]? = some o) (hsel : ∀ (j : Nat) (o : Oper) cs b, ops[j]? = some o → o.op ≠ .select cs b)
    (hs : Region.sinkB md ops n = true) (hc : Region.chainB md ops n = true) (hn : n < ops.size) (hin : i < n) (hdone : ∀ d a, L d a → ∀ j ∈ Region.ready md ops d, n ≤ j) :
    ∀ (f : Nat) (d : Array Bool) (a : Act), HeadInv md ops n d →
      (∀ j oj, ops[j]? = some oj → j ≠ i → d.getD j true = false → (∀ e ∈ oj.after, Region.binds md e = true → e.on ≠ i) → o.apart ops oj = true) →
      i ∈ Region.ready md ops d → YieldsIn P ops C o v a → headQ P md ops C n L f (d.setIfInBounds i true) (a.put o.dst v) → headQ P md ops C n L (f + 1) d a := by
  intro f
  induction f with
  | zero =>
    intro d a inv _ hr hy H
    have hu := (mem_ready.1 hr).1
    refine ⟨fun h => (by rw [h] at hr; cases hr), fun j hj => ?_⟩
    have hjn : j < n := Nat.lt_of_not_le fun h => absurd hj (tail_waits hs hc hn inv _ i rfl hin hu j h)
    refine ⟨hjn, ?_⟩
    by_cases e : j = i
    · subst e; exact hy.qOp ho H
    · exact absurd (hdone _ _ H j (ready_mono hj e)) (by omega)
  | succ f ih =>
    intro d a inv hfree hr hy H
    have hu := (mem_ready.1 hr).1
    refine ⟨fun h => (by rw [h] at hr; cases hr), fun j hj => ?_⟩
    have hjn : j < n := Nat.lt_of_not_le fun h => absurd hj (tail_waits hs hc hn inv _ i rfl hin hu j h)
    refine ⟨hjn, ?_⟩
    by_cases e : j = i
    · subst e; exact hy.qOp ho H
    · obtain ⟨hju, oj, hoj, hall⟩ := mem_ready.1 hj
      have hno : ∀ x ∈ oj.after, Region.binds md x = true → x.on ≠ i := fun x hx hb heq => by
        have h1 := hall x hx hb
        rw [heq, getD_both hu] at h1
        cases h1
      have h2 := qOp_put hoj (hfree j oj hoj e hju hno) (fun cs b => hsel i o cs b ho) (fun cs b => hsel j oj cs b hoj) hy (H.2 j (ready_mono hj e)).2
      refine qOp_mono (fun a' h3 => ih (d.setIfInBounds j true) a' (inv.set hj hjn) (fun k ok hk hki hun hno' => hfree k ok hk hki ?_ hno') (ready_mono hr (Ne.symm e)) h3.1 ?_) h2
      · by_cases q : j = k
        · subst q; exact hju
        · rw [getD_set_ne true q] at hun; exact hun
      · rw [Array.setIfInBounds_comm _ _ e]
        exact h3.2
theorem headQ_lex {n g : Nat} {Lq : Act → Prop} (hsel : Region.noSelect ops = true) (hs : Region.sinkB md ops n = true) (hc : Region.chainB md ops n = true) (hn : n < ops.size) :
    ∀ (l : List Oper) (k : Nat) (d : Array Bool) (a : Act), (∀ j, j < l.length → l[j]? = ops[k + j]?) → k + l.length = n → HeadInv md ops n d →
    Region.lexHead md ops g l.length k d = true → wpQuiet P ops C Lq l a → headQ P md ops C n (fun d' a' => Region.seqB md ops g n d' = true ∧ Lq a') l.length d a := by
  intro l
  induction l with
  | nil =>
    intro k d a _ hk _ hB h
    obtain rfl : k = n := by simpa using hk
    exact ⟨by simpa [Region.lexHead] using hB, h⟩
  | cons o l ih =>
    intro k d a hl hk inv hB h
    have h0 : ops[k]? = some o := by simpa using (hl 0 (by simp)).symm
    simp only [List.length_cons, Region.lexHead, Bool.and_eq_true] at hB
    have hkn : k < n := by simp only [List.length_cons] at hk; omega
    have hr : k ∈ Region.ready md ops d := by simpa using hB.1.1
    have hq : qOp P ops C k (wpQuiet P ops C Lq l) a := by unfold qOp; simp only [h0]; exact h
    obtain ⟨v, hy, hK⟩ := yieldsIn_of_qOp h0 hq
    exact headQ_first h0 (Region.noSelect_spec hsel) hs hc hn hkn (fun d' a' hL => seqB_ready hL.1) l.length d a inv (Region.free_spec h0 hB.1.2) hr hy
      (ih (k + 1) _ _ (fun j hj => by have := hl (j + 1) (by simp; omega); simpa [Nat.add_assoc, Nat.add_comm 1 j] using this) (by simp only [List.length_cons] at hk; omega) (inv.set hr hkn) hB.2 hK)
end
/-- the head in its textual order, in every world that has only grown; then the tail -/
theorem wp_region_quiet_tail {P : Program} {id : Nat} {Q : Exit → Act → World → Prop} {a : Act} {w : World} {l : List Oper} (n : Nat) (hm : P.follows .mixedOrders = true) (hB : Region.lexTailB .any l.toArray n = true)
    (h : wpQuiet P l.toArray (fun w' => ∃ p : Regrown, w' = grow (redrawn w p.d) p.os) (fun a' => ∀ w', (∃ p : Regrown, w' = grow (redrawn w p.d) p.os) → wpList P l.toArray Q (l.drop n) a' w') (l.take n) a) : (Code.region id l.toArray true).wp P Q a w := by
  simp only [Region.lexTailB, Bool.and_eq_true, decide_eq_true_eq] at hB
  obtain ⟨⟨⟨⟨hsel, hn⟩, hs⟩, hc⟩, hlex⟩ := hB
  have hn' : n < l.length := by simpa using hn
  have htl : (l.take n).length = n := by simp; omega
  have hdl : (l.drop n).length = l.toArray.size - n := by simp
  have inv0 : HeadInv .any l.toArray n (Array.replicate l.toArray.size false) :=
    ⟨by simp, fun j oj _ hl => (by rw [getD_replicate_false] at hl; cases hl), fun t _ ht => getD_in (by simpa using ht) (getD_replicate_false _ _)⟩
  have H := headQ_lex (md := .any) (C := fun w' => ∃ p : Regrown, w' = grow (redrawn w p.d) p.os) (g := l.toArray.size - n) hsel hs hc hn (l.take n) 0 _ a (fun j hj => by
    have hj' : j < n := by rw [htl] at hj; exact hj
    simp [hj']) (by simpa using htl) inv0 (by rw [htl]; exact hlex) h
  refine wp_region_any hm ?_
  have := any_of_headQ (Q' := Q) (g := l.toArray.size - n) (fun d a' w' hw' hL => by
    have := wpAny_of_seq (md := .any) (Q' := Q) (l.drop n) n d a' w' (fun j => by simp [List.getElem?_drop]) (by rw [hdl]; exact hL.1) (hL.2 w' hw')
    rwa [hdl] at this) _ _ _ { w with drawn := w.drawn + 1 } ⟨⟨w.drawn + 1, #[]⟩, by rw [grow_empty]; rfl⟩ H
  rw [htl, show n + (l.toArray.size - n) = l.toArray.size by omega] at this
  exact this
end Go.Proofs.Ytedkhpnlhkjjgaa

namespace Go.Proofs.Ytedkhpnlhkjjgaa
open Go.RowKit Go.Maps Go.Sort

/-- a queue -/
abbrev qv (P : Option Addr) (t : Int) (A : Option Addr) (n c : Nat) : Value := .agg #[.pointer P, .int .i64 t, .slice A n c]
set_option maxRecDepth 100000 in
set_option maxHeartbeats 1000000 in
theorem qhead_is (P : Option Addr) (t : Int) (A : Option Addr) (n c : Nat) (f : Nat → Int) (K : ByteArray) (hK : keyStr t f n = K) (w : World) (hl : Il w A n f) (hn : n ≤ 20) :
    Calls Try.prog 69 #[.agg #[.pointer P, .int .i64 t, .slice A n c]] w fun e w' => e = .returned (.string K) ∧ Below w.heap.size w w' := by
  have hb0 := (Below.refl w.heap.size w).alloc (Nat.le_refl _) (.cells #[.pointer P, .int .i64 t, .slice A n c] 117)
  have HK := Lib.hid (key_is t A n c f K hK _ (hl.below hb0) (by omega))
  have HB0 := Lib.hid hb0
  clear hl hK hn hb0
  go_enter Try.func69, Try.ntmps69
  go_wp2_with (go_at_call 60; refine HK.out.mono ?_; rintro e w1 ⟨rfl, hb1⟩; have HB1 := Lib.hid (HB0.out.trans (hb1.mono HB0.out.size)); clear hb1)
  go_ret
  exact ⟨rfl, HB1.out⟩
set_option maxRecDepth 100000 in
set_option maxHeartbeats 4000000 in
theorem qat_is (P : Option Addr) (t : Int) (A : Option Addr) (n c : Nat) (f : Nat → Int) (k : Int) (K : ByteArray) (hK : keyStr t (icat f n fun _ => k) (n + 1) = K) (w : World) (hl : Il w A n f) (hz : A = none → n = 0 ∧ c = 0) (hn : n ≤ 20) (hk : k < 2 ^ 63) :
    Calls Try.prog 72 #[.agg #[.pointer P, .int .i64 t, .slice A n c], .int .i64 k] w fun e w' => e = .returned (.string K) ∧ Below w.heap.size w w' := by
  obtain ⟨W0, hW0⟩ : ∃ W0, W0 = w.alloc (.cells #[.pointer P, .int .i64 t, .slice A n c] 117) := ⟨_, rfl⟩
  have hb0 : Below w.heap.size w W0 := by rw [hW0]; exact (Below.refl _ _).alloc (Nat.le_refl _) _
  have r0 : W0.heap[w.heap.size]? = some (.cells #[.pointer P, .int .i64 t, .slice A n c] 117 (0, 0)) := by rw [hW0]; exact heap_alloc_new _ _
  have hl0 := hl.below hb0
  have HC := Lib.hid (fun (W : World) (hb : Below W0.heap.size W0 W) => iconcat2_c A (some ⟨W.heap.size, 0, none⟩) n 1 c 1 f (fun _ => k) (W.alloc (.cells #[.int .i64 k] 3)) ((hl0.below hb).below ((Below.refl _ _).alloc (Nat.le_refl _) _)) (il1 k W 3 hk) hz (fun h => by cases h) (by omega) (by omega) 30)
  have HK := Lib.hid (fun (A' : Option Addr) (c' : Nat) (W : World) (h : Il W A' (n + 1) (icat f n fun _ => k)) => key_is t A' (n + 1) c' _ K hK W h (by omega))
  have HM := Lib.hid (fun (i : Nat) => show icat f n (fun _ => k) i < 2 ^ 63 from by unfold icat; split; exact hl.most _; exact hk)
  have HW := Lib.hid hW0
  have c0 := (hp_cell (i := 0) r0).trans rfl
  have c1 := (hp_cell (i := 1) r0).trans rfl
  have c2 := (hp_cell (i := 2) r0).trans rfl
  have l0 := hp_lt r0
  have H0 := Lib.hid hb0
  clear hl hK hz hn hk hb0 hW0 hl0 r0
  go_enter Try.func72, Try.ntmps72
  go_upto_region 1 with fail
  rw [← HW.out]
  refine wp_region_held_drew (S := fun w' => Below W0.heap.size W0 w') (by kernel_rfl) ?_ (fun hHeld => ?_)
  · exact (Below.refl _ _).drew
  have HZ0 := Lib.hid (show Below W0.heap.size W0 W0.drew from (Below.refl _ _).drew)
  generalize W0.drew = wd at *
  refine wpAnyH_take (i := 0) (v := .pointer (some ⟨w.heap.size, 1, none⟩)) rfl (by kernel_rfl) (by kernel_rfl) (by kernel_rfl) (fun _ _ _ h => h) (Or.inl ⟨by kernel_rfl, ?_⟩) (by with_reducible assumption) ?_
  · intro wz hSw
    (try dsimp only at hSw)
    go_simp
  show wpAnyH _ _ _ _ _ _ _ (Act.put _ (some 5) _) _
  (try simp only [Act.put, List.setIfInBounds_toArray, List.set_cons_zero, List.set_cons_succ])
  refine wpAnyH_take (i := 1) (v := .int .i64 t) rfl (by kernel_rfl) (by kernel_rfl) (by kernel_rfl) (fun _ _ _ h => h) (Or.inl ⟨by kernel_rfl, ?_⟩) (by with_reducible assumption) ?_
  · intro wz hSw
    (try dsimp only at hSw)
    have d1 := (hSw.cell (p := ⟨w.heap.size, 1, none⟩) l0).trans c1
    go_simp
  show wpAnyH _ _ _ _ _ _ _ (Act.put _ (some 6) _) _
  (try simp only [Act.put, List.setIfInBounds_toArray, List.set_cons_zero, List.set_cons_succ])
  refine wpAnyH_take (i := 2) (v := .pointer (some ⟨w.heap.size, 2, none⟩)) rfl (by kernel_rfl) (by kernel_rfl) (by kernel_rfl) (fun _ _ _ h => h) (Or.inl ⟨by kernel_rfl, ?_⟩) (by with_reducible assumption) ?_
  · intro wz hSw
    (try dsimp only at hSw)
    go_simp
  show wpAnyH _ _ _ _ _ _ _ (Act.put _ (some 7) _) _
  (try simp only [Act.put, List.setIfInBounds_toArray, List.set_cons_zero, List.set_cons_succ])
  refine wpAnyH_take (i := 3) (v := .slice A n c) rfl (by kernel_rfl) (by kernel_rfl) (by kernel_rfl) (fun _ _ _ h => h) (Or.inl ⟨by kernel_rfl, ?_⟩) (by with_reducible assumption) ?_
  · intro wz hSw
    (try dsimp only at hSw)
    have d2 := (hSw.cell (p := ⟨w.heap.size, 2, none⟩) l0).trans c2
    go_simp
  show wpAnyH _ _ _ _ _ _ _ (Act.put _ (some 8) _) _
  (try simp only [Act.put, List.setIfInBounds_toArray, List.set_cons_zero, List.set_cons_succ])
  refine wpAnyH_take (i := 4) (v := .int .i64 k) rfl (by kernel_rfl) (by kernel_rfl) (by kernel_rfl) (fun _ _ _ h => h) (Or.inl ⟨by kernel_rfl, ?_⟩) (by with_reducible assumption) ?_
  · intro wz hSw
    (try dsimp only at hSw)
    go_simp
    (try with_reducible rfl)
  show wpAnyH _ _ _ _ _ _ _ (Act.put _ (some 9) _) _
  (try simp only [Act.put, List.setIfInBounds_toArray, List.set_cons_zero, List.set_cons_succ])
  refine wpAnyH_ready (rs := [5]) (by kernel_rfl) (by simp) ?_
  refine AllReadyH.cons rfl (fun K hK => ?_) AllReadyH.nil
  clear hHeld
  go_simp
  refine hK.out _ _ ?_ (fun hHeld => ?_)
  · exact HZ0.out.alloc HZ0.out.size _
  clear hK K
  (try simp only [Act.put, List.setIfInBounds_toArray, List.set_cons_zero, List.set_cons_succ])
  have hc := HC.out wd HZ0.out
  rw [World.size_alloc] at hc
  have HC5 := Lib.hid hc
  have HZ5 := Lib.hid (HZ0.out.alloc HZ0.out.size (.cells #[.int .i64 k] 3))
  clear hc
  refine wpAnyH_ready (rs := [6]) (by kernel_rfl) (by simp) ?_
  refine AllReadyH.cons rfl (fun K hK => ?_) AllReadyH.nil
  clear hHeld
  go_simp
  refine hK.out _ _ ?_ (fun hHeld => ?_)
  · exact HZ5.out.alloc HZ5.out.size _
  clear hK K
  (try simp only [Act.put, List.setIfInBounds_toArray, List.set_cons_zero, List.set_cons_succ])
  refine wpAnyH_ready (rs := [7]) (by kernel_rfl) (by simp) ?_
  refine AllReadyH.cons rfl (fun K hK => ?_) AllReadyH.nil
  clear hHeld
  go_simp
  go_at_call 116
  refine HC5.out.mono ?_
  rintro e z7 ⟨⟨v, rfl, hv⟩, hb⟩
  obtain ⟨A1, c1', rfl, il, _⟩ := own_il hv HM.out
  have HI := Lib.hid il
  have HZ7 := Lib.hid (HZ5.out.trans (hb.mono (Nat.le_succ_of_le HZ0.out.size)))
  clear hv il hb
  go_wp2_with fail
  refine hK.out _ _ ?_ (fun hHeld => ?_)
  · exact HZ7.out
  clear hK K
  (try simp only [Act.put, List.setIfInBounds_toArray, List.set_cons_zero, List.set_cons_succ])
  refine wpAnyH_ready (rs := [8]) (by kernel_rfl) (by simp) ?_
  refine AllReadyH.cons rfl (fun K hK => ?_) AllReadyH.nil
  clear hHeld
  go_simp
  go_at_call 60
  refine (HK.out _ _ _ HI.out).mono ?_
  rintro e z8 ⟨rfl, hb⟩
  have HZ8 := Lib.hid (HZ7.out.trans (hb.mono HZ7.out.size))
  clear hb
  go_wp2_with fail
  refine hK.out _ _ ?_ (fun hHeld => ?_)
  · exact HZ8.out
  clear hK K
  (try simp only [Act.put, List.setIfInBounds_toArray, List.set_cons_zero, List.set_cons_succ])
  refine wpAnyH_take (i := 9) (v := .string K) rfl (by kernel_rfl) (by kernel_rfl) (by kernel_rfl) (fun _ _ _ h => h) (Or.inl ⟨by kernel_rfl, ?_⟩) (by with_reducible assumption) ?_
  · intro wz hSw
    (try dsimp only at hSw)
    go_simp
  show wpAnyH _ _ _ _ _ _ _ (Act.put _ (some 4) _) _
  (try simp only [Act.put, List.setIfInBounds_toArray, List.set_cons_zero, List.set_cons_succ])
  refine wpAnyH_done (by kernel_rfl) ?_ _
  go_wp2_with fail
  go_ret
  exact ⟨rfl, H0.out.trans (HZ8.out.mono H0.out.size)⟩
end Go.Proofs.Ytedkhpnlhkjjgaa

namespace Go.Proofs.Ytedkhpnlhkjjgaa
open Go.RowKit Go.Maps Go.Sort

theorem idx20 (a b : Value) (w : World) : (Instr.index 119 (.agg #[a, b]) (.int .i64 0)).run Try.prog w = .ok a w := by kernel_rfl
set_option maxRecDepth 100000 in
set_option maxHeartbeats 2000000 in
theorem ends_none (P : Option Addr) (t : Int) (A : Option Addr) (n c : Nat) (f : Nat → Int) (K : ByteArray) (hK : keyStr t f n = K) (w : World) (hl : Il w A n f) (hn : n ≤ 20)
    (HR : ∀ W, Below w.heap.size w W → Calls Try.prog 77 #[.pointer P, .string K] W fun e w' => (∃ g, e = .returned (.slice (some ⟨g, 0, none⟩) 0 0)) ∧ Below W.heap.size W w') :
    Calls Try.prog 70 #[.agg #[.pointer P, .int .i64 t, .slice A n c]] w fun e w' => e = .returned (.agg #[.int .i64 0, .int .i64 0]) ∧ Below w.heap.size w w' := by
  obtain ⟨W0, hW0⟩ : ∃ W0, W0 = (w.alloc (.cells #[.pointer P, .int .i64 t, .slice A n c] 117)).alloc (.cells #[.int .i64 0, .int .i64 0] 119) := ⟨_, rfl⟩
  have hb0 : Below w.heap.size w W0 := by rw [hW0]; exact ((Below.refl _ _).alloc (Nat.le_refl _) _).alloc (by simp) _
  have r0 : W0.heap[w.heap.size]? = some (.cells #[.pointer P, .int .i64 t, .slice A n c] 117 (0, 0)) := by rw [hW0]; exact (heap_alloc_old _ _ (by simp)).trans (heap_alloc_new _ _)
  have r1 : W0.heap[w.heap.size + 1]? = some (.cells #[.int .i64 0, .int .i64 0] 119 (0, 0)) := by
    rw [hW0]
    have := heap_alloc_new (w.alloc (.cells #[.pointer P, .int .i64 t, .slice A n c] 117)) (.cells #[.int .i64 0, .int .i64 0] 119)
    rwa [World.size_alloc] at this
  have f0 := fun (dq : Nat) (osq : Array Obj) => cell_regrown (w := W0) (a := ⟨w.heap.size, 0, none⟩) ((hp_cell (i := 0) r0).trans rfl) dq osq
  have f1 := fun (dq : Nat) (osq : Array Obj) => cell_regrown (w := W0) (a := ⟨w.heap.size, 1, none⟩) ((hp_cell (i := 1) r0).trans rfl) dq osq
  have f2 := fun (dq : Nat) (osq : Array Obj) => cell_regrown (w := W0) (a := ⟨w.heap.size, 2, none⟩) ((hp_cell (i := 2) r0).trans rfl) dq osq
  have HH := Lib.hid (fun (dq : Nat) (osq : Array Obj) => qhead_is P t A n c f K hK (grow (redrawn W0 dq) osq) ((hl.below hb0).below (below_regrown W0 dq osq)) hn)
  have HRw := Lib.hid HR
  have H0 := Lib.hid (And.intro hb0 r1)
  have HW := Lib.hid hW0
  clear HR hl hK hn hb0 hW0 r0 r1
  go_enter Try.func70, Try.ntmps70
  go_upto_region 1 with fail
  rw [← HW.out]
  refine wp_region_quiet_tail 4 (by kernel_rfl) (by kernel_rfl) ?_
  simp only [List.take_succ_cons, List.take_zero]
  repeat (quiet_step (first | (go_at_call 69; with_reducible exact Calls.regrown_of (HH.out _ _))))
  refine wpQuiet_nil ?_
  intro _ hw'
  obtain ⟨⟨dq, osq⟩, hw''⟩ := hw'
  subst hw''
  have hb1 := H0.out.1.trans ((below_regrown W0 dq osq).mono H0.out.1.size)
  have r1 := ((below_regrown W0 dq osq).block _ (hp_lt H0.out.2)).trans H0.out.2
  obtain ⟨W1, hW1⟩ : ∃ W1, W1 = grow (redrawn W0 dq) osq := ⟨_, rfl⟩
  rw [← hW1] at hb1 r1 ⊢
  have H1 := Lib.hid (And.intro hb1 r1)
  clear hb1 r1 hW1 f0 f1 f2 HH
  simp only [List.drop_succ_cons, List.drop_zero]
  go_upto_region 2 with (go_at_call 77; refine (HRw.out _ H1.out.1).mono ?_; rintro e w3 ⟨⟨g, rfl⟩, hb3⟩; have r3 := (hb3.block _ (hp_lt H1.out.2)).trans H1.out.2; have R3 := Lib.hid r3; have HB3 := Lib.hid (H1.out.1.trans (hb3.mono H1.out.1.size)); clear hb3 r3)
  go_quiet (fail)
  have d0 := (hp_cell (i := 0) R3.out).trans rfl
  have d1 := (hp_cell (i := 1) R3.out).trans rfl
  have g0 := hp_free (i := 0) R3.out
  have g1 := hp_free (i := 1) R3.out
  go_wp2
  refine bodyPost_ret (v := .agg #[.int .i64 0, .int .i64 0]) (by simp [results, Try.results70, go_sem, d0, d1]) rfl ⟨rfl, ?_⟩
  exact ((below_drewN HB3.out _).setCell (by simp) _).setCell (by simp) _
set_option maxRecDepth 100000 in
set_option maxHeartbeats 2000000 in
theorem ends_two (P : Option Addr) (t : Int) (A : Option Addr) (n c : Nat) (f : Nat → Int) (K : ByteArray) (hK : keyStr t f n = K) (x y : Int) (hxy : x < y) (w : World) (hl : Il w A n f) (hn : n ≤ 20)
    (HR : ∀ W, Below w.heap.size w W → Calls Try.prog 77 #[.pointer P, .string K] W fun e w' => (∃ g, e = .returned (.slice (some ⟨g, 0, none⟩) 2 2) ∧ w'.cell? ⟨g, 0, none⟩ = some (.int .i64 x) ∧ w'.cell? ⟨g, 1, none⟩ = some (.int .i64 y)) ∧ Below W.heap.size W w') :
    Calls Try.prog 70 #[.agg #[.pointer P, .int .i64 t, .slice A n c]] w fun e w' => e = .returned (.agg #[.int .i64 x, .int .i64 y]) ∧ Below w.heap.size w w' := by
  obtain ⟨W0, hW0⟩ : ∃ W0, W0 = (w.alloc (.cells #[.pointer P, .int .i64 t, .slice A n c] 117)).alloc (.cells #[.int .i64 0, .int .i64 0] 119) := ⟨_, rfl⟩
  have hb0 : Below w.heap.size w W0 := by rw [hW0]; exact ((Below.refl _ _).alloc (Nat.le_refl _) _).alloc (by simp) _
  have r0 : W0.heap[w.heap.size]? = some (.cells #[.pointer P, .int .i64 t, .slice A n c] 117 (0, 0)) := by rw [hW0]; exact (heap_alloc_old _ _ (by simp)).trans (heap_alloc_new _ _)
  have r1 : W0.heap[w.heap.size + 1]? = some (.cells #[.int .i64 0, .int .i64 0] 119 (0, 0)) := by
    rw [hW0]
    have := heap_alloc_new (w.alloc (.cells #[.pointer P, .int .i64 t, .slice A n c] 117)) (.cells #[.int .i64 0, .int .i64 0] 119)
    rwa [World.size_alloc] at this
  have f0 := fun (dq : Nat) (osq : Array Obj) => cell_regrown (w := W0) (a := ⟨w.heap.size, 0, none⟩) ((hp_cell (i := 0) r0).trans rfl) dq osq
  have f1 := fun (dq : Nat) (osq : Array Obj) => cell_regrown (w := W0) (a := ⟨w.heap.size, 1, none⟩) ((hp_cell (i := 1) r0).trans rfl) dq osq
  have f2 := fun (dq : Nat) (osq : Array Obj) => cell_regrown (w := W0) (a := ⟨w.heap.size, 2, none⟩) ((hp_cell (i := 2) r0).trans rfl) dq osq
  have HH := Lib.hid (fun (dq : Nat) (osq : Array Obj) => qhead_is P t A n c f K hK (grow (redrawn W0 dq) osq) ((hl.below hb0).below (below_regrown W0 dq osq)) hn)
  have HRw := Lib.hid HR
  have H0 := Lib.hid (And.intro hb0 r1)
  have HW := Lib.hid hW0
  clear HR hl hK hn hb0 hW0 r0 r1
  go_enter Try.func70, Try.ntmps70
  go_upto_region 1 with fail
  rw [← HW.out]
  refine wp_region_quiet_tail 4 (by kernel_rfl) (by kernel_rfl) ?_
  simp only [List.take_succ_cons, List.take_zero]
  repeat (quiet_step (first | (go_at_call 69; with_reducible exact Calls.regrown_of (HH.out _ _))))
  refine wpQuiet_nil ?_
  intro _ hw'
  obtain ⟨⟨dq, osq⟩, hw''⟩ := hw'
  subst hw''
  have hb1 := H0.out.1.trans ((below_regrown W0 dq osq).mono H0.out.1.size)
  have r1 := ((below_regrown W0 dq osq).block _ (hp_lt H0.out.2)).trans H0.out.2
  obtain ⟨W1, hW1⟩ : ∃ W1, W1 = grow (redrawn W0 dq) osq := ⟨_, rfl⟩
  rw [← hW1] at hb1 r1 ⊢
  have H1 := Lib.hid (And.intro hb1 r1)
  clear hb1 r1 hW1 f0 f1 f2 HH
  simp only [List.drop_succ_cons, List.drop_zero]
  go_upto_region 2 with (go_at_call 77; refine (HRw.out _ H1.out.1).mono ?_; rintro e w3 ⟨⟨g, rfl, hc0, hc1⟩, hb3⟩; have r3 := (hb3.block _ (hp_lt H1.out.2)).trans H1.out.2; have R3 := Lib.hid r3; have HB3 := Lib.hid (H1.out.1.trans (hb3.mono H1.out.1.size)); clear hb3 r3)
  have n1 : ¬ y ≤ x := by omega
  go_quiet (fail)
  go_upto_region 4 with fail
  have hgen : ∀ m, ∃ W4, W4 = w3.drewN m ∧ W4.cell? ⟨g, 0, none⟩ = some (.int .i64 x) ∧ W4.cell? ⟨g, 1, none⟩ = some (.int .i64 y) ∧ W4.heap[w.heap.size + 1]? = some (.cells #[.int .i64 0, .int .i64 0] 119 (0, 0)) ∧ Below w.heap.size w W4 := fun m => ⟨_, rfl, hc0, hc1, R3.out, below_drewN HB3.out m⟩
  clear hc0 hc1
  obtain ⟨W4, hW4, hc0, hc1, r4, hb4⟩ := hgen _
  rw [← hW4]
  have d0 := (hp_cell (i := 0) r4).trans rfl
  have d1 := (hp_cell (i := 1) r4).trans rfl
  have g0 := hp_free (i := 0) r4
  have g1 := hp_free (i := 1) r4
  have HB4 := Lib.hid hb4
  clear hgen hW4 r4 hb4
  go_still_tail 7, (by kernel_rfl)
  go_wp2
  refine bodyPost_ret (v := .agg #[.int .i64 x, .int .i64 y]) (by simp [results, Try.results70, go_sem, d0, d1]) rfl ⟨rfl, ?_⟩
  first
    | exact ((HB4.out.drew).setCell (by simp) _).setCell (by simp) _
    | exact ((HB4.out.setCell (by simp) _).setCell (by simp) _).drew
set_option maxRecDepth 100000 in
set_option maxHeartbeats 1000000 in
theorem qlen_walk (P : Option Addr) (t : Int) (A : Option Addr) (n c : Nat) (x y : Int) (hx : 0 ≤ x) (hxy : x ≤ y) (hy : y ≤ 1000000) (w : World)
    (HE : ∀ W, Below w.heap.size w W → Calls Try.prog 70 #[.agg #[.pointer P, .int .i64 t, .slice A n c]] W fun e w' => e = .returned (.agg #[.int .i64 x, .int .i64 y]) ∧ Below W.heap.size W w') :
    Calls Try.prog 68 #[.pointer P, .int .i64 t, .slice A n c] w fun e w' => e = .returned (.int .i64 (y - x)) ∧ Below w.heap.size w w' := by
  have HEs := Lib.hid (HE w (Below.refl _ _))
  clear HE
  go_enter Try.func68, Try.ntmps68
  go_wp2_with (go_at_call 70; refine HEs.out.mono ?_; rintro e w1 ⟨rfl, hb1⟩; have HB1 := Lib.hid hb1; clear hb1)
  go_ret
  exact ⟨rfl, HB1.out.alloc HB1.out.size _⟩
set_option maxRecDepth 100000 in
set_option maxHeartbeats 2000000 in
theorem peek_none (P : Option Addr) (t : Int) (A : Option Addr) (n c : Nat) (f : Nat → Int) (K : ByteArray) (hK : keyStr t (icat f n fun _ => 0) (n + 1) = K) (w : World) (hl : Il w A n f) (hz : A = none → n = 0 ∧ c = 0) (hn : n ≤ 20)
    (HE : ∀ W, Below w.heap.size w W → Calls Try.prog 70 #[.agg #[.pointer P, .int .i64 t, .slice A n c]] W fun e w' => e = .returned (.agg #[.int .i64 0, .int .i64 0]) ∧ Below W.heap.size W w')
    (HR : ∀ W, Below w.heap.size w W → Calls Try.prog 77 #[.pointer P, .string K] W fun e w' => (∃ g, e = .returned (.slice (some ⟨g, 0, none⟩) 0 0)) ∧ Below W.heap.size W w') :
    Calls Try.prog 75 #[.pointer P, .int .i64 t, .slice A n c] w fun e w' => e = .returned (.tuple #[.slice none 0 0, .bool false]) ∧ Below w.heap.size w w' := by
  obtain ⟨W0, hW0⟩ : ∃ W0, W0 = w.alloc (.cells #[.pointer P, .int .i64 t, .slice A n c] 117) := ⟨_, rfl⟩
  have hb0 : Below w.heap.size w W0 := by rw [hW0]; exact (Below.refl _ _).alloc (Nat.le_refl _) _
  have r0 : W0.heap[w.heap.size]? = some (.cells #[.pointer P, .int .i64 t, .slice A n c] 117 (0, 0)) := by rw [hW0]; exact heap_alloc_new _ _
  have f0 := fun (dq : Nat) (osq : Array Obj) => cell_regrown (w := W0) (a := ⟨w.heap.size, 0, none⟩) ((hp_cell (i := 0) r0).trans rfl) dq osq
  have f1 := fun (dq : Nat) (osq : Array Obj) => cell_regrown (w := W0) (a := ⟨w.heap.size, 1, none⟩) ((hp_cell (i := 1) r0).trans rfl) dq osq
  have f2 := fun (dq : Nat) (osq : Array Obj) => cell_regrown (w := W0) (a := ⟨w.heap.size, 2, none⟩) ((hp_cell (i := 2) r0).trans rfl) dq osq
  have HEs := Lib.hid (fun (dq : Nat) (osq : Array Obj) => HE (grow (redrawn W0 dq) osq) (hb0.trans ((below_regrown W0 dq osq).mono hb0.size)))
  have HAt := Lib.hid (fun (dq : Nat) (osq : Array Obj) => qat_is P t A n c f 0 K hK (grow (redrawn W0 dq) osq) ((hl.below hb0).below (below_regrown W0 dq osq)) hz hn (by decide))
  have HRw := Lib.hid HR
  have HLn := Lib.hid (fun (W : World) (hb : Below w.heap.size w W) => qlen_walk P t A n c 0 0 (by omega) (by omega) (by omega) W (fun W1 hb1 => HE W1 (hb.trans (hb1.mono hb.size))))
  have H0 := Lib.hid hb0
  have HW := Lib.hid hW0
  clear HE HR hl hK hz hn hb0 hW0 r0
  have hix := idx20
  go_enter Try.func75, Try.ntmps75
  go_upto_region 2 with fail
  rw [← HW.out]
  refine wp_region_quiet_tail 6 (by kernel_rfl) (by kernel_rfl) ?_
  simp only [List.take_succ_cons, List.take_zero]
  repeat (quiet_step (first
    | (go_at_call 70; with_reducible exact Calls.regrown_of (HEs.out _ _))
    | (go_at_call 72; with_reducible exact Calls.regrown_of (HAt.out _ _))))
  refine wpQuiet_nil ?_
  intro _ hw'
  obtain ⟨⟨dq, osq⟩, hw''⟩ := hw'
  subst hw''
  have H1 := Lib.hid (H0.out.trans ((below_regrown W0 dq osq).mono H0.out.size))
  clear f0 f1 f2 HEs HAt
  simp only [List.drop_succ_cons, List.drop_zero]
  go_wp2_with (first
    | (go_at_call 68; refine (HLn.out _ H2.out).mono ?_; rintro e w3 ⟨rfl, hb3⟩; have H3 := Lib.hid (H2.out.trans (hb3.mono H2.out.size)); clear hb3)
    | (go_at_call 77; refine (HRw.out _ H1.out).mono ?_; rintro e w2 ⟨⟨g, rfl⟩, hb2⟩; have H2 := Lib.hid (H1.out.trans (hb2.mono H1.out.size)); clear hb2))
  go_ret2
  exact ⟨rfl, H3.out⟩
set_option maxRecDepth 100000 in
set_option maxHeartbeats 1000000 in
theorem pop_none (P : Option Addr) (t : Int) (A : Option Addr) (n c : Nat) (w : World)
    (HP : Calls Try.prog 75 #[.pointer P, .int .i64 t, .slice A n c] w fun e w' => e = .returned (.tuple #[.slice none 0 0, .bool false]) ∧ Below w.heap.size w w') :
    Calls Try.prog 22 #[.pointer P, .int .i64 t, .slice A n c] w fun e w' => e = .returned (.tuple #[.slice none 0 0, .bool false]) ∧ Below w.heap.size w w' := by
  have HPs := Lib.hid HP
  clear HP
  go_enter Try.func22, Try.ntmps22
  go_wp2_with (go_at_call 75; refine HPs.out.mono ?_; rintro e w1 ⟨rfl, hb1⟩; have HB1 := Lib.hid hb1; clear hb1)
  go_ret2
  exact ⟨rfl, HB1.out⟩
set_option maxRecDepth 100000 in
set_option maxHeartbeats 1000000 in
theorem fall_none (P : Option Addr) (t : Int) (A : Option Addr) (n c : Nat) (w : World)
    (HE : ∀ W, Below w.heap.size w W → Calls Try.prog 70 #[.agg #[.pointer P, .int .i64 t, .slice A n c]] W fun e w' => e = .returned (.agg #[.int .i64 0, .int .i64 0]) ∧ Below W.heap.size W w') :
    Calls Try.prog 25 #[.pointer P, .int .i64 t, .slice A n c] w fun e w' => e = .returned (.slice none 0 0) ∧ Below w.heap.size w w' := by
  have hb0 := (Below.refl w.heap.size w).alloc (Nat.le_refl _) (.cells #[.pointer P, .int .i64 t, .slice A n c] 117)
  have HEs := Lib.hid (HE _ hb0)
  have HLn := Lib.hid (fun (W : World) (hb : Below w.heap.size w W) => qlen_walk P t A n c 0 0 (by omega) (by omega) (by omega) W (fun W1 hb1 => HE W1 (hb.trans (hb1.mono hb.size))))
  have H0 := Lib.hid hb0
  clear HE hb0
  have hix := idx20
  go_enter Try.func25, Try.ntmps25
  go_wp2_with (first
    | (go_at_call 68; refine (HLn.out _ H1.out).mono ?_; rintro e w2 ⟨rfl, hb2⟩; have H2 := Lib.hid (H1.out.trans (hb2.mono H1.out.size)); clear hb2)
    | (go_at_call 70; refine HEs.out.mono ?_; rintro e w1 ⟨rfl, hb1⟩; have H1 := Lib.hid (H0.out.trans (hb1.mono H0.out.size)); clear hb1))
  go_loopw [9, 23] (fun v i wr => v = .slice none 0 0 ∧ i = .int .i64 0 ∧ w2 = wr) (fun _ _ _ => 0)
  case atStart => exact ⟨rfl, rfl, rfl⟩
  case round =>
    obtain ⟨rfl, rfl, rfl⟩ := hrel
    go_wp2
    go_ret
    exact ⟨rfl, H2.out⟩
set_option maxRecDepth 100000 in
set_option maxHeartbeats 400000 in
theorem fpush_dead (P : Option Addr) (t : Int) (A : Option Addr) (n c : Nat) (m : Int) (A2 : Option Addr) (n2 c2 : Nat) (w : World) (h : SDead w (.pointer P)) :
    Calls Try.prog 20 #[.pointer P, .int .i64 t, .slice A n c, .int .i64 m, .slice A2 n2 c2] w fun e w' => e = .returned (.int .i64 1) ∧ w = w' := by
  have HM := Lib.hid (made_dead _ w h)
  clear h
  go_enter Try.func20, Try.ntmps20
  go_wp2_with (go_at_call 27; refine HM.out.mono ?_; rintro e w1 ⟨rfl, rfl⟩)
  go_ret
  exact ⟨rfl, rfl⟩
/-! ### a dead store -/
theorem row_dead' (p : Value) (k : ByteArray) (w : World) (h : SDead w p) : Calls Try.prog 77 #[p, .string k] w fun e w' => (∃ g, e = .returned (.slice (some ⟨g, 0, none⟩) 0 0)) ∧ Below w.heap.size w w' :=
  (row_dead p k w h).mono fun e w' hh => ⟨⟨_, hh.1⟩, hh.2⟩
theorem ends_dead (P : Option Addr) (t : Int) (A : Option Addr) (n c : Nat) (f : Nat → Int) (w : World) (h : SDead w (.pointer P)) (hl : Il w A n f) (hn : n ≤ 20) : ∀ W, Below w.heap.size w W → Calls Try.prog 70 #[.agg #[.pointer P, .int .i64 t, .slice A n c]] W fun e w' => e = .returned (.agg #[.int .i64 0, .int .i64 0]) ∧ Below W.heap.size W w' :=
  fun W hb => ends_none P t A n c f _ rfl W (hl.below hb) hn fun W1 hb1 => row_dead' _ _ W1 ((h.below hb).below hb1)
theorem peek_dead (P : Option Addr) (t : Int) (A : Option Addr) (n c : Nat) (f : Nat → Int) (w : World) (h : SDead w (.pointer P)) (hl : Il w A n f) (hz : A = none → n = 0 ∧ c = 0) (hn : n ≤ 20) :
    Calls Try.prog 75 #[.pointer P, .int .i64 t, .slice A n c] w fun e w' => e = .returned (.tuple #[.slice none 0 0, .bool false]) ∧ Below w.heap.size w w' :=
  peek_none P t A n c f _ rfl w hl hz hn (ends_dead P t A n c f w h hl hn) fun W hb => row_dead' _ _ W (h.below hb)
end Go.Proofs.Ytedkhpnlhkjjgaa
