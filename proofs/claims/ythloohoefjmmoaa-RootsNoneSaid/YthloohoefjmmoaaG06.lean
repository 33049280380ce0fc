/- A region that draws its order: a head whose operations only read or lay new blocks, and a tail that runs in its order (a call that changes what was there). No program's functions. -/
import Derived.Test.YthloohoefjmmoaaG05
import Derived.Lib.QuietBelow
import Derived.StillTail
namespace Go.Proofs.Ythloohoefjmmoaa
open Go Go.Sort Go.RowKit

section
variable {P : Program} {ops : Array Oper} {md : Region.Mode} {C : World → Prop}
def headQ (P : Program) (md : Region.Mode) (ops : Array Oper) (C : World → Prop) (n : Nat) (L : Array Bool → Act → Prop) : Nat → Array Bool → Act → Prop
  | 0, d, a => L d a
  | f + 1, d, a => Region.ready md ops d ≠ [] ∧ ∀ i ∈ Region.ready md ops d, i < n ∧ qOp P ops C i (headQ P md ops C n L f (d.setIfInBounds i true)) a
theorem any_of_headQ {n g : Nat} {L : Array Bool → Act → Prop} {Q' : Exit → Act → World → Prop} (hL : ∀ d a w, C w → L d a → wpAny P md ops Q' g d a w) :
    ∀ (f : Nat) (d : Array Bool) (a : Act) (w : World), C w → headQ P md ops C n L f d a → wpAny P md ops Q' (f + g) d a w := by
  intro f
  induction f with
  | zero => intro d a w hw h; rw [Nat.zero_add]; exact hL _ _ _ hw h
  | succ f ih =>
    intro d a w hw h
    have e : f + 1 + g = (f + g) + 1 := by omega
    rw [e]
    exact ⟨fun h0 => absurd h0 h.1, fun i hi => wpOp_of_qOp hw (fun a' w' hw' h' => ih _ a' w' hw' h') (h.2 i hi).2⟩
theorem headQ_first {n i : Nat} {o : Oper} {v : Value} {L : Array Bool → Act → Prop} (ho : ops[i]? = some o) (hsel : ∀ (j : Nat) (o : Oper) cs b, ops[j]? = some o → o.op ≠ .select cs b)
    (hs : Region.sinkB md ops n = true) (hc : Region.chainB md ops n = true) (hn : n < ops.size) (hin : i < n) (hdone : ∀ d a, L d a → ∀ j ∈ Region.ready md ops d, n ≤ j) :
    ∀ (f : Nat) (d : Array Bool) (a : Act), HeadInv md ops n d →
      (∀ j oj, ops[j]? = some oj → j ≠ i → d.getD j true = false → (∀ e ∈ oj.after, Region.binds md e = true → e.on ≠ i) → o.apart ops oj = true) →
      i ∈ Region.ready md ops d → YieldsIn P ops C o v a → headQ P md ops C n L f (d.setIfInBounds i true) (a.put o.dst v) → headQ P md ops C n L (f + 1) d a := by
  intro f
  induction f with
  | zero =>
    intro d a inv _ hr hy H
    have hu := (mem_ready.1 hr).1
    refine ⟨fun h => (by rw [h] at hr; cases hr), fun j hj => ?_⟩
    have hjn : j < n := Nat.lt_of_not_le fun h => absurd hj (tail_waits hs hc hn inv _ i rfl hin hu j h)
    refine ⟨hjn, ?_⟩
    by_cases e : j = i
    · subst e; exact hy.qOp ho H
    · exact absurd (hdone _ _ H j (ready_mono hj e)) (by omega)
  | succ f ih =>
    intro d a inv hfree hr hy H
    have hu := (mem_ready.1 hr).1
    refine ⟨fun h => (by rw [h] at hr; cases hr), fun j hj => ?_⟩
    have hjn : j < n := Nat.lt_of_not_le fun h => absurd hj (tail_waits hs hc hn inv _ i rfl hin hu j h)
    refine ⟨hjn, ?_⟩
    by_cases e : j = i
    · subst e; exact hy.qOp ho H
    · obtain ⟨hju, oj, hoj, hall⟩ := mem_ready.1 hj
      have hno : ∀ x ∈ oj.after, Region.binds md x = true → x.on ≠ i := fun x hx hb heq => by
        have h1 := hall x hx hb
        rw [heq, getD_both hu] at h1
        cases h1
      have h2 := qOp_put hoj (hfree j oj hoj e hju hno) (fun cs b => hsel i o cs b ho) (fun cs b => hsel j oj cs b hoj) hy (H.2 j (ready_mono hj e)).2
      refine qOp_mono (fun a' h3 => ih (d.setIfInBounds j true) a' (inv.set hj hjn) (fun k ok hk hki hun hno' => hfree k ok hk hki ?_ hno') (ready_mono hr (Ne.symm e)) h3.1 ?_) h2
      · by_cases q : j = k
        · subst q; exact hju
        · rw [getD_set_ne true q] at hun; exact hun
      · rw [Array.setIfInBounds_comm _ _ e]
        exact h3.2
theorem headQ_lex {n g : Nat} {Lq : Act → Prop} (hsel : Region.noSelect ops = true) (hs : Region.sinkB md ops n = true) (hc : Region.chainB md ops n = true) (hn : n < ops.size) :
    ∀ (l : List Oper) (k : Nat) (d : Array Bool) (a : Act), (∀ j, j < l.length → l[j]? = ops[k + j]?) → k + l.length = n → HeadInv md ops n d →
    Region.lexHead md ops g l.length k d = true → wpQuiet P ops C Lq l a → headQ P md ops C n (fun d' a' => Region.seqB md ops g n d' = true ∧ Lq a') l.length d a := by
  intro l
  induction l with
  | nil =>
    intro k d a _ hk _ hB h
    obtain rfl : k = n := by simpa using hk
    exact ⟨by simpa [Region.lexHead] using hB, h⟩
  | cons o l ih =>
    intro k d a hl hk inv hB h
    have h0 : ops[k]? = some o := by simpa using (hl 0 (by simp)).symm
    simp only [List.length_cons, Region.lexHead, Bool.and_eq_true] at hB
    have hkn : k < n := by simp only [List.length_cons] at hk; omega
    have hr : k ∈ Region.ready md ops d := by simpa using hB.1.1
    have hq : qOp P ops C k (wpQuiet P ops C Lq l) a := by unfold qOp; simp only [h0]; exact h
    obtain ⟨v, hy, hK⟩ := yieldsIn_of_qOp h0 hq
    exact headQ_first h0 (Region.noSelect_spec hsel) hs hc hn hkn (fun d' a' hL => seqB_ready hL.1) l.length d a inv (Region.free_spec h0 hB.1.2) hr hy
      (ih (k + 1) _ _ (fun j hj => by have := hl (j + 1) (by simp; omega); simpa [Nat.add_assoc, Nat.add_comm 1 j] using this) (by simp only [List.length_cons] at hk; omega) (inv.set hr hkn) hB.2 hK)
end
/-- the head in its textual order, in every world that has only grown; then the tail -/
theorem wp_region_quiet_tail {P : Program} {id : Nat} {Q : Exit → Act → World → Prop} {a : Act} {w : World} {l : List Oper} (n : Nat) (hm : P.follows .mixedOrders = true) (hB : Region.lexTailB .any l.toArray n = true)
    (h : wpQuiet P l.toArray (fun w' => ∃ p : Regrown, w' = grow (redrawn w p.d) p.os) (fun a' => ∀ w', (∃ p : Regrown, w' = grow (redrawn w p.d) p.os) → wpList P l.toArray Q (l.drop n) a' w') (l.take n) a) : (Code.region id l.toArray true).wp P Q a w := by
  simp only [Region.lexTailB, Bool.and_eq_true, decide_eq_true_eq] at hB
  obtain ⟨⟨⟨⟨hsel, hn⟩, hs⟩, hc⟩, hlex⟩ := hB
  have hn' : n < l.length := by simpa using hn
  have htl : (l.take n).length = n := by simp; omega
  have hdl : (l.drop n).length = l.toArray.size - n := by simp
  have inv0 : HeadInv .any l.toArray n (Array.replicate l.toArray.size false) :=
    ⟨by simp, fun j oj _ hl => (by rw [getD_replicate_false] at hl; cases hl), fun t _ ht => getD_in (by simpa using ht) (getD_replicate_false _ _)⟩
  have H := headQ_lex (md := .any) (C := fun w' => ∃ p : Regrown, w' = grow (redrawn w p.d) p.os) (g := l.toArray.size - n) hsel hs hc hn (l.take n) 0 _ a (fun j hj => by
    have hj' : j < n := by rw [htl] at hj; exact hj
    simp [hj']) (by simpa using htl) inv0 (by rw [htl]; exact hlex) h
  refine wp_region_any hm ?_
  have := any_of_headQ (Q' := Q) (g := l.toArray.size - n) (fun d a' w' hw' hL => by
    have := wpAny_of_seq (md := .any) (Q' := Q) (l.drop n) n d a' w' (fun j => by simp [List.getElem?_drop]) (by rw [hdl]; exact hL.1) (hL.2 w' hw')
    rwa [hdl] at this) _ _ _ { w with drawn := w.drawn + 1 } ⟨⟨w.drawn + 1, #[]⟩, by rw [grow_empty]; rfl⟩ H
  rw [htl, show n + (l.toArray.size - n) = l.toArray.size by omega] at this
  exact this
end Go.Proofs.Ythloohoefjmmoaa

namespace Go.Proofs.Ythloohoefjmmoaa
open Go.RowKit Go.Maps Go.Sort

def insK (ks : List ByteArray) (x : ByteArray) : List ByteArray := ks.take (klo ks x) ++ [x] ++ ks.drop (klo ks x)
theorem klo_parts (x : ByteArray) : ∀ ks : List ByteArray, Rising ks → (∀ y ∈ ks.take (klo ks x), y.data.toList < x.data.toList) ∧ (∀ y ∈ ks.drop (klo ks x), ¬ y.data.toList < x.data.toList)
  | [], _ => ⟨fun _ h => by simp at h, fun _ h => by simp at h⟩
  | a :: r, h => by
    have hr := (List.pairwise_cons.1 h).2
    have ha := (List.pairwise_cons.1 h).1
    obtain ⟨i1, i2⟩ := klo_parts x r hr
    unfold klo at i1 i2 ⊢
    by_cases e : a.data.toList < x.data.toList
    · rw [List.countP_cons_of_pos (by simpa using e), List.take_succ_cons, List.drop_succ_cons]
      exact ⟨fun y hy => by rcases List.mem_cons.1 hy with rfl | hy; exact e; exact i1 y hy, i2⟩
    · have hz : r.countP (fun y => decide (y.data.toList < x.data.toList)) = 0 := by
        rw [List.countP_eq_zero]
        intro y hy hd
        exact e (List.lt_trans (ha y hy) (of_decide_eq_true hd))
      rw [List.countP_cons_of_neg (by simpa using e), hz]
      refine ⟨fun y hy => by simp at hy, fun y hy => ?_⟩
      rw [List.drop_zero] at hy
      rcases List.mem_cons.1 hy with rfl | hy
      · exact e
      · exact fun hd => e (List.lt_trans (ha y hy) hd)
theorem rising_ins {ks : List ByteArray} (h : Rising ks) {x : ByteArray} (hx : x ∉ ks) : Rising (insK ks x) := by
  obtain ⟨h1, h2⟩ := klo_parts x ks h
  have hp : (ks.take (klo ks x) ++ ks.drop (klo ks x)).Pairwise (fun a b => a.data.toList < b.data.toList) := by rw [List.take_append_drop]; exact h
  rw [List.pairwise_append] at hp
  have hgt : ∀ y ∈ ks.drop (klo ks x), x.data.toList < y.data.toList := fun y hy => by
    rcases List.le_iff_lt_or_eq.1 (List.not_lt.1 (h2 y hy)) with h3 | h3
    · exact h3
    · exfalso
      have : x = y := by
        cases x with | mk a => cases y with | mk b =>
        have := Array.toList_inj.1 h3
        subst this; rfl
      subst this
      exact hx (List.mem_of_mem_drop hy)
  unfold Rising insK
  rw [List.append_assoc, List.pairwise_append, List.pairwise_append]
  refine ⟨hp.1, ⟨List.pairwise_singleton _ _, hp.2.1, fun a ha b hb => by rw [List.mem_singleton.1 ha]; exact hgt b hb⟩, fun a ha b hb => ?_⟩
  rcases List.mem_append.1 hb with hb | hb
  · rw [List.mem_singleton.1 hb]; exact h1 a ha
  · exact hp.2.2 a ha b hb
/-- a key more, in its block -/
theorem ins_flat {P S : List Seg} {s : Seg} {x : ByteArray} {j : Nat} (hkl : klo (flat (P ++ s :: S)) x = (flat P).length + j) (hj : j ≤ s.ks.length) : insK (flat (P ++ s :: S)) x = flat P ++ (s.ks.take j ++ [x] ++ s.ks.drop j) ++ flat S := by
  unfold insK
  rw [hkl, flat_app, flat_cons]
  have e1 : (flat P ++ (s.ks ++ flat S)).take ((flat P).length + j) = flat P ++ s.ks.take j := by
    rw [List.take_append, List.take_of_length_le (by omega), Nat.add_sub_cancel_left, List.take_append_of_le_length hj]
  have e2 : (flat P ++ (s.ks ++ flat S)).drop ((flat P).length + j) = s.ks.drop j ++ flat S := by
    rw [List.drop_append, List.drop_of_length_le (by omega), Nat.add_sub_cancel_left, List.drop_append_of_le_length hj, List.nil_append]
  rw [e1, e2]
  simp only [List.append_assoc]
theorem cell_lt_of {w : World} {g i : Nat} {cs : Array Value} {T : TypeId} {v : Value} (hc : w.heap[g]? = some (.cells cs T (0, 0))) (h : w.cell? ⟨g, i, none⟩ = some v) : i < cs.size := by
  rw [hp_cell hc] at h
  exact (Array.getElem?_eq_some_iff.1 h).1
/-- what insert leaves -/
def InsPost (b bm : Nat) (vb : Value) (G : List Seg) (vq : Value) (ks : List ByteArray) (x : ByteArray) (w : World) (e : Ending) (w' : World) : Prop :=
  e = .returned (.tuple #[]) ∧ ∃ vb' G', KeysAt w' b bm vb' G' vq (insK ks x) ∧ Touch (kfp b vb G) w w' ∧ ∀ k ∈ kfp b vb' G', k ∈ kfp b vb G ∨ w.heap.size ≤ k
theorem ins_fin {w W : World} {b bm : Nat} {vb vb' vq : Value} {P S M : List Seg} {s : Seg} {ks : List ByteArray} {x : ByteArray} {j : Nat} (h : KeysAt w b bm vb (P ++ s :: S) vq ks) (hx : x ∉ ks) (hkl : klo ks x = (flat P).length + j) (hj : j ≤ s.ks.length) (hM : flat M = s.ks.take j ++ [x] ++ s.ks.drop j)
    (hr : W.heap[b]? = some (.cells #[.map (some bm), vb', vq] 55 (0, 0))) (hkb : W.ownsRow 0 92 1 vb' (P ++ (M ++ S)).length ((P ++ (M ++ S)).map Seg.val)) (hA : ∀ t : Seg, t.Apart s → t.At w → t.At W)
    (hMA : ∀ t ∈ M, t.At W) (hMn : ∀ t ∈ M, 0 < t.ks.length ∧ t.ks.length ≤ 128) (hMp : M.Pairwise Seg.Apart) (hMg : ∀ t ∈ M, (t.g = s.g ∧ s.o ≤ t.o ∧ t.o + t.c ≤ s.o + s.c) ∨ w.heap.size ≤ t.g)
    (ht : Touch (kfp b vb (P ++ s :: S)) w W) (hvb : ∀ k, vb'.ownBlock = some k → vb.ownBlock = some k ∨ w.heap.size ≤ k) : InsPost b bm vb (P ++ s :: S) vq ks x w (.returned (.tuple #[])) W := by
  have hf := h.fl
  obtain ⟨a1, a2, a3⟩ := List.pairwise_append.1 h.kk.ap
  obtain ⟨a4, a5⟩ := List.pairwise_cons.1 a2
  have hPs : ∀ t ∈ P, t.Apart s := fun t hm => a3 t hm s (by simp)
  have hSs : ∀ t ∈ S, t.Apart s := fun t hm => (a4 t hm).symm
  have hmv : ∀ t : Seg, t.Apart s → t.At w → ∀ u ∈ M, t.Apart u := fun t hA hT u hu => by
    rcases hMg u hu with ⟨e1, e2, e3⟩ | e1
    · rcases hA with h | h | h
      · exact .inl fun e => h (e.trans e1)
      · exact .inr (.inl (by omega))
      · exact .inr (.inr (by omega))
    · exact .inl fun e => by have := hT.lt; omega
  refine ⟨rfl, vb', P ++ (M ++ S), ⟨hr, hkb, ⟨fun t hm => ?_, fun t hm => ?_, ?_⟩, ?_, rising_ins h.so hx⟩, ht, fun k hk => ?_⟩
  · rcases List.mem_append.1 hm with hm | hm
    · exact hA t (hPs t hm) (h.kk.at_ t (by simp [hm]))
    · rcases List.mem_append.1 hm with hm | hm
      · exact hMA t hm
      · exact hA t (hSs t hm) (h.kk.at_ t (by simp [hm]))
  · rcases List.mem_append.1 hm with hm | hm
    · exact h.kk.ne t (by simp [hm])
    · rcases List.mem_append.1 hm with hm | hm
      · exact hMn t hm
      · exact h.kk.ne t (by simp [hm])
  · refine List.pairwise_append.2 ⟨a1, List.pairwise_append.2 ⟨hMp, a5, fun u hu t hm => (hmv t (hSs t hm) (h.kk.at_ t (by simp [hm])) u hu).symm⟩, fun t hm u hu => ?_⟩
    rcases List.mem_append.1 hu with hu | hu
    · exact hmv t (hPs t hm) (h.kk.at_ t (by simp [hm])) u hu
    · exact a3 t hm u (by simp [hu])
  · rw [flat_app, flat_app, hM, ← hf, ins_flat (by rw [hf]; exact hkl) hj]
    simp only [List.append_assoc]
  · rcases mem_kfp.1 hk with rfl | hk | ⟨t, hm, rfl⟩
    · exact .inl (mem_kfp.2 (.inl rfl))
    · rcases hvb k hk with h1 | h1
      · exact .inl (mem_kfp.2 (.inr (.inl h1)))
      · exact .inr h1
    · rcases List.mem_append.1 hm with hm | hm
      · exact .inl (mem_kfp.2 (.inr (.inr ⟨t, by simp [hm], rfl⟩)))
      · rcases List.mem_append.1 hm with hm | hm
        · rcases hMg t hm with ⟨e1, _⟩ | e1
          · exact .inl (mem_kfp.2 (.inr (.inr ⟨s, by simp, e1.symm⟩)))
          · exact .inr e1
        · exact .inl (mem_kfp.2 (.inr (.inr ⟨t, by simp [hm], rfl⟩)))
theorem set_mid {P S : List Seg} {s t : Seg} : ((P ++ s :: S).map Seg.val).set P.length t.val = (P ++ ([t] ++ S)).map Seg.val := by
  rw [List.map_append, List.set_append_right _ _ (by simp), List.length_map, Nat.sub_self]
  simp
theorem ownsRow_set {w : World} {g n cap i : Nat} {xs : List Value} (h : w.ownsRow 0 92 1 (.slice (some ⟨g, 0, none⟩) n cap) n xs) (v : Value) : (w.setCell ⟨g, i, none⟩ v).ownsRow 0 92 1 (.slice (some ⟨g, 0, none⟩) n cap) n (xs.set i v) := by
  obtain ⟨cur, hg, h1, h2, h3, h4, h5⟩ := ownsRow_open h
  refine ownsRow_shut (heap_setCell_row hg v) h1 h2 (by simpa using h3) ?_ (by simpa using h5)
  rw [Array.toList_setIfInBounds, ← h4, List.take_set]
/-- the world behind place and slices.Insert: what stays -/
structure InsW (w w3 : World) (b bm ba bc : Nat) (vq : Value) (P S : List Seg) (s s' : Seg) : Prop where
  r : w3.heap[b]? = some (.cells #[.map (some bm), .slice (some ⟨ba, 0, none⟩) (P ++ s :: S).length bc, vq] 55 (0, 0))
  kb : w3.ownsRow 0 92 1 (.slice (some ⟨ba, 0, none⟩) (P ++ s :: S).length bc) (P ++ s :: S).length ((P ++ s :: S).map Seg.val)
  a : s'.At w3
  o : ∀ t : Seg, t.Apart s → t.At w → t.At w3
  g : (s'.g = s.g ∧ s'.o = s.o ∧ s'.c = s.c) ∨ w.heap.size ≤ s'.g
  t : Touch (kfp b (.slice (some ⟨ba, 0, none⟩) (P ++ s :: S).length bc) (P ++ s :: S)) w w3
theorem InsW.of {w w1 w3 : World} {b bm ba bc : Nat} {vq : Value} {P S : List Seg} {s : Seg} {ks : List ByteArray} {x : ByteArray} {j : Nat} {e : Ending} (h : KeysAt w b bm (.slice (some ⟨ba, 0, none⟩) (P ++ s :: S).length bc) (P ++ s :: S) vq ks) (hB : Below w.heap.size w w1) (hi : SegIns s x j (w1.alloc (.cells #[.string x] 9)) e w3) : ∃ s' : Seg, e = .returned s'.val ∧ s'.ks = s.ks.take j ++ [x] ++ s.ks.drop j ∧ InsW w w3 b bm ba bc vq P S s s' := by
  obtain ⟨s', he, hA, hks, hg, ht, ho⟩ := hi
  have hB2 : Below w.heap.size w (w1.alloc (.cells #[.string x] 9)) := hB.alloc hB.size _
  have hm : s ∈ P ++ s :: S := by simp
  have hst : ∀ k, k < w.heap.size → k ≠ s.g → w3.heap[k]? = w.heap[k]? := fun k hk hne => (ht.block k (Nat.lt_of_lt_of_le hk hB2.size) (by simpa using hne)).trans (hB2.block k hk)
  refine ⟨s', he, hks, (hst b (hp_lt h.r) (h.seg_b hm).symm).trans h.r, ownsRow_same h.kb fun k hk => hst k (ownsRow_blk h.kb k hk) (h.seg_ba hm hk).symm, hA, fun t hA hT => ho t hA (hT.same (hB2.block _ hT.lt)), ?_, (Touch.of_below hB2).trans (fun _ hk => .inl hk) (ht.mono fun k hk => by rw [List.mem_singleton.1 hk]; exact mem_kfp.2 (.inr (.inr ⟨s, hm, rfl⟩)))⟩
  rcases hg with hg | hg
  · exact .inl hg
  · exact .inr (Nat.le_trans hB2.size hg)
theorem InsW.at_ba {w w3 : World} {b bm ba bc : Nat} {vq : Value} {P S : List Seg} {s s' : Seg} (h : InsW w w3 b bm ba bc vq P S s s') {t : Seg} (ht : t.At w3) : t.g ≠ ba ∧ t.g ≠ b := by
  obtain ⟨cur, hc, _⟩ := ht.row
  obtain ⟨cs, hb⟩ := ownsRow_ty h.kb rfl
  refine ⟨fun e => ?_, fun e => ?_⟩
  · rw [e, hb] at hc; cases hc
  · rw [e, h.r] at hc; cases hc
theorem InsW.ba_b {w w3 : World} {b bm ba bc : Nat} {vq : Value} {P S : List Seg} {s s' : Seg} (h : InsW w w3 b bm ba bc vq P S s s') : b ≠ ba := fun e => by
  obtain ⟨cs, hb⟩ := ownsRow_ty h.kb rfl
  rw [← e, h.r] at hb
  cases hb
/-- no block was too long -/
theorem ins_done {w w3 : World} {b bm ba bc : Nat} {vq : Value} {P S : List Seg} {s s' : Seg} {ks : List ByteArray} {x : ByteArray} {j : Nat} (h : KeysAt w b bm (.slice (some ⟨ba, 0, none⟩) (P ++ s :: S).length bc) (P ++ s :: S) vq ks) (hx : x ∉ ks) (hkl : klo ks x = (flat P).length + j) (hj : j ≤ s.ks.length) (hks : s'.ks = s.ks.take j ++ [x] ++ s.ks.drop j) (hl : s.ks.length + 1 ≤ 128) (hi : InsW w w3 b bm ba bc vq P S s s') :
    InsPost b bm (.slice (some ⟨ba, 0, none⟩) (P ++ s :: S).length bc) (P ++ s :: S) vq ks x w (.returned (.tuple #[])) (w3.setCell ⟨ba, P.length, none⟩ s'.val) := by
  have hil : s'.ks.length = s.ks.length + 1 := by rw [hks]; simp; omega
  have hS : ∀ t : Seg, t.At w3 → t.At (w3.setCell ⟨ba, P.length, none⟩ s'.val) := fun t ht => ht.same (Below.heap_setCell _ _ _ _ (hi.at_ba ht).1)
  have hkb := ownsRow_set (i := P.length) hi.kb s'.val
  rw [set_mid] at hkb
  have hlen : (P ++ ([s'] ++ S)).length = (P ++ s :: S).length := by simp
  refine ins_fin (M := [s']) h hx hkl hj (by rw [flat_cons, hks]; simp [flat]) ((Below.heap_setCell _ _ _ _ hi.ba_b).trans hi.r) (by rw [hlen]; exact hkb) (fun t hA hT => hS t (hi.o t hA hT)) (fun t hm => by rw [List.mem_singleton.1 hm]; exact hS s' hi.a) (fun t hm => by rw [List.mem_singleton.1 hm]; omega) (List.pairwise_singleton _ _) (fun t hm => ?_) (hi.t.trans (fun _ hk => .inl hk) (Touch.setCell _ _ _ (mem_kfp.2 (.inr (.inl rfl))))) (fun k hk => .inl hk)
  rw [List.mem_singleton.1 hm]
  rcases hi.g with ⟨e1, e2, e3⟩ | e1
  · exact .inl ⟨e1, by omega, by omega⟩
  · exact .inr e1
/-- a block's halves -/
def Seg.lo (s : Seg) (h : Nat) : Seg := ⟨s.g, s.o, h, s.ks.take h⟩
def Seg.hi (s : Seg) (h : Nat) : Seg := ⟨s.g, s.o + h, s.ks.length - h, s.ks.drop h⟩
theorem Seg.At.lo {w : World} {s : Seg} (h : s.At w) {k : Nat} (hk : k ≤ s.ks.length) : (s.lo k).At w := by
  obtain ⟨cur, h1, h2, h3⟩ := h.row
  have := h.le
  have := h.most
  refine ⟨by simp [Seg.lo]; omega, by show k ≤ maxLen; omega, cur, h1, by show s.o + k ≤ cur.size; omega, fun j u hj => ?_⟩
  have hj' : (s.ks.take k)[j]? = some u := hj
  rw [List.getElem?_take] at hj'
  split at hj'
  · exact h3 j u hj'
  · cases hj'
theorem Seg.At.hi {w : World} {s : Seg} (h : s.At w) {k : Nat} (hk : k ≤ s.ks.length) : (s.hi k).At w := by
  obtain ⟨cur, h1, h2, h3⟩ := h.row
  have := h.le
  have := h.most
  refine ⟨by simp [Seg.hi], by show s.ks.length - k ≤ maxLen; omega, cur, h1, by show s.o + k + (s.ks.length - k) ≤ cur.size; omega, fun j u hj => ?_⟩
  have hj' : (s.ks.drop k)[j]? = some u := hj
  rw [List.getElem?_drop] at hj'
  show cur[s.o + k + j]? = _
  rw [Nat.add_assoc]
  exact h3 (k + j) u hj'
/-- a block was too long: its halves -/
theorem ins_done2 {w w3 w4 w5 : World} {b bm ba bc g cap : Nat} {vq : Value} {P S : List Seg} {s s' : Seg} {ks : List ByteArray} {x : ByteArray} {j hf : Nat} (h : KeysAt w b bm (.slice (some ⟨ba, 0, none⟩) (P ++ s :: S).length bc) (P ++ s :: S) vq ks) (hx : x ∉ ks) (hkl : klo ks x = (flat P).length + j) (hj : j ≤ s.ks.length) (hks : s'.ks = s.ks.take j ++ [x] ++ s.ks.drop j) (hl : s.ks.length = 128) (hhf : hf = 64) (hi : InsW w w3 b bm ba bc vq P S s s')
    (h4 : Touch [ba] w3 w4) (hown : w5.ownsRow 0 92 1 (.slice (some ⟨g, 0, none⟩) ((P ++ s :: S).length + 1) cap) ((P ++ s :: S).length + 1) (((P ++ ([s'.lo hf] ++ S)).map Seg.val).take (P.length + 1) ++ [(s'.hi hf).val] ++ ((P ++ ([s'.lo hf] ++ S)).map Seg.val).drop (P.length + 1))) (hg : g = ba ∨ w4.heap.size ≤ g) (ht : Touch [ba] w4 w5) :
    InsPost b bm (.slice (some ⟨ba, 0, none⟩) (P ++ s :: S).length bc) (P ++ s :: S) vq ks x w (.returned (.tuple #[])) (w5.setCell ⟨b, 1, none⟩ (.slice (some ⟨g, 0, none⟩) ((P ++ s :: S).length + 1) cap)) := by
  subst hhf
  have hil : s'.ks.length = 129 := by rw [hks]; simp; omega
  have hle := hi.a.le
  have hm : s ∈ P ++ s :: S := by simp
  have hs3 : ∀ k, k < w3.heap.size → k ≠ ba → w5.heap[k]? = w3.heap[k]? := fun k hk hne => (ht.block k (Nat.lt_of_lt_of_le hk h4.size) (by simpa using hne)).trans (h4.block k hk (by simpa using hne))
  have hsz3 : w.heap.size ≤ w3.heap.size := hi.t.size
  have hsz4 : w3.heap.size ≤ w4.heap.size := h4.size
  have hgb : g ≠ b := by
    rcases hg with rfl | hg
    · exact hi.ba_b.symm
    · have := hp_lt hi.r; omega
  have hS : ∀ t : Seg, t.At w3 → t.At (w5.setCell ⟨b, 1, none⟩ (.slice (some ⟨g, 0, none⟩) ((P ++ s :: S).length + 1) cap)) := fun t hT => (hT.same (hs3 t.g hT.lt (hi.at_ba hT).1)).same (Below.heap_setCell _ _ _ _ (hi.at_ba hT).2)
  have hlen : (P ++ ([s'.lo 64, s'.hi 64] ++ S)).length = (P ++ s :: S).length + 1 := by simp; omega
  have hmap : ((P ++ ([s'.lo 64] ++ S)).map Seg.val).take (P.length + 1) ++ [(s'.hi 64).val] ++ ((P ++ ([s'.lo 64] ++ S)).map Seg.val).drop (P.length + 1) = (P ++ ([s'.lo 64, s'.hi 64] ++ S)).map Seg.val := by
    have e1 : (P ++ ([s'.lo 64] ++ S)).map Seg.val = (P.map Seg.val ++ [(s'.lo 64).val]) ++ S.map Seg.val := by simp
    have l1 : (P.map Seg.val ++ [(s'.lo 64).val]).length = P.length + 1 := by simp
    rw [e1, List.take_left' l1, List.drop_left' l1]
    simp
  rw [hmap] at hown
  have ho1 : (s'.lo 64).o + (s'.lo 64).c ≤ (s'.hi 64).o := Nat.le_refl _
  refine ins_fin (vb' := .slice (some ⟨g, 0, none⟩) ((P ++ s :: S).length + 1) cap) (M := [s'.lo 64, s'.hi 64]) h hx hkl hj ?_ ?_ ?_ (fun t hA hT => hS t (hi.o t hA hT)) (fun t hm => ?_) (fun t hm => ?_) (List.pairwise_cons.2 ⟨fun t hm => by rw [List.mem_singleton.1 hm]; exact .inr (.inl ho1), List.pairwise_singleton _ _⟩) (fun t hm => ?_) ?_ ?_
  · rw [← hks, flat_cons, flat_cons]
    show s'.ks.take 64 ++ (s'.ks.drop 64 ++ flat []) = _
    simp [flat]
  · rw [heap_setCell_row ((hs3 b (hp_lt hi.r) hi.ba_b).trans hi.r)]
    rfl
  · rw [hlen]
    exact ownsRow_same hown fun k hk => by cases hk; exact Below.heap_setCell _ _ _ _ hgb
  · rcases List.mem_cons.1 hm with rfl | hm
    · exact hS _ (hi.a.lo (by omega))
    · rw [List.mem_singleton.1 hm]; exact hS _ (hi.a.hi (by omega))
  · rcases List.mem_cons.1 hm with rfl | hm
    · simp [Seg.lo]; omega
    · rw [List.mem_singleton.1 hm]; simp [Seg.hi]; omega
  · have hb : t.g = s'.g ∧ s'.o ≤ t.o ∧ t.o + t.c ≤ s'.o + s'.c := by
      rcases List.mem_cons.1 hm with rfl | hm
      · exact ⟨rfl, Nat.le_refl _, by show s'.o + 64 ≤ _; omega⟩
      · rw [List.mem_singleton.1 hm]; exact ⟨rfl, by show s'.o ≤ s'.o + 64; omega, by show s'.o + 64 + (s'.ks.length - 64) ≤ _; omega⟩
    rcases hi.g with ⟨e1, e2, e3⟩ | e1
    · exact .inl ⟨hb.1.trans e1, by omega, by omega⟩
    · exact .inr (by rw [hb.1]; exact e1)
  · have t1 := hi.t
    have t3 : Touch (kfp b (.slice (some ⟨ba, 0, none⟩) (P ++ s :: S).length bc) (P ++ s :: S)) w3 w4 := h4.mono fun k hk => by rw [List.mem_singleton.1 hk]; exact mem_kfp.2 (.inr (.inl rfl))
    have t4 : Touch (kfp b (.slice (some ⟨ba, 0, none⟩) (P ++ s :: S).length bc) (P ++ s :: S)) w4 w5 := ht.mono fun k hk => by rw [List.mem_singleton.1 hk]; exact mem_kfp.2 (.inr (.inl rfl))
    exact ((t1.trans (fun _ hk => .inl hk) t3).trans (fun _ hk => .inl hk) t4).trans (fun _ hk => .inl hk) (Touch.setCell _ _ _ (mem_kfp.2 (.inl rfl)))
  · intro k hk
    cases hk
    rcases hg with rfl | hg
    · exact .inl rfl
    · exact .inr (Nat.le_trans hsz3 (Nat.le_trans hsz4 hg))
/-- the world where the first half stands in its place -/
theorem ins_w8 {w w3 W8 : World} {b bm ba bc : Nat} {vq : Value} {P S : List Seg} {s s' : Seg} (hi : InsW w w3 b bm ba bc vq P S s s') (hl : s'.ks.length = 128 + 1) (v1 : Value) (hW : W8 = ((w3.setCell ⟨ba, P.length, none⟩ v1).setCell ⟨ba, P.length, none⟩ (.slice (some ⟨s'.g, s'.o, none⟩) 64 64)).drew) :
    Touch [ba] w3 W8 ∧ W8.heap[b]? = some (.cells #[.map (some bm), .slice (some ⟨ba, 0, none⟩) (P ++ s :: S).length bc, vq] 55 (0, 0)) ∧ W8.ownsRow 0 92 1 (.slice (some ⟨ba, 0, none⟩) (P ++ s :: S).length bc) (P ++ s :: S).length ((P ++ ([s'.lo 64] ++ S)).map Seg.val) := by
  have hv : (s'.lo 64).val = .slice (some ⟨s'.g, s'.o, none⟩) 64 64 := by unfold Seg.val Seg.lo; simp [hl]
  rw [← hv] at hW
  have k1 := ownsRow_set (i := P.length) hi.kb v1
  have k2 := ownsRow_set (i := P.length) k1 (s'.lo 64).val
  rw [List.set_set, set_mid] at k2
  have t1 : Touch [ba] w3 W8 := by
    rw [hW]
    exact touch_drew ((Touch.setCell (F := [ba]) w3 ⟨ba, P.length, none⟩ v1 (by simp)).trans (fun _ hk => .inl hk) (Touch.setCell _ _ _ (by simp)))
  exact ⟨t1, (t1.block b (hp_lt hi.r) (by simpa using hi.ba_b)).trans hi.r, by rw [hW]; exact k2⟩
/-- the second half goes behind it -/
theorem ins_rows {W8 : World} {ba bc N : Nat} {P S : List Seg} {s' : Seg} (hN : N ≤ 1000000) (hl : (P ++ ([s'.lo 64] ++ S)).length = N) (hk : W8.ownsRow 0 92 1 (.slice (some ⟨ba, 0, none⟩) N bc) N ((P ++ ([s'.lo 64] ++ S)).map Seg.val)) :
    Calls Try.prog 67 #[.slice (some ⟨ba, 0, none⟩) N bc, .int .i64 ((P.length + 1 : Nat) : Int), .slice (some ⟨W8.heap.size, 0, none⟩) 1 1] (W8.alloc (.cells #[(s'.hi 64).val] 92)) fun e w' =>
      ∃ g cap, e = .returned (.slice (some ⟨g, 0, none⟩) (N + 1 : Nat) cap) ∧ w'.ownsRow 0 92 1 (.slice (some ⟨g, 0, none⟩) (N + 1) cap) (N + 1) (((P ++ ([s'.lo 64] ++ S)).map Seg.val).take (P.length + 1) ++ [(s'.hi 64).val] ++ ((P ++ ([s'.lo 64] ++ S)).map Seg.val).drop (P.length + 1)) ∧ (g = ba ∨ (W8.alloc (.cells #[(s'.hi 64).val] 92)).heap.size ≤ g) ∧ Touch [ba] (W8.alloc (.cells #[(s'.hi 64).val] 92)) w' := by
  have hlv : ((P ++ ([s'.lo 64] ++ S)).map Seg.val).length = N := by rw [List.length_map, hl]
  have hba := ownsRow_blk hk ba rfl
  have := insert_rows ((P ++ ([s'.lo 64] ++ S)).map Seg.val) ba bc W8.heap.size (P.length + 1) (s'.hi 64).val (W8.alloc (.cells #[(s'.hi 64).val] 92)) (by rw [hlv, ← hl]; simp only [List.length_append, List.length_cons, List.length_nil]; omega) (by rw [hlv, ← hl]; simp only [List.length_append, List.length_cons, List.length_nil]; omega) (by rw [hlv]; exact hN) (by omega) (fun v hv => by obtain ⟨t, _, rfl⟩ := List.mem_map.1 hv; rfl) rfl
    (by rw [hlv]; exact ownsRow_same hk fun g hg => by cases hg; exact heap_alloc_old W8 _ hba) (heap_alloc_new W8 _)
  rw [hlv] at this
  exact this
theorem ins_r5 {W8 w5 : World} {b ba : Nat} {o O : Obj} (hne : b ≠ ba) (hr : W8.heap[b]? = some O) (ht : Touch [ba] (W8.alloc o) w5) : w5.heap[b]? = some O :=
  (ht.block b (show b < (W8.alloc o).heap.size by rw [World.size_alloc]; have := hp_lt hr; omega) (by simpa using hne)).trans ((heap_alloc_old W8 _ (hp_lt hr)).trans hr)
set_option maxRecDepth 100000 in
set_option maxHeartbeats 2000000 in
theorem insert_none (b bm : Nat) (vb vq : Value) (x : ByteArray) (w : World) (h : KeysAt w b bm vb [] vq []) :
    Calls Try.prog 61 #[.pointer (some ⟨b, 0, none⟩), .string x] w (InsPost b bm vb [] vq [] x w) := by
  obtain ⟨A, c, rfl⟩ : ∃ A c, vb = .slice A 0 c := by
    rcases h.kb.2 with ⟨h1, _⟩ | ⟨g, cap, cur, h1, _⟩
    · exact ⟨_, _, h1⟩
    · exact ⟨_, _, h1⟩
  have hr := h.r
  have c1 := (hp_cell (i := 1) hr).trans rfl
  have f1 := hp_free (i := 1) hr
  have HR := Lib.hid hr
  have HL := hp_lt hr
  clear h hr
  go_enter Try.func61, Try.ntmps61
  go_wp2
  refine bodyPost_ret (v := .tuple #[]) (by simp [results, Try.results61, go_sem]) rfl ⟨rfl, .slice (some ⟨w.heap.size + 1, 0, none⟩) 1 1, [⟨w.heap.size, 0, 1, [x]⟩], ?_, ?_, ?_⟩
  · have h1 := heap_alloc_new ((w.setCell ⟨b, 1, none⟩ (.slice (some ⟨w.heap.size + 1, 0, none⟩) 1 1)).alloc (.cells #[.string x] 9)) (.cells #[.slice (some ⟨w.heap.size, 0, none⟩) 1 1] 92)
    rw [World.size_alloc, World.size_setCell] at h1
    have h2 := heap_alloc_new (w.setCell ⟨b, 1, none⟩ (.slice (some ⟨w.heap.size + 1, 0, none⟩) 1 1)) (.cells #[.string x] 9)
    rw [World.size_setCell] at h2
    refine ⟨(heap_alloc_old _ _ (by simp; omega)).trans ((heap_alloc_old _ _ (by simp; omega)).trans (heap_setCell_row HR.out _)), ownsRow_shut (cur := #[.slice (some ⟨w.heap.size, 0, none⟩) 1 1]) h1 (Nat.le_refl _) (by decide) rfl rfl rfl, ⟨fun s hs => ?_, fun s hs => ?_, List.pairwise_singleton _ _⟩, rfl, List.pairwise_singleton _ _⟩
    · rw [List.mem_singleton.1 hs]
      refine ⟨Nat.le_refl _, by show 1 ≤ maxLen; decide, #[.string x], (heap_alloc_old _ _ (by simp)).trans h2, (by show 0 + 1 ≤ 1; decide), fun j u hj => ?_⟩
      obtain rfl : j = 0 := by have := (List.getElem?_eq_some_iff.1 hj).1; simpa using this
      cases hj
      rfl
    · rw [List.mem_singleton.1 hs]; exact (by decide : 0 < 1 ∧ 1 ≤ 128)
  · exact touch_alloc (touch_alloc (Touch.setCell w ⟨b, 1, none⟩ _ (mem_kfp.2 (.inl rfl))) _) _
  · intro k hk
    rcases mem_kfp.1 hk with rfl | hk | ⟨s, hs, rfl⟩
    · exact .inl (mem_kfp.2 (.inl rfl))
    · cases hk; exact .inr (by show w.heap.size ≤ w.heap.size + 1; omega)
    · rw [List.mem_singleton.1 hs]; exact .inr (Nat.le_refl _)
set_option maxRecDepth 100000 in
set_option maxHeartbeats 4000000 in
theorem insert_some (b bm : Nat) (vb vq : Value) (G : List Seg) (ks : List ByteArray) (x : ByteArray) (w : World) (h : KeysAt w b bm vb G vq ks) (hn : 0 < G.length) (hN : G.length < 1000000) (hx : x ∉ ks) :
    Calls Try.prog 61 #[.pointer (some ⟨b, 0, none⟩), .string x] w (InsPost b bm vb G vq ks x w) := by
  obtain ⟨ba, bc, rfl, hba⟩ := ownsRow_form h.kb hn
  have hfl := h.fl
  have hs : Rising (flat G) := by rw [hfl]; exact h.so
  have hne : ∀ s ∈ G, 0 < s.ks.length := fun s hm => (h.kk.ne s hm).1
  have hcell : ∀ i (hi : i < G.length), w.cell? ⟨ba, i, none⟩ = some G[i].val := fun i hi => ownsRow_cell h.kb rfl (by simp [hi])
  have HP := Lib.hid (place_some b bm ba bc G vq x w hn (by omega) hs h.kk h.r hcell)
  -- the block that takes the key, and where
  obtain ⟨P, s, S, j, rfl, hkl, hj, hpl⟩ : ∃ P s S j, G = P ++ s :: S ∧ klo ks x = (flat P).length + j ∧ j ≤ s.ks.length ∧ (plcI G x = (P.length + 1, 0) ∧ S = [] ∧ j = s.ks.length ∨ plcI G x = (P.length, j)) := by
    rcases plc_parts x G hs hne with ⟨h1, h2⟩ | ⟨P, s, S, rfl, h1, h2, h3⟩
    · obtain ⟨P, s, rfl⟩ : ∃ P s, G = P ++ [s] := ⟨G.dropLast, G.getLast (fun e => by rw [e] at hn; cases hn), (List.dropLast_concat_getLast _).symm⟩
      refine ⟨P, s, [], s.ks.length, rfl, ?_, Nat.le_refl _, .inl ⟨?_, rfl, rfl⟩⟩
      · rw [← hfl, h2, flat_app, flat_cons]; simp [flat]
      · unfold plcI; rw [if_pos h1]; simp
    · refine ⟨P, s, S, klo s.ks x, rfl, by rw [← hfl]; exact h2, by omega, .inr ?_⟩
      unfold plcI
      rw [if_neg (by rw [h1]; simp), h1]
      rw [List.getD_eq_getElem?_getD, List.getElem?_append_right (Nat.le_refl _), Nat.sub_self]
      rfl
  have HI := Lib.hid (fun W (hB : Below w.heap.size w W) => show Calls Try.prog 66 #[s.val, .int .i64 (j : Nat), .slice (some ⟨W.heap.size, 0, none⟩) 1 1] (W.alloc (.cells #[.string x] 9)) _ from
    insert_seg s W.heap.size j x (W.alloc (.cells #[.string x] 9)) hj (hne s (by simp)) (by have := (h.kk.ne s (by simp)).2; omega) (by have := (h.kk.at_ s (by simp)).lt; have := hB.size; omega) ((h.kk.at_ s (by simp)).same ((heap_alloc_old _ _ (Nat.lt_of_lt_of_le (h.kk.at_ s (by simp)).lt hB.size)).trans (hB.block _ (h.kk.at_ s (by simp)).lt))) (heap_alloc_new _ _))
  have hlen : (P ++ s :: S).length = P.length + (S.length + 1) := by simp
  have ha := hcell P.length (by omega)
  rw [List.getElem_append_right (Nat.le_refl _)] at ha
  replace ha : w.cell? ⟨ba, P.length, none⟩ = some s.val := by simpa using ha
  have HL' := Lib.hid (fun (s' : Seg) (hks : s'.ks = s.ks.take j ++ [x] ++ s.ks.drop j) => show s'.ks.length = s.ks.length + 1 by rw [hks]; simp; omega)
  have HFz := Lib.hid (fun (w3 : World) (s' : Seg) (hW : InsW w w3 b bm ba bc vq P S s s') => show w3.frozen? ⟨ba, P.length, none⟩ = false by obtain ⟨cs, hc⟩ := ownsRow_ty hW.kb rfl; exact hp_free hc)
  have HCl := Lib.hid (fun (w3 : World) (s' : Seg) (hW : InsW w w3 b bm ba bc vq P S s s') => show w3.cell? ⟨ba, P.length, none⟩ = some (.slice (some ⟨s.g, s.o, none⟩) s.ks.length s.c) from ownsRow_cell hW.kb rfl (by simp [Seg.val]))
  have HRw := Lib.hid (fun (w3 : World) (s' : Seg) (hW : InsW w w3 b bm ba bc vq P S s s') => show w3.cell? ⟨b, 1, none⟩ = some (.slice (some ⟨ba, 0, none⟩) (P ++ s :: S).length bc) from (hp_cell (i := 1) hW.r).trans rfl)
  have Hh := Lib.hid (And.intro h (And.intro hx (And.intro hkl (And.intro hj (h.kk.ne s (by simp)).2))))
  have HR := Lib.hid h.r
  have c1 := (hp_cell (i := 1) h.r).trans rfl
  have hx1 : ∀ (w3 : World) (s' : Seg), s'.ks = s.ks.take j ++ [x] ++ s.ks.drop j → s.ks.length + 1 ≤ 128 → InsW w w3 b bm ba bc vq P S s s' → InsPost b bm (.slice (some ⟨ba, 0, none⟩) (P ++ s :: S).length bc) (P ++ s :: S) vq ks x w (.returned (.tuple #[])) (w3.setCell ⟨ba, P.length, none⟩ (.slice (some ⟨s'.g, s'.o, none⟩) (s.ks.length + 1) s'.c)) := fun w3 s' h1 h2 h3 => by
    have := ins_done h hx hkl hj h1 h2 h3
    unfold Seg.val at this
    rwa [show s'.ks.length = s.ks.length + 1 by rw [h1]; simp; omega] at this
  have HX1 := Lib.hid hx1
  have HX2 := Lib.hid (fun (w3 w4 w5 : World) (s' : Seg) (g cap : Nat) (h1 : s'.ks = s.ks.take j ++ [x] ++ s.ks.drop j) (h2 : s.ks.length = 128) (h3 : InsW w w3 b bm ba bc vq P S s s') (h4 : Touch [ba] w3 w4) h5 h6 h7 => ins_done2 (w5 := w5) (g := g) (cap := cap) h hx hkl hj h1 h2 rfl h3 h4 h5 h6 h7)
  have HX3 := Lib.hid (fun (w3 W8 : World) (s' : Seg) (v1 : Value) (h3 : InsW w w3 b bm ba bc vq P S s s') hl hW => ins_w8 (W8 := W8) h3 hl v1 hW)
  have HX4 := Lib.hid (fun (W8 : World) (s' : Seg) hk => ins_rows (N := (P ++ s :: S).length) (ba := ba) (bc := bc) (W8 := W8) (P := P) (S := S) (s' := s') (by omega) (by simp) hk)
  unfold Seg.val at ha HI
  obtain ⟨i, ei⟩ : ∃ i, i = P.length := ⟨_, rfl⟩
  obtain ⟨N, eN⟩ : ∃ N, N = (P ++ s :: S).length := ⟨_, rfl⟩
  obtain ⟨n, en⟩ : ∃ n, n = s.ks.length := ⟨_, rfl⟩
  have hn128 : n ≤ 128 := by rw [en]; exact (h.kk.ne s (by simp)).2
  have hjn : j ≤ n := by rw [en]; exact hj
  have hNi : N = i + (S.length + 1) := by rw [eN, ei]; exact hlen
  have HA := Lib.hid ha
  have HE := Lib.hid (And.intro ei (And.intro eN en))
  rw [← ei] at HA HFz HCl HX1 HX2 HX3 HX4 hpl
  rw [← en] at HI HL' HCl HA HX1 HX2 hpl
  rw [← eN] at c1 HX1 HX2 HX3 HX4 HR HRw ⊢
  have i5 : (N : Int) ≤ 1000000 := by omega
  clear h hx hkl hj hcell hne hs hfl ha hlen hx1 ei eN en hn hN
  have i6 : (i : Int) ≤ 1000000 := by omega
  have i1 : (i : Int) < (N : Int) := by omega
  have i2 : ¬ i = N := by omega
  have i3 : (j : Int) ≤ (n : Int) := by omega
  by_cases hlong : n = 128
  · subst hlong
    rcases hpl with ⟨hpl, hS0, hjn2⟩ | hpl
    · rw [hpl] at HP
      subst hjn2
      have k0 : i + 1 = N := by rw [hNi, hS0]; rfl
      rw [k0] at HP
      have k1 : (N : Int) - 1 = (i : Int) := by omega
      clear hpl hS0 hNi k0 hjn
      go_enter Try.func61, Try.ntmps61
      go_upto_region 10 with (first
        | (go_at_call 66; refine (HI.out w1 HB1.out).mono ?_; rintro e w3 hsi; obtain ⟨s', he, hks, hW⟩ := InsW.of Hh.out.1 HB1.out hsi; have hl' := HL'.out s' hks; unfold Seg.val at he; rw [hl'] at he; subst he; have HW := Lib.hid (And.intro hks (And.intro hl' hW)); have e1 := HRw.out w3 s' hW; have e2 := HFz.out w3 s' hW; have e3 := HCl.out w3 s' hW; clear hsi hks hl' hW)
        | (go_at_call 43; refine HP.out.mono ?_; rintro e w1 ⟨rfl, hb⟩; have HB1 := Lib.hid hb; have r1 := (hp_cell (i := 1) ((hb.block _ (hp_lt HR.out)).trans HR.out)).trans rfl; have a1 := (hb.cell (p := ⟨ba, i, none⟩) (World.block_lt_of_cell? _ _ HA.out)).trans HA.out; clear hb))
      obtain ⟨W7, hW7⟩ : ∃ W7, W7 = w3.setCell ⟨ba, i, none⟩ (.slice (some ⟨s'.g, s'.o, none⟩) 129 s'.c) := ⟨_, rfl⟩
      rw [← hW7]
      have hba := HW.out.2.2.ba_b
      have f1 : W7.cell? ⟨b, 1, none⟩ = some (.slice (some ⟨ba, 0, none⟩) N bc) := by rw [hW7, World.cell?_of_block (Below.heap_setCell _ _ _ _ (show b ≠ ba from hba))]; exact e1
      have f2 : W7.cell? ⟨ba, i, none⟩ = some (.slice (some ⟨s'.g, s'.o, none⟩) 129 s'.c) := by
        obtain ⟨cs, hc⟩ := ownsRow_ty HW.out.2.2.kb rfl
        have hil := (cell_lt_of hc e3)
        rw [hW7, hp_cell (heap_setCell_row hc _), Array.getElem?_setIfInBounds_self_of_lt hil]
      have f3 : W7.frozen? ⟨ba, i, none⟩ = false := by
        obtain ⟨cs, hc⟩ := ownsRow_ty HW.out.2.2.kb rfl
        rw [hW7]; exact hp_free (heap_setCell_row hc _)
      have l9 : 129 ≤ s'.c := by have := HW.out.2.2.a.le; rw [HW.out.2.1] at this; exact this
      have l9' : (129 : Int) ≤ (s'.c : Int) := by omega
      have HW7 := Lib.hid hW7
      clear hW7 e1 e2 e3 r1 a1 c1
      go_region
      obtain ⟨W8, hW8⟩ : ∃ W8, W8 = (W7.setCell ⟨ba, i, none⟩ (.slice (some ⟨s'.g, s'.o, none⟩) 64 64)).drew := ⟨_, rfl⟩
      rw [← hW8]
      obtain ⟨T8, R8, K8⟩ := HX3.out w3 W8 s' (.slice (some ⟨s'.g, s'.o, none⟩) 129 s'.c) HW.out.2.2 HW.out.2.1 (by rw [hW8, HW7.out])
      have g1 := (hp_cell (i := 1) R8).trans rfl
      have F1 := fun (dq : Nat) (osq : Array Obj) => cell_regrown (w := W8) (a := ⟨b, 1, none⟩) g1 dq osq
      have iw : IntKind.i64.wrap ((i : Int) + 1) = (i : Int) + 1 := IntWalk.i64_in _ (by omega)
      clear f1 f2 f3 hW8
      go_upto_region 11 with fail
      refine wp_region_held_drew (S := fun _ => True) (by kernel_rfl) trivial (fun hHeld => ?_)
      obtain ⟨W9, hW9⟩ : ∃ W9, W9 = W8.drew := ⟨_, rfl⟩
      rw [← hW9]
      have hb9 : Below W8.heap.size W8 W9 := by rw [hW9]; exact (Below.refl _ _).drew
      have K9 := ownsRow_same K8 fun g hg => hb9.block g (ownsRow_blk K8 g hg)
      have R9 := (hb9.block b (hp_lt R8)).trans R8
      have T9 : Touch [ba] w3 W9 := T8.trans (fun _ hk => .inl hk) (Touch.of_below hb9)
      have hq := HX4.out W9 s' K9
      have hx2 := fun w5 g cap => HX2.out w3 (W9.alloc (.cells #[(s'.hi 64).val] 92)) w5 s' g cap HW.out.1 trivial HW.out.2.2 (touch_alloc T9 _)
      have hv : (s'.hi 64).val = .slice (some ⟨s'.g, s'.o + 64, none⟩) 65 65 := by
        have hl := HW.out.2.1
        unfold Seg.val Seg.hi
        simp [hl]
      simp only [hv] at hq hx2
      rw [show ((i + 1 : Nat) : Int) = (i : Int) + 1 by omega] at hq
      have HQ := Lib.hid hq
      have HXx := Lib.hid hx2
      have g9 := (hp_cell (i := 1) R9).trans rfl
      have sz9 := hb9.size
      have HR9 := Lib.hid R9
      have l91 := hp_lt R9
      clear R9 hb9 hW9
      have HBa := Lib.hid hba
      clear hq hx2 R8 K8 T8 K9 T9 hv HX1 HX2 HX3 HX4 HW7 HW HB1 HP HI hba F1 g1
      refine wpAnyH_take (i := 0) (v := ?_) rfl (by kernel_rfl) (by kernel_rfl) (by kernel_rfl) (fun _ _ _ h => h) (Or.inl ⟨by kernel_rfl, ?_⟩) (by with_reducible assumption) ?_
      rotate_left
      · intro wz hSw
        (try dsimp only at hSw)
        go_simp
        (try with_reducible rfl)
      show wpAnyH _ _ _ _ _ _ _ (Act.put _ (some 77) _) _
      (try simp only [Act.put, List.setIfInBounds_toArray, List.set_cons_zero, List.set_cons_succ])
      refine wpAnyH_take (i := 1) (v := ?_) rfl (by kernel_rfl) (by kernel_rfl) (by kernel_rfl) (fun _ _ _ h => h) (Or.inl ⟨by kernel_rfl, ?_⟩) (by with_reducible assumption) ?_
      rotate_left
      · intro wz hSw
        (try dsimp only at hSw)
        go_simp
        (try with_reducible rfl)
      show wpAnyH _ _ _ _ _ _ _ (Act.put _ (some 78) _) _
      (try simp only [Act.put, List.setIfInBounds_toArray, List.set_cons_zero, List.set_cons_succ])
      refine wpAnyH_take (i := 2) (v := ?_) rfl (by kernel_rfl) (by kernel_rfl) (by kernel_rfl) (fun _ _ _ h => h) (Or.inl ⟨by kernel_rfl, ?_⟩) (by with_reducible assumption) ?_
      rotate_left
      · intro wz hSw
        (try dsimp only at hSw)
        go_simp
        (try with_reducible rfl)
      show wpAnyH _ _ _ _ _ _ _ (Act.put _ (some 79) _) _
      (try simp only [Act.put, List.setIfInBounds_toArray, List.set_cons_zero, List.set_cons_succ])
      refine wpAnyH_take (i := 3) (v := ?_) rfl (by kernel_rfl) (by kernel_rfl) (by kernel_rfl) (fun _ _ _ h => h) (Or.inl ⟨by kernel_rfl, ?_⟩) (by with_reducible assumption) ?_
      rotate_left
      · intro wz hSw
        (try dsimp only at hSw)
        go_simp
        (try with_reducible rfl)
      show wpAnyH _ _ _ _ _ _ _ (Act.put _ (some 80) _) _
      (try simp only [Act.put, List.setIfInBounds_toArray, List.set_cons_zero, List.set_cons_succ])
      refine wpAnyH_take (i := 5) (v := ?_) rfl (by kernel_rfl) (by kernel_rfl) (by kernel_rfl) (fun _ _ _ h => h) (Or.inl ⟨by kernel_rfl, ?_⟩) (by with_reducible assumption) ?_
      rotate_left
      · intro wz hSw
        (try dsimp only at hSw)
        go_simp
        (try with_reducible rfl)
      show wpAnyH _ _ _ _ _ _ _ (Act.put _ (some 82) _) _
      (try simp only [Act.put, List.setIfInBounds_toArray, List.set_cons_zero, List.set_cons_succ])
      refine wpAnyH_take (i := 6) (v := .int .i64 ((i : Int) + 1)) rfl (by kernel_rfl) (by kernel_rfl) (by kernel_rfl) (fun _ _ _ h => h) (Or.inl ⟨by kernel_rfl, ?_⟩) (by with_reducible assumption) ?_
      · intro wz hSw
        (try dsimp only at hSw)
        go_simp
      show wpAnyH _ _ _ _ _ _ _ (Act.put _ (some 83) _) _
      (try simp only [Act.put, List.setIfInBounds_toArray, List.set_cons_zero, List.set_cons_succ])
      refine wpAnyH_take (i := 7) (v := ?_) rfl (by kernel_rfl) (by kernel_rfl) (by kernel_rfl) (fun _ _ _ h => h) (Or.inl ⟨by kernel_rfl, ?_⟩) (by with_reducible assumption) ?_
      rotate_left
      · intro wz hSw
        (try dsimp only at hSw)
        go_simp
        (try with_reducible rfl)
      show wpAnyH _ _ _ _ _ _ _ (Act.put _ (some 84) _) _
      (try simp only [Act.put, List.setIfInBounds_toArray, List.set_cons_zero, List.set_cons_succ])
      refine wpAnyH_take (i := 8) (v := ?_) rfl (by kernel_rfl) (by kernel_rfl) (by kernel_rfl) (fun _ _ _ h => h) (Or.inl ⟨by kernel_rfl, ?_⟩) (by with_reducible assumption) ?_
      rotate_left
      · intro wz hSw
        (try dsimp only at hSw)
        go_simp
        (try with_reducible rfl)
      show wpAnyH _ _ _ _ _ _ _ (Act.put _ (some 85) _) _
      (try simp only [Act.put, List.setIfInBounds_toArray, List.set_cons_zero, List.set_cons_succ])
      refine wpAnyH_take (i := 9) (v := ?_) rfl (by kernel_rfl) (by kernel_rfl) (by kernel_rfl) (fun _ _ _ h => h) (Or.inl ⟨by kernel_rfl, ?_⟩) (by with_reducible assumption) ?_
      rotate_left
      · intro wz hSw
        (try dsimp only at hSw)
        go_simp
        (try with_reducible rfl)
      show wpAnyH _ _ _ _ _ _ _ (Act.put _ (some 86) _) _
      (try simp only [Act.put, List.setIfInBounds_toArray, List.set_cons_zero, List.set_cons_succ])
      refine wpAnyH_take (i := 10) (v := .int .i64 129) rfl (by kernel_rfl) (by kernel_rfl) (by kernel_rfl) (fun _ _ _ h => h) (Or.inl ⟨by kernel_rfl, ?_⟩) (by with_reducible assumption) ?_
      · intro wz hSw
        (try dsimp only at hSw)
        go_simp
      show wpAnyH _ _ _ _ _ _ _ (Act.put _ (some 87) _) _
      (try simp only [Act.put, List.setIfInBounds_toArray, List.set_cons_zero, List.set_cons_succ])
      refine wpAnyH_take (i := 11) (v := ?_) rfl (by kernel_rfl) (by kernel_rfl) (by kernel_rfl) (fun _ _ _ h => h) (Or.inl ⟨by kernel_rfl, ?_⟩) (by with_reducible assumption) ?_
      rotate_left
      · intro wz hSw
        (try dsimp only at hSw)
        go_simp
        (try with_reducible rfl)
      show wpAnyH _ _ _ _ _ _ _ (Act.put _ (some 88) _) _
      (try simp only [Act.put, List.setIfInBounds_toArray, List.set_cons_zero, List.set_cons_succ])
      refine wpAnyH_take (i := 12) (v := .int .i64 129) rfl (by kernel_rfl) (by kernel_rfl) (by kernel_rfl) (fun _ _ _ h => h) (Or.inl ⟨by kernel_rfl, ?_⟩) (by with_reducible assumption) ?_
      · intro wz hSw
        (try dsimp only at hSw)
        go_simp
      show wpAnyH _ _ _ _ _ _ _ (Act.put _ (some 89) _) _
      (try simp only [Act.put, List.setIfInBounds_toArray, List.set_cons_zero, List.set_cons_succ])
      refine wpAnyH_take (i := 13) (v := .slice (some ⟨s'.g, s'.o + 64, none⟩) 65 65) rfl (by kernel_rfl) (by kernel_rfl) (by kernel_rfl) (fun _ _ _ h => h) (Or.inl ⟨by kernel_rfl, ?_⟩) (by with_reducible assumption) ?_
      · intro wz hSw
        (try dsimp only at hSw)
        go_simp
      show wpAnyH _ _ _ _ _ _ _ (Act.put _ (some 90) _) _
      (try simp only [Act.put, List.setIfInBounds_toArray, List.set_cons_zero, List.set_cons_succ])
      refine wpAnyH_ready (rs := [4, 14]) (by kernel_rfl) (by simp) ?_
      refine AllReadyH.cons rfl (fun K hK => ?_) (AllReadyH.cons rfl (fun K hK => ?_) AllReadyH.nil)
      · clear hHeld
        go_simp
        refine hK.out _ _ ?_ (fun hHeld => ?_)
        · exact trivial
        clear hK K
        (try simp only [Act.put, List.setIfInBounds_toArray, List.set_cons_zero, List.set_cons_succ])
        refine wpAnyH_ready (rs := [14]) (by kernel_rfl) (by simp) ?_
        refine AllReadyH.cons rfl (fun K hK => ?_) AllReadyH.nil
        clear hHeld
        go_simp
        refine hK.out _ _ ?_ (fun hHeld => ?_)
        · exact trivial
        clear hK K
        (try simp only [Act.put, List.setIfInBounds_toArray, List.set_cons_zero, List.set_cons_succ])
        refine wpAnyH_ready (rs := [15]) (by kernel_rfl) (by simp) ?_
        refine AllReadyH.cons rfl (fun K hK => ?_) AllReadyH.nil
        clear hHeld
        go_simp
        go_at_call 67
        with_reducible refine HQ.out.mono ?_
        rintro e w5 ⟨g, cap, rfl, hown, hg, ht⟩
        have r5 := ins_r5 HBa.out HR9.out ht
        have z1 := (hp_cell (i := 1) r5).trans rfl
        have z2 := hp_free (i := 1) r5
        have HFin := Lib.hid (HXx.out w5 g cap hown hg ht)
        clear hown hg ht r5
        go_wp2_with fail
        refine hK.out _ _ ?_ (fun hHeld => ?_)
        · exact trivial
        clear hK K
        (try simp only [Act.put, List.setIfInBounds_toArray, List.set_cons_zero, List.set_cons_succ])
        refine wpAnyH_take (i := 16) (v := ?_) rfl (by kernel_rfl) (by kernel_rfl) (by kernel_rfl) (fun _ _ _ h => h) (Or.inl ⟨by kernel_rfl, ?_⟩) (by with_reducible assumption) ?_
        rotate_left
        · intro wz hSw
          (try dsimp only at hSw)
          go_simp
          (try with_reducible rfl)
        show wpAnyH _ _ _ _ _ _ _ (Act.put _ (some 93) _) _
        (try simp only [Act.put, List.setIfInBounds_toArray, List.set_cons_zero, List.set_cons_succ])
        refine wpAnyH_take (i := 17) (v := ?_) rfl (by kernel_rfl) (by kernel_rfl) (by kernel_rfl) (fun _ _ _ h => h) (Or.inl ⟨by kernel_rfl, ?_⟩) (by with_reducible assumption) ?_
        rotate_left
        · intro wz hSw
          (try dsimp only at hSw)
          go_simp
          (try with_reducible rfl)
        show wpAnyH _ _ _ _ _ _ _ (Act.put _ (some 94) _) _
        (try simp only [Act.put, List.setIfInBounds_toArray, List.set_cons_zero, List.set_cons_succ])
        refine wpAnyH_ready (rs := [18]) (by kernel_rfl) (by simp) ?_
        refine AllReadyH.cons rfl (fun K hK => ?_) AllReadyH.nil
        clear hHeld
        go_simp
        refine hK.out _ _ ?_ (fun hHeld => ?_)
        · exact trivial
        clear hK K
        (try simp only [Act.put, List.setIfInBounds_toArray, List.set_cons_zero, List.set_cons_succ])
        refine wpAnyH_done (by kernel_rfl) ?_ _
        go_wp2_with fail
        go_end0
        exact HFin.out
      · clear hHeld
        go_simp
        refine hK.out _ _ ?_ (fun hHeld => ?_)
        · exact trivial
        clear hK K
        (try simp only [Act.put, List.setIfInBounds_toArray, List.set_cons_zero, List.set_cons_succ])
        refine wpAnyH_ready (rs := [4]) (by kernel_rfl) (by simp) ?_
        refine AllReadyH.cons rfl (fun K hK => ?_) AllReadyH.nil
        clear hHeld
        go_simp
        refine hK.out _ _ ?_ (fun hHeld => ?_)
        · exact trivial
        clear hK K
        (try simp only [Act.put, List.setIfInBounds_toArray, List.set_cons_zero, List.set_cons_succ])
        refine wpAnyH_ready (rs := [15]) (by kernel_rfl) (by simp) ?_
        refine AllReadyH.cons rfl (fun K hK => ?_) AllReadyH.nil
        clear hHeld
        go_simp
        go_at_call 67
        with_reducible refine HQ.out.mono ?_
        rintro e w5 ⟨g, cap, rfl, hown, hg, ht⟩
        have r5 := ins_r5 HBa.out HR9.out ht
        have z1 := (hp_cell (i := 1) r5).trans rfl
        have z2 := hp_free (i := 1) r5
        have HFin := Lib.hid (HXx.out w5 g cap hown hg ht)
        clear hown hg ht r5
        go_wp2_with fail
        refine hK.out _ _ ?_ (fun hHeld => ?_)
        · exact trivial
        clear hK K
        (try simp only [Act.put, List.setIfInBounds_toArray, List.set_cons_zero, List.set_cons_succ])
        refine wpAnyH_take (i := 16) (v := ?_) rfl (by kernel_rfl) (by kernel_rfl) (by kernel_rfl) (fun _ _ _ h => h) (Or.inl ⟨by kernel_rfl, ?_⟩) (by with_reducible assumption) ?_
        rotate_left
        · intro wz hSw
          (try dsimp only at hSw)
          go_simp
          (try with_reducible rfl)
        show wpAnyH _ _ _ _ _ _ _ (Act.put _ (some 93) _) _
        (try simp only [Act.put, List.setIfInBounds_toArray, List.set_cons_zero, List.set_cons_succ])
        refine wpAnyH_take (i := 17) (v := ?_) rfl (by kernel_rfl) (by kernel_rfl) (by kernel_rfl) (fun _ _ _ h => h) (Or.inl ⟨by kernel_rfl, ?_⟩) (by with_reducible assumption) ?_
        rotate_left
        · intro wz hSw
          (try dsimp only at hSw)
          go_simp
          (try with_reducible rfl)
        show wpAnyH _ _ _ _ _ _ _ (Act.put _ (some 94) _) _
        (try simp only [Act.put, List.setIfInBounds_toArray, List.set_cons_zero, List.set_cons_succ])
        refine wpAnyH_ready (rs := [18]) (by kernel_rfl) (by simp) ?_
        refine AllReadyH.cons rfl (fun K hK => ?_) AllReadyH.nil
        clear hHeld
        go_simp
        refine hK.out _ _ ?_ (fun hHeld => ?_)
        · exact trivial
        clear hK K
        (try simp only [Act.put, List.setIfInBounds_toArray, List.set_cons_zero, List.set_cons_succ])
        refine wpAnyH_done (by kernel_rfl) ?_ _
        go_wp2_with fail
        go_end0
        exact HFin.out
    · rw [hpl] at HP
      clear hpl hNi
      go_enter Try.func61, Try.ntmps61
      go_upto_region 10 with (first
        | (go_at_call 66; refine (HI.out w1 HB1.out).mono ?_; rintro e w3 hsi; obtain ⟨s', he, hks, hW⟩ := InsW.of Hh.out.1 HB1.out hsi; have hl' := HL'.out s' hks; unfold Seg.val at he; rw [hl'] at he; subst he; have HW := Lib.hid (And.intro hks (And.intro hl' hW)); have e1 := HRw.out w3 s' hW; have e2 := HFz.out w3 s' hW; have e3 := HCl.out w3 s' hW; clear hsi hks hl' hW)
        | (go_at_call 43; refine HP.out.mono ?_; rintro e w1 ⟨rfl, hb⟩; have HB1 := Lib.hid hb; have r1 := (hp_cell (i := 1) ((hb.block _ (hp_lt HR.out)).trans HR.out)).trans rfl; have a1 := (hb.cell (p := ⟨ba, i, none⟩) (World.block_lt_of_cell? _ _ HA.out)).trans HA.out; clear hb))
      obtain ⟨W7, hW7⟩ : ∃ W7, W7 = w3.setCell ⟨ba, i, none⟩ (.slice (some ⟨s'.g, s'.o, none⟩) 129 s'.c) := ⟨_, rfl⟩
      rw [← hW7]
      have hba := HW.out.2.2.ba_b
      have f1 : W7.cell? ⟨b, 1, none⟩ = some (.slice (some ⟨ba, 0, none⟩) N bc) := by rw [hW7, World.cell?_of_block (Below.heap_setCell _ _ _ _ (show b ≠ ba from hba))]; exact e1
      have f2 : W7.cell? ⟨ba, i, none⟩ = some (.slice (some ⟨s'.g, s'.o, none⟩) 129 s'.c) := by
        obtain ⟨cs, hc⟩ := ownsRow_ty HW.out.2.2.kb rfl
        have hil := (cell_lt_of hc e3)
        rw [hW7, hp_cell (heap_setCell_row hc _), Array.getElem?_setIfInBounds_self_of_lt hil]
      have f3 : W7.frozen? ⟨ba, i, none⟩ = false := by
        obtain ⟨cs, hc⟩ := ownsRow_ty HW.out.2.2.kb rfl
        rw [hW7]; exact hp_free (heap_setCell_row hc _)
      have l9 : 129 ≤ s'.c := by have := HW.out.2.2.a.le; rw [HW.out.2.1] at this; exact this
      have l9' : (129 : Int) ≤ (s'.c : Int) := by omega
      have HW7 := Lib.hid hW7
      clear hW7 e1 e2 e3 r1 a1 c1
      go_region
      obtain ⟨W8, hW8⟩ : ∃ W8, W8 = (W7.setCell ⟨ba, i, none⟩ (.slice (some ⟨s'.g, s'.o, none⟩) 64 64)).drew := ⟨_, rfl⟩
      rw [← hW8]
      obtain ⟨T8, R8, K8⟩ := HX3.out w3 W8 s' (.slice (some ⟨s'.g, s'.o, none⟩) 129 s'.c) HW.out.2.2 HW.out.2.1 (by rw [hW8, HW7.out])
      have g1 := (hp_cell (i := 1) R8).trans rfl
      have F1 := fun (dq : Nat) (osq : Array Obj) => cell_regrown (w := W8) (a := ⟨b, 1, none⟩) g1 dq osq
      have iw : IntKind.i64.wrap ((i : Int) + 1) = (i : Int) + 1 := IntWalk.i64_in _ (by omega)
      clear f1 f2 f3 hW8
      go_upto_region 11 with fail
      refine wp_region_held_drew (S := fun _ => True) (by kernel_rfl) trivial (fun hHeld => ?_)
      obtain ⟨W9, hW9⟩ : ∃ W9, W9 = W8.drew := ⟨_, rfl⟩
      rw [← hW9]
      have hb9 : Below W8.heap.size W8 W9 := by rw [hW9]; exact (Below.refl _ _).drew
      have K9 := ownsRow_same K8 fun g hg => hb9.block g (ownsRow_blk K8 g hg)
      have R9 := (hb9.block b (hp_lt R8)).trans R8
      have T9 : Touch [ba] w3 W9 := T8.trans (fun _ hk => .inl hk) (Touch.of_below hb9)
      have hq := HX4.out W9 s' K9
      have hx2 := fun w5 g cap => HX2.out w3 (W9.alloc (.cells #[(s'.hi 64).val] 92)) w5 s' g cap HW.out.1 trivial HW.out.2.2 (touch_alloc T9 _)
      have hv : (s'.hi 64).val = .slice (some ⟨s'.g, s'.o + 64, none⟩) 65 65 := by
        have hl := HW.out.2.1
        unfold Seg.val Seg.hi
        simp [hl]
      simp only [hv] at hq hx2
      rw [show ((i + 1 : Nat) : Int) = (i : Int) + 1 by omega] at hq
      have HQ := Lib.hid hq
      have HXx := Lib.hid hx2
      have g9 := (hp_cell (i := 1) R9).trans rfl
      have sz9 := hb9.size
      have HR9 := Lib.hid R9
      have l91 := hp_lt R9
      clear R9 hb9 hW9
      have HBa := Lib.hid hba
      clear hq hx2 R8 K8 T8 K9 T9 hv HX1 HX2 HX3 HX4 HW7 HW HB1 HP HI hba F1 g1
      refine wpAnyH_take (i := 0) (v := ?_) rfl (by kernel_rfl) (by kernel_rfl) (by kernel_rfl) (fun _ _ _ h => h) (Or.inl ⟨by kernel_rfl, ?_⟩) (by with_reducible assumption) ?_
      rotate_left
      · intro wz hSw
        (try dsimp only at hSw)
        go_simp
        (try with_reducible rfl)
      show wpAnyH _ _ _ _ _ _ _ (Act.put _ (some 77) _) _
      (try simp only [Act.put, List.setIfInBounds_toArray, List.set_cons_zero, List.set_cons_succ])
      refine wpAnyH_take (i := 1) (v := ?_) rfl (by kernel_rfl) (by kernel_rfl) (by kernel_rfl) (fun _ _ _ h => h) (Or.inl ⟨by kernel_rfl, ?_⟩) (by with_reducible assumption) ?_
      rotate_left
      · intro wz hSw
        (try dsimp only at hSw)
        go_simp
        (try with_reducible rfl)
      show wpAnyH _ _ _ _ _ _ _ (Act.put _ (some 78) _) _
      (try simp only [Act.put, List.setIfInBounds_toArray, List.set_cons_zero, List.set_cons_succ])
      refine wpAnyH_take (i := 2) (v := ?_) rfl (by kernel_rfl) (by kernel_rfl) (by kernel_rfl) (fun _ _ _ h => h) (Or.inl ⟨by kernel_rfl, ?_⟩) (by with_reducible assumption) ?_
      rotate_left
      · intro wz hSw
        (try dsimp only at hSw)
        go_simp
        (try with_reducible rfl)
      show wpAnyH _ _ _ _ _ _ _ (Act.put _ (some 79) _) _
      (try simp only [Act.put, List.setIfInBounds_toArray, List.set_cons_zero, List.set_cons_succ])
      refine wpAnyH_take (i := 3) (v := ?_) rfl (by kernel_rfl) (by kernel_rfl) (by kernel_rfl) (fun _ _ _ h => h) (Or.inl ⟨by kernel_rfl, ?_⟩) (by with_reducible assumption) ?_
      rotate_left
      · intro wz hSw
        (try dsimp only at hSw)
        go_simp
        (try with_reducible rfl)
      show wpAnyH _ _ _ _ _ _ _ (Act.put _ (some 80) _) _
      (try simp only [Act.put, List.setIfInBounds_toArray, List.set_cons_zero, List.set_cons_succ])
      refine wpAnyH_take (i := 5) (v := ?_) rfl (by kernel_rfl) (by kernel_rfl) (by kernel_rfl) (fun _ _ _ h => h) (Or.inl ⟨by kernel_rfl, ?_⟩) (by with_reducible assumption) ?_
      rotate_left
      · intro wz hSw
        (try dsimp only at hSw)
        go_simp
        (try with_reducible rfl)
      show wpAnyH _ _ _ _ _ _ _ (Act.put _ (some 82) _) _
      (try simp only [Act.put, List.setIfInBounds_toArray, List.set_cons_zero, List.set_cons_succ])
      refine wpAnyH_take (i := 6) (v := .int .i64 ((i : Int) + 1)) rfl (by kernel_rfl) (by kernel_rfl) (by kernel_rfl) (fun _ _ _ h => h) (Or.inl ⟨by kernel_rfl, ?_⟩) (by with_reducible assumption) ?_
      · intro wz hSw
        (try dsimp only at hSw)
        go_simp
      show wpAnyH _ _ _ _ _ _ _ (Act.put _ (some 83) _) _
      (try simp only [Act.put, List.setIfInBounds_toArray, List.set_cons_zero, List.set_cons_succ])
      refine wpAnyH_take (i := 7) (v := ?_) rfl (by kernel_rfl) (by kernel_rfl) (by kernel_rfl) (fun _ _ _ h => h) (Or.inl ⟨by kernel_rfl, ?_⟩) (by with_reducible assumption) ?_
      rotate_left
      · intro wz hSw
        (try dsimp only at hSw)
        go_simp
        (try with_reducible rfl)
      show wpAnyH _ _ _ _ _ _ _ (Act.put _ (some 84) _) _
      (try simp only [Act.put, List.setIfInBounds_toArray, List.set_cons_zero, List.set_cons_succ])
      refine wpAnyH_take (i := 8) (v := ?_) rfl (by kernel_rfl) (by kernel_rfl) (by kernel_rfl) (fun _ _ _ h => h) (Or.inl ⟨by kernel_rfl, ?_⟩) (by with_reducible assumption) ?_
      rotate_left
      · intro wz hSw
        (try dsimp only at hSw)
        go_simp
        (try with_reducible rfl)
      show wpAnyH _ _ _ _ _ _ _ (Act.put _ (some 85) _) _
      (try simp only [Act.put, List.setIfInBounds_toArray, List.set_cons_zero, List.set_cons_succ])
      refine wpAnyH_take (i := 9) (v := ?_) rfl (by kernel_rfl) (by kernel_rfl) (by kernel_rfl) (fun _ _ _ h => h) (Or.inl ⟨by kernel_rfl, ?_⟩) (by with_reducible assumption) ?_
      rotate_left
      · intro wz hSw
        (try dsimp only at hSw)
        go_simp
        (try with_reducible rfl)
      show wpAnyH _ _ _ _ _ _ _ (Act.put _ (some 86) _) _
      (try simp only [Act.put, List.setIfInBounds_toArray, List.set_cons_zero, List.set_cons_succ])
      refine wpAnyH_take (i := 10) (v := .int .i64 129) rfl (by kernel_rfl) (by kernel_rfl) (by kernel_rfl) (fun _ _ _ h => h) (Or.inl ⟨by kernel_rfl, ?_⟩) (by with_reducible assumption) ?_
      · intro wz hSw
        (try dsimp only at hSw)
        go_simp
      show wpAnyH _ _ _ _ _ _ _ (Act.put _ (some 87) _) _
      (try simp only [Act.put, List.setIfInBounds_toArray, List.set_cons_zero, List.set_cons_succ])
      refine wpAnyH_take (i := 11) (v := ?_) rfl (by kernel_rfl) (by kernel_rfl) (by kernel_rfl) (fun _ _ _ h => h) (Or.inl ⟨by kernel_rfl, ?_⟩) (by with_reducible assumption) ?_
      rotate_left
      · intro wz hSw
        (try dsimp only at hSw)
        go_simp
        (try with_reducible rfl)
      show wpAnyH _ _ _ _ _ _ _ (Act.put _ (some 88) _) _
      (try simp only [Act.put, List.setIfInBounds_toArray, List.set_cons_zero, List.set_cons_succ])
      refine wpAnyH_take (i := 12) (v := .int .i64 129) rfl (by kernel_rfl) (by kernel_rfl) (by kernel_rfl) (fun _ _ _ h => h) (Or.inl ⟨by kernel_rfl, ?_⟩) (by with_reducible assumption) ?_
      · intro wz hSw
        (try dsimp only at hSw)
        go_simp
      show wpAnyH _ _ _ _ _ _ _ (Act.put _ (some 89) _) _
      (try simp only [Act.put, List.setIfInBounds_toArray, List.set_cons_zero, List.set_cons_succ])
      refine wpAnyH_take (i := 13) (v := .slice (some ⟨s'.g, s'.o + 64, none⟩) 65 65) rfl (by kernel_rfl) (by kernel_rfl) (by kernel_rfl) (fun _ _ _ h => h) (Or.inl ⟨by kernel_rfl, ?_⟩) (by with_reducible assumption) ?_
      · intro wz hSw
        (try dsimp only at hSw)
        go_simp
      show wpAnyH _ _ _ _ _ _ _ (Act.put _ (some 90) _) _
      (try simp only [Act.put, List.setIfInBounds_toArray, List.set_cons_zero, List.set_cons_succ])
      refine wpAnyH_ready (rs := [4, 14]) (by kernel_rfl) (by simp) ?_
      refine AllReadyH.cons rfl (fun K hK => ?_) (AllReadyH.cons rfl (fun K hK => ?_) AllReadyH.nil)
      · clear hHeld
        go_simp
        refine hK.out _ _ ?_ (fun hHeld => ?_)
        · exact trivial
        clear hK K
        (try simp only [Act.put, List.setIfInBounds_toArray, List.set_cons_zero, List.set_cons_succ])
        refine wpAnyH_ready (rs := [14]) (by kernel_rfl) (by simp) ?_
        refine AllReadyH.cons rfl (fun K hK => ?_) AllReadyH.nil
        clear hHeld
        go_simp
        refine hK.out _ _ ?_ (fun hHeld => ?_)
        · exact trivial
        clear hK K
        (try simp only [Act.put, List.setIfInBounds_toArray, List.set_cons_zero, List.set_cons_succ])
        refine wpAnyH_ready (rs := [15]) (by kernel_rfl) (by simp) ?_
        refine AllReadyH.cons rfl (fun K hK => ?_) AllReadyH.nil
        clear hHeld
        go_simp
        go_at_call 67
        with_reducible refine HQ.out.mono ?_
        rintro e w5 ⟨g, cap, rfl, hown, hg, ht⟩
        have r5 := ins_r5 HBa.out HR9.out ht
        have z1 := (hp_cell (i := 1) r5).trans rfl
        have z2 := hp_free (i := 1) r5
        have HFin := Lib.hid (HXx.out w5 g cap hown hg ht)
        clear hown hg ht r5
        go_wp2_with fail
        refine hK.out _ _ ?_ (fun hHeld => ?_)
        · exact trivial
        clear hK K
        (try simp only [Act.put, List.setIfInBounds_toArray, List.set_cons_zero, List.set_cons_succ])
        refine wpAnyH_take (i := 16) (v := ?_) rfl (by kernel_rfl) (by kernel_rfl) (by kernel_rfl) (fun _ _ _ h => h) (Or.inl ⟨by kernel_rfl, ?_⟩) (by with_reducible assumption) ?_
        rotate_left
        · intro wz hSw
          (try dsimp only at hSw)
          go_simp
          (try with_reducible rfl)
        show wpAnyH _ _ _ _ _ _ _ (Act.put _ (some 93) _) _
        (try simp only [Act.put, List.setIfInBounds_toArray, List.set_cons_zero, List.set_cons_succ])
        refine wpAnyH_take (i := 17) (v := ?_) rfl (by kernel_rfl) (by kernel_rfl) (by kernel_rfl) (fun _ _ _ h => h) (Or.inl ⟨by kernel_rfl, ?_⟩) (by with_reducible assumption) ?_
        rotate_left
        · intro wz hSw
          (try dsimp only at hSw)
          go_simp
          (try with_reducible rfl)
        show wpAnyH _ _ _ _ _ _ _ (Act.put _ (some 94) _) _
        (try simp only [Act.put, List.setIfInBounds_toArray, List.set_cons_zero, List.set_cons_succ])
        refine wpAnyH_ready (rs := [18]) (by kernel_rfl) (by simp) ?_
        refine AllReadyH.cons rfl (fun K hK => ?_) AllReadyH.nil
        clear hHeld
        go_simp
        refine hK.out _ _ ?_ (fun hHeld => ?_)
        · exact trivial
        clear hK K
        (try simp only [Act.put, List.setIfInBounds_toArray, List.set_cons_zero, List.set_cons_succ])
        refine wpAnyH_done (by kernel_rfl) ?_ _
        go_wp2_with fail
        go_end0
        exact HFin.out
      · clear hHeld
        go_simp
        refine hK.out _ _ ?_ (fun hHeld => ?_)
        · exact trivial
        clear hK K
        (try simp only [Act.put, List.setIfInBounds_toArray, List.set_cons_zero, List.set_cons_succ])
        refine wpAnyH_ready (rs := [4]) (by kernel_rfl) (by simp) ?_
        refine AllReadyH.cons rfl (fun K hK => ?_) AllReadyH.nil
        clear hHeld
        go_simp
        refine hK.out _ _ ?_ (fun hHeld => ?_)
        · exact trivial
        clear hK K
        (try simp only [Act.put, List.setIfInBounds_toArray, List.set_cons_zero, List.set_cons_succ])
        refine wpAnyH_ready (rs := [15]) (by kernel_rfl) (by simp) ?_
        refine AllReadyH.cons rfl (fun K hK => ?_) AllReadyH.nil
        clear hHeld
        go_simp
        go_at_call 67
        with_reducible refine HQ.out.mono ?_
        rintro e w5 ⟨g, cap, rfl, hown, hg, ht⟩
        have r5 := ins_r5 HBa.out HR9.out ht
        have z1 := (hp_cell (i := 1) r5).trans rfl
        have z2 := hp_free (i := 1) r5
        have HFin := Lib.hid (HXx.out w5 g cap hown hg ht)
        clear hown hg ht r5
        go_wp2_with fail
        refine hK.out _ _ ?_ (fun hHeld => ?_)
        · exact trivial
        clear hK K
        (try simp only [Act.put, List.setIfInBounds_toArray, List.set_cons_zero, List.set_cons_succ])
        refine wpAnyH_take (i := 16) (v := ?_) rfl (by kernel_rfl) (by kernel_rfl) (by kernel_rfl) (fun _ _ _ h => h) (Or.inl ⟨by kernel_rfl, ?_⟩) (by with_reducible assumption) ?_
        rotate_left
        · intro wz hSw
          (try dsimp only at hSw)
          go_simp
          (try with_reducible rfl)
        show wpAnyH _ _ _ _ _ _ _ (Act.put _ (some 93) _) _
        (try simp only [Act.put, List.setIfInBounds_toArray, List.set_cons_zero, List.set_cons_succ])
        refine wpAnyH_take (i := 17) (v := ?_) rfl (by kernel_rfl) (by kernel_rfl) (by kernel_rfl) (fun _ _ _ h => h) (Or.inl ⟨by kernel_rfl, ?_⟩) (by with_reducible assumption) ?_
        rotate_left
        · intro wz hSw
          (try dsimp only at hSw)
          go_simp
          (try with_reducible rfl)
        show wpAnyH _ _ _ _ _ _ _ (Act.put _ (some 94) _) _
        (try simp only [Act.put, List.setIfInBounds_toArray, List.set_cons_zero, List.set_cons_succ])
        refine wpAnyH_ready (rs := [18]) (by kernel_rfl) (by simp) ?_
        refine AllReadyH.cons rfl (fun K hK => ?_) AllReadyH.nil
        clear hHeld
        go_simp
        refine hK.out _ _ ?_ (fun hHeld => ?_)
        · exact trivial
        clear hK K
        (try simp only [Act.put, List.setIfInBounds_toArray, List.set_cons_zero, List.set_cons_succ])
        refine wpAnyH_done (by kernel_rfl) ?_ _
        go_wp2_with fail
        go_end0
        exact HFin.out
  · have i4 : ¬ (128 : Int) < (n : Int) + 1 := by omega
    rcases hpl with ⟨hpl, hS0, hjn2⟩ | hpl
    · rw [hpl] at HP
      subst hjn2
      have k0 : i + 1 = N := by rw [hNi, hS0]; rfl
      rw [k0] at HP
      have k1 : (N : Int) - 1 = (i : Int) := by omega
      clear hpl hS0 hNi k0 hjn
      go_enter Try.func61, Try.ntmps61
      go_wp2_with (first
        | (go_at_call 66; refine (HI.out w1 HB1.out).mono ?_; rintro e w3 hsi; obtain ⟨s', he, hks, hW⟩ := InsW.of Hh.out.1 HB1.out hsi; have hl' := HL'.out s' hks; unfold Seg.val at he; rw [hl'] at he; subst he; have HW := Lib.hid (And.intro hks (And.intro hl' hW)); have e1 := HRw.out w3 s' hW; have e2 := HFz.out w3 s' hW; have e3 := HCl.out w3 s' hW; clear hsi hks hl' hW)
        | (go_at_call 43; refine HP.out.mono ?_; rintro e w1 ⟨rfl, hb⟩; have HB1 := Lib.hid hb; have r1 := (hp_cell (i := 1) ((hb.block _ (hp_lt HR.out)).trans HR.out)).trans rfl; have a1 := (hb.cell (p := ⟨ba, i, none⟩) (World.block_lt_of_cell? _ _ HA.out)).trans HA.out; clear hb))
      have hf := HX1.out w3 s' HW.out.1 (by omega) HW.out.2.2
      go_end0
      exact hf
    · rw [hpl] at HP
      clear hpl hNi
      go_enter Try.func61, Try.ntmps61
      go_wp2_with (first
        | (go_at_call 66; refine (HI.out w1 HB1.out).mono ?_; rintro e w3 hsi; obtain ⟨s', he, hks, hW⟩ := InsW.of Hh.out.1 HB1.out hsi; have hl' := HL'.out s' hks; unfold Seg.val at he; rw [hl'] at he; subst he; have HW := Lib.hid (And.intro hks (And.intro hl' hW)); have e1 := HRw.out w3 s' hW; have e2 := HFz.out w3 s' hW; have e3 := HCl.out w3 s' hW; clear hsi hks hl' hW)
        | (go_at_call 43; refine HP.out.mono ?_; rintro e w1 ⟨rfl, hb⟩; have HB1 := Lib.hid hb; have r1 := (hp_cell (i := 1) ((hb.block _ (hp_lt HR.out)).trans HR.out)).trans rfl; have a1 := (hb.cell (p := ⟨ba, i, none⟩) (World.block_lt_of_cell? _ _ HA.out)).trans HA.out; clear hb))
      have hf := HX1.out w3 s' HW.out.1 (by omega) HW.out.2.2
      go_end0
      exact hf
end Go.Proofs.Ythloohoefjmmoaa

namespace Go.Proofs.Ythloohoefjmmoaa
open Go.RowKit Go.Maps Go.Sort

theorem skeys_sset (L : SL) (k v : ByteArray) : skeys (sset L k v) = if (sget L k).isSome then skeys L else insK (skeys L) k := by
  unfold sset
  cases h : (sget L k).isSome with
  | true =>
    rw [if_pos rfl, if_pos rfl]
    unfold skeys
    rw [List.map_map]
    apply List.map_congr_left
    intro p _
    show (if keq p.1 k = true then (k, v) else p).1 = p.1
    by_cases e : keq p.1 k = true
    · rw [if_pos e]; exact (keq_iff.1 e).symm
    · rw [if_neg e]
  | false =>
    rw [if_neg (by decide), if_neg (by decide)]
    unfold insK skeys
    rw [List.map_append, List.map_append, List.map_take, List.map_drop]
    rfl
theorem sget_not_mem {L : SL} {k : ByteArray} (h : (sget L k).isSome = false) : k ∉ skeys L := by
  intro hm
  obtain ⟨p, hp, hk⟩ := List.mem_map.1 hm
  have := sget_none h p hp
  rw [hk, keq_self] at this
  cases this
theorem sset_ne (L : SL) (k v : ByteArray) : sset L k v ≠ [] := by
  intro e
  have h := sget_sset L k v k
  rw [e, if_pos rfl] at h
  cases h
theorem skeys_nil {L : SL} : skeys L = [] ↔ L = [] := List.map_eq_nil_iff
/-- what put leaves -/
def PutPost (b bm : Nat) (vb : Value) (G : List Seg) (vq : Value) (L L' : SL) (q : Nat) (qs : List Value) (w : World) (e : Ending) (w' : World) : Prop :=
  e = .returned (.tuple #[]) ∧ ∃ vb' G', StM w' b bm vb' G' vq L' q qs ∧ Touch (fpr b bm vb G vq L) w w' ∧ ∀ k ∈ fpr b bm vb' G' vq L', k ∈ fpr b bm vb G vq L ∨ w.heap.size ≤ k
theorem MapAt.below {w w' : World} {bm : Nat} {L : SL} (h : MapAt w bm L) (hb : Below w.heap.size w w') : MapAt w' bm L := h.same (hb.block _ h.lt)
theorem MapAt.drew {w : World} {bm : Nat} {L : SL} (h : MapAt w bm L) : MapAt w.drew bm L := h.same rfl
theorem KeysAt.drew {w : World} {b bm : Nat} {vb vq : Value} {G : List Seg} {ks : List ByteArray} (h : KeysAt w b bm vb G vq ks) : KeysAt w.drew b bm vb G vq ks := h.same fun _ _ => rfl
theorem put_done {w w3 w4 : World} {b bm : Nat} {vb vb' vq : Value} {G G' : List Seg} {L : SL} {q : Nat} {qs : List Value} {k v : ByteArray} {ks' : List ByteArray} (h : StM w b bm vb G vq L q qs) (e : ks' = skeys (sset L k v)) (hK : KeysAt w3 b bm vb' G' vq ks') (ht : Touch (kfp b vb G) w w3) (hF : ∀ k ∈ kfp b vb' G', k ∈ kfp b vb G ∨ w.heap.size ≤ k)
    (hm : MapAt w4 bm (sset L k v)) (hg : w3.grownBy w4 (some bm)) : PutPost b bm vb G vq L (sset L k v) q qs w (.returned (.tuple #[])) w4 := by
  have hbm : bm ∉ kfp b vb' G' := fun hm' => by
    rcases hF bm hm' with h1 | h1
    · exact h.bm_kfp h1
    · have := h.m.lt; omega
  have t1 : Touch (fpr b bm vb G vq L) w w3 := ht.mono fun k hk => (fpr_kfp _ _ _ _ _ _ _).2 (.inr (.inl hk))
  have t2 : Touch (fpr b bm vb G vq L) w3 w4 := Touch.grown hg fun k hk => by cases hk; exact (fpr_kfp _ _ _ _ _ _ _).2 (.inl rfl)
  subst e
  refine ⟨rfl, vb', G', ⟨hK.same fun k hk => hg.block k (hK.lt k hk) fun e => by cases e; exact hbm hk, hm, ownsRow_same h.kq fun g hgq => ?_⟩, t1.trans (fun _ hk => .inl hk) t2, fun k hk => ?_⟩
  · have hlt := ownsRow_blk h.kq g hgq
    exact (hg.block g (Nat.lt_of_lt_of_le hlt ht.size) fun e => by cases e; exact (h.vq_kfp _ hgq).1 rfl).trans (ht.block g hlt (h.vq_kfp g hgq).2)
  · rcases (fpr_kfp _ _ _ _ _ _ _).1 hk with h1 | h1 | h1
    · exact .inl ((fpr_kfp _ _ _ _ _ _ _).2 (.inl h1))
    · rcases hF k h1 with h2 | h2
      · exact .inl ((fpr_kfp _ _ _ _ _ _ _).2 (.inr (.inl h2)))
      · exact .inr h2
    · exact .inl ((fpr_kfp _ _ _ _ _ _ _).2 (.inr (.inr h1)))
theorem flat_len : ∀ G : List Seg, (∀ s ∈ G, 0 < s.ks.length) → G.length ≤ (flat G).length
  | [], _ => Nat.le_refl _
  | s :: r, h => by
    rw [flat_cons, List.length_append, List.length_cons]
    have := flat_len r (fun t ht => h t (List.mem_cons_of_mem _ ht))
    have := h s (by simp)
    omega
theorem KeysAt.len {w : World} {b bm : Nat} {vb vq : Value} {G : List Seg} {ks : List ByteArray} (h : KeysAt w b bm vb G vq ks) : G.length ≤ ks.length := by
  rw [← h.fl]; exact flat_len G fun s hm => (h.kk.ne s hm).1
theorem insert_live (b bm : Nat) (vb vq : Value) (G : List Seg) (ks : List ByteArray) (x : ByteArray) (w : World) (h : KeysAt w b bm vb G vq ks) (hN : ks.length < 1000000) (hx : x ∉ ks) :
    Calls Try.prog 61 #[.pointer (some ⟨b, 0, none⟩), .string x] w (InsPost b bm vb G vq ks x w) := by
  have hl := h.len
  by_cases e : G = []
  · subst e
    obtain rfl : ks = [] := by rw [← h.fl]; rfl
    exact insert_none b bm vb vq x w h
  · exact insert_some b bm vb vq G ks x w h (by cases G with | nil => exact absurd rfl e | cons a r => simp) (by omega) hx
set_option maxRecDepth 100000 in
set_option maxHeartbeats 4000000 in
theorem put_live (b bm : Nat) (vb : Value) (G : List Seg) (vq : Value) (L : SL) (q : Nat) (qs : List Value) (k v : ByteArray) (w : World) (h : StM w b bm vb G vq L q qs) (hk : k.size ≤ maxLen) (hv : v.size ≤ maxLen) (hN : L.length < 1000000) :
    Calls Try.prog 50 #[.pointer (some ⟨b, 0, none⟩), .string k, .agg #[.string v]] w (PutPost b bm vb G vq L (sset L k v) q qs w) := by
  have hb0 := (Below.refl w.heap.size w).alloc (Nat.le_refl _) (.cells #[.string v] 86)
  have hl := (h.m.below hb0).look k hk
  have c0 := (hp_cell (i := 0) h.r).trans rfl
  have lb := hp_lt h.r
  obtain ⟨old, hold⟩ : ∃ o, o = (sget L k).getD { data := #[] } := ⟨_, rfl⟩
  obtain ⟨had, hhad⟩ : ∃ o, o = (sget L k).isSome := ⟨_, rfl⟩
  rw [← hold, ← hhad] at hl
  have hsk := skeys_sset L k v
  rw [← hhad] at hsk
  have hKx := h.keys.below (((Below.refl w.heap.size w).alloc (Nat.le_refl _) (.cells #[.string v] 86)).alloc (by simp) (.cells #[.string old] 86))
  have Hh := Lib.hid (And.intro h (And.intro hk (And.intro hv (And.intro hN (And.intro hsk (And.intro hhad hKx))))))
  clear h hk hv hN hsk hhad hold hb0 hKx
  cases had
  · have hI := insert_live b bm vb vq G (skeys L) k _ Hh.out.2.2.2.2.2.2 (by unfold skeys; simpa using Hh.out.2.2.2.1) (sget_not_mem Hh.out.2.2.2.2.2.1.symm)
    have HI := Lib.hid hI
    clear hI
    go_enter Try.func50, Try.ntmps50
    go_upto_region 4 with (go_at_call 61; refine HI.out.mono ?_; rintro e w3 ⟨rfl, vb', G', hK, ht, hF⟩)
    have h := Hh.out.1
    have hlt : ∀ k ∈ kfp b vb G, k < w.heap.size := h.keys.lt
    have hb2 : Below w.heap.size w ((w.alloc (.cells #[.string v] 86)).alloc (.cells #[.string old] 86)) := ((Below.refl w.heap.size w).alloc (Nat.le_refl _) _).alloc (by simp) _
    have r5 : w3.heap[w.heap.size]? = some (.cells #[.string v] 86 (0, 0)) :=
      (ht.block w.heap.size (by simp; omega) (fun hm => Nat.lt_irrefl _ (hlt _ hm))).trans ((heap_alloc_old _ _ (by simp)).trans (heap_alloc_new _ _))
    have m3 : MapAt w3 bm L := h.m.same ((ht.block bm (Nat.lt_of_lt_of_le h.m.lt hb2.size) h.bm_kfp).trans (hb2.block bm h.m.lt))
    obtain ⟨w4, hput, hm4, hg4⟩ := MapAt.put (w := w3.drew) m3.drew k v Hh.out.2.1 Hh.out.2.2.1 (by have := Hh.out.2.2.2.1; unfold maxLen; omega)
    have c3 := (hp_cell (i := 0) hK.r).trans rfl
    have c5 := (hp_cell (i := 0) r5).trans rfl
    have hfin := Lib.hid (put_done (k := k) (v := v) (w4 := w4) h (by rw [Hh.out.2.2.2.2.1, if_neg (by decide)]) hK.drew (touch_drew ((Touch.of_below hb2).trans (fun _ hk => .inl hk) ht)) (fun k hk => by
      rcases hF k hk with h1 | h1
      · exact .inl h1
      · right; have := hb2.size; omega) hm4 hg4)
    clear hK ht hF h hlt hb2 r5 m3 hm4 hg4 HI Hh c0 hl
    go_region
    all_goals go_wp2
    all_goals go_end0
    all_goals exact hfin.out
  · go_enter Try.func50, Try.ntmps50
    go_upto_region 4 with (fail)
    obtain ⟨W, hW⟩ : ∃ W, W = (w.alloc (.cells #[.string v] 86)).alloc (.cells #[.string old] 86) := ⟨_, rfl⟩
    have h := Hh.out.1
    have hb2 : Below w.heap.size w W := by rw [hW]; exact ((Below.refl w.heap.size w).alloc (Nat.le_refl _) _).alloc (by simp) _
    have r5 : W.heap[w.heap.size]? = some (.cells #[.string v] 86 (0, 0)) := by rw [hW]; exact (heap_alloc_old _ _ (by simp)).trans (heap_alloc_new _ _)
    have hK := Hh.out.2.2.2.2.2.2
    rw [← hW] at hK ⊢
    obtain ⟨w4, hput, hm4, hg4⟩ := MapAt.put (w := W.drew) (h.m.below hb2).drew k v Hh.out.2.1 Hh.out.2.2.1 (by have := Hh.out.2.2.2.1; unfold maxLen; omega)
    have c3 := (hp_cell (i := 0) hK.r).trans rfl
    have c5 := (hp_cell (i := 0) r5).trans rfl
    have hfin := Lib.hid (put_done (k := k) (v := v) (w4 := w4) h (by rw [Hh.out.2.2.2.2.1, if_pos rfl]) hK.drew (touch_drew (Touch.of_below hb2)) (fun k hk => .inl hk) hm4 hg4)
    clear hK h hb2 r5 hm4 hg4 Hh c0 hl hW
    go_region
    all_goals go_wp2
    all_goals go_end0
    all_goals exact hfin.out
end Go.Proofs.Ythloohoefjmmoaa
