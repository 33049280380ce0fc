/- What lies in blocks of types that no store has stays, whatever a store does. -/
import Derived.Test.YtnjcnlbphaodcaaGreatG11
import Derived.Test.YtnjcnlbphaodcaaGreatG20
import Derived.Test.YtnjcnlbphaodcaaGreatG09
import Derived.Test.YtnjcnlbphaodcaaGreatG22
import Derived.Test.YtnjcnlbphaodcaaGreatG24
import Derived.Test.YtnjcnlbphaodcaaGreatG21
import Derived.OwnWalk
import Derived.Laws.AppendOwnNone
namespace Go.Proofs.YtnjcnlbphaodcaaGreat
open Go.RowKit Go.Maps Go.Sort

/-- what keeps every block of cells of one type -/
def KeepT (T : TypeId) (W W' : World) : Prop := W.heap.size ≤ W'.heap.size ∧ ∀ (k : Nat) (cs : Array Value) (fr : Nat × Nat), W.heap[k]? = some (Obj.cells cs T fr) → W'.heap[k]? = some (Obj.cells cs T fr)
theorem KeepT.refl (T : TypeId) (W : World) : KeepT T W W := ⟨Nat.le_refl _, fun _ _ _ h => h⟩
theorem KeepT.trans {T : TypeId} {A B C : World} (h : KeepT T A B) (k : KeepT T B C) : KeepT T A C := ⟨Nat.le_trans h.1 k.1, fun i cs fr hi => k.2 i cs fr (h.2 i cs fr hi)⟩
theorem KeepT.of_below {T : TypeId} {W W' : World} (h : Below W.heap.size W W') : KeepT T W W' := ⟨h.size, fun k cs fr hk => (h.block k (hp_lt hk)).trans hk⟩
theorem ownsRow_keepT {T : TypeId} {w w' : World} {B k n : Nat} {v : Value} {xs : List Value} (h : w.ownsRow B T k v n xs) (hk : KeepT T w w') : w'.ownsRow B T k v n xs := by
  refine ownsRow_same h fun g hg => ?_
  rcases h.2 with ⟨rfl, _⟩ | ⟨g', cap, cur, rfl, _, hh, _⟩
  · cases hg
  · cases hg
    exact (hk.2 _ _ _ hh).trans hh.symm
theorem ownsRow_typ {T : TypeId} {w : World} {B k n : Nat} {v : Value} {xs : List Value} (h : w.ownsRow B T k v n xs) {g : Nat} (hg : v.ownBlock = some g) : ∃ cs, w.heap[g]? = some (Obj.cells cs T (0, 0)) := by
  rcases h.2 with ⟨rfl, _⟩ | ⟨g', cap, cur, rfl, _, hh, _⟩
  · cases hg
  · cases hg
    exact ⟨_, hh⟩
/-- a type of which no block of a store is -/
structure Foreign (T : TypeId) : Prop where
  s : T ≠ 35
  b : T ≠ 133
  k : T ≠ 9
  c : T ≠ 120
theorem stp_blk {w : World} {b : Nat} {F : List Nat} {L : SL} {q : Nat} {qs : List Value} (h : StP w b F L q qs) : ∀ k ∈ F, (∃ es c, w.heap[k]? = some (Obj.map es c)) ∨ ∃ cs T, w.heap[k]? = some (Obj.cells cs T (0, 0)) ∧ ¬ Foreign T := by
  obtain ⟨bm, vb, vk, vq, rfl, hS⟩ := h
  intro k hk
  rcases (fpr_kfp _ _ _ _ _ _ _).1 hk with rfl | hk | hk
  · obtain ⟨D, ⟨es, clock, hb, _⟩, _⟩ := hS.m
    exact .inl ⟨_, _, hb⟩
  · obtain ⟨cs, T, hc, hT⟩ := hS.keys.ty hk
    exact .inr ⟨cs, T, hc, fun h => by rcases hT with e | e | e; exact h.s e; exact h.b e; exact h.k e⟩
  · obtain ⟨cs, hc⟩ := ownsRow_typ hS.kq hk
    exact .inr ⟨cs, _, hc, fun h => h.c rfl⟩
theorem stp_other {w : World} {b : Nat} {F : List Nat} {L : SL} {q : Nat} {qs : List Value} (h : StP w b F L q qs) {k : Nat} {cs : Array Value} {T : TypeId} {fr : Nat × Nat} (hk : w.heap[k]? = some (Obj.cells cs T fr)) (hT : Foreign T) : k ∉ F := fun hm => by
  rcases stp_blk h k hm with ⟨es, c, h1⟩ | ⟨cs', T', h1, h2⟩
  · rw [h1] at hk; cases hk
  · rw [h1] at hk; cases hk; exact h2 hT
theorem LiveTo.keepT {w W W' : World} {b : Nat} {F : List Nat} {L L' : SL} {q q' : Nat} {qs : List Value} (hs : SNew w W b F L q qs) (h : LiveTo w W W' b F L' q') {T : TypeId} (hT : Foreign T) : KeepT T W W' := by
  obtain ⟨_, _, _, _, _, ht, _⟩ := h
  exact ⟨ht.size, fun k cs fr hk => (ht.block k (hp_lt hk) (stp_other hs.s hk hT)).trans hk⟩
/-- a store lies as it lay where a block of another type is written -/
theorem SNew.other {w W W' : World} {b : Nat} {F : List Nat} {L : SL} {q : Nat} {qs : List Value} (h : SNew w W b F L q qs) (G : List Nat) (ht : Touch G W W') (hG : ∀ g ∈ G, w.heap.size ≤ g ∧ ∃ cs T fr, W.heap[g]? = some (Obj.cells cs T fr) ∧ Foreign T) : SNew w W' b F L q qs :=
  ⟨h.s.touch ht (fun k hk hm => by obtain ⟨_, cs, T, fr, h1, h2⟩ := hG k hm; exact stp_other h.s h1 h2 hk), h.f, h.l.trans (ht.below (fun k hk => (hG k hk).1) h.l.size)⟩
theorem KeepT.setOther {T T' : TypeId} {W : World} {g o : Nat} {cs : Array Value} {fr : Nat × Nat} (v : Value) (hg : W.heap[g]? = some (Obj.cells cs T' fr)) (hne : T ≠ T') : KeepT T W (W.setCell ⟨g, o, none⟩ v) := by
  refine ⟨by simp, fun k cs' fr' hk => ?_⟩
  have hk2 : k ≠ g := fun e => by subst e; rw [hg] at hk; cases hk; exact hne rfl
  rw [Below.heap_setCell _ _ _ _ hk2]
  exact hk
theorem KeepT.grown {T T' : TypeId} {W W' : World} {row : Option Nat} (hg : W.grownBy W' row) (hr : ∀ g, row = some g → ∃ cs fr, W.heap[g]? = some (Obj.cells cs T' fr)) (hne : T ≠ T') : KeepT T W W' :=
  ⟨hg.size, fun k cs fr hk => (hg.block k (hp_lt hk) (fun e => by
    obtain ⟨cs', fr', h1⟩ := hr k e.symm
    rw [hk] at h1; cases h1; exact hne rfl)).trans hk⟩
theorem Touch.keepT {F : List Nat} {W W' : World} {T : TypeId} (ht : Touch F W W') (hF : ∀ k ∈ F, ∀ cs fr, W.heap[k]? ≠ some (Obj.cells cs T fr)) : KeepT T W W' :=
  ⟨ht.size, fun k cs fr hk => (ht.block k (hp_lt hk) (fun hm => hF k hm cs fr hk)).trans hk⟩
/-- a row of ints in a block of its own stays -/
theorem il_touch {w W : World} {b : Nat} {F : List Nat} {L : SL} {q : Nat} {qs : List Value} (hs : SNew w W b F L q qs) {g : Nat} {cs : Array Value} (hg : W.heap[g]? = some (Obj.cells cs 3 (0, 0))) {n : Nat} {f : Nat → Int} (hl : Il W (some ⟨g, 0, none⟩) n f) (hT : Foreign 3) (W' : World) (ht : Touch F W W') : Il W' (some ⟨g, 0, none⟩) n f := by
  have he := ht.block g (hp_lt hg) (stp_other hs.s hg hT)
  refine ⟨hl.1, fun hn => ?_⟩
  obtain ⟨g', o, e, hlt, hc⟩ := hl.2 hn
  cases e
  refine ⟨g, 0, rfl, Nat.lt_of_lt_of_le hlt ht.size, fun i hi => ?_⟩
  rw [← hc i hi]
  simp only [World.cell?, he]
end Go.Proofs.YtnjcnlbphaodcaaGreat

namespace Go.Proofs.YtnjcnlbphaodcaaGreat
open Go.RowKit Go.Maps Go.Sort

theorem pre_ge : ∀ (k x : List UInt8), Lib.hasPrefix k x = true → ¬ k < x
  | _, [], _, h => List.not_lt_nil _ h
  | [], b :: x, hp, _ => by simp [Lib.hasPrefix] at hp
  | a :: k, b :: x, hp, h => by
    simp [Lib.hasPrefix] at hp
    obtain ⟨e, hp⟩ := hp
    subst e
    rcases List.cons_lt_cons_iff.1 h with h | ⟨_, h⟩
    · exact absurd h (UInt8.lt_irrefl _)
    · exact pre_ge k x (by simpa [Lib.hasPrefix] using hp) h
theorem pre_between : ∀ (x k k' : List UInt8), ¬ k < x → k < k' → Lib.hasPrefix k' x = true → Lib.hasPrefix k x = true
  | [], k, _, _, _, _ => by simp [Lib.hasPrefix]
  | b :: x, [], _, h, _, _ => absurd (List.nil_lt_cons _ _) h
  | b :: x, a :: k, [], _, _, hp => by simp [Lib.hasPrefix] at hp
  | b :: x, a :: k, c :: k', h, hl, hp => by
    simp [Lib.hasPrefix] at hp
    obtain ⟨e, hp⟩ := hp
    subst e
    have hba : ¬ a < b := fun h2 => h (List.cons_lt_cons_iff.2 (.inl h2))
    rcases List.cons_lt_cons_iff.1 hl with h2 | ⟨h2, h3⟩
    · exact absurd h2 hba
    · subst h2
      have := pre_between x k k' (fun h4 => h (List.cons_lt_cons_iff.2 (.inr ⟨rfl, h4⟩))) h3 (by simpa [Lib.hasPrefix] using hp)
      simpa [Lib.hasPrefix] using this
theorem tw_count (x : ByteArray) : ∀ D : SL, Rising (skeys D) → (∀ p ∈ D, ¬ p.1.data.toList < x.data.toList) → (D.takeWhile (hpre x)).length = D.countP (hpre x)
  | [], _, _ => rfl
  | p :: r, hr, hg => by
    have hr2 : Rising (skeys r) := (List.pairwise_cons.1 hr).2
    cases hp : hpre x p with
    | true =>
      rw [List.takeWhile_cons, hp, List.countP_cons_of_pos hp]
      simp only [if_true, List.length_cons]
      rw [tw_count x r hr2 (fun q hq => hg q (List.mem_cons_of_mem _ hq))]
    | false =>
      rw [List.takeWhile_cons, hp, List.countP_cons_of_neg (by rw [hp]; decide)]
      have : r.countP (hpre x) = 0 := List.countP_eq_zero.2 fun q hq h => by
        have hlt : p.1.data.toList < q.1.data.toList := (List.pairwise_cons.1 hr).1 q.1 (List.mem_map.2 ⟨q, hq, rfl⟩)
        have := pre_between x.data.toList p.1.data.toList q.1.data.toList (hg p (by simp)) hlt h
        unfold hpre at hp
        rw [hp] at this
        cases this
      rw [this]
      rfl
theorem under_count {L : SL} (hr : Rising (skeys L)) (x : ByteArray) : (under L x).length = L.countP (hpre x) := by
  obtain ⟨h1, h2⟩ := klo_parts x (skeys L) hr
  obtain ⟨m, em⟩ : ∃ m, m = klo (skeys L) x := ⟨_, rfl⟩
  unfold under
  rw [← em] at h1 h2 ⊢
  have hd : Rising (skeys (L.drop m)) := by
    unfold Rising skeys at hr ⊢
    rw [List.map_drop]
    exact hr.sublist (List.drop_sublist _ _)
  rw [tw_count x _ hd (fun p hp => h2 p.1 (by unfold skeys; rw [← List.map_drop]; exact List.mem_map.2 ⟨p, hp, rfl⟩))]
  conv => rhs; rw [← List.take_append_drop m L, List.countP_append]
  have : (L.take m).countP (hpre x) = 0 := List.countP_eq_zero.2 fun q hq h => pre_ge _ _ h (h1 q.1 (by unfold skeys; rw [← List.map_take]; exact List.mem_map.2 ⟨q, hq, rfl⟩))
  rw [this, Nat.zero_add]
theorem under_all (L : SL) : under L ⟨#[]⟩ = L := by
  have h0 : klo (skeys L) ⟨#[]⟩ = 0 := klo_zero fun y _ h => List.not_lt_nil _ h
  unfold under
  rw [h0, List.drop_zero]
  rw [takeWhile_here _ L L.length (Nat.le_refl _) (fun j hj _ => by unfold hpre; simp [Lib.hasPrefix]) (fun h => absurd h (Nat.lt_irrefl _)), List.take_length]
end Go.Proofs.YtnjcnlbphaodcaaGreat

namespace Go.Proofs.YtnjcnlbphaodcaaGreat
open Go.RowKit Go.Maps Go.Sort

theorem sset_parts {L : SL} (hr : Rising (skeys L)) (k v : ByteArray) : sset L k v = L.take (klo (skeys L) k) ++ [(k, v)] ++ L.drop (if (sget L k).isSome = true then klo (skeys L) k + 1 else klo (skeys L) k) := by
  unfold sset
  cases hs : (sget L k).isSome with
  | false => simp
  | true =>
    obtain ⟨h1, h2, h3⟩ := sdel_parts k L hr hs
    simp only [if_true]
    generalize hK : klo (skeys L) k = K at *
    have hne : ∀ p ∈ L.take K ++ L.drop (K + 1), keq p.1 k = false := fun p hp => by
      rw [← h3] at hp
      have := (List.mem_filter.1 hp).2
      simpa using this
    have hk : (L[K]).1 = k := by
      unfold skeys at h2
      rw [List.getElem?_map, List.getElem?_eq_getElem h1] at h2
      exact Option.some.inj h2
    conv => lhs; rw [← List.take_append_drop K L, List.drop_eq_getElem_cons h1, List.map_append, List.map_cons]
    rw [hk, keq_self, if_pos rfl]
    have e1 : (L.take K).map (fun p => if keq p.1 k = true then (k, v) else p) = L.take K := by
      conv => rhs; rw [← List.map_id (L.take K)]
      refine List.map_congr_left fun p hp => ?_
      rw [hne p (List.mem_append_left _ hp)]; rfl
    have e2 : (L.drop (K + 1)).map (fun p => if keq p.1 k = true then (k, v) else p) = L.drop (K + 1) := by
      conv => rhs; rw [← List.map_id (L.drop (K + 1))]
      refine List.map_congr_left fun p hp => ?_
      rw [hne p (List.mem_append_right _ hp)]; rfl
    rw [e1, e2]
    simp
theorem sdel_parts2 {L : SL} (hr : Rising (skeys L)) (k : ByteArray) : sdel L k = L.take (klo (skeys L) k) ++ L.drop (if (sget L k).isSome = true then klo (skeys L) k + 1 else klo (skeys L) k) := by
  cases hs : (sget L k).isSome with
  | true => simp only [if_true]; exact (sdel_parts k L hr hs).2.2
  | false =>
    simp only [Bool.false_eq_true, if_false]
    rw [List.take_append_drop]
    unfold sdel
    rw [List.filter_eq_self]
    intro p hp
    simp [sget_none hs p hp]
theorem tw_filter {α : Type} (P : α → Bool) (D : List α) (h : (D.takeWhile P).length = D.countP P) : D.takeWhile P = D.filter P := by
  have h1 : (D.takeWhile P).filter P = D.takeWhile P := List.filter_eq_self.2 fun a ha => by
    have := List.all_takeWhile (p := P) (l := D)
    exact (List.all_eq_true.1 this) a ha
  have h2 : ((D.takeWhile P).filter P).Sublist (D.filter P) := (List.takeWhile_sublist P).filter P
  rw [h1] at h2
  exact h2.eq_of_length (by rw [h, List.countP_eq_length_filter])
theorem under_filter {L : SL} (hr : Rising (skeys L)) (x : ByteArray) : under L x = L.filter (hpre x) := by
  obtain ⟨h1, h2⟩ := klo_parts x (skeys L) hr
  obtain ⟨m, em⟩ : ∃ m, m = klo (skeys L) x := ⟨_, rfl⟩
  unfold under
  rw [← em] at h1 h2 ⊢
  have hd : Rising (skeys (L.drop m)) := by
    unfold Rising skeys at hr ⊢
    rw [List.map_drop]
    exact hr.sublist (List.drop_sublist _ _)
  rw [tw_filter _ _ (tw_count x _ hd (fun p hp => h2 p.1 (by unfold skeys; rw [← List.map_drop]; exact List.mem_map.2 ⟨p, hp, rfl⟩)))]
  conv => rhs; rw [← List.take_append_drop m L, List.filter_append]
  have : (L.take m).filter (hpre x) = [] := List.filter_eq_nil_iff.2 fun q hq h => pre_ge _ _ h (h1 q.1 (by unfold skeys; rw [← List.map_take]; exact List.mem_map.2 ⟨q, hq, rfl⟩))
  rw [this, List.nil_append]
/-- the cells of the document's changes -/
def wch (c : Ch) : List Value := [.string c.1, .string c.2.2, .bool c.2.1]
def whs (R : List Ch) : List Value := R.reverse.flatMap wch
theorem whs_cons (c : Ch) (R : List Ch) : whs (c :: R) = whs R ++ wch c := by simp [whs]
theorem whs_len : ∀ R : List Ch, (whs R).length = R.length * 3
  | [] => rfl
  | c :: R => by rw [whs_cons, List.length_append, whs_len R, List.length_cons, show (wch c).length = 3 from rfl]; omega
/-- the types of the blocks of the document's store -/
def DocT (T : TypeId) : Prop := T = 43 ∨ T = 125 ∨ T = 100
theorem DocT.foreign {T : TypeId} (h : DocT T) : Foreign T := by
  rcases h with rfl | rfl | rfl <;> exact ⟨by decide, by decide, by decide, by decide⟩
/-- the document's store at m: its entries and its changes (the newest first) -/
structure DS (w W : World) (m : Nat) (L : SL) (R : List Ch) : Prop where
  lt : w.heap.size ≤ m
  l : Below w.heap.size w W
  ex : ∃ vL vP, W.heap[m]? = some (Obj.cells #[vL, vP] 43 (0, 0)) ∧ W.ownsRow w.heap.size 125 2 vL L.length (pcs L) ∧ W.ownsRow w.heap.size 100 3 vP R.length (whs R)
theorem DS.new (w W : World) (h : Below w.heap.size w W) (_vL _vP : Value) (W' : World) (hW : W' = W.alloc (.cells #[.slice none 0 0, .slice none 0 0] 43)) : DS w W' W.heap.size [] [] := by
  subst hW
  exact ⟨h.size, h.alloc h.size _, _, _, heap_alloc_new _ _, World.ownsRow_nil _ _ _ _, World.ownsRow_nil _ _ _ _⟩
theorem DS.keep {w W W' : World} {m : Nat} {L : SL} {R : List Ch} (h : DS w W m L R) (hb : Below w.heap.size w W') (hk : ∀ T, DocT T → KeepT T W W') : DS w W' m L R := by
  obtain ⟨vL, vP, h1, h2, h3⟩ := h.ex
  exact ⟨h.lt, hb, vL, vP, (hk _ (.inl rfl)).2 _ _ _ h1, ownsRow_keepT h2 (hk _ (.inr (.inl rfl))), ownsRow_keepT h3 (hk _ (.inr (.inr rfl)))⟩
theorem DS.below {w W W' : World} {m : Nat} {L : SL} {R : List Ch} (h : DS w W m L R) (hb : Below W.heap.size W W') : DS w W' m L R :=
  h.keep (h.l.trans (hb.mono h.l.size)) fun _ _ => KeepT.of_below hb
theorem DS.dl {w W : World} {m : Nat} {L : SL} {R : List Ch} (h : DS w W m L R) : DL W m L := by
  obtain ⟨vL, vP, h1, h2, h3⟩ := h.ex
  obtain ⟨A, C, rfl, hr⟩ := row_pairs h2
  exact ⟨A, C, (hp_cell (i := 0) h1).trans rfl, hp_lt h1, fun hp => by obtain ⟨g, e, _, hg, hc⟩ := hr hp; exact ⟨g, e, hg, hc⟩⟩
/-- what a call of the document's leaves -/
structure DSTo (w W W' : World) (m : Nat) (L : SL) (R : List Ch) : Prop where
  s : DS w W' m L R
  ex : ∃ G, Touch G W W' ∧ ∀ g ∈ G, w.heap.size ≤ g ∧ ∃ cs T fr, W.heap[g]? = some (Obj.cells cs T fr) ∧ DocT T ∧ T ≠ 125
theorem DSTo.keepT {w W W' : World} {m : Nat} {L : SL} {R : List Ch} (h : DSTo w W W' m L R) {T : TypeId} (hT : T ≠ 43 ∧ T ≠ 100) : KeepT T W W' := by
  obtain ⟨G, ht, hG⟩ := h.ex
  exact ht.keepT fun k hk cs fr e => by
    obtain ⟨_, cs', T', fr', h1, h2⟩ := hG k hk
    rw [e] at h1; cases h1
    rcases h2.1 with h3 | h3 | h3
    · exact hT.1 h3
    · exact h2.2 h3
    · exact hT.2 h3
theorem DSTo.refl {w W : World} {m : Nat} {L : SL} {R : List Ch} (h : DS w W m L R) : DSTo w W W m L R := ⟨h, [], Touch.of_below (Below.refl _ _), fun g hg => by cases hg⟩
theorem DSTo.of_below {w W W' : World} {m : Nat} {L : SL} {R : List Ch} (h : DS w W m L R) (hb : Below W.heap.size W W') : DSTo w W W' m L R := ⟨h.below hb, [], Touch.of_below hb, fun g hg => by cases hg⟩
theorem SH.other {w W W' : World} {b m : Nat} {F : List Nat} {L L' : SL} {R R' : List Ch} (h : SH w W b F L R) (hd : DSTo w W W' m L' R') : SH w W' b F L R := by
  obtain ⟨G, ht, hG⟩ := hd.ex
  exact ⟨h.s.other G ht fun g hg => by
    obtain ⟨h1, cs, T, fr, h2, h3⟩ := hG g hg
    exact ⟨h1, cs, T, fr, h2, h3.1.foreign⟩, h.o, h.z⟩
theorem SHTo.keepT {w W W' : World} {b : Nat} {F : List Nat} {L L' : SL} {R R' : List Ch} (hs : SH w W b F L R) (h : SHTo w W W' b F L' R') {T : TypeId} (hT : Foreign T) : KeepT T W W' := by
  obtain ⟨_, _, ht, _⟩ := h
  exact ⟨ht.size, fun k cs fr hk => (ht.block k (hp_lt hk) (stp_other hs.s.s hk hT)).trans hk⟩
theorem SHTo.l {w W W' : World} {b : Nat} {F : List Nat} {L : SL} {R : List Ch} (h : SHTo w W W' b F L R) : Below w.heap.size w W' := by
  obtain ⟨_, h, _⟩ := h
  exact h.s.l
theorem DS.other {w W W' : World} {b m : Nat} {F : List Nat} {L L1 L' : SL} {R R1 R' : List Ch} (h : DS w W m L' R') (hs : SH w W b F L1 R1) (hd : SHTo w W W' b F L R) : DS w W' m L' R' :=
  h.keep hd.l fun _ hT => SHTo.keepT hs hd hT.foreign
end Go.Proofs.YtnjcnlbphaodcaaGreat
