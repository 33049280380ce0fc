/- A store with its changes: Set, Delete and Undo, walked. -/
import Derived.Test.YtbfmhafmncnhfaaG29
import Derived.Test.YtbfmhafmncnhfaaG28
import Derived.Test.YtbfmhafmncnhfaaG22
import Derived.Test.YtbfmhafmncnhfaaG21
import Derived.OwnWalk
import Derived.Laws.AppendOwnNone
namespace Go.Proofs.Ytbfmhafmncnhfaa
open Go.RowKit Go.Maps Go.Sort

/-- a store that is the law's own, its entries and its changes (the newest first) -/
structure SH (w W : World) (b : Nat) (F : List Nat) (L : SL) (R : List Ch) : Prop where
  s : SNew w W b F L R.length (chs R)
  o : HOk L R
  z : SzOk L
/-- what a call leaves of it -/
def SHTo (w W W' : World) (b : Nat) (F : List Nat) (L : SL) (R : List Ch) : Prop := ∃ F', SH w W' b F' L R ∧ Touch F W W' ∧ ∀ k ∈ F', k ∈ F ∨ W.heap.size ≤ k
theorem SH.so {w W : World} {b : Nat} {F : List Nat} {L : SL} {R : List Ch} (h : SH w W b F L R) : Rising (skeys L) := by
  obtain ⟨bm, vb, vk, vq, _, hM⟩ := h.s.s
  exact hM.so
theorem SH.below {w W W' : World} {b : Nat} {F : List Nat} {L : SL} {R : List Ch} (h : SH w W b F L R) (hb : Below W.heap.size W W') : SH w W' b F L R := ⟨h.s.below hb, h.o, h.z⟩
theorem SH.stay {w W W' : World} {b : Nat} {F : List Nat} {L : SL} {R : List Ch} (h : SH w W b F L R) (hb : Below W.heap.size W W') : SHTo w W W' b F L R := ⟨F, h.below hb, Touch.of_below hb, fun _ hk => .inl hk⟩
/-- the changes behind Set and Delete -/
def setR (L : SL) (R : List Ch) (k v : ByteArray) : List Ch := if k = ⟨#[]⟩ then R else if sget L k = some v then R else (k, (sget L k).isSome, (sget L k).getD ⟨#[]⟩) :: R
def delR (L : SL) (R : List Ch) (k : ByteArray) : List Ch := if (sget L k).isSome = true then (k, true, (sget L k).getD ⟨#[]⟩) :: R else R
theorem SH.set {w W : World} {b : Nat} {F : List Nat} {L : SL} {R : List Ch} (h : SH w W b F L R) (k v : ByteArray) (hk : k.size ≤ maxLen) (hv : v.size ≤ maxLen) (hN : L.length + 1 < 1000000) (hq : R.length < 1000000) :
    Calls Try.prog 22 #[.pointer (some ⟨b, 0, none⟩), .string k, .string v] W fun e W' => e = .returned (.int .i64 (if k = ⟨#[]⟩ then 2 else 0)) ∧ SHTo w W W' b F (setE L k v) (setR L R k v) := by
  unfold setE setR
  by_cases hk0 : k = ⟨#[]⟩
  · simp only [if_pos hk0]
    subst hk0
    refine (set_empty b F L _ _ v W h.s.s).mono ?_
    rintro e W' ⟨rfl, rfl⟩
    exact ⟨rfl, h.stay (Below.refl _ _)⟩
  · simp only [if_neg hk0]
    by_cases hs : sget L k = some v
    · rw [if_pos hs]
      have e0 : setL L k v = L := by unfold setL; rw [if_pos hs]
      rw [e0]
      refine (set_same b F L _ _ k v W h.s.s hk hk0 hs).mono ?_
      rintro e W' ⟨he, F', hs', ht, hf⟩
      exact ⟨he, F', ⟨h.s.set hs' ht hf, h.o, h.z⟩, ht, hf⟩
    · rw [if_neg hs]
      have e0 : setL L k v = sset L k v := by unfold setL; rw [if_neg hs]
      have hln := setL_len L k v
      rw [e0] at hln ⊢
      obtain ⟨bm, vb, vk, vq, hF, hM⟩ := h.s.s
      refine (set_new b bm vb vk vq L _ _ k v W hM hk hv hk0 (by omega) hq hs).mono ?_
      rintro e W' ⟨he, F', hs', ht, hf⟩
      rw [← hF] at ht hf
      rw [← chs_cons (k, (sget L k).isSome, (sget L k).getD ⟨#[]⟩) R] at hs'
      refine ⟨he, F', ⟨h.s.set hs' ht hf, ⟨⟨hk, ?_, by omega, fun _ => ?_⟩, ?_⟩, h.z.sset hk hv⟩, ht, hf⟩
      · cases hg : sget L k with
        | none => exact Nat.zero_le _
        | some o => exact h.z.get hg
      · rw [sget_sset, if_pos rfl]; rfl
      · rw [undo_sset h.so k v]; exact h.o
theorem SH.del {w W : World} {b : Nat} {F : List Nat} {L : SL} {R : List Ch} (h : SH w W b F L R) (k : ByteArray) (hk : k.size ≤ maxLen) (hN : L.length < 1000000) (hq : R.length < 1000000) :
    Calls Try.prog 23 #[.pointer (some ⟨b, 0, none⟩), .string k] W fun e W' => e = .returned (.bool (sget L k).isSome) ∧ SHTo w W W' b F (sdel L k) (delR L R k) := by
  unfold delR
  cases hs : sget L k with
  | none =>
    have e0 : sdel L k = L := by
      unfold sdel
      rw [List.filter_eq_self]
      intro p hp
      simp [sget_none (by rw [hs]; rfl) p hp]
    rw [e0]
    refine (sdel_none b F L _ _ k W h.s.s hk hs).mono ?_
    rintro e W' ⟨he, hb⟩
    exact ⟨he, h.stay hb⟩
  | some old =>
    obtain ⟨bm, vb, vk, vq, hF, hM⟩ := h.s.s
    refine (del_live b bm vb vk vq L _ _ k old W hM hk (by omega) hq hs).mono ?_
    rintro e W' ⟨he, F', hs', ht, hf⟩
    rw [← hF] at ht hf
    rw [← chs_cons (k, true, old) R] at hs'
    have hln : (sdel L k).length ≤ L.length := List.length_filter_le _ _
    refine ⟨he, F', ⟨h.s.set hs' ht hf, ⟨⟨hk, h.z.get hs, by omega, fun e => by cases e⟩, ?_⟩, h.z.sdel k⟩, ht, hf⟩
    rw [show ((some old).getD (⟨#[]⟩ : ByteArray)) = old from rfl, undo_sdel h.so hs]
    exact h.o
theorem SzOk.und : ∀ (R : List Ch) (d : Nat) {L : SL}, SzOk L → HOk L R → SzOk (und L R d)
  | _, 0, _, h, _ => h
  | [], d + 1, _, h, _ => by simpa [Go.Proofs.Ytbfmhafmncnhfaa.und] using h
  | c :: R, d + 1, L, h, ho => by
    have h1 : SzOk (undo1 L c) := by
      unfold undo1
      split
      · exact h.sset ho.1.1 ho.1.2.1
      · exact h.sdel _
    have := SzOk.und R d h1 ho.2
    simpa [Go.Proofs.Ytbfmhafmncnhfaa.und] using this
/-- how many changes Undo takes back -/
def undD (R : List Ch) (mark : Int) : Nat := if 0 ≤ mark ∧ mark ≤ (R.length : Int) then R.length - mark.toNat else 0
theorem SH.undo {w W : World} {b : Nat} {F : List Nat} {L : SL} {R : List Ch} (h : SH w W b F L R) (mark : Int) (hmk : -9223372036854775808 ≤ mark ∧ mark < 2 ^ 63) (hq : R.length < 1000000) :
    Calls Try.prog 21 #[.pointer (some ⟨b, 0, none⟩), .int .i64 mark] W fun e W' => e = .returned (.bool (decide (0 ≤ mark ∧ mark ≤ (R.length : Int)))) ∧ SHTo w W W' b F (und L R (undD R mark)) (R.drop (undD R mark)) := by
  refine (undo_any b F L R mark W h.s.s h.o hq hmk).mono ?_
  rintro e W' ⟨d, hd, he, F', hs, ht, hf⟩
  rw [show undD R mark = d from hd.symm]
  exact ⟨he, F', ⟨h.s.set hs ht hf, h.o.drop d, SzOk.und R d h.z h.o⟩, ht, hf⟩
end Go.Proofs.Ytbfmhafmncnhfaa

namespace Go.Proofs.Ytbfmhafmncnhfaa
open Go.RowKit Go.Maps Go.Sort

set_option maxRecDepth 100000 in
set_option maxHeartbeats 4000000 in
theorem settle_live (b : Nat) (F : List Nat) (L : SL) (q : Nat) (qs : List Value) (w : World) (h : StP w b F L q qs) :
    Calls Try.prog 42 #[.pointer (some ⟨b, 0, none⟩)] w fun e w' => e = .returned (.tuple #[]) ∧ ∃ F', StP w' b F' L 0 [] ∧ Touch F w w' ∧ ∀ k ∈ F', k ∈ F ∨ w.heap.size ≤ k := by
  have HM := Lib.hid (made_live b F L q qs w h)
  obtain ⟨bm, vb, vk, vq, hF, hM⟩ := h
  have c2 := (hp_cell (i := 2) hM.r).trans rfl
  have f2 := hp_free (i := 2) hM.r
  have hb : b ∈ kfp b vb vk := mem_kfp.2 (.inl rfl)
  have hend : ∀ W3, W3 = w.setCell ⟨b, 2, none⟩ (.slice none 0 0) → ∃ F', StP W3 b F' L 0 [] ∧ Touch F w W3 ∧ ∀ k ∈ F', k ∈ F ∨ w.heap.size ≤ k := by
    rintro W3 rfl
    have hfar : ∀ k, k ≠ b → (w.setCell ⟨b, 2, none⟩ (.slice none 0 0)).heap[k]? = w.heap[k]? := fun k hk => Below.heap_setCell _ _ _ _ hk
    have h0 := hM.keys
    refine ⟨_, ⟨bm, vb, vk, .slice none 0 0, rfl, ⟨⟨?_, ownsRow_same h0.kb fun k hk => hfar k (h0.ba_b hk), ⟨fun s hm => (h0.kk.at_ s hm).same (hfar _ (h0.seg_b hm)), h0.kk.ne, h0.kk.ap⟩, h0.fl, h0.so⟩, hM.m.same (hfar bm (fun e => hM.bm_kfp (e ▸ hb))), World.ownsRow_nil _ _ _ _⟩⟩, ?_, fun k hk => .inl ?_⟩
    · rw [heap_setCell_row hM.r]
      rfl
    · rw [hF]; exact Touch.setCell _ _ _ ((fpr_kfp _ _ _ _ _ _ _).2 (.inr (.inl hb)))
    · rw [hF]
      rcases (fpr_kfp _ _ _ _ _ _ _).1 hk with h1 | h1 | h1
      · exact (fpr_kfp _ _ _ _ _ _ _).2 (.inl h1)
      · exact (fpr_kfp _ _ _ _ _ _ _).2 (.inr (.inl h1))
      · cases h1
  have HE := Lib.hid hend
  clear hM hb hend hF
  go_enter Try.func42, Try.ntmps42
  go_wp2_with (go_at_call 18; refine HM.out.mono ?_; rintro e w1 ⟨rfl, rfl⟩)
  go_end0
  exact ⟨rfl, HE.out _ rfl⟩
theorem SH.settle {w W : World} {b : Nat} {F : List Nat} {L : SL} {R : List Ch} (h : SH w W b F L R) :
    Calls Try.prog 42 #[.pointer (some ⟨b, 0, none⟩)] W fun e W' => e = .returned (.tuple #[]) ∧ SHTo w W W' b F L [] := by
  refine (settle_live b F L _ _ W h.s.s).mono ?_
  rintro e W' ⟨he, F', hs, ht, hf⟩
  exact ⟨he, F', ⟨h.s.set hs ht hf, trivial, h.z⟩, ht, hf⟩
end Go.Proofs.Ytbfmhafmncnhfaa

namespace Go.Proofs.Ytbfmhafmncnhfaa
open Go.RowKit Go.Maps Go.Sort

theorem sset_parts {L : SL} (hr : Rising (skeys L)) (k v : ByteArray) : sset L k v = L.take (klo (skeys L) k) ++ [(k, v)] ++ L.drop (if (sget L k).isSome = true then klo (skeys L) k + 1 else klo (skeys L) k) := by
  unfold sset
  cases hs : (sget L k).isSome with
  | false => simp
  | true =>
    obtain ⟨h1, h2, h3⟩ := sdel_parts k L hr hs
    simp only [if_true]
    generalize hK : klo (skeys L) k = K at *
    have hne : ∀ p ∈ L.take K ++ L.drop (K + 1), keq p.1 k = false := fun p hp => by
      rw [← h3] at hp
      have := (List.mem_filter.1 hp).2
      simpa using this
    have hk : (L[K]).1 = k := by
      unfold skeys at h2
      rw [List.getElem?_map, List.getElem?_eq_getElem h1] at h2
      exact Option.some.inj h2
    conv => lhs; rw [← List.take_append_drop K L, List.drop_eq_getElem_cons h1, List.map_append, List.map_cons]
    rw [hk, keq_self, if_pos rfl]
    have e1 : (L.take K).map (fun p => if keq p.1 k = true then (k, v) else p) = L.take K := by
      conv => rhs; rw [← List.map_id (L.take K)]
      refine List.map_congr_left fun p hp => ?_
      rw [hne p (List.mem_append_left _ hp)]; rfl
    have e2 : (L.drop (K + 1)).map (fun p => if keq p.1 k = true then (k, v) else p) = L.drop (K + 1) := by
      conv => rhs; rw [← List.map_id (L.drop (K + 1))]
      refine List.map_congr_left fun p hp => ?_
      rw [hne p (List.mem_append_right _ hp)]; rfl
    rw [e1, e2]
    simp
theorem sdel_parts2 {L : SL} (hr : Rising (skeys L)) (k : ByteArray) : sdel L k = L.take (klo (skeys L) k) ++ L.drop (if (sget L k).isSome = true then klo (skeys L) k + 1 else klo (skeys L) k) := by
  cases hs : (sget L k).isSome with
  | true => simp only [if_true]; exact (sdel_parts k L hr hs).2.2
  | false =>
    simp only [Bool.false_eq_true, if_false]
    rw [List.take_append_drop]
    unfold sdel
    rw [List.filter_eq_self]
    intro p hp
    simp [sget_none hs p hp]
theorem tw_filter {α : Type} (P : α → Bool) (D : List α) (h : (D.takeWhile P).length = D.countP P) : D.takeWhile P = D.filter P := by
  have h1 : (D.takeWhile P).filter P = D.takeWhile P := List.filter_eq_self.2 fun a ha => by
    have := List.all_takeWhile (p := P) (l := D)
    exact (List.all_eq_true.1 this) a ha
  have h2 : ((D.takeWhile P).filter P).Sublist (D.filter P) := (List.takeWhile_sublist P).filter P
  rw [h1] at h2
  exact h2.eq_of_length (by rw [h, List.countP_eq_length_filter])
theorem under_filter {L : SL} (hr : Rising (skeys L)) (x : ByteArray) : under L x = L.filter (hpre x) := by
  obtain ⟨h1, h2⟩ := klo_parts x (skeys L) hr
  obtain ⟨m, em⟩ : ∃ m, m = klo (skeys L) x := ⟨_, rfl⟩
  unfold under
  rw [← em] at h1 h2 ⊢
  have hd : Rising (skeys (L.drop m)) := by
    unfold Rising skeys at hr ⊢
    rw [List.map_drop]
    exact hr.sublist (List.drop_sublist _ _)
  rw [tw_filter _ _ (tw_count x _ hd (fun p hp => h2 p.1 (by unfold skeys; rw [← List.map_drop]; exact List.mem_map.2 ⟨p, hp, rfl⟩)))]
  conv => rhs; rw [← List.take_append_drop m L, List.filter_append]
  have : (L.take m).filter (hpre x) = [] := List.filter_eq_nil_iff.2 fun q hq h => pre_ge _ _ h (h1 q.1 (by unfold skeys; rw [← List.map_take]; exact List.mem_map.2 ⟨q, hq, rfl⟩))
  rw [this, List.nil_append]
/-- the cells of the document's changes -/
def wch (c : Ch) : List Value := [.string c.1, .string c.2.2, .bool c.2.1]
def whs (R : List Ch) : List Value := R.reverse.flatMap wch
theorem whs_cons (c : Ch) (R : List Ch) : whs (c :: R) = whs R ++ wch c := by simp [whs]
theorem whs_len : ∀ R : List Ch, (whs R).length = R.length * 3
  | [] => rfl
  | c :: R => by rw [whs_cons, List.length_append, whs_len R, List.length_cons, show (wch c).length = 3 from rfl]; omega
/-- the types of the blocks of the document's store -/
def DocT (T : TypeId) : Prop := T = 31 ∨ T = 43 ∨ T = 117
theorem DocT.foreign {T : TypeId} (h : DocT T) : Foreign T := by
  rcases h with rfl | rfl | rfl <;> exact ⟨by decide, by decide, by decide, by decide⟩
/-- the document's store at m: its entries and its changes (the newest first) -/
structure DS (w W : World) (m : Nat) (L : SL) (R : List Ch) : Prop where
  lt : w.heap.size ≤ m
  l : Below w.heap.size w W
  ex : ∃ vL vP, W.heap[m]? = some (Obj.cells #[vL, vP] 31 (0, 0)) ∧ W.ownsRow w.heap.size 43 2 vL L.length (pcs L) ∧ W.ownsRow w.heap.size 117 3 vP R.length (whs R)
theorem DS.new (w W : World) (h : Below w.heap.size w W) (vL vP : Value) (W' : World) (hW : W' = W.alloc (.cells #[.slice none 0 0, .slice none 0 0] 31)) : DS w W' W.heap.size [] [] := by
  subst hW
  exact ⟨h.size, h.alloc h.size _, _, _, heap_alloc_new _ _, World.ownsRow_nil _ _ _ _, World.ownsRow_nil _ _ _ _⟩
theorem DS.keep {w W W' : World} {m : Nat} {L : SL} {R : List Ch} (h : DS w W m L R) (hb : Below w.heap.size w W') (hk : ∀ T, DocT T → KeepT T W W') : DS w W' m L R := by
  obtain ⟨vL, vP, h1, h2, h3⟩ := h.ex
  exact ⟨h.lt, hb, vL, vP, (hk _ (.inl rfl)).2 _ _ _ h1, ownsRow_keepT h2 (hk _ (.inr (.inl rfl))), ownsRow_keepT h3 (hk _ (.inr (.inr rfl)))⟩
theorem DS.below {w W W' : World} {m : Nat} {L : SL} {R : List Ch} (h : DS w W m L R) (hb : Below W.heap.size W W') : DS w W' m L R :=
  h.keep (h.l.trans (hb.mono h.l.size)) fun _ _ => KeepT.of_below hb
theorem DS.dl {w W : World} {m : Nat} {L : SL} {R : List Ch} (h : DS w W m L R) : DL W m L := by
  obtain ⟨vL, vP, h1, h2, h3⟩ := h.ex
  obtain ⟨A, C, rfl, hr⟩ := row_pairs h2
  exact ⟨A, C, (hp_cell (i := 0) h1).trans rfl, hp_lt h1, fun hp => by obtain ⟨g, e, _, hg, hc⟩ := hr hp; exact ⟨g, e, hg, hc⟩⟩
/-- what a call of the document's leaves -/
structure DSTo (w W W' : World) (m : Nat) (L : SL) (R : List Ch) : Prop where
  s : DS w W' m L R
  ex : ∃ G, Touch G W W' ∧ ∀ g ∈ G, w.heap.size ≤ g ∧ ∃ cs T fr, W.heap[g]? = some (Obj.cells cs T fr) ∧ DocT T ∧ T ≠ 43
theorem DSTo.keepT {w W W' : World} {m : Nat} {L : SL} {R : List Ch} (h : DSTo w W W' m L R) {T : TypeId} (hT : T ≠ 31 ∧ T ≠ 117) : KeepT T W W' := by
  obtain ⟨G, ht, hG⟩ := h.ex
  exact ht.keepT fun k hk cs fr e => by
    obtain ⟨_, cs', T', fr', h1, h2⟩ := hG k hk
    rw [e] at h1; cases h1
    rcases h2.1 with h3 | h3 | h3
    · exact hT.1 h3
    · exact h2.2 h3
    · exact hT.2 h3
theorem DSTo.refl {w W : World} {m : Nat} {L : SL} {R : List Ch} (h : DS w W m L R) : DSTo w W W m L R := ⟨h, [], Touch.of_below (Below.refl _ _), fun g hg => by cases hg⟩
theorem DSTo.of_below {w W W' : World} {m : Nat} {L : SL} {R : List Ch} (h : DS w W m L R) (hb : Below W.heap.size W W') : DSTo w W W' m L R := ⟨h.below hb, [], Touch.of_below hb, fun g hg => by cases hg⟩
theorem SH.other {w W W' : World} {b m : Nat} {F : List Nat} {L L' : SL} {R R' : List Ch} (h : SH w W b F L R) (hd : DSTo w W W' m L' R') : SH w W' b F L R := by
  obtain ⟨G, ht, hG⟩ := hd.ex
  exact ⟨h.s.other G ht fun g hg => by
    obtain ⟨h1, cs, T, fr, h2, h3⟩ := hG g hg
    exact ⟨h1, cs, T, fr, h2, h3.1.foreign⟩, h.o, h.z⟩
theorem SHTo.keepT {w W W' : World} {b : Nat} {F : List Nat} {L L' : SL} {R R' : List Ch} (hs : SH w W b F L R) (h : SHTo w W W' b F L' R') {T : TypeId} (hT : Foreign T) : KeepT T W W' := by
  obtain ⟨_, _, ht, _⟩ := h
  exact ⟨ht.size, fun k cs fr hk => (ht.block k (hp_lt hk) (stp_other hs.s.s hk hT)).trans hk⟩
theorem SHTo.l {w W W' : World} {b : Nat} {F : List Nat} {L : SL} {R : List Ch} (h : SHTo w W W' b F L R) : Below w.heap.size w W' := by
  obtain ⟨_, h, _⟩ := h
  exact h.s.l
theorem DS.other {w W W' : World} {b m : Nat} {F : List Nat} {L L1 L' : SL} {R R1 R' : List Ch} (h : DS w W m L' R') (hs : SH w W b F L1 R1) (hd : SHTo w W W' b F L R) : DS w W' m L' R' :=
  h.keep hd.l fun _ hT => SHTo.keepT hs hd hT.foreign
end Go.Proofs.Ytbfmhafmncnhfaa
