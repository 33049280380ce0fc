/- The store: taking a key away, plain (the list, the map's datum, the map's block). -/
import Derived.Test.YtedkhpnlhkjjgaaG05
namespace Go.Proofs.Ytedkhpnlhkjjgaa
open Go.RowKit Go.Maps

/-- a key that is there stands in its place, and taking it away takes just that place -/
theorem sdel_parts (k : ByteArray) : ∀ L : SL, Rising (skeys L) → (sget L k).isSome = true → klo (skeys L) k < L.length ∧ (skeys L)[klo (skeys L) k]? = some k ∧ sdel L k = L.take (klo (skeys L) k) ++ L.drop (klo (skeys L) k + 1)
  | [], _, h => by simp [sget] at h
  | (a, va) :: r, hr, h => by
    have hrr : Rising (skeys r) := (List.pairwise_cons.1 hr).2
    have har : ∀ y ∈ skeys r, a.data.toList < y.data.toList := (List.pairwise_cons.1 hr).1
    by_cases e : a = k
    · subst e
      have hz : klo (skeys ((a, va) :: r)) a = 0 := by
        unfold klo
        rw [List.countP_eq_zero]
        intro y hy hd
        have hd := of_decide_eq_true hd
        rcases List.mem_cons.1 (show y ∈ a :: skeys r from hy) with rfl | hy
        · exact absurd hd (List.lt_irrefl _)
        · exact List.lt_asymm hd (har y hy)
      rw [hz]
      refine ⟨by simp, rfl, ?_⟩
      unfold sdel
      rw [List.filter_cons_of_neg (by simp [keq_self])]
      simp only [List.take_zero, Nat.zero_add, List.drop_succ_cons, List.drop_zero, List.nil_append]
      rw [List.filter_eq_self]
      intro p hp
      have hl := har p.1 (List.mem_map.2 ⟨p, hp, rfl⟩)
      have hne : p.1 ≠ a := fun e => by rw [e] at hl; exact absurd hl (List.lt_irrefl _)
      simp [keq_ne hne]
    · have hk : (sget r k).isSome = true := by
        unfold sget at h ⊢
        rwa [List.find?_cons_of_neg (by simp [keq_ne e])] at h
      obtain ⟨h1, h2, h3⟩ := sdel_parts k r hrr hk
      have hak : a.data.toList < k.data.toList := har k (List.mem_of_getElem? h2)
      have hs : klo (skeys ((a, va) :: r)) k = klo (skeys r) k + 1 := by
        show (a :: skeys r).countP _ = _
        rw [List.countP_cons_of_pos (by simpa using hak)]
        rfl
      rw [hs]
      refine ⟨by simpa using h1, h2, ?_⟩
      unfold sdel at h3 ⊢
      rw [List.filter_cons_of_pos (by simp [keq_ne e]), h3]
      rfl
theorem skeys_sdel {k : ByteArray} {L : SL} (hr : Rising (skeys L)) (h : (sget L k).isSome = true) : skeys (sdel L k) = (skeys L).take (klo (skeys L) k) ++ (skeys L).drop (klo (skeys L) k + 1) := by
  rw [(sdel_parts k L hr h).2.2]
  simp [skeys, List.map_take, List.map_drop]
theorem length_sdel {k : ByteArray} {L : SL} (hr : Rising (skeys L)) (h : (sget L k).isSome = true) : (sdel L k).length + 1 = L.length := by
  obtain ⟨h1, _, h3⟩ := sdel_parts k L hr h
  rw [h3, List.length_append, List.length_take, List.length_drop]
  omega
theorem rising_sdel {k : ByteArray} {L : SL} (hr : Rising (skeys L)) : Rising (skeys (sdel L k)) := by
  unfold skeys sdel
  exact List.Pairwise.sublist (List.filter_sublist.map _) hr
theorem Rep.del {D : DataW Unit} {L : SL} (h : Rep D L) (hr : Rising (skeys L)) (k : ByteArray) : Rep (D.del (.string k.data.toList)) (sdel L k) := by
  refine ⟨h.td.del _, fun k' => ?_, fun k' z => ?_, ?_⟩
  · rw [sget_sdel]
    by_cases e : k' = k
    · rw [if_pos e, e, has_del_same]; rfl
    · rw [if_neg e, has_del_other (fun hh => e (lit_inj hh)), h.has]
  · rw [sget_sdel]
    by_cases e : k' = k
    · rw [if_pos e, e, atKey_del_same]
    · rw [if_neg e, atKey_del_other (fun hh => e (lit_inj hh)), h.at_]
  · have hs := size_del h.td (k := .string k.data.toList)
    rw [h.has, h.sz] at hs
    cases hh : (sget L k).isSome with
    | true =>
      have := length_sdel hr hh
      rw [hh, if_pos rfl] at hs
      omega
    | false =>
      rw [hh] at hs
      have he : sdel L k = L := by
        unfold sdel
        rw [List.filter_eq_self]
        intro p hp
        simp [sget_none hh p hp]
      rw [he]
      simpa using hs
/-- 'delete(m, k)' -/
theorem MapAt.del {w : World} {bm : Nat} {L : SL} (h : MapAt w bm L) (hr : Rising (skeys L)) (k : ByteArray) (hk : k.size ≤ maxLen) (ty : TypeId) :
    ∃ w', (Builtin.delete_ #[103, 9] ty #[.map (some bm), .string k]).run Try.prog w = .ok (.tuple #[]) w' ∧ MapAt w' bm (sdel L k) ∧ Touch [bm] w w' := by
  obtain ⟨D, ho, hR⟩ := h
  obtain ⟨w', hrun, ho', hg⟩ := ho.drop skeyed Try.underlying103 (keyOf_s hk) ty
  have hR' := hR.del hr k
  refine ⟨w', hrun, ⟨_, by rw [← hR'.sz]; exact ownsMap_size ho', hR'⟩, ?_⟩
  exact Touch.grown hg.grown fun k hk => by cases hk; simp
end Go.Proofs.Ytedkhpnlhkjjgaa

namespace Go.Proofs.Ytedkhpnlhkjjgaa
open Go.RowKit Go.Maps Go.Sort

theorem strsOf_map (ks : List ByteArray) : ((Lib.strsOf (fun i => ks.getD i ⟨#[]⟩) ks.length).map encStr) = ks.map Value.string := by
  unfold Lib.strsOf
  rw [List.map_map]
  refine List.ext_getElem (by simp) fun i h1 h2 => ?_
  have hi : i < ks.length := by simpa using h2
  simp [encStr, List.getD, List.getElem?_eq_getElem hi]
theorem del_own (bk kc j : Nat) (ks : List ByteArray) (w : World) (hown : w.ownsRow 0 9 1 (.slice (some ⟨bk, 0, none⟩) ks.length kc) ks.length (ks.map Value.string)) (hj : j < ks.length) :
    Calls Try.prog 146 #[.slice (some ⟨bk, 0, none⟩) ks.length kc, .int .i64 (j : Nat), .int .i64 ((j + 1 : Nat) : Int)] w fun e w' => e = .returned (.slice (some ⟨bk, 0, none⟩) (ks.length - 1) kc) ∧
      w'.ownsRow 0 9 1 (.slice (some ⟨bk, 0, none⟩) (ks.length - 1) kc) (ks.length - 1) ((ks.take j ++ ks.drop (j + 1)).map Value.string) ∧ Touch [bk] w w' := by
  obtain ⟨cur, hg, hn, hc, hs, ht, hl⟩ := ownsRow_open hown
  have hcell : ∀ i, i < ks.length → w.cell? ⟨bk, 0 + i, none⟩ = some (.string (ks.getD i ⟨#[]⟩)) := by
    intro i hi
    rw [Nat.zero_add, hown.cellAt i (by omega), List.getElem?_map, List.getElem?_eq_getElem hi]
    simp [List.getD, List.getElem?_eq_getElem hi]
  refine (Try.slices_Delete_string_cells bk 0 ks.length kc j (j + 1) (fun i => ks.getD i ⟨#[]⟩) w hn (by unfold maxLen at hc; omega) (by omega) (by omega) hcell (fun i _ => hp_free hg)).mono ?_
  rintro e w' ⟨he, q, rfl⟩
  rw [show j + 1 - j = 1 by omega] at he
  have hvs : (((Lib.strsOf (fun i => ks.getD i ⟨#[]⟩) ks.length).take j ++ (Lib.strsOf (fun i => ks.getD i ⟨#[]⟩) ks.length).drop (j + 1) ++ List.replicate (j + 1 - j) []).map encStr) = (ks.take j ++ ks.drop (j + 1)).map Value.string ++ [.string ⟨#[]⟩] := by
    rw [show j + 1 - j = 1 by omega, List.map_append, List.map_append, List.map_take, List.map_drop, strsOf_map]
    simp [encStr, List.map_take, List.map_drop]
  rw [hvs]
  have hlen : ((ks.take j ++ ks.drop (j + 1)).map Value.string).length = ks.length - 1 := by
    simp
    omega
  refine ⟨he, ?_, ?_⟩
  · refine ownsRow_shut (heap_setCells_row _ _ (show (w.drewN q).heap[bk]? = _ from hg)) (by omega) hc (by rw [putA_size, hs]) ?_ (by rw [hlen]; omega)
    rw [putA_list _ _ _ (by rw [List.length_append, hlen]; simp; omega)]
    rw [List.take_zero, List.nil_append, List.append_assoc, Nat.mul_one]
    exact List.take_left' hlen
  · exact (show Touch [bk] w (w.drewN q) from ⟨rfl, rfl, rfl, Nat.le_refl _, fun _ _ _ => rfl⟩).trans (fun _ hk => .inl hk) (touch_setCells bk (by simp) _ _ _)
end Go.Proofs.Ytedkhpnlhkjjgaa

namespace Go.Proofs.Ytedkhpnlhkjjgaa
open Go.RowKit Go.Maps Go.Sort

theorem drop_done {w w1 w2 w3 : World} {b bm ba bc bk kc : Nat} {vq : Value} {L : SL} {q : Nat} {qs : List Value} {k : ByteArray} (h : StM w b bm (.slice (some ⟨ba, 0, none⟩) 1 bc) (.slice (some ⟨bk, 0, none⟩) L.length kc) vq L q qs) (hin : (sget L k).isSome = true) (h2 : 2 ≤ L.length)
    (hm1 : MapAt w1 bm (sdel L k)) (t1 : Touch [bm] w w1) (b2 : Below w1.heap.size w1 w2) (t3 : Touch [bk] w2 w3)
    (hown : w3.ownsRow 0 9 1 (.slice (some ⟨bk, 0, none⟩) (L.length - 1) kc) (L.length - 1) (((skeys L).take (klo (skeys L) k) ++ (skeys L).drop (klo (skeys L) k + 1)).map Value.string)) :
    PutPost b bm (.slice (some ⟨ba, 0, none⟩) 1 bc) (.slice (some ⟨bk, 0, none⟩) L.length kc) vq L (sdel L k) q qs w (.returned (.tuple #[])) (w3.setCell ⟨ba, 0, none⟩ (.slice (some ⟨bk, 0, none⟩) (L.length - 1) kc)) := by
  have hL0 : L ≠ [] := fun e => by rw [e] at h2; simp at h2
  have hld := length_sdel h.so hin
  have hD0 : sdel L k ≠ [] := fun e => by rw [e] at hld; simp at hld; omega
  have hnd := h.nd
  unfold fpr at hnd
  rw [if_neg hL0] at hnd
  obtain ⟨O, hO⟩ : ∃ O, O = vq.ownBlock := ⟨_, rfl⟩
  rw [← hO] at hnd
  simp only [Value.ownBlock, Option.toList_some, List.cons_append, List.nil_append, List.nodup_cons, List.mem_cons, not_or] at hnd
  obtain ⟨⟨n1, n2, n3, n4⟩, ⟨n5, n6, n7⟩, ⟨n8, n9⟩, n10, n11⟩ := hnd
  have lb := hp_lt h.r
  have lm := h.m.lt
  have la : ba < w.heap.size := ownsRow_blk h.kb ba rfl
  have lk : bk < w.heap.size := ownsRow_blk (h.kk hL0) bk rfl
  have s1 := t1.size
  have s2 := b2.size
  have far : ∀ g, g < w.heap.size → g ≠ bm → g ≠ bk → g ≠ ba → (w3.setCell ⟨ba, 0, none⟩ (.slice (some ⟨bk, 0, none⟩) (L.length - 1) kc)).heap[g]? = w.heap[g]? := fun g hg e1 e2 e3 => by
    rw [Below.heap_setCell _ _ _ _ (show g ≠ ba from e3), t3.block g (by omega) (by simpa using e2), b2.block g (by omega), t1.block g hg (by simpa using e1)]
  obtain ⟨cur, hc, c1, c2, c3, c4, c5⟩ := ownsRow_open (by have := h.kb; rw [if_neg hL0, if_neg hL0] at this; exact this)
  have hb3 : w3.heap[ba]? = some (.cells cur 193 (0, 0)) := by
    rw [t3.block ba (by omega) (by simpa using n8), b2.block ba (by omega), t1.block ba la (by simpa using fun e => n5 e.symm)]
    exact hc
  refine ⟨rfl, .slice (some ⟨ba, 0, none⟩) 1 bc, .slice (some ⟨bk, 0, none⟩) (L.length - 1) kc, ⟨?_, ?_, ?_, fun _ => ?_, ?_, rising_sdel h.so, ?_⟩, ?_, ?_⟩
  · exact (far b lb n1 n3 n2).trans h.r
  · refine hm1.same ?_
    rw [Below.heap_setCell _ _ _ _ (show bm ≠ ba from n5), t3.block bm (by omega) (by simpa using n6), b2.block bm (by omega)]
  · rw [if_neg hD0, if_neg hD0]
    refine ownsRow_shut (heap_setCell_row hb3 _) c1 c2 (by simpa using c3) ?_ rfl
    have : 0 < cur.size := by omega
    rw [Array.toList_setIfInBounds]
    match hcl : cur.toList with
    | [] => simp at hcl; subst hcl; simp at this
    | c :: r => simp
  · rw [skeys_sdel h.so hin, show (sdel L k).length = L.length - 1 by omega]
    exact ownsRow_same hown fun g hg => by cases hg; exact Below.heap_setCell _ _ _ _ (show bk ≠ ba from fun e => n8 e.symm)
  · refine ownsRow_same h.kq fun g hg => ?_
    have hgl := ownsRow_blk h.kq g hg
    rw [hO, hg] at n4 n7 n9 n10
    exact far g hgl (fun e => n7 (by simp [e])) (fun e => n10 (by simp [e])) (fun e => n9 (by simp [e]))
  · have hh := h.nd
    unfold fpr at hh ⊢
    rw [if_neg hL0] at hh
    rw [if_neg hD0]
    exact hh
  · have hmem : ∀ g, g = bm ∨ g = bk ∨ g = ba → g ∈ fpr b bm (.slice (some ⟨ba, 0, none⟩) 1 bc) (.slice (some ⟨bk, 0, none⟩) L.length kc) vq L := by
      intro g hg
      unfold fpr
      rw [if_neg hL0]
      simp [Value.ownBlock]
      rcases hg with rfl | rfl | rfl <;> simp
    exact (((t1.mono fun g hg => by rw [List.mem_singleton.1 hg]; exact hmem _ (.inl rfl)).trans (fun _ hk => .inl hk) (Touch.of_below b2)).trans (fun _ hk => .inl hk) (t3.mono fun g hg => by rw [List.mem_singleton.1 hg]; exact hmem _ (.inr (.inl rfl)))).trans (fun _ hk => .inl hk) (Touch.setCell _ _ _ (hmem _ (.inr (.inr rfl))))
  · intro g hg
    left
    unfold fpr at hg ⊢
    rw [if_neg hD0] at hg
    rw [if_neg hL0]
    exact hg
end Go.Proofs.Ytedkhpnlhkjjgaa
