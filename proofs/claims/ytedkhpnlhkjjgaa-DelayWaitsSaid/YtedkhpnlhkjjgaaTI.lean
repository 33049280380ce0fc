/- The store: taking a key away, plain (the list, the map's datum, the map's block). -/
import Derived.Test.YtedkhpnlhkjjgaaT6
namespace Go.Proofs.Ytedkhpnlhkjjgaa
open Go.RowKit Go.Maps

/-- a key that is there stands in its place, and taking it away takes just that place -/
theorem sdel_parts (k : ByteArray) : ∀ L : SL, Rising (skeys L) → (sget L k).isSome = true → klo (skeys L) k < L.length ∧ (skeys L)[klo (skeys L) k]? = some k ∧ sdel L k = L.take (klo (skeys L) k) ++ L.drop (klo (skeys L) k + 1)
  | [], _, h => by simp [sget] at h
  | (a, va) :: r, hr, h => by
    have hrr : Rising (skeys r) := (List.pairwise_cons.1 hr).2
    have har : ∀ y ∈ skeys r, a.data.toList < y.data.toList := (List.pairwise_cons.1 hr).1
    by_cases e : a = k
    · subst e
      have hz : klo (skeys ((a, va) :: r)) a = 0 := by
        unfold klo
        rw [List.countP_eq_zero]
        intro y hy hd
        have hd := of_decide_eq_true hd
        rcases List.mem_cons.1 (show y ∈ a :: skeys r from hy) with rfl | hy
        · exact absurd hd (List.lt_irrefl _)
        · exact List.lt_asymm hd (har y hy)
      rw [hz]
      refine ⟨by simp, rfl, ?_⟩
      unfold sdel
      rw [List.filter_cons_of_neg (by simp [keq_self])]
      simp only [List.take_zero, Nat.zero_add, List.drop_succ_cons, List.drop_zero, List.nil_append]
      rw [List.filter_eq_self]
      intro p hp
      have hl := har p.1 (List.mem_map.2 ⟨p, hp, rfl⟩)
      have hne : p.1 ≠ a := fun e => by rw [e] at hl; exact absurd hl (List.lt_irrefl _)
      simp [keq_ne hne]
    · have hk : (sget r k).isSome = true := by
        unfold sget at h ⊢
        rwa [List.find?_cons_of_neg (by simp [keq_ne e])] at h
      obtain ⟨h1, h2, h3⟩ := sdel_parts k r hrr hk
      have hak : a.data.toList < k.data.toList := har k (List.mem_of_getElem? h2)
      have hs : klo (skeys ((a, va) :: r)) k = klo (skeys r) k + 1 := by
        show (a :: skeys r).countP _ = _
        rw [List.countP_cons_of_pos (by simpa using hak)]
        rfl
      rw [hs]
      refine ⟨by simpa using h1, h2, ?_⟩
      unfold sdel at h3 ⊢
      rw [List.filter_cons_of_pos (by simp [keq_ne e]), h3]
      rfl
theorem skeys_sdel {k : ByteArray} {L : SL} (hr : Rising (skeys L)) (h : (sget L k).isSome = true) : skeys (sdel L k) = (skeys L).take (klo (skeys L) k) ++ (skeys L).drop (klo (skeys L) k + 1) := by
  rw [(sdel_parts k L hr h).2.2]
  simp [skeys, List.map_take, List.map_drop]
theorem length_sdel {k : ByteArray} {L : SL} (hr : Rising (skeys L)) (h : (sget L k).isSome = true) : (sdel L k).length + 1 = L.length := by
  obtain ⟨h1, _, h3⟩ := sdel_parts k L hr h
  rw [h3, List.length_append, List.length_take, List.length_drop]
  omega
theorem rising_sdel {k : ByteArray} {L : SL} (hr : Rising (skeys L)) : Rising (skeys (sdel L k)) := by
  unfold skeys sdel
  exact List.Pairwise.sublist (List.filter_sublist.map _) hr
theorem Rep.del {D : DataW Unit} {L : SL} (h : Rep D L) (hr : Rising (skeys L)) (k : ByteArray) : Rep (D.del (.string k.data.toList)) (sdel L k) := by
  refine ⟨h.td.del _, fun k' => ?_, fun k' z => ?_, ?_⟩
  · rw [sget_sdel]
    by_cases e : k' = k
    · rw [if_pos e, e, has_del_same]; rfl
    · rw [if_neg e, has_del_other (fun hh => e (lit_inj hh)), h.has]
  · rw [sget_sdel]
    by_cases e : k' = k
    · rw [if_pos e, e, atKey_del_same]
    · rw [if_neg e, atKey_del_other (fun hh => e (lit_inj hh)), h.at_]
  · have hs := size_del h.td (k := .string k.data.toList)
    rw [h.has, h.sz] at hs
    cases hh : (sget L k).isSome with
    | true =>
      have := length_sdel hr hh
      rw [hh, if_pos rfl] at hs
      omega
    | false =>
      rw [hh] at hs
      have he : sdel L k = L := by
        unfold sdel
        rw [List.filter_eq_self]
        intro p hp
        simp [sget_none hh p hp]
      rw [he]
      simpa using hs
/-- 'delete(m, k)' -/
theorem MapAt.del {w : World} {bm : Nat} {L : SL} (h : MapAt w bm L) (hr : Rising (skeys L)) (k : ByteArray) (hk : k.size ≤ maxLen) (ty : TypeId) :
    ∃ w', (Builtin.delete_ #[103, 9] ty #[.map (some bm), .string k]).run Try.prog w = .ok (.tuple #[]) w' ∧ MapAt w' bm (sdel L k) ∧ Touch [bm] w w' := by
  obtain ⟨D, ho, hR⟩ := h
  obtain ⟨w', hrun, ho', hg⟩ := ho.drop skeyed Try.underlying103 (keyOf_s hk) ty
  have hR' := hR.del hr k
  refine ⟨w', hrun, ⟨_, by rw [← hR'.sz]; exact ownsMap_size ho', hR'⟩, ?_⟩
  exact Touch.grown hg.grown fun k hk => by cases hk; simp
end Go.Proofs.Ytedkhpnlhkjjgaa
