/- The store: taking a key away, plain (the list, the map's datum, the map's block). -/
import Derived.Test.YthloohoefjmmoaaG06
import Derived.Deep.RegionWith
namespace Go.Proofs.Ythloohoefjmmoaa
open Go.RowKit Go.Maps

/-- a key that is there stands in its place, and taking it away takes just that place -/
theorem sdel_parts (k : ByteArray) : ∀ L : SL, Rising (skeys L) → (sget L k).isSome = true → klo (skeys L) k < L.length ∧ (skeys L)[klo (skeys L) k]? = some k ∧ sdel L k = L.take (klo (skeys L) k) ++ L.drop (klo (skeys L) k + 1)
  | [], _, h => by simp [sget] at h
  | (a, va) :: r, hr, h => by
    have hrr : Rising (skeys r) := (List.pairwise_cons.1 hr).2
    have har : ∀ y ∈ skeys r, a.data.toList < y.data.toList := (List.pairwise_cons.1 hr).1
    by_cases e : a = k
    · subst e
      have hz : klo (skeys ((a, va) :: r)) a = 0 := by
        unfold klo
        rw [List.countP_eq_zero]
        intro y hy hd
        have hd := of_decide_eq_true hd
        rcases List.mem_cons.1 (show y ∈ a :: skeys r from hy) with rfl | hy
        · exact absurd hd (List.lt_irrefl _)
        · exact List.lt_asymm hd (har y hy)
      rw [hz]
      refine ⟨by simp, rfl, ?_⟩
      unfold sdel
      rw [List.filter_cons_of_neg (by simp [keq_self])]
      simp only [List.take_zero, Nat.zero_add, List.drop_succ_cons, List.drop_zero, List.nil_append]
      rw [List.filter_eq_self]
      intro p hp
      have hl := har p.1 (List.mem_map.2 ⟨p, hp, rfl⟩)
      have hne : p.1 ≠ a := fun e => by rw [e] at hl; exact absurd hl (List.lt_irrefl _)
      simp [keq_ne hne]
    · have hk : (sget r k).isSome = true := by
        unfold sget at h ⊢
        rwa [List.find?_cons_of_neg (by simp [keq_ne e])] at h
      obtain ⟨h1, h2, h3⟩ := sdel_parts k r hrr hk
      have hak : a.data.toList < k.data.toList := har k (List.mem_of_getElem? h2)
      have hs : klo (skeys ((a, va) :: r)) k = klo (skeys r) k + 1 := by
        show (a :: skeys r).countP _ = _
        rw [List.countP_cons_of_pos (by simpa using hak)]
        rfl
      rw [hs]
      refine ⟨by simpa using h1, h2, ?_⟩
      unfold sdel at h3 ⊢
      rw [List.filter_cons_of_pos (by simp [keq_ne e]), h3]
      rfl
theorem skeys_sdel {k : ByteArray} {L : SL} (hr : Rising (skeys L)) (h : (sget L k).isSome = true) : skeys (sdel L k) = (skeys L).take (klo (skeys L) k) ++ (skeys L).drop (klo (skeys L) k + 1) := by
  rw [(sdel_parts k L hr h).2.2]
  simp [skeys, List.map_take, List.map_drop]
theorem length_sdel {k : ByteArray} {L : SL} (hr : Rising (skeys L)) (h : (sget L k).isSome = true) : (sdel L k).length + 1 = L.length := by
  obtain ⟨h1, _, h3⟩ := sdel_parts k L hr h
  rw [h3, List.length_append, List.length_take, List.length_drop]
  omega
theorem rising_sdel {k : ByteArray} {L : SL} (hr : Rising (skeys L)) : Rising (skeys (sdel L k)) := by
  unfold skeys sdel
  exact List.Pairwise.sublist (List.filter_sublist.map _) hr
theorem Rep.del {D : DataW Unit} {L : SL} (h : Rep D L) (hr : Rising (skeys L)) (k : ByteArray) : Rep (D.del (.string k.data.toList)) (sdel L k) := by
  refine ⟨h.td.del _, fun k' => ?_, fun k' z => ?_, ?_⟩
  · rw [sget_sdel]
    by_cases e : k' = k
    · rw [if_pos e, e, has_del_same]; rfl
    · rw [if_neg e, has_del_other (fun hh => e (lit_inj hh)), h.has]
  · rw [sget_sdel]
    by_cases e : k' = k
    · rw [if_pos e, e, atKey_del_same]
    · rw [if_neg e, atKey_del_other (fun hh => e (lit_inj hh)), h.at_]
  · have hs := size_del h.td (k := .string k.data.toList)
    rw [h.has, h.sz] at hs
    cases hh : (sget L k).isSome with
    | true =>
      have := length_sdel hr hh
      rw [hh, if_pos rfl] at hs
      omega
    | false =>
      rw [hh] at hs
      have he : sdel L k = L := by
        unfold sdel
        rw [List.filter_eq_self]
        intro p hp
        simp [sget_none hh p hp]
      rw [he]
      simpa using hs
/-- 'delete(m, k)' -/
theorem MapAt.del {w : World} {bm : Nat} {L : SL} (h : MapAt w bm L) (hr : Rising (skeys L)) (k : ByteArray) (hk : k.size ≤ maxLen) (ty : TypeId) :
    ∃ w', (Builtin.delete_ #[51, 9] ty #[.map (some bm), .string k]).run Try.prog w = .ok (.tuple #[]) w' ∧ MapAt w' bm (sdel L k) ∧ Touch [bm] w w' := by
  obtain ⟨D, ho, hR⟩ := h
  obtain ⟨w', hrun, ho', hg⟩ := ho.drop skeyed Try.underlying51 (keyOf_s hk) ty
  have hR' := hR.del hr k
  refine ⟨w', hrun, ⟨_, by rw [← hR'.sz]; exact ownsMap_size ho', hR'⟩, ?_⟩
  exact Touch.grown hg.grown fun k hk => by cases hk; simp
end Go.Proofs.Ythloohoefjmmoaa

namespace Go.Proofs.Ythloohoefjmmoaa
open Go.RowKit Go.Maps Go.Sort

theorem strsOf_map (ks : List ByteArray) : ((Lib.strsOf (fun i => ks.getD i ⟨#[]⟩) ks.length).map encStr) = ks.map Value.string := by
  unfold Lib.strsOf
  rw [List.map_map]
  refine List.ext_getElem (by simp) fun i h1 h2 => ?_
  have hi : i < ks.length := by simpa using h2
  simp [encStr, List.getD, List.getElem?_eq_getElem hi]
def slEnc (x : Option Addr × Nat × Nat) : Value := .slice x.1 x.2.1 x.2.2
theorem slOne : OneCell slEnc := fun _ => rfl
theorem slInfo : (Try.prog.info? 92).map (·.size) = some 1 := by kernel_rfl
theorem putRow_block {α : Type} [Inhabited α] {enc : α → Value} {w : World} {blk : Nat} {cur : Array Value} {t : TypeId} {fr : Nat × Nat} (d : Array α) (hg : w.heap[blk]? = some (.cells cur t fr)) : (putRow enc w blk 0 d).heap[blk]? = some (.cells (putCells enc 0 d cur) t fr) := by
  unfold putRow mapBlock
  simp [Array.getElem?_modify, hg, onCells]
theorem putRow_touch {α : Type} [Inhabited α] {enc : α → Value} (w : World) (q blk : Nat) (d : Array α) : Touch [blk] w (putRow enc (Sort.ahead w q) blk 0 d) := by
  refine ⟨rfl, rfl, rfl, by simp [putRow, mapBlock, Sort.ahead], fun k hk hn => ?_⟩
  have hne : ¬ blk = k := fun e => hn (by simp [e])
  simp [putRow, mapBlock, Sort.ahead, Array.getElem?_modify, hne]
/-- a block with one key less -/
def Seg.cut (s : Seg) (j : Nat) : Seg := ⟨s.g, s.o, s.c, s.ks.take j ++ s.ks.drop (j + 1)⟩
theorem Seg.cut_len {s : Seg} {j : Nat} (hj : j < s.ks.length) : (s.cut j).ks.length = s.ks.length - 1 := by unfold Seg.cut; simp; omega
theorem del_seg (s : Seg) (j : Nat) (w : World) (hk : s.At w) (hj : j < s.ks.length) :
    Calls Try.prog 68 #[.slice (some ⟨s.g, s.o, none⟩) s.ks.length s.c, .int .i64 (j : Nat), .int .i64 ((j + 1 : Nat) : Int)] w fun e w' => e = .returned (.slice (some ⟨s.g, s.o, none⟩) (s.ks.length - 1) s.c) ∧
      (s.cut j).At w' ∧ Touch [s.g] w w' ∧ ∀ t : Seg, t.Apart s → t.At w → t.At w' := by
  obtain ⟨cur, hg, hsz, hcs⟩ := hk.row
  have hle := hk.le
  have hmost := hk.most
  have hcell : ∀ i, i < s.ks.length → w.cell? ⟨s.g, s.o + i, none⟩ = some (.string (s.ks.getD i ⟨#[]⟩)) := fun i hi => by
    rw [hk.cell (List.getElem?_eq_getElem hi)]
    simp [List.getD, List.getElem?_eq_getElem hi]
  refine (Try.slices_Delete_string_cells s.g s.o s.ks.length s.c j (j + 1) (fun i => s.ks.getD i ⟨#[]⟩) w hle (by unfold maxLen at hmost; omega) (by omega) (by omega) hcell (fun i _ => hp_free hg)).mono ?_
  rintro e w' ⟨he, q, rfl⟩
  rw [show j + 1 - j = 1 by omega] at he
  have hvs : (((Lib.strsOf (fun i => s.ks.getD i ⟨#[]⟩) s.ks.length).take j ++ (Lib.strsOf (fun i => s.ks.getD i ⟨#[]⟩) s.ks.length).drop (j + 1) ++ List.replicate (j + 1 - j) []).map encStr) = (s.ks.take j ++ s.ks.drop (j + 1)).map Value.string ++ [.string ⟨#[]⟩] := by
    rw [show j + 1 - j = 1 by omega, List.map_append, List.map_append, List.map_take, List.map_drop, strsOf_map]
    simp [encStr, List.map_take, List.map_drop]
  rw [hvs]
  have hlen : ((s.ks.take j ++ s.ks.drop (j + 1)).map Value.string).length = s.ks.length - 1 := by simp; omega
  obtain ⟨VS, eVS⟩ : ∃ VS, VS = (s.ks.take j ++ s.ks.drop (j + 1)).map Value.string ++ [Value.string ⟨#[]⟩] := ⟨_, rfl⟩
  have hvl : VS.length = s.ks.length := by rw [eVS, List.length_append, hlen]; simp; omega
  rw [← eVS]
  have ht : Touch [s.g] w ((w.drewN q).setCells s.g s.o VS) := (show Touch [s.g] w (w.drewN q) from ⟨rfl, rfl, rfl, Nat.le_refl _, fun _ _ _ => rfl⟩).trans (fun _ hk => .inl hk) (touch_setCells s.g (by simp) _ _ _)
  obtain ⟨r1, r2⟩ := seg_put hk cur _ hg hsz (heap_setCells_row VS s.o (show (w.drewN q).heap[s.g]? = _ from hg)) (putA_size _ _ _) (fun k hk => putA_out _ _ _ _ (by rw [hvl]; omega)) ht (s.ks.take j ++ s.ks.drop (j + 1)) (by have h9 : (s.ks.take j ++ s.ks.drop (j + 1)).length = s.ks.length - 1 := (List.length_map (f := Value.string) ..).symm.trans hlen; omega) (fun i u hi => by
    have hil := (List.getElem?_eq_some_iff.1 hi).1
    have hil2 : i < s.ks.length - 1 := by rw [← hlen, List.length_map]; exact hil
    rw [putA_in _ _ _ _ (by rw [hvl]; omega) (by rw [hvl]; omega), eVS, List.getElem?_append_left (by rw [hlen]; exact hil2), List.getElem?_map, hi]
    rfl)
  exact ⟨he, r1, ht, r2⟩
/-- one block of the blocks goes -/
theorem del_rows (ba bc N : Nat) (P S : List Seg) (s : Seg) (w : World) (hN : (P ++ s :: S).length = N) (hk : w.ownsRow 0 92 1 (.slice (some ⟨ba, 0, none⟩) N bc) N ((P ++ s :: S).map Seg.val)) :
    Calls Try.prog 69 #[.slice (some ⟨ba, 0, none⟩) N bc, .int .i64 (P.length : Nat), .int .i64 ((P.length + 1 : Nat) : Int)] w fun e w' => e = .returned (.slice (some ⟨ba, 0, none⟩) (N - 1) bc) ∧
      w'.ownsRow 0 92 1 (.slice (some ⟨ba, 0, none⟩) (N - 1) bc) (N - 1) ((P ++ S).map Seg.val) ∧ Touch [ba] w w' := by
  obtain ⟨cur, hg, hnc, hcm, hcs, hct, hxl⟩ := ownsRow_open hk
  rw [Nat.mul_one] at hcs hct hxl
  obtain ⟨i0, hi, hs⟩ := Option.map_eq_some_iff.1 slInfo
  obtain ⟨pr, hpr⟩ : ∃ pr : Seg → Option Addr × Nat × Nat, pr = fun s => (some ⟨s.g, s.o, none⟩, s.ks.length, s.c) := ⟨_, rfl⟩
  have hen : ∀ t, slEnc (pr t) = t.val := fun t => by rw [hpr]; rfl
  have hNl : N = P.length + (S.length + 1) := by rw [← hN]; simp
  have hds : (((P ++ s :: S).map pr).toArray).size = N := by rw [List.size_toArray, List.length_map, hN]
  have hH : Holds slEnc w ba 0 ((P ++ s :: S).map pr).toArray := fun j hj => by
    rw [hds] at hj
    have hj2 : j < (P ++ s :: S).length := by rw [hN]; exact hj
    refine ⟨?_, hp_free hg⟩
    rw [Nat.zero_add, getElem!_pos _ j (by rw [hds]; exact hj), List.getElem_toArray, List.getElem_map, hen]
    exact ownsRow_cell hk rfl (by rw [List.getElem?_map, List.getElem?_eq_getElem hj2]; rfl)
  have hd := Try.slices_Delete_f69 slEnc slOne (none, 0, 0) (fun w => Try.zeroValue92 w) i0 hi hs ba 0 bc P.length (P.length + 1) ((P ++ s :: S).map pr).toArray w hH (by rw [hds]; exact hnc) (by unfold maxLen at hcm; omega) (by omega) (by rw [hds]; omega)
  rw [hds, show P.length + 1 - P.length = 1 by omega] at hd
  refine hd.mono ?_
  rintro e w' ⟨he, q, rfl⟩
  refine ⟨he, ?_, putRow_touch w q ba _⟩
  have hL : (((P ++ s :: S).map pr).toArray.toList.take P.length ++ ((P ++ s :: S).map pr).toArray.toList.drop (P.length + 1) ++ List.replicate 1 (none, 0, 0)) = (P ++ S).map pr ++ [(none, 0, 0)] := by
    have e1 : (P ++ s :: S).map pr = (P.map pr ++ [pr s]) ++ S.map pr := by simp
    have l1 : (P.map pr ++ [pr s]).length = P.length + 1 := by simp
    have e2 : ((P ++ s :: S).map pr).take P.length = P.map pr := by rw [List.map_append]; exact List.take_left' (by simp)
    rw [List.toList_toArray, e2, e1, List.drop_left' l1, List.map_append]
    rfl
  rw [hL]
  refine ownsRow_shut (putRow_block _ (show (Sort.ahead w q).heap[ba]? = _ from hg)) (by omega) hcm (by simp [putCells, hcs]) ?_ (by simp; omega)
  rw [Nat.mul_one]
  refine List.ext_getElem? fun j => ?_
  rw [List.getElem?_take]
  by_cases hj : j < N - 1
  · rw [if_pos hj]
    have hj2 : j < (P ++ S).length := by simp; omega
    have hjc : j < cur.size := by omega
    have hj3 : j < ((P ++ S).map pr ++ [(none, 0, 0)]).toArray.size := by simp at hj2 ⊢; omega
    rw [Array.getElem?_toList, putCells, Array.getElem?_mapIdx, Array.getElem?_eq_getElem hjc]
    simp only [Option.map_some]
    rw [if_pos ⟨Nat.zero_le _, by rw [Nat.zero_add]; exact hj3⟩, Nat.sub_zero, getElem!_pos _ j hj3, List.getElem_toArray, List.getElem_append_left (by simpa using hj2), List.getElem_map, hen, List.getElem?_map, List.getElem?_eq_getElem hj2]
    rfl
  · rw [if_neg hj, List.getElem?_eq_none (by simp; omega)]
end Go.Proofs.Ythloohoefjmmoaa

namespace Go.Proofs.Ythloohoefjmmoaa
open Go.RowKit Go.Maps Go.Sort

/-- what a change of the keys leaves -/
def KeysLeft (b bm : Nat) (vb : Value) (G : List Seg) (vq : Value) (ks' : List ByteArray) (w w' : World) : Prop :=
  ∃ vb' G', KeysAt w' b bm vb' G' vq ks' ∧ Touch (kfp b vb G) w w' ∧ ∀ k ∈ kfp b vb' G', k ∈ kfp b vb G ∨ w.heap.size ≤ k
theorem seg_fin {w W : World} {b bm : Nat} {vb vb' vq : Value} {P S M : List Seg} {s : Seg} {ks ks' : List ByteArray} (h : KeysAt w b bm vb (P ++ s :: S) vq ks) (hso : Rising ks') (hfl : flat P ++ (flat M ++ flat S) = ks')
    (hr : W.heap[b]? = some (.cells #[.map (some bm), vb', vq] 55 (0, 0))) (hkb : W.ownsRow 0 92 1 vb' (P ++ (M ++ S)).length ((P ++ (M ++ S)).map Seg.val)) (hA : ∀ t : Seg, t.Apart s → t.At w → t.At W)
    (hMA : ∀ t ∈ M, t.At W) (hMn : ∀ t ∈ M, 0 < t.ks.length ∧ t.ks.length ≤ 128) (hMp : M.Pairwise Seg.Apart) (hMg : ∀ t ∈ M, (t.g = s.g ∧ s.o ≤ t.o ∧ t.o + t.c ≤ s.o + s.c) ∨ w.heap.size ≤ t.g)
    (ht : Touch (kfp b vb (P ++ s :: S)) w W) (hvb : ∀ k, vb'.ownBlock = some k → vb.ownBlock = some k ∨ w.heap.size ≤ k) : KeysLeft b bm vb (P ++ s :: S) vq ks' w W := by
  obtain ⟨a1, a2, a3⟩ := List.pairwise_append.1 h.kk.ap
  obtain ⟨a4, a5⟩ := List.pairwise_cons.1 a2
  have hPs : ∀ t ∈ P, t.Apart s := fun t hm => a3 t hm s (by simp)
  have hSs : ∀ t ∈ S, t.Apart s := fun t hm => (a4 t hm).symm
  have hmv : ∀ t : Seg, t.Apart s → t.At w → ∀ u ∈ M, t.Apart u := fun t hA hT u hu => by
    rcases hMg u hu with ⟨e1, e2, e3⟩ | e1
    · rcases hA with h | h | h
      · exact .inl fun e => h (e.trans e1)
      · exact .inr (.inl (by omega))
      · exact .inr (.inr (by omega))
    · exact .inl fun e => by have := hT.lt; omega
  refine ⟨vb', P ++ (M ++ S), ⟨hr, hkb, ⟨fun t hm => ?_, fun t hm => ?_, ?_⟩, ?_, hso⟩, ht, fun k hk => ?_⟩
  · rcases List.mem_append.1 hm with hm | hm
    · exact hA t (hPs t hm) (h.kk.at_ t (by simp [hm]))
    · rcases List.mem_append.1 hm with hm | hm
      · exact hMA t hm
      · exact hA t (hSs t hm) (h.kk.at_ t (by simp [hm]))
  · rcases List.mem_append.1 hm with hm | hm
    · exact h.kk.ne t (by simp [hm])
    · rcases List.mem_append.1 hm with hm | hm
      · exact hMn t hm
      · exact h.kk.ne t (by simp [hm])
  · refine List.pairwise_append.2 ⟨a1, List.pairwise_append.2 ⟨hMp, a5, fun u hu t hm => (hmv t (hSs t hm) (h.kk.at_ t (by simp [hm])) u hu).symm⟩, fun t hm u hu => ?_⟩
    rcases List.mem_append.1 hu with hu | hu
    · exact hmv t (hPs t hm) (h.kk.at_ t (by simp [hm])) u hu
    · exact a3 t hm u (by simp [hu])
  · rw [flat_app, flat_app]; exact hfl
  · rcases mem_kfp.1 hk with rfl | hk | ⟨t, hm, rfl⟩
    · exact .inl (mem_kfp.2 (.inl rfl))
    · rcases hvb k hk with h1 | h1
      · exact .inl (mem_kfp.2 (.inr (.inl h1)))
      · exact .inr h1
    · rcases List.mem_append.1 hm with hm | hm
      · exact .inl (mem_kfp.2 (.inr (.inr ⟨t, by simp [hm], rfl⟩)))
      · rcases List.mem_append.1 hm with hm | hm
        · rcases hMg t hm with ⟨e1, _⟩ | e1
          · exact .inl (mem_kfp.2 (.inr (.inr ⟨s, by simp, e1.symm⟩)))
          · exact .inr e1
        · exact .inl (mem_kfp.2 (.inr (.inr ⟨t, by simp [hm], rfl⟩)))
/-- the keys less one -/
theorem del_flat {P S : List Seg} {s : Seg} {x : ByteArray} {j : Nat} (hkl : klo (flat (P ++ s :: S)) x = (flat P).length + j) (hj : j < s.ks.length) : (flat (P ++ s :: S)).take (klo (flat (P ++ s :: S)) x) ++ (flat (P ++ s :: S)).drop (klo (flat (P ++ s :: S)) x + 1) = flat P ++ ((s.ks.take j ++ s.ks.drop (j + 1)) ++ flat S) := by
  rw [hkl, flat_app, flat_cons]
  have e1 : (flat P ++ (s.ks ++ flat S)).take ((flat P).length + j) = flat P ++ s.ks.take j := by
    rw [List.take_append, List.take_of_length_le (by omega), Nat.add_sub_cancel_left, List.take_append_of_le_length (by omega)]
  have e2 : (flat P ++ (s.ks ++ flat S)).drop ((flat P).length + j + 1) = s.ks.drop (j + 1) ++ flat S := by
    rw [Nat.add_assoc, List.drop_append, List.drop_of_length_le (by omega), Nat.add_sub_cancel_left, List.drop_append_of_le_length (by omega), List.nil_append]
  rw [e1, e2]
  simp only [List.append_assoc]
/-- behind slices.Delete of the key -/
theorem DelW.of {w w2 w3 : World} {b bm ba bc : Nat} {vq : Value} {P S : List Seg} {s : Seg} {ks : List ByteArray} {j : Nat} (h : KeysAt w b bm (.slice (some ⟨ba, 0, none⟩) (P ++ s :: S).length bc) (P ++ s :: S) vq ks) (hB : Below w.heap.size w w2) (hA : (s.cut j).At w3) (ht : Touch [s.g] w2.drew w3) (ho : ∀ t : Seg, t.Apart s → t.At w2.drew → t.At w3) : InsW w w3 b bm ba bc vq P S s (s.cut j) := by
  have hm : s ∈ P ++ s :: S := by simp
  have hst : ∀ k, k < w.heap.size → k ≠ s.g → w3.heap[k]? = w.heap[k]? := fun k hk hne => (ht.block k (Nat.lt_of_lt_of_le hk hB.size) (by simpa using hne)).trans (hB.block k hk)
  exact ⟨(hst b (hp_lt h.r) (h.seg_b hm).symm).trans h.r, ownsRow_same h.kb fun k hk => hst k (ownsRow_blk h.kb k hk) (h.seg_ba hm hk).symm, hA, fun t hA hT => ho t hA (hT.same (hB.block _ hT.lt)), .inl ⟨rfl, rfl, rfl⟩, (touch_drew (Touch.of_below hB)).trans (fun _ hk => .inl hk) (ht.mono fun k hk => by rw [List.mem_singleton.1 hk]; exact mem_kfp.2 (.inr (.inr ⟨s, hm, rfl⟩)))⟩
/-- others stay in the block -/
theorem del_done {w w3 : World} {b bm ba bc : Nat} {vq : Value} {P S : List Seg} {s : Seg} {ks ks' : List ByteArray} {j : Nat} (h : KeysAt w b bm (.slice (some ⟨ba, 0, none⟩) (P ++ s :: S).length bc) (P ++ s :: S) vq ks) (hso : Rising ks') (hfl : flat P ++ ((s.ks.take j ++ s.ks.drop (j + 1)) ++ flat S) = ks') (hj : j < s.ks.length) (h2 : 2 ≤ s.ks.length) (hi : InsW w w3 b bm ba bc vq P S s (s.cut j)) :
    KeysLeft b bm (.slice (some ⟨ba, 0, none⟩) (P ++ s :: S).length bc) (P ++ s :: S) vq ks' w (w3.setCell ⟨ba, P.length, none⟩ (.slice (some ⟨s.g, s.o, none⟩) (s.ks.length - 1) s.c)) := by
  have hv : (s.cut j).val = .slice (some ⟨s.g, s.o, none⟩) (s.ks.length - 1) s.c := by unfold Seg.val; rw [Seg.cut_len hj]; rfl
  rw [← hv]
  have hm : s ∈ P ++ s :: S := by simp
  have hn8 := (h.kk.ne s hm).2
  have hS : ∀ t : Seg, t.At w3 → t.At (w3.setCell ⟨ba, P.length, none⟩ (s.cut j).val) := fun t ht => ht.same (Below.heap_setCell _ _ _ _ (hi.at_ba ht).1)
  have hkb := ownsRow_set (i := P.length) hi.kb (s.cut j).val
  rw [set_mid] at hkb
  have hlen : (P ++ ([s.cut j] ++ S)).length = (P ++ s :: S).length := by simp
  refine seg_fin (M := [s.cut j]) h hso (by rw [← hfl, flat_cons]; simp [flat, Seg.cut]) ((Below.heap_setCell _ _ _ _ hi.ba_b).trans hi.r) (by rw [hlen]; exact hkb) (fun t hA hT => hS t (hi.o t hA hT)) (fun t hm => by rw [List.mem_singleton.1 hm]; exact hS _ hi.a) (fun t hm => by rw [List.mem_singleton.1 hm, Seg.cut_len hj]; omega) (List.pairwise_singleton _ _) (fun t hm => ?_) (hi.t.trans (fun _ hk => .inl hk) (Touch.setCell _ _ _ (mem_kfp.2 (.inr (.inl rfl))))) (fun k hk => .inl hk)
  rw [List.mem_singleton.1 hm]
  exact .inl ⟨rfl, Nat.le_refl _, Nat.le_refl _⟩
/-- the block goes -/
theorem del_done1 {w w3 w5 : World} {b bm ba bc : Nat} {vq : Value} {P S : List Seg} {s : Seg} {ks ks' : List ByteArray} {j : Nat} (h : KeysAt w b bm (.slice (some ⟨ba, 0, none⟩) (P ++ s :: S).length bc) (P ++ s :: S) vq ks) (hso : Rising ks') (hfl : flat P ++ ((s.ks.take j ++ s.ks.drop (j + 1)) ++ flat S) = ks') (hj : j < s.ks.length) (h1 : s.ks.length = 1) (hi : InsW w w3 b bm ba bc vq P S s (s.cut j)) (v : Value)
    (hown : w5.ownsRow 0 92 1 (.slice (some ⟨ba, 0, none⟩) ((P ++ s :: S).length - 1) bc) ((P ++ s :: S).length - 1) ((P ++ S).map Seg.val)) (ht : Touch [ba] (w3.setCell ⟨ba, P.length, none⟩ v) w5) :
    KeysLeft b bm (.slice (some ⟨ba, 0, none⟩) (P ++ s :: S).length bc) (P ++ s :: S) vq ks' w (w5.setCell ⟨b, 1, none⟩ (.slice (some ⟨ba, 0, none⟩) ((P ++ s :: S).length - 1) bc)) := by
  have t3 : Touch [ba] w3 w5 := (Touch.setCell w3 ⟨ba, P.length, none⟩ v (by simp)).trans (fun _ hk => .inl hk) ht
  have hs3 : ∀ k, k < w3.heap.size → k ≠ ba → w5.heap[k]? = w3.heap[k]? := fun k hk hne => t3.block k hk (by simpa using hne)
  have hS : ∀ t : Seg, t.At w3 → t.At (w5.setCell ⟨b, 1, none⟩ (.slice (some ⟨ba, 0, none⟩) ((P ++ s :: S).length - 1) bc)) := fun t hT => (hT.same (hs3 t.g hT.lt (hi.at_ba hT).1)).same (Below.heap_setCell _ _ _ _ (hi.at_ba hT).2)
  have hlen : (P ++ ([] ++ S)).length = (P ++ s :: S).length - 1 := by simp
  have h0 : s.ks.take j ++ s.ks.drop (j + 1) = [] := List.length_eq_zero_iff.1 (by simp; omega)
  refine seg_fin (vb' := .slice (some ⟨ba, 0, none⟩) ((P ++ s :: S).length - 1) bc) (M := []) h hso (by rw [← hfl, h0]; rfl) ?_ (by rw [hlen]; exact ownsRow_same hown fun k hk => by cases hk; exact Below.heap_setCell _ _ _ _ (show ba ≠ b from hi.ba_b.symm)) (fun t hA hT => hS t (hi.o t hA hT)) (fun t hm => by cases hm) (fun t hm => by cases hm) List.Pairwise.nil (fun t hm => by cases hm) ?_ (fun k hk => .inl hk)
  · rw [heap_setCell_row ((hs3 b (hp_lt hi.r) hi.ba_b).trans hi.r)]
    rfl
  · exact (hi.t.trans (fun _ hk => .inl hk) (t3.mono fun k hk => by rw [List.mem_singleton.1 hk]; exact mem_kfp.2 (.inr (.inl rfl)))).trans (fun _ hk => .inl hk) (Touch.setCell _ _ _ (mem_kfp.2 (.inl rfl)))
/-- the whole store behind a change of its keys -/
theorem key_fin {w w1 W : World} {b bm : Nat} {vb vq : Value} {G : List Seg} {L L' : SL} {q : Nat} {qs : List Value} (h : StM w b bm vb G vq L q qs) (hm1 : MapAt w1 bm L') (t1 : Touch [bm] w w1) (hK : KeysLeft b bm vb G vq (skeys L') w1 W) : PutPost b bm vb G vq L L' q qs w (.returned (.tuple #[])) W := by
  obtain ⟨vb', G', hk, ht, hF⟩ := hK
  refine ⟨rfl, vb', G', ⟨hk, hm1.same (ht.block bm hm1.lt h.bm_kfp), ownsRow_same h.kq fun g hg => ?_⟩, ?_, fun k hk => ?_⟩
  · have hl := ownsRow_blk h.kq g hg
    exact (ht.block g (Nat.lt_of_lt_of_le hl t1.size) (h.vq_kfp g hg).2).trans (t1.block g hl (by simpa using (h.vq_kfp g hg).1))
  · exact (t1.mono fun k hk => by rw [List.mem_singleton.1 hk]; exact (fpr_kfp _ _ _ _ _ _ _).2 (.inl rfl)).trans (fun _ hk => .inl hk) (ht.mono fun k hk => (fpr_kfp _ _ _ _ _ _ _).2 (.inr (.inl hk)))
  · rcases (fpr_kfp _ _ _ _ _ _ _).1 hk with h1 | h1 | h1
    · exact .inl ((fpr_kfp _ _ _ _ _ _ _).2 (.inl h1))
    · rcases hF k h1 with h2 | h2
      · exact .inl ((fpr_kfp _ _ _ _ _ _ _).2 (.inr (.inl h2)))
      · right; have := t1.size; omega
    · exact .inl ((fpr_kfp _ _ _ _ _ _ _).2 (.inr (.inr h1)))
set_option maxRecDepth 100000 in
set_option maxHeartbeats 4000000 in
theorem drop_live (b bm : Nat) (vb : Value) (vk : List Seg) (vq : Value) (L : SL) (q : Nat) (qs : List Value) (k : ByteArray) (w : World) (h : StM w b bm vb vk vq L q qs) (hk : k.size ≤ maxLen) (hN : L.length ≤ 1000000) (hin : (sget L k).isSome = true) :
    Calls Try.prog 65 #[.pointer (some ⟨b, 0, none⟩), .string k] w (PutPost b bm vb vk vq L (sdel L k) q qs w) := by
  obtain ⟨p1, p2, p3⟩ := sdel_parts k L h.so hin
  have hkl : (skeys L).length = L.length := by unfold skeys; simp
  have hfl := h.keys.fl
  have hGl := h.keys.len
  have hne : ∀ s ∈ vk, 0 < s.ks.length := fun s hm => (h.keys.kk.ne s hm).1
  obtain ⟨P, s, S, rfl, hg1, hk1, hjs⟩ : ∃ P s S, vk = P ++ s :: S ∧ gN vk k = P.length ∧ klo (skeys L) k = (flat P).length + klo s.ks k ∧ klo s.ks k < s.ks.length := by
    rcases plc_parts k vk (by rw [hfl]; exact h.so) hne with ⟨h1, h2⟩ | ⟨P, s, S, rfl, h1, h2, h3⟩
    · rw [hfl, hkl] at h2; omega
    · exact ⟨P, s, S, rfl, h1, by rw [← hfl]; exact h2, h3⟩
  have hpos : 0 < (P ++ s :: S).length := by rw [List.length_append, List.length_cons]; omega
  have hlt : P.length < (P ++ s :: S).length := by rw [List.length_append, List.length_cons]; omega
  obtain ⟨ba, bc, rfl, hba⟩ := ownsRow_form h.keys.kb hpos
  obtain ⟨w1, hdel, hm1, t1⟩ := h.m.del h.so k hk 0
  have hK1 : KeysAt w1 b bm (.slice (some ⟨ba, 0, none⟩) (P ++ s :: S).length bc) (P ++ s :: S) vq (skeys L) := h.keys.same fun g hg => t1.block g (h.keys.lt g hg) (by simp only [List.mem_singleton]; intro e; exact h.bm_kfp (e ▸ hg))
  have hcell : ∀ i (hi : i < (P ++ s :: S).length), w1.cell? ⟨ba, i, none⟩ = some (P ++ s :: S)[i].val := fun i hi => ownsRow_cell hK1.kb rfl (by rw [List.getElem?_map, List.getElem?_eq_getElem hi]; rfl)
  have HP := place_some b bm ba bc (P ++ s :: S) vq k w1 hpos (by omega) (by rw [hfl]; exact h.so) hK1.kk hK1.r hcell
  have hpl : plcI (P ++ s :: S) k = (P.length, klo s.ks k) := by
    unfold plcI
    rw [if_neg (by rw [hg1]; simp), hg1]
    rw [List.getD_eq_getElem?_getD, List.getElem?_append_right (Nat.le_refl _), Nat.sub_self]
    rfl
  rw [hpl] at HP
  obtain ⟨j, ej⟩ : ∃ j, j = klo s.ks k := ⟨_, rfl⟩
  rw [← ej] at HP hk1 hjs
  have hdf : flat P ++ ((s.ks.take j ++ s.ks.drop (j + 1)) ++ flat S) = skeys (sdel L k) := by
    rw [skeys_sdel h.so hin, ← hfl]
    exact (del_flat (by rw [hfl]; exact hk1) hjs).symm
  have hso := rising_sdel (k := k) h.so
  have hm : s ∈ P ++ s :: S := by simp
  have ha := hcell P.length hlt
  replace ha : w1.cell? ⟨ba, P.length, none⟩ = some (.slice (some ⟨s.g, s.o, none⟩) s.ks.length s.c) := by
    rw [ha]
    have : (P ++ s :: S)[P.length]'hlt = s := by simp
    rw [this]; rfl
  have hnl : 0 < s.ks.length := hne s hm
  have hn8 := (h.keys.kk.ne s hm).2
  have HW := Lib.hid (fun (w2 w3 : World) (hB : Below w1.heap.size w1 w2) (hA : (s.cut j).At w3) (ht : Touch [s.g] w2.drew w3) ho => DelW.of hK1 hB hA ht ho)
  have HF2 := Lib.hid (fun (w3 : World) (h2 : 2 ≤ s.ks.length) (hi : InsW w1 w3 b bm ba bc vq P S s (s.cut j)) => key_fin h hm1 t1 (del_done hK1 hso hdf hjs h2 hi))
  have HF1 := Lib.hid (fun (w3 w5 : World) (h2 : s.ks.length = 1) (hi : InsW w1 w3 b bm ba bc vq P S s (s.cut j)) v hown ht => key_fin h hm1 t1 (del_done1 (w5 := w5) hK1 hso hdf hjs h2 hi v hown ht))
  have HD := Lib.hid (fun (w2 : World) (hB : Below w1.heap.size w1 w2) => del_seg s j w2.drew ((hK1.kk.at_ s hm).same (hB.block _ (hK1.kk.at_ s hm).lt)) hjs)
  have HR := Lib.hid (fun (w3 : World) (hi : InsW w1 w3 b bm ba bc vq P S s (s.cut j)) (v : Value) (hv : v = (s.cut j).val) => del_rows ba bc (P ++ s :: S).length P S (s.cut j) (w3.setCell ⟨ba, P.length, none⟩ v) (by simp) (by
    have := ownsRow_set (i := P.length) hi.kb v
    rw [hv, set_mid] at this
    rw [hv]
    exact this))
  have hcv : (s.cut j).val = .slice (some ⟨s.g, s.o, none⟩) (s.ks.length - 1) s.c := by unfold Seg.val; rw [Seg.cut_len hjs]; rfl
  have HCv := Lib.hid hcv
  have c0 := (hp_cell (i := 0) h.r).trans rfl
  have lb := hp_lt h.r
  have HR1 := Lib.hid hK1.r
  have HA1 := Lib.hid ha
  have HPl := Lib.hid HP
  obtain ⟨i, ei⟩ : ∃ i, i = P.length := ⟨_, rfl⟩
  obtain ⟨N, eN⟩ : ∃ N, N = (P ++ s :: S).length := ⟨_, rfl⟩
  obtain ⟨n, en⟩ : ∃ n, n = s.ks.length := ⟨_, rfl⟩
  have hiN : i < N := by rw [ei, eN]; exact hlt
  have hN6 : N ≤ 1000000 := by rw [eN]; omega
  rw [← ei] at HF1 HF2 HR HA1 HPl
  rw [← eN] at HF1 HF2 HR HR1 ⊢
  rw [← en] at HF1 HF2 HD HA1 HCv hjs hn8 hnl
  have ei' := ei
  have eN' := eN
  clear hpos hlt h hk hN hin p1 p2 p3 hkl hfl hGl hne hg1 hk1 hba hm1 t1 hK1 hcell HP hpl ej hdf hso hm ha hcv ei eN en
  have Hei := Lib.hid (And.intro ei' eN')
  clear ei' eN'
  have i1 : (i : Int) < (N : Int) := by omega
  have i2 : (N : Int) ≤ 1000000 := by omega
  have i3 : (j : Int) < (n : Int) := by omega
  have i4 : (n : Int) ≤ 128 := by omega
  have hw1 : IntKind.i64.wrap ((j : Int) + 1) = (j : Int) + 1 := IntWalk.i64_in _ (by omega)
  have hw2 : IntKind.i64.wrap ((i : Int) + 1) = (i : Int) + 1 := IntWalk.i64_in _ (by omega)
  go_enter Try.func65, Try.ntmps65
  go_upto_region 2 with (go_at_call 43; refine HPl.out.mono ?_; rintro e w2 ⟨rfl, hb2⟩; have HB2 := Lib.hid hb2; have r2 := (hb2.block b (hp_lt HR1.out)).trans HR1.out; have a2 := (hb2.cell (p := ⟨ba, i, none⟩) (World.block_lt_of_cell? _ _ HA1.out)).trans HA1.out; clear hb2)
  have c1 := (hp_cell (i := 1) r2).trans rfl
  have hd := HD.out w2 HB2.out
  rw [show ((j + 1 : Nat) : Int) = (j : Int) + 1 by omega] at hd
  have HDx := Lib.hid hd
  have HWx := Lib.hid (fun w3 hA ht ho => HW.out w2 w3 HB2.out hA ht ho)
  have HRw := Lib.hid (fun (w3 : World) (hi : InsW w1 w3 b bm ba bc vq P S s (s.cut j)) => show w3.cell? ⟨b, 1, none⟩ = some (.slice (some ⟨ba, 0, none⟩) (P ++ s :: S).length bc) from (hp_cell (i := 1) hi.r).trans rfl)
  have HCl := Lib.hid (fun (w3 : World) (hi : InsW w1 w3 b bm ba bc vq P S s (s.cut j)) => show w3.cell? ⟨ba, P.length, none⟩ = some s.val from ownsRow_cell hi.kb rfl (by simp))
  have HFz := Lib.hid (fun (w3 : World) (hi : InsW w1 w3 b bm ba bc vq P S s (s.cut j)) => show w3.frozen? ⟨ba, P.length, none⟩ = false by obtain ⟨cs, hc⟩ := ownsRow_ty hi.kb rfl; exact hp_free hc)
  have HBa := Lib.hid (fun (w3 : World) (hi : InsW w1 w3 b bm ba bc vq P S s (s.cut j)) => hi.ba_b)
  rw [← Hei.out.1] at HCl HFz
  rw [← Hei.out.2] at HRw
  clear hd HD HW r2 hdel c0 HR1 HA1 HPl HB2
  by_cases h1 : n = 1
  · subst h1
    obtain rfl : j = 0 := by omega
    go_region_with (go_at_call 68; refine HDx.out.mono ?_; rintro e w3 ⟨rfl, hA, ht, ho⟩; have hi := HWx.out w3 hA ht ho; have HI := Lib.hid hi; have d1 := HRw.out w3 hi; have d2 := HCl.out w3 hi; have f2 := HFz.out w3 hi; have e1 := HBa.out w3 hi; clear hA ht ho hi)
    all_goals
      have hr4 : (w3.setCell ⟨ba, i, none⟩ (.slice (some ⟨s.g, s.o, none⟩) 0 s.c)).heap[b]? = some (.cells #[.map (some bm), .slice (some ⟨ba, 0, none⟩) N bc, vq] 55 (0, 0)) := by
        rw [Hei.out.2]; exact (Below.heap_setCell _ _ _ _ (show b ≠ ba from e1)).trans HI.out.r
      have hd5 := HR.out w3 HI.out (.slice (some ⟨s.g, s.o, none⟩) 0 s.c) (by rw [HCv.out])
      rw [show ((i + 1 : Nat) : Int) = (i : Int) + 1 by omega] at hd5
      have HD5 := Lib.hid hd5
      have g4 := (hp_cell (i := 1) hr4).trans rfl
      have HR4 := Lib.hid hr4
      clear hd5 hr4 d1 f2
      go_wp2_with (go_at_call 69; refine HD5.out.mono ?_; rintro e w5 ⟨rfl, hown, ht⟩; have r5 := (ht.block b (hp_lt HR4.out) (by simpa using e1)).trans HR4.out; have z1 := (hp_cell (i := 1) r5).trans rfl; have z2 := hp_free (i := 1) r5; have d3 := Lib.hid (HF1.out w3 w5 trivial HI.out _ hown ht); clear hown ht r5)
      go_end0
      exact d3.out
  · have hn2 : ¬ (n : Int) - 1 = 0 := by omega
    go_region_with (go_at_call 68; refine HDx.out.mono ?_; rintro e w3 ⟨rfl, hA, ht, ho⟩; have hi := HWx.out w3 hA ht ho; have HI := Lib.hid hi; have d1 := HRw.out w3 hi; have d2 := HCl.out w3 hi; have f2 := HFz.out w3 hi; have e1 := HBa.out w3 hi; have d3 := Lib.hid (HF2.out w3 (by omega) hi); clear hA ht ho hi)
    all_goals
      go_wp2
      go_end0
      exact d3.out
end Go.Proofs.Ythloohoefjmmoaa
