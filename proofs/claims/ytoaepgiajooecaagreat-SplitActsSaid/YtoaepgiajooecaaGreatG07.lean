/- The store: slices.Delete of one key of a block, and of one block of the blocks. -/
import Derived.Test.YtoaepgiajooecaaGreatG06
import Derived.Test.YtoaepgiajooecaaGreatG05
import Derived.Deep.RegionWith
import Derived.Deep.RegionLaw
namespace Go.Proofs.YtoaepgiajooecaaGreat
open Go.RowKit Go.Maps Go.Sort

theorem strsOf_map (ks : List ByteArray) : ((Lib.strsOf (fun i => ks.getD i ⟨#[]⟩) ks.length).map encStr) = ks.map Value.string := by
  unfold Lib.strsOf
  rw [List.map_map]
  refine List.ext_getElem (by simp) fun i h1 h2 => ?_
  have hi : i < ks.length := by simpa using h2
  simp [encStr, List.getD, List.getElem?_eq_getElem hi]
def slEnc (x : Option Addr × Nat × Nat) : Value := .slice x.1 x.2.1 x.2.2
theorem slOne : OneCell slEnc := fun _ => rfl
theorem slInfo : (Tryz.prog.info? 97).map (·.size) = some 1 := by kernel_rfl
theorem putRow_block {α : Type} [Inhabited α] {enc : α → Value} {w : World} {blk : Nat} {cur : Array Value} {t : TypeId} {fr : Nat × Nat} (d : Array α) (hg : w.heap[blk]? = some (.cells cur t fr)) : (putRow enc w blk 0 d).heap[blk]? = some (.cells (putCells enc 0 d cur) t fr) := by
  unfold putRow mapBlock
  simp [Array.getElem?_modify, hg, onCells]
theorem putRow_touch {α : Type} [Inhabited α] {enc : α → Value} (w : World) (q blk : Nat) (d : Array α) : Touch [blk] w (putRow enc (Sort.ahead w q) blk 0 d) := by
  refine ⟨rfl, rfl, rfl, by simp [putRow, mapBlock, Sort.ahead], fun k hk hn => ?_⟩
  have hne : ¬ blk = k := fun e => hn (by simp [e])
  simp [putRow, mapBlock, Sort.ahead, Array.getElem?_modify, hne]
/-- a block with one key less -/
def Seg.cut (s : Seg) (j : Nat) : Seg := ⟨s.g, s.o, s.c, s.ks.take j ++ s.ks.drop (j + 1)⟩
theorem Seg.cut_len {s : Seg} {j : Nat} (hj : j < s.ks.length) : (s.cut j).ks.length = s.ks.length - 1 := by unfold Seg.cut; simp; omega
theorem del_seg (s : Seg) (j : Nat) (w : World) (hk : s.At w) (hj : j < s.ks.length) :
    Calls Tryz.prog 109 #[.slice (some ⟨s.g, s.o, none⟩) s.ks.length s.c, .int .i64 (j : Nat), .int .i64 ((j + 1 : Nat) : Int)] w fun e w' => e = .returned (.slice (some ⟨s.g, s.o, none⟩) (s.ks.length - 1) s.c) ∧
      (s.cut j).At w' ∧ Touch [s.g] w w' ∧ ∀ t : Seg, t.Apart s → t.At w → t.At w' := by
  obtain ⟨cur, hg, hsz, hcs⟩ := hk.row
  have hle := hk.le
  have hmost := hk.most
  have hcell : ∀ i, i < s.ks.length → w.cell? ⟨s.g, s.o + i, none⟩ = some (.string (s.ks.getD i ⟨#[]⟩)) := fun i hi => by
    rw [hk.cell (List.getElem?_eq_getElem hi)]
    simp [List.getD, List.getElem?_eq_getElem hi]
  refine (Tryz.slices_Delete_string_cells s.g s.o s.ks.length s.c j (j + 1) (fun i => s.ks.getD i ⟨#[]⟩) w hle (by unfold maxLen at hmost; omega) (by omega) (by omega) hcell (fun i _ => hp_free hg)).mono ?_
  rintro e w' ⟨he, q, rfl⟩
  rw [show j + 1 - j = 1 by omega] at he
  have hvs : (((Lib.strsOf (fun i => s.ks.getD i ⟨#[]⟩) s.ks.length).take j ++ (Lib.strsOf (fun i => s.ks.getD i ⟨#[]⟩) s.ks.length).drop (j + 1) ++ List.replicate (j + 1 - j) []).map encStr) = (s.ks.take j ++ s.ks.drop (j + 1)).map Value.string ++ [.string ⟨#[]⟩] := by
    rw [show j + 1 - j = 1 by omega, List.map_append, List.map_append, List.map_take, List.map_drop, strsOf_map]
    simp [encStr, List.map_take, List.map_drop]
  rw [hvs]
  have hlen : ((s.ks.take j ++ s.ks.drop (j + 1)).map Value.string).length = s.ks.length - 1 := by simp; omega
  obtain ⟨VS, eVS⟩ : ∃ VS, VS = (s.ks.take j ++ s.ks.drop (j + 1)).map Value.string ++ [Value.string ⟨#[]⟩] := ⟨_, rfl⟩
  have hvl : VS.length = s.ks.length := by rw [eVS, List.length_append, hlen]; simp; omega
  rw [← eVS]
  have ht : Touch [s.g] w ((w.drewN q).setCells s.g s.o VS) := (show Touch [s.g] w (w.drewN q) from ⟨rfl, rfl, rfl, Nat.le_refl _, fun _ _ _ => rfl⟩).trans (fun _ hk => .inl hk) (touch_setCells s.g (by simp) _ _ _)
  obtain ⟨r1, r2⟩ := seg_put hk cur _ hg hsz (heap_setCells_row VS s.o (show (w.drewN q).heap[s.g]? = _ from hg)) (putA_size _ _ _) (fun k hk => putA_out _ _ _ _ (by rw [hvl]; omega)) ht (s.ks.take j ++ s.ks.drop (j + 1)) (by have h9 : (s.ks.take j ++ s.ks.drop (j + 1)).length = s.ks.length - 1 := (List.length_map (f := Value.string) ..).symm.trans hlen; omega) (fun i u hi => by
    have hil := (List.getElem?_eq_some_iff.1 hi).1
    have hil2 : i < s.ks.length - 1 := by rw [← hlen, List.length_map]; exact hil
    rw [putA_in _ _ _ _ (by rw [hvl]; omega) (by rw [hvl]; omega), eVS, List.getElem?_append_left (by rw [hlen]; exact hil2), List.getElem?_map, hi]
    rfl)
  exact ⟨he, r1, ht, r2⟩
/-- one block of the blocks goes -/
theorem del_rows (ba bc N : Nat) (P S : List Seg) (s : Seg) (w : World) (hN : (P ++ s :: S).length = N) (hk : w.ownsRow 0 97 1 (.slice (some ⟨ba, 0, none⟩) N bc) N ((P ++ s :: S).map Seg.val)) :
    Calls Tryz.prog 110 #[.slice (some ⟨ba, 0, none⟩) N bc, .int .i64 (P.length : Nat), .int .i64 ((P.length + 1 : Nat) : Int)] w fun e w' => e = .returned (.slice (some ⟨ba, 0, none⟩) (N - 1) bc) ∧
      w'.ownsRow 0 97 1 (.slice (some ⟨ba, 0, none⟩) (N - 1) bc) (N - 1) ((P ++ S).map Seg.val) ∧ Touch [ba] w w' := by
  obtain ⟨cur, hg, hnc, hcm, hcs, hct, hxl⟩ := ownsRow_open hk
  rw [Nat.mul_one] at hcs hct hxl
  obtain ⟨i0, hi, hs⟩ := Option.map_eq_some_iff.1 slInfo
  obtain ⟨pr, hpr⟩ : ∃ pr : Seg → Option Addr × Nat × Nat, pr = fun s => (some ⟨s.g, s.o, none⟩, s.ks.length, s.c) := ⟨_, rfl⟩
  have hen : ∀ t, slEnc (pr t) = t.val := fun t => by rw [hpr]; rfl
  have hNl : N = P.length + (S.length + 1) := by rw [← hN]; simp
  have hds : (((P ++ s :: S).map pr).toArray).size = N := by rw [List.size_toArray, List.length_map, hN]
  have hH : Holds slEnc w ba 0 ((P ++ s :: S).map pr).toArray := fun j hj => by
    rw [hds] at hj
    have hj2 : j < (P ++ s :: S).length := by rw [hN]; exact hj
    refine ⟨?_, hp_free hg⟩
    rw [Nat.zero_add, getElem!_pos _ j (by rw [hds]; exact hj), List.getElem_toArray, List.getElem_map, hen]
    exact ownsRow_cell hk rfl (by rw [List.getElem?_map, List.getElem?_eq_getElem hj2]; rfl)
  have hd := Tryz.slices_Delete_f110 slEnc slOne (none, 0, 0) (fun w => Tryz.zeroValue97 w) i0 hi hs ba 0 bc P.length (P.length + 1) ((P ++ s :: S).map pr).toArray w hH (by rw [hds]; exact hnc) (by unfold maxLen at hcm; omega) (by omega) (by rw [hds]; omega)
  rw [hds, show P.length + 1 - P.length = 1 by omega] at hd
  refine hd.mono ?_
  rintro e w' ⟨he, q, rfl⟩
  refine ⟨he, ?_, putRow_touch w q ba _⟩
  have hL : (((P ++ s :: S).map pr).toArray.toList.take P.length ++ ((P ++ s :: S).map pr).toArray.toList.drop (P.length + 1) ++ List.replicate 1 (none, 0, 0)) = (P ++ S).map pr ++ [(none, 0, 0)] := by
    have e1 : (P ++ s :: S).map pr = (P.map pr ++ [pr s]) ++ S.map pr := by simp
    have l1 : (P.map pr ++ [pr s]).length = P.length + 1 := by simp
    have e2 : ((P ++ s :: S).map pr).take P.length = P.map pr := by rw [List.map_append]; exact List.take_left' (by simp)
    rw [List.toList_toArray, e2, e1, List.drop_left' l1, List.map_append]
    rfl
  rw [hL]
  refine ownsRow_shut (putRow_block _ (show (Sort.ahead w q).heap[ba]? = _ from hg)) (by omega) hcm (by simp [putCells, hcs]) ?_ (by simp; omega)
  rw [Nat.mul_one]
  refine List.ext_getElem? fun j => ?_
  rw [List.getElem?_take]
  by_cases hj : j < N - 1
  · rw [if_pos hj]
    have hj2 : j < (P ++ S).length := by simp; omega
    have hjc : j < cur.size := by omega
    have hj3 : j < ((P ++ S).map pr ++ [(none, 0, 0)]).toArray.size := by simp at hj2 ⊢; omega
    rw [Array.getElem?_toList, putCells, Array.getElem?_mapIdx, Array.getElem?_eq_getElem hjc]
    simp only [Option.map_some]
    rw [if_pos ⟨Nat.zero_le _, by rw [Nat.zero_add]; exact hj3⟩, Nat.sub_zero, getElem!_pos _ j hj3, List.getElem_toArray, List.getElem_append_left (by simpa using hj2), List.getElem_map, hen, List.getElem?_map, List.getElem?_eq_getElem hj2]
    rfl
  · rw [if_neg hj, List.getElem?_eq_none (by simp; omega)]
end Go.Proofs.YtoaepgiajooecaaGreat

namespace Go.Proofs.YtoaepgiajooecaaGreat
open Go.RowKit Go.Maps Go.Sort

/-- what a change of the keys leaves -/
def KeysLeft (b bm : Nat) (vb : Value) (G : List Seg) (vq : Value) (ks' : List ByteArray) (w w' : World) : Prop :=
  ∃ vb' G', KeysAt w' b bm vb' G' vq ks' ∧ Touch (kfp b vb G) w w' ∧ ∀ k ∈ kfp b vb' G', k ∈ kfp b vb G ∨ w.heap.size ≤ k
theorem seg_fin {w W : World} {b bm : Nat} {vb vb' vq : Value} {P S M : List Seg} {s : Seg} {ks ks' : List ByteArray} (h : KeysAt w b bm vb (P ++ s :: S) vq ks) (hso : Rising ks') (hfl : flat P ++ (flat M ++ flat S) = ks')
    (hr : W.heap[b]? = some (.cells #[.map (some bm), vb', vq] 77 (0, 0))) (hkb : W.ownsRow 0 97 1 vb' (P ++ (M ++ S)).length ((P ++ (M ++ S)).map Seg.val)) (hA : ∀ t : Seg, t.Apart s → t.At w → t.At W)
    (hMA : ∀ t ∈ M, t.At W) (hMn : ∀ t ∈ M, 0 < t.ks.length ∧ t.ks.length ≤ 128) (hMp : M.Pairwise Seg.Apart) (hMg : ∀ t ∈ M, (t.g = s.g ∧ s.o ≤ t.o ∧ t.o + t.c ≤ s.o + s.c) ∨ w.heap.size ≤ t.g)
    (ht : Touch (kfp b vb (P ++ s :: S)) w W) (hvb : ∀ k, vb'.ownBlock = some k → vb.ownBlock = some k ∨ w.heap.size ≤ k) : KeysLeft b bm vb (P ++ s :: S) vq ks' w W := by
  obtain ⟨a1, a2, a3⟩ := List.pairwise_append.1 h.kk.ap
  obtain ⟨a4, a5⟩ := List.pairwise_cons.1 a2
  have hPs : ∀ t ∈ P, t.Apart s := fun t hm => a3 t hm s (by simp)
  have hSs : ∀ t ∈ S, t.Apart s := fun t hm => (a4 t hm).symm
  have hmv : ∀ t : Seg, t.Apart s → t.At w → ∀ u ∈ M, t.Apart u := fun t hA hT u hu => by
    rcases hMg u hu with ⟨e1, e2, e3⟩ | e1
    · rcases hA with h | h | h
      · exact .inl fun e => h (e.trans e1)
      · exact .inr (.inl (by omega))
      · exact .inr (.inr (by omega))
    · exact .inl fun e => by have := hT.lt; omega
  refine ⟨vb', P ++ (M ++ S), ⟨hr, hkb, ⟨fun t hm => ?_, fun t hm => ?_, ?_⟩, ?_, hso⟩, ht, fun k hk => ?_⟩
  · rcases List.mem_append.1 hm with hm | hm
    · exact hA t (hPs t hm) (h.kk.at_ t (by simp [hm]))
    · rcases List.mem_append.1 hm with hm | hm
      · exact hMA t hm
      · exact hA t (hSs t hm) (h.kk.at_ t (by simp [hm]))
  · rcases List.mem_append.1 hm with hm | hm
    · exact h.kk.ne t (by simp [hm])
    · rcases List.mem_append.1 hm with hm | hm
      · exact hMn t hm
      · exact h.kk.ne t (by simp [hm])
  · refine List.pairwise_append.2 ⟨a1, List.pairwise_append.2 ⟨hMp, a5, fun u hu t hm => (hmv t (hSs t hm) (h.kk.at_ t (by simp [hm])) u hu).symm⟩, fun t hm u hu => ?_⟩
    rcases List.mem_append.1 hu with hu | hu
    · exact hmv t (hPs t hm) (h.kk.at_ t (by simp [hm])) u hu
    · exact a3 t hm u (by simp [hu])
  · rw [flat_app, flat_app]; exact hfl
  · rcases mem_kfp.1 hk with rfl | hk | ⟨t, hm, rfl⟩
    · exact .inl (mem_kfp.2 (.inl rfl))
    · rcases hvb k hk with h1 | h1
      · exact .inl (mem_kfp.2 (.inr (.inl h1)))
      · exact .inr h1
    · rcases List.mem_append.1 hm with hm | hm
      · exact .inl (mem_kfp.2 (.inr (.inr ⟨t, by simp [hm], rfl⟩)))
      · rcases List.mem_append.1 hm with hm | hm
        · rcases hMg t hm with ⟨e1, _⟩ | e1
          · exact .inl (mem_kfp.2 (.inr (.inr ⟨s, by simp, e1.symm⟩)))
          · exact .inr e1
        · exact .inl (mem_kfp.2 (.inr (.inr ⟨t, by simp [hm], rfl⟩)))
/-- the keys less one -/
theorem del_flat {P S : List Seg} {s : Seg} {x : ByteArray} {j : Nat} (hkl : klo (flat (P ++ s :: S)) x = (flat P).length + j) (hj : j < s.ks.length) : (flat (P ++ s :: S)).take (klo (flat (P ++ s :: S)) x) ++ (flat (P ++ s :: S)).drop (klo (flat (P ++ s :: S)) x + 1) = flat P ++ ((s.ks.take j ++ s.ks.drop (j + 1)) ++ flat S) := by
  rw [hkl, flat_app, flat_cons]
  have e1 : (flat P ++ (s.ks ++ flat S)).take ((flat P).length + j) = flat P ++ s.ks.take j := by
    rw [List.take_append, List.take_of_length_le (by omega), Nat.add_sub_cancel_left, List.take_append_of_le_length (by omega)]
  have e2 : (flat P ++ (s.ks ++ flat S)).drop ((flat P).length + j + 1) = s.ks.drop (j + 1) ++ flat S := by
    rw [Nat.add_assoc, List.drop_append, List.drop_of_length_le (by omega), Nat.add_sub_cancel_left, List.drop_append_of_le_length (by omega), List.nil_append]
  rw [e1, e2]
  simp only [List.append_assoc]
/-- behind slices.Delete of the key -/
theorem DelW.of {w w2 w3 : World} {b bm ba bc : Nat} {vq : Value} {P S : List Seg} {s : Seg} {ks : List ByteArray} {j : Nat} (h : KeysAt w b bm (.slice (some ⟨ba, 0, none⟩) (P ++ s :: S).length bc) (P ++ s :: S) vq ks) (hB : Below w.heap.size w w2) (hA : (s.cut j).At w3) (ht : Touch [s.g] w2.drew w3) (ho : ∀ t : Seg, t.Apart s → t.At w2.drew → t.At w3) : InsW w w3 b bm ba bc vq P S s (s.cut j) := by
  have hm : s ∈ P ++ s :: S := by simp
  have hst : ∀ k, k < w.heap.size → k ≠ s.g → w3.heap[k]? = w.heap[k]? := fun k hk hne => (ht.block k (Nat.lt_of_lt_of_le hk hB.size) (by simpa using hne)).trans (hB.block k hk)
  exact ⟨(hst b (hp_lt h.r) (h.seg_b hm).symm).trans h.r, ownsRow_same h.kb fun k hk => hst k (ownsRow_blk h.kb k hk) (h.seg_ba hm hk).symm, hA, fun t hA hT => ho t hA (hT.same (hB.block _ hT.lt)), .inl ⟨rfl, rfl, rfl⟩, (touch_drew (Touch.of_below hB)).trans (fun _ hk => .inl hk) (ht.mono fun k hk => by rw [List.mem_singleton.1 hk]; exact mem_kfp.2 (.inr (.inr ⟨s, hm, rfl⟩)))⟩
/-- others stay in the block -/
theorem del_done {w w3 : World} {b bm ba bc : Nat} {vq : Value} {P S : List Seg} {s : Seg} {ks ks' : List ByteArray} {j : Nat} (h : KeysAt w b bm (.slice (some ⟨ba, 0, none⟩) (P ++ s :: S).length bc) (P ++ s :: S) vq ks) (hso : Rising ks') (hfl : flat P ++ ((s.ks.take j ++ s.ks.drop (j + 1)) ++ flat S) = ks') (hj : j < s.ks.length) (h2 : 2 ≤ s.ks.length) (hi : InsW w w3 b bm ba bc vq P S s (s.cut j)) :
    KeysLeft b bm (.slice (some ⟨ba, 0, none⟩) (P ++ s :: S).length bc) (P ++ s :: S) vq ks' w (w3.setCell ⟨ba, P.length, none⟩ (.slice (some ⟨s.g, s.o, none⟩) (s.ks.length - 1) s.c)) := by
  have hv : (s.cut j).val = .slice (some ⟨s.g, s.o, none⟩) (s.ks.length - 1) s.c := by unfold Seg.val; rw [Seg.cut_len hj]; rfl
  rw [← hv]
  have hm : s ∈ P ++ s :: S := by simp
  have hn8 := (h.kk.ne s hm).2
  have hS : ∀ t : Seg, t.At w3 → t.At (w3.setCell ⟨ba, P.length, none⟩ (s.cut j).val) := fun t ht => ht.same (Below.heap_setCell _ _ _ _ (hi.at_ba ht).1)
  have hkb := ownsRow_set (i := P.length) hi.kb (s.cut j).val
  rw [set_mid] at hkb
  have hlen : (P ++ ([s.cut j] ++ S)).length = (P ++ s :: S).length := by simp
  refine seg_fin (M := [s.cut j]) h hso (by rw [← hfl, flat_cons]; simp [flat, Seg.cut]) ((Below.heap_setCell _ _ _ _ hi.ba_b).trans hi.r) (by rw [hlen]; exact hkb) (fun t hA hT => hS t (hi.o t hA hT)) (fun t hm => by rw [List.mem_singleton.1 hm]; exact hS _ hi.a) (fun t hm => by rw [List.mem_singleton.1 hm, Seg.cut_len hj]; omega) (List.pairwise_singleton _ _) (fun t hm => ?_) (hi.t.trans (fun _ hk => .inl hk) (Touch.setCell _ _ _ (mem_kfp.2 (.inr (.inl rfl))))) (fun k hk => .inl hk)
  rw [List.mem_singleton.1 hm]
  exact .inl ⟨rfl, Nat.le_refl _, Nat.le_refl _⟩
/-- the block goes -/
theorem del_done1 {w w3 w5 : World} {b bm ba bc : Nat} {vq : Value} {P S : List Seg} {s : Seg} {ks ks' : List ByteArray} {j : Nat} (h : KeysAt w b bm (.slice (some ⟨ba, 0, none⟩) (P ++ s :: S).length bc) (P ++ s :: S) vq ks) (hso : Rising ks') (hfl : flat P ++ ((s.ks.take j ++ s.ks.drop (j + 1)) ++ flat S) = ks') (hj : j < s.ks.length) (h1 : s.ks.length = 1) (hi : InsW w w3 b bm ba bc vq P S s (s.cut j)) (v : Value)
    (hown : w5.ownsRow 0 97 1 (.slice (some ⟨ba, 0, none⟩) ((P ++ s :: S).length - 1) bc) ((P ++ s :: S).length - 1) ((P ++ S).map Seg.val)) (ht : Touch [ba] (w3.setCell ⟨ba, P.length, none⟩ v) w5) :
    KeysLeft b bm (.slice (some ⟨ba, 0, none⟩) (P ++ s :: S).length bc) (P ++ s :: S) vq ks' w (w5.setCell ⟨b, 1, none⟩ (.slice (some ⟨ba, 0, none⟩) ((P ++ s :: S).length - 1) bc)) := by
  have t3 : Touch [ba] w3 w5 := (Touch.setCell w3 ⟨ba, P.length, none⟩ v (by simp)).trans (fun _ hk => .inl hk) ht
  have hs3 : ∀ k, k < w3.heap.size → k ≠ ba → w5.heap[k]? = w3.heap[k]? := fun k hk hne => t3.block k hk (by simpa using hne)
  have hS : ∀ t : Seg, t.At w3 → t.At (w5.setCell ⟨b, 1, none⟩ (.slice (some ⟨ba, 0, none⟩) ((P ++ s :: S).length - 1) bc)) := fun t hT => (hT.same (hs3 t.g hT.lt (hi.at_ba hT).1)).same (Below.heap_setCell _ _ _ _ (hi.at_ba hT).2)
  have hlen : (P ++ ([] ++ S)).length = (P ++ s :: S).length - 1 := by simp
  have h0 : s.ks.take j ++ s.ks.drop (j + 1) = [] := List.length_eq_zero_iff.1 (by simp; omega)
  refine seg_fin (vb' := .slice (some ⟨ba, 0, none⟩) ((P ++ s :: S).length - 1) bc) (M := []) h hso (by rw [← hfl, h0]; rfl) ?_ (by rw [hlen]; exact ownsRow_same hown fun k hk => by cases hk; exact Below.heap_setCell _ _ _ _ (show ba ≠ b from hi.ba_b.symm)) (fun t hA hT => hS t (hi.o t hA hT)) (fun t hm => by cases hm) (fun t hm => by cases hm) List.Pairwise.nil (fun t hm => by cases hm) ?_ (fun k hk => .inl hk)
  · rw [heap_setCell_row ((hs3 b (hp_lt hi.r) hi.ba_b).trans hi.r)]
    rfl
  · exact (hi.t.trans (fun _ hk => .inl hk) (t3.mono fun k hk => by rw [List.mem_singleton.1 hk]; exact mem_kfp.2 (.inr (.inl rfl)))).trans (fun _ hk => .inl hk) (Touch.setCell _ _ _ (mem_kfp.2 (.inl rfl)))
/-- the whole store behind a change of its keys -/
theorem key_fin {w w1 W : World} {b bm : Nat} {vb vq : Value} {G : List Seg} {L L' : SL} {q : Nat} {qs : List Value} (h : StM w b bm vb G vq L q qs) (hm1 : MapAt w1 bm L') (t1 : Touch [bm] w w1) (hK : KeysLeft b bm vb G vq (skeys L') w1 W) : PutPost b bm vb G vq L L' q qs w (.returned (.tuple #[])) W := by
  obtain ⟨vb', G', hk, ht, hF⟩ := hK
  refine ⟨rfl, vb', G', ⟨hk, hm1.same (ht.block bm hm1.lt h.bm_kfp), ownsRow_same h.kq fun g hg => ?_⟩, ?_, fun k hk => ?_⟩
  · have hl := ownsRow_blk h.kq g hg
    exact (ht.block g (Nat.lt_of_lt_of_le hl t1.size) (h.vq_kfp g hg).2).trans (t1.block g hl (by simpa using (h.vq_kfp g hg).1))
  · exact (t1.mono fun k hk => by rw [List.mem_singleton.1 hk]; exact (fpr_kfp _ _ _ _ _ _ _).2 (.inl rfl)).trans (fun _ hk => .inl hk) (ht.mono fun k hk => (fpr_kfp _ _ _ _ _ _ _).2 (.inr (.inl hk)))
  · rcases (fpr_kfp _ _ _ _ _ _ _).1 hk with h1 | h1 | h1
    · exact .inl ((fpr_kfp _ _ _ _ _ _ _).2 (.inl h1))
    · rcases hF k h1 with h2 | h2
      · exact .inl ((fpr_kfp _ _ _ _ _ _ _).2 (.inr (.inl h2)))
      · right; have := t1.size; omega
    · exact .inl ((fpr_kfp _ _ _ _ _ _ _).2 (.inr (.inr h1)))
set_option maxRecDepth 100000 in
set_option maxHeartbeats 4000000 in
theorem drop_live (b bm : Nat) (vb : Value) (vk : List Seg) (vq : Value) (L : SL) (q : Nat) (qs : List Value) (k : ByteArray) (w : World) (h : StM w b bm vb vk vq L q qs) (hk : k.size ≤ maxLen) (hN : L.length ≤ 1000000) (hin : (sget L k).isSome = true) :
    Calls Tryz.prog 104 #[.pointer (some ⟨b, 0, none⟩), .string k] w (PutPost b bm vb vk vq L (sdel L k) q qs w) := by
  obtain ⟨p1, p2, p3⟩ := sdel_parts k L h.so hin
  have hkl : (skeys L).length = L.length := by unfold skeys; simp
  have hfl := h.keys.fl
  have hGl := h.keys.len
  have hne : ∀ s ∈ vk, 0 < s.ks.length := fun s hm => (h.keys.kk.ne s hm).1
  obtain ⟨P, s, S, rfl, hg1, hk1, hjs⟩ : ∃ P s S, vk = P ++ s :: S ∧ gN vk k = P.length ∧ klo (skeys L) k = (flat P).length + klo s.ks k ∧ klo s.ks k < s.ks.length := by
    rcases plc_parts k vk (by rw [hfl]; exact h.so) hne with ⟨h1, h2⟩ | ⟨P, s, S, rfl, h1, h2, h3⟩
    · rw [hfl, hkl] at h2; omega
    · exact ⟨P, s, S, rfl, h1, by rw [← hfl]; exact h2, h3⟩
  have hpos : 0 < (P ++ s :: S).length := by rw [List.length_append, List.length_cons]; omega
  have hlt : P.length < (P ++ s :: S).length := by rw [List.length_append, List.length_cons]; omega
  obtain ⟨ba, bc, rfl, hba⟩ := ownsRow_form h.keys.kb hpos
  obtain ⟨w1, hdel, hm1, t1⟩ := h.m.del h.so k hk 0
  have hK1 : KeysAt w1 b bm (.slice (some ⟨ba, 0, none⟩) (P ++ s :: S).length bc) (P ++ s :: S) vq (skeys L) := h.keys.same fun g hg => t1.block g (h.keys.lt g hg) (by simp only [List.mem_singleton]; intro e; exact h.bm_kfp (e ▸ hg))
  have hcell : ∀ i (hi : i < (P ++ s :: S).length), w1.cell? ⟨ba, i, none⟩ = some (P ++ s :: S)[i].val := fun i hi => ownsRow_cell hK1.kb rfl (by rw [List.getElem?_map, List.getElem?_eq_getElem hi]; rfl)
  have HP := place_some b bm ba bc (P ++ s :: S) vq k w1 hpos (by omega) (by rw [hfl]; exact h.so) hK1.kk hK1.r hcell
  have hpl : plcI (P ++ s :: S) k = (P.length, klo s.ks k) := by
    unfold plcI
    rw [if_neg (by rw [hg1]; simp), hg1]
    rw [List.getD_eq_getElem?_getD, List.getElem?_append_right (Nat.le_refl _), Nat.sub_self]
    rfl
  rw [hpl] at HP
  obtain ⟨j, ej⟩ : ∃ j, j = klo s.ks k := ⟨_, rfl⟩
  rw [← ej] at HP hk1 hjs
  have hdf : flat P ++ ((s.ks.take j ++ s.ks.drop (j + 1)) ++ flat S) = skeys (sdel L k) := by
    rw [skeys_sdel h.so hin, ← hfl]
    exact (del_flat (by rw [hfl]; exact hk1) hjs).symm
  have hso := rising_sdel (k := k) h.so
  have hm : s ∈ P ++ s :: S := by simp
  have ha := hcell P.length hlt
  replace ha : w1.cell? ⟨ba, P.length, none⟩ = some (.slice (some ⟨s.g, s.o, none⟩) s.ks.length s.c) := by
    rw [ha]
    have : (P ++ s :: S)[P.length]'hlt = s := by simp
    rw [this]; rfl
  have hnl : 0 < s.ks.length := hne s hm
  have hn8 := (h.keys.kk.ne s hm).2
  have HW := Lib.hid (fun (w2 w3 : World) (hB : Below w1.heap.size w1 w2) (hA : (s.cut j).At w3) (ht : Touch [s.g] w2.drew w3) ho => DelW.of hK1 hB hA ht ho)
  have HF2 := Lib.hid (fun (w3 : World) (h2 : 2 ≤ s.ks.length) (hi : InsW w1 w3 b bm ba bc vq P S s (s.cut j)) => key_fin h hm1 t1 (del_done hK1 hso hdf hjs h2 hi))
  have HF1 := Lib.hid (fun (w3 w5 : World) (h2 : s.ks.length = 1) (hi : InsW w1 w3 b bm ba bc vq P S s (s.cut j)) v hown ht => key_fin h hm1 t1 (del_done1 (w5 := w5) hK1 hso hdf hjs h2 hi v hown ht))
  have HD := Lib.hid (fun (w2 : World) (hB : Below w1.heap.size w1 w2) => del_seg s j w2.drew ((hK1.kk.at_ s hm).same (hB.block _ (hK1.kk.at_ s hm).lt)) hjs)
  have HR := Lib.hid (fun (w3 : World) (hi : InsW w1 w3 b bm ba bc vq P S s (s.cut j)) (v : Value) (hv : v = (s.cut j).val) => del_rows ba bc (P ++ s :: S).length P S (s.cut j) (w3.setCell ⟨ba, P.length, none⟩ v) (by simp) (by
    have := ownsRow_set (i := P.length) hi.kb v
    rw [hv, set_mid] at this
    rw [hv]
    exact this))
  have hcv : (s.cut j).val = .slice (some ⟨s.g, s.o, none⟩) (s.ks.length - 1) s.c := by unfold Seg.val; rw [Seg.cut_len hjs]; rfl
  have HCv := Lib.hid hcv
  have c0 := (hp_cell (i := 0) h.r).trans rfl
  have lb := hp_lt h.r
  have HR1 := Lib.hid hK1.r
  have HA1 := Lib.hid ha
  have HPl := Lib.hid HP
  obtain ⟨i, ei⟩ : ∃ i, i = P.length := ⟨_, rfl⟩
  obtain ⟨N, eN⟩ : ∃ N, N = (P ++ s :: S).length := ⟨_, rfl⟩
  obtain ⟨n, en⟩ : ∃ n, n = s.ks.length := ⟨_, rfl⟩
  have hiN : i < N := by rw [ei, eN]; exact hlt
  have hN6 : N ≤ 1000000 := by rw [eN]; omega
  rw [← ei] at HF1 HF2 HR HA1 HPl
  rw [← eN] at HF1 HF2 HR HR1 ⊢
  rw [← en] at HF1 HF2 HD HA1 HCv hjs hn8 hnl
  have ei' := ei
  have eN' := eN
  clear hpos hlt h hk hN hin p1 p2 p3 hkl hfl hGl hne hg1 hk1 hba hm1 t1 hK1 hcell HP hpl ej hdf hso hm ha hcv ei eN en
  have Hei := Lib.hid (And.intro ei' eN')
  clear ei' eN'
  have i1 : (i : Int) < (N : Int) := by omega
  have i2 : (N : Int) ≤ 1000000 := by omega
  have i3 : (j : Int) < (n : Int) := by omega
  have i4 : (n : Int) ≤ 128 := by omega
  have hw1 : IntKind.i64.wrap ((j : Int) + 1) = (j : Int) + 1 := IntWalk.i64_in _ (by omega)
  have hw2 : IntKind.i64.wrap ((i : Int) + 1) = (i : Int) + 1 := IntWalk.i64_in _ (by omega)
  go_enter Tryz.func104, Tryz.ntmps104
  go_upto_region 2 with (go_at_call 55; refine HPl.out.mono ?_; rintro e w2 ⟨rfl, hb2⟩; have HB2 := Lib.hid hb2; have r2 := (hb2.block b (hp_lt HR1.out)).trans HR1.out; have a2 := (hb2.cell (p := ⟨ba, i, none⟩) (World.block_lt_of_cell? _ _ HA1.out)).trans HA1.out; clear hb2)
  have c1 := (hp_cell (i := 1) r2).trans rfl
  have hd := HD.out w2 HB2.out
  rw [show ((j + 1 : Nat) : Int) = (j : Int) + 1 by omega] at hd
  have HDx := Lib.hid hd
  have HWx := Lib.hid (fun w3 hA ht ho => HW.out w2 w3 HB2.out hA ht ho)
  have HRw := Lib.hid (fun (w3 : World) (hi : InsW w1 w3 b bm ba bc vq P S s (s.cut j)) => show w3.cell? ⟨b, 1, none⟩ = some (.slice (some ⟨ba, 0, none⟩) (P ++ s :: S).length bc) from (hp_cell (i := 1) hi.r).trans rfl)
  have HCl := Lib.hid (fun (w3 : World) (hi : InsW w1 w3 b bm ba bc vq P S s (s.cut j)) => show w3.cell? ⟨ba, P.length, none⟩ = some s.val from ownsRow_cell hi.kb rfl (by simp))
  have HFz := Lib.hid (fun (w3 : World) (hi : InsW w1 w3 b bm ba bc vq P S s (s.cut j)) => show w3.frozen? ⟨ba, P.length, none⟩ = false by obtain ⟨cs, hc⟩ := ownsRow_ty hi.kb rfl; exact hp_free hc)
  have HBa := Lib.hid (fun (w3 : World) (hi : InsW w1 w3 b bm ba bc vq P S s (s.cut j)) => hi.ba_b)
  rw [← Hei.out.1] at HCl HFz
  rw [← Hei.out.2] at HRw
  clear hd HD HW r2 hdel c0 HR1 HA1 HPl HB2
  by_cases h1 : n = 1
  · subst h1
    obtain rfl : j = 0 := by omega
    go_region_with (go_at_call 109; refine HDx.out.mono ?_; rintro e w3 ⟨rfl, hA, ht, ho⟩; have hi := HWx.out w3 hA ht ho; have HI := Lib.hid hi; have d1 := HRw.out w3 hi; have d2 := HCl.out w3 hi; have f2 := HFz.out w3 hi; have e1 := HBa.out w3 hi; clear hA ht ho hi)
    all_goals
      have hr4 : (w3.setCell ⟨ba, i, none⟩ (.slice (some ⟨s.g, s.o, none⟩) 0 s.c)).heap[b]? = some (.cells #[.map (some bm), .slice (some ⟨ba, 0, none⟩) N bc, vq] 77 (0, 0)) := by
        rw [Hei.out.2]; exact (Below.heap_setCell _ _ _ _ (show b ≠ ba from e1)).trans HI.out.r
      have hd5 := HR.out w3 HI.out (.slice (some ⟨s.g, s.o, none⟩) 0 s.c) (by rw [HCv.out])
      rw [show ((i + 1 : Nat) : Int) = (i : Int) + 1 by omega] at hd5
      have HD5 := Lib.hid hd5
      have g4 := (hp_cell (i := 1) hr4).trans rfl
      have HR4 := Lib.hid hr4
      clear hd5 hr4 d1 f2
      go_wp2_with (go_at_call 110; refine HD5.out.mono ?_; rintro e w5 ⟨rfl, hown, ht⟩; have r5 := (ht.block b (hp_lt HR4.out) (by simpa using e1)).trans HR4.out; have z1 := (hp_cell (i := 1) r5).trans rfl; have z2 := hp_free (i := 1) r5; have d3 := Lib.hid (HF1.out w3 w5 trivial HI.out _ hown ht); clear hown ht r5)
      go_end0
      exact d3.out
  · have hn2 : ¬ (n : Int) - 1 = 0 := by omega
    go_region_with (go_at_call 109; refine HDx.out.mono ?_; rintro e w3 ⟨rfl, hA, ht, ho⟩; have hi := HWx.out w3 hA ht ho; have HI := Lib.hid hi; have d1 := HRw.out w3 hi; have d2 := HCl.out w3 hi; have f2 := HFz.out w3 hi; have e1 := HBa.out w3 hi; have d3 := Lib.hid (HF2.out w3 (by omega) hi); clear hA ht ho hi)
    all_goals
      go_wp2
      go_end0
      exact d3.out
end Go.Proofs.YtoaepgiajooecaaGreat

namespace Go.Proofs.YtoaepgiajooecaaGreat
open Go.RowKit Go.Maps Go.Sort

theorem infoChange : (Tryz.prog.info? 155).map (fun i => (i.zero, i.size, i.bytes)) = some (some (.agg #[.string { data := #[] }, .bool false, .string { data := #[] }]), 3, 40) := by kernel_rfl
/-- what a change is, in cells -/
def chg (k : ByteArray) (had : Bool) (was : ByteArray) : List Value := [.string k, .bool had, .string was]
def setL (L : SL) (k v : ByteArray) : SL := if sget L k = some v then L else sset L k v
theorem chg_done {W w' : World} {b bm : Nat} {vb vq : Value} {vk : List Seg} {L : SL} {q : Nat} {qs : List Value} {g cap : Nat} {new : List Value} {o : Obj} (h : StM W b bm vb vk vq L q qs)
    (hown : w'.ownsRow 0 155 3 (.slice (some ⟨g, 0, none⟩) (q + 1) cap) (q + 1) (qs ++ new)) (hg : (W.drew.alloc o).grownBy w' vq.ownBlock) (hat : vq.ownBlock = some g ∨ g = W.heap.size + 1) :
    StM (w'.setCell ⟨b, 2, none⟩ (.slice (some ⟨g, 0, none⟩) (q + 1) cap)) b bm vb vk (.slice (some ⟨g, 0, none⟩) (q + 1) cap) L (q + 1) (qs ++ new) ∧ Touch (fpr b bm vb vk vq L) W (w'.setCell ⟨b, 2, none⟩ (.slice (some ⟨g, 0, none⟩) (q + 1) cap)) ∧
      (∀ k ∈ fpr b bm vb vk (.slice (some ⟨g, 0, none⟩) (q + 1) cap) L, k ∈ fpr b bm vb vk vq L ∨ W.heap.size ≤ k) := by
  have hb : b ∈ kfp b vb vk := mem_kfp.2 (.inl rfl)
  have hgk : ∀ k, k < W.heap.size → vq.ownBlock ≠ some k → w'.heap[k]? = W.heap[k]? := fun k hk hne =>
    (hg.block k (by rw [World.size_alloc]; show k < W.heap.size + 1; omega) (fun e => hne e.symm)).trans (heap_alloc_old W.drew o hk)
  have hkey : ∀ k, k ∈ kfp b vb vk → w'.heap[k]? = W.heap[k]? := fun k hk => hgk k (h.keys.lt k hk) fun e => (h.vq_kfp k e).2 hk
  have hbm : w'.heap[bm]? = W.heap[bm]? := hgk bm h.m.lt fun e => (h.vq_kfp bm e).1 rfl
  have hgn : b ≠ g := fun e => by
    rcases hat with h1 | h1
    · exact (h.vq_kfp g h1).2 (e ▸ hb)
    · have := hp_lt h.r; omega
  have hfar : ∀ k, k ≠ b → (w'.setCell ⟨b, 2, none⟩ (.slice (some ⟨g, 0, none⟩) (q + 1) cap)).heap[k]? = w'.heap[k]? := fun k hk => Below.heap_setCell _ _ _ _ hk
  have h0 := h.keys
  refine ⟨⟨⟨?_, ownsRow_same h0.kb fun k hk => (hfar k (h0.ba_b hk)).trans (hkey k (mem_kfp.2 (.inr (.inl hk)))), ⟨fun s hs => (h0.kk.at_ s hs).same ((hfar _ (h0.seg_b hs)).trans (hkey _ (mem_kfp.2 (.inr (.inr ⟨s, hs, rfl⟩))))), h0.kk.ne, h0.kk.ap⟩, h0.fl, h0.so⟩, h.m.same ((hfar bm (fun e => h.bm_kfp (e ▸ hb))).trans hbm), ownsRow_same hown fun k hk => ?_⟩, ?_, ?_⟩
  · rw [heap_setCell_row ((hkey b hb).trans h0.r)]
    rfl
  · cases hk
    exact hfar g hgn.symm
  · have t0 : Touch (fpr b bm vb vk vq L) W (W.drew.alloc o) := touch_alloc (touch_drew (Touch.refl _ W)) o
    have t1 : Touch (fpr b bm vb vk vq L) (W.drew.alloc o) w' := Touch.grown hg fun k hk => (fpr_kfp _ _ _ _ _ _ _).2 (.inr (.inr hk))
    exact (t0.trans (fun _ hk => .inl hk) t1).trans (fun _ hk => .inl hk) (Touch.setCell _ _ _ ((fpr_kfp _ _ _ _ _ _ _).2 (.inr (.inl hb))))
  · intro k hk
    rcases (fpr_kfp _ _ _ _ _ _ _).1 hk with h1 | h1 | h1
    · exact .inl ((fpr_kfp _ _ _ _ _ _ _).2 (.inl h1))
    · exact .inl ((fpr_kfp _ _ _ _ _ _ _).2 (.inr (.inl h1)))
    · cases h1
      rcases hat with h2 | h2
      · exact .inl ((fpr_kfp _ _ _ _ _ _ _).2 (.inr (.inr h2)))
      · exact .inr (by show W.heap.size ≤ g; omega)
theorem chg_r {W w' : World} {b bm : Nat} {vb vq : Value} {vk : List Seg} {L : SL} {q : Nat} {qs : List Value} {o : Obj} (h : StM W b bm vb vk vq L q qs) (hg : (W.drew.alloc o).grownBy w' vq.ownBlock) : w'.heap[b]? = some (.cells #[.map (some bm), vb, vq] 77 (0, 0)) :=
  (hg.block b (by rw [World.size_alloc]; have := hp_lt h.r; show b < W.heap.size + 1; omega) (fun e => (h.vq_kfp b e.symm).2 (mem_kfp.2 (.inl rfl)))).trans ((heap_alloc_old W.drew o (hp_lt h.r)).trans h.r)
theorem chg_one {k was : ByteArray} {had : Bool} : ∀ u ∈ chg k had was, u.oneCell' = true := fun u hu => by
  unfold chg at hu
  simp at hu
  rcases hu with rfl | rfl | rfl <;> rfl
theorem chg_news (W : World) (k was : ByteArray) (had : Bool) : ∀ j u, (chg k had was)[j]? = some u → (W.drew.alloc (.cells #[.string k, .bool had, .string was] 155)).cell? ((⟨W.heap.size, 0, none⟩ : Addr).add j) = some u :=
  World.news_of_block (cs := #[.string k, .bool had, .string was]) (heap_alloc_new W.drew _)
/-- what Set leaves -/
def SetPost (b : Nat) (F : List Nat) (L' : SL) (q' : Nat) (qs' : List Value) (r : Int) (w : World) (e : Ending) (w' : World) : Prop :=
  e = .returned (.int .i64 r) ∧ ∃ F', StP w' b F' L' q' qs' ∧ Touch F w w' ∧ ∀ k ∈ F', k ∈ F ∨ w.heap.size ≤ k
theorem set_done {w W w5 w6 : World} {b bm : Nat} {vb vq vq' vb' : Value} {vk vk' : List Seg} {L L' : SL} {q' : Nat} {qs' : List Value} (hbW : Below w.heap.size w W) (h1 : Touch (fpr b bm vb vk vq L) W w5) (h2 : ∀ k ∈ fpr b bm vb vk vq' L, k ∈ fpr b bm vb vk vq L ∨ W.heap.size ≤ k)
    (hM : StM w6 b bm vb' vk' vq' L' q' qs') (h3 : Touch (fpr b bm vb vk vq' L) w5 w6) (h4 : ∀ k ∈ fpr b bm vb' vk' vq' L', k ∈ fpr b bm vb vk vq' L ∨ w5.heap.size ≤ k) : SetPost b (fpr b bm vb vk vq L) L' q' qs' 0 w (.returned (.int .i64 0)) w6 := by
  refine ⟨rfl, _, ⟨bm, vb', vk', vq', rfl, hM⟩, ((Touch.of_below hbW).trans (fun _ hk => .inl hk) h1).trans (fun k hk => ?_) h3, fun k hk => ?_⟩
  · rcases h2 k hk with h | h
    · exact .inl h
    · right; have := hbW.size; omega
  · rcases h4 k hk with h | h
    · rcases h2 k h with h | h
      · exact .inl h
      · right; have := hbW.size; omega
    · right; have := hbW.size; have := h1.size; omega
set_option maxRecDepth 100000 in
set_option maxHeartbeats 4000000 in
theorem set_new (b bm : Nat) (vb : Value) (vk : List Seg) (vq : Value) (L : SL) (q : Nat) (qs : List Value) (k v : ByteArray) (w : World) (h : StM w b bm vb vk vq L q qs) (hk : k.size ≤ maxLen) (hv : v.size ≤ maxLen) (hk0 : k ≠ ⟨#[]⟩) (hN : L.length < 1000000) (hq : q < 1000000) (hne : sget L k ≠ some v) :
    Calls Tryz.prog 88 #[.pointer (some ⟨b, 0, none⟩), .string k, .string v] w (SetPost b (fpr b bm vb vk vq L) (sset L k v) (q + 1) (qs ++ chg k (sget L k).isSome ((sget L k).getD ⟨#[]⟩)) 0 w) := by
  have hl := h.m.look k hk
  have c0 := (hp_cell (i := 0) h.r).trans rfl
  have lb := hp_lt h.r
  have HM := Lib.hid (made_live b _ L q qs w ⟨bm, vb, vk, vq, rfl, h⟩)
  obtain ⟨old, hold⟩ : ∃ o, o = (sget L k).getD ⟨#[]⟩ := ⟨_, rfl⟩
  obtain ⟨had, hhad⟩ : ∃ o, o = (sget L k).isSome := ⟨_, rfl⟩
  have hno : had = false ∨ (had = true ∧ (old.toList == v.toList) = false) := by
    rw [hold, hhad]
    cases hs : sget L k with
    | none => exact .inl rfl
    | some u =>
      right
      refine ⟨rfl, ?_⟩
      rw [beq_eq_false_iff_ne, Lib.toList_data, Lib.toList_data]
      intro e
      exact hne (by rw [hs, ← lit_inj (congrArg Lit.string e)]; rfl)
  have hk1 : k.toList.isEmpty = false := by
    rw [Lib.toList_data]
    cases hh : k.data.toList with
    | nil => exact absurd (lit_inj (b := ⟨#[]⟩) (congrArg Lit.string (hh.trans rfl))) hk0
    | cons a r => rfl
  rw [← hold, ← hhad] at hl ⊢
  obtain ⟨W, hW⟩ : ∃ W, W = w.alloc (.cells #[.string old] 100) := ⟨_, rfl⟩
  have hbW : Below w.heap.size w W := by rw [hW]; exact (Below.refl w.heap.size w).alloc (Nat.le_refl _) _
  have hSW := h.below hbW
  have hr7 : W.heap[w.heap.size]? = some (.cells #[.string old] 100 (0, 0)) := by rw [hW]; exact heap_alloc_new _ _
  obtain ⟨i0, hi, hz0, hz1, hz2⟩ := info_parts infoChange
  have Hh := Lib.hid (And.intro h (And.intro hk (And.intro hv (And.intro hN (And.intro hq (And.intro hbW hSW))))))
  have HW := Lib.hid hW
  have d2 := (hp_cell (i := 2) hSW.r).trans rfl
  have d7 := (hp_cell (i := 0) hr7).trans rfl
  have lbW := hp_lt hSW.r
  have lwW := hp_lt hr7
  have HO := Lib.hid (fun (o : Obj) => show (W.drew.alloc o).ownsRow 0 155 3 vq q qs from ownsRow_same hSW.kq fun g hg => heap_alloc_old W.drew o (ownsRow_blk hSW.kq g hg))
  have HP := Lib.hid (fun (w' : World) (bm : Nat) (vb : Value) (vk : List Seg) (vq : Value) (q : Nat) (qs : List Value) (h' : StM w' b bm vb vk vq L q qs) => put_live b bm vb vk vq L q qs k v w' h' hk hv hN)
  clear h hk hv hN hold hhad hq hk0 hne hW hbW hSW hr7
  rcases hno with rfl | ⟨rfl, hov⟩
  · go_enter Tryz.func88, Tryz.ntmps88
    go_upto_region 7 with (go_at_call 18; refine HM.out.mono ?_; rintro e w1 ⟨rfl, rfl⟩)
    rw [← HW.out]
    go_region_law (refine step_append_lies _ rfl (.tmp 35) (.tmp 40) 75 rfl 0 155 i0 _ 3 40 Tryz.underlying75 hi hz0 hz1 hz2 rfl (by decide) vq q qs (by simp [Act.eval]) (HO.out _) ⟨W.heap.size, 0, none⟩ 1 1 (chg k false old) (by simp [Act.eval]) rfl (chg_news W k old false) chg_one (by decide) (by have := Hh.out.2.2.2.2.1; unfold maxLen; omega) (by have := Hh.out.2.2.2.2.1; omega) (Nat.zero_le _) _ rfl ?_; intro g cap w5 hown hgrow hat hlt; have hr5 := chg_r Hh.out.2.2.2.2.2.2 hgrow; have e2 := (hp_cell (i := 2) hr5).trans rfl; have f2 := hp_free (i := 2) hr5; have HC := Lib.hid (chg_done Hh.out.2.2.2.2.2.2 hown hgrow (by simpa using hat)); clear hown hgrow hat hlt hr5)
    all_goals go_wp2_with (go_at_call 105; refine (HP.out _ bm vb vk _ (q + 1) _ HC.out.1).mono ?_; rintro e w6 ⟨rfl, vb', vk', hM, ht, hF⟩; have HM6 := Lib.hid (set_done Hh.out.2.2.2.2.2.1 HC.out.2.1 HC.out.2.2 hM ht hF); clear hM ht hF)
    all_goals go_ret
    all_goals exact HM6.out
  · go_enter Tryz.func88, Tryz.ntmps88
    go_upto_region 7 with (go_at_call 18; refine HM.out.mono ?_; rintro e w1 ⟨rfl, rfl⟩)
    rw [← HW.out]
    go_region_law (refine step_append_lies _ rfl (.tmp 35) (.tmp 40) 75 rfl 0 155 i0 _ 3 40 Tryz.underlying75 hi hz0 hz1 hz2 rfl (by decide) vq q qs (by simp [Act.eval]) (HO.out _) ⟨W.heap.size, 0, none⟩ 1 1 (chg k true old) (by simp [Act.eval]) rfl (chg_news W k old true) chg_one (by decide) (by have := Hh.out.2.2.2.2.1; unfold maxLen; omega) (by have := Hh.out.2.2.2.2.1; omega) (Nat.zero_le _) _ rfl ?_; intro g cap w5 hown hgrow hat hlt; have hr5 := chg_r Hh.out.2.2.2.2.2.2 hgrow; have e2 := (hp_cell (i := 2) hr5).trans rfl; have f2 := hp_free (i := 2) hr5; have HC := Lib.hid (chg_done Hh.out.2.2.2.2.2.2 hown hgrow (by simpa using hat)); clear hown hgrow hat hlt hr5)
    all_goals go_wp2_with (go_at_call 105; refine (HP.out _ bm vb vk _ (q + 1) _ HC.out.1).mono ?_; rintro e w6 ⟨rfl, vb', vk', hM, ht, hF⟩; have HM6 := Lib.hid (set_done Hh.out.2.2.2.2.2.1 HC.out.2.1 HC.out.2.2 hM ht hF); clear hM ht hF)
    all_goals go_ret
    all_goals exact HM6.out
end Go.Proofs.YtoaepgiajooecaaGreat
