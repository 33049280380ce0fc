/- The store: drop, walked. -/
import Derived.Test.YtbfmhafmncnhfaaG07
import Derived.Test.YtbfmhafmncnhfaaG01
import Derived.Test.YtbfmhafmncnhfaaG02
import Derived.Deep.RegionWith
namespace Go.Proofs.Ytbfmhafmncnhfaa
open Go.RowKit Go.Maps Go.Sort

/-- what a change of the keys leaves -/
def KeysLeft (b bm : Nat) (vb : Value) (G : List Seg) (vq : Value) (ks' : List ByteArray) (w w' : World) : Prop :=
  ∃ vb' G', KeysAt w' b bm vb' G' vq ks' ∧ Touch (kfp b vb G) w w' ∧ ∀ k ∈ kfp b vb' G', k ∈ kfp b vb G ∨ w.heap.size ≤ k
theorem seg_fin {w W : World} {b bm : Nat} {vb vb' vq : Value} {P S M : List Seg} {s : Seg} {ks ks' : List ByteArray} (h : KeysAt w b bm vb (P ++ s :: S) vq ks) (hso : Rising ks') (hfl : flat P ++ (flat M ++ flat S) = ks')
    (hr : W.heap[b]? = some (.cells #[.map (some bm), vb', vq] 77 (0, 0))) (hkb : W.ownsRow 0 83 1 vb' (P ++ (M ++ S)).length ((P ++ (M ++ S)).map Seg.val)) (hA : ∀ t : Seg, t.Apart s → t.At w → t.At W)
    (hMA : ∀ t ∈ M, t.At W) (hMn : ∀ t ∈ M, 0 < t.ks.length ∧ t.ks.length ≤ 128) (hMp : M.Pairwise Seg.Apart) (hMg : ∀ t ∈ M, (t.g = s.g ∧ s.o ≤ t.o ∧ t.o + t.c ≤ s.o + s.c) ∨ w.heap.size ≤ t.g)
    (ht : Touch (kfp b vb (P ++ s :: S)) w W) (hvb : ∀ k, vb'.ownBlock = some k → vb.ownBlock = some k ∨ w.heap.size ≤ k) : KeysLeft b bm vb (P ++ s :: S) vq ks' w W := by
  obtain ⟨a1, a2, a3⟩ := List.pairwise_append.1 h.kk.ap
  obtain ⟨a4, a5⟩ := List.pairwise_cons.1 a2
  have hPs : ∀ t ∈ P, t.Apart s := fun t hm => a3 t hm s (by simp)
  have hSs : ∀ t ∈ S, t.Apart s := fun t hm => (a4 t hm).symm
  have hmv : ∀ t : Seg, t.Apart s → t.At w → ∀ u ∈ M, t.Apart u := fun t hA hT u hu => by
    rcases hMg u hu with ⟨e1, e2, e3⟩ | e1
    · rcases hA with h | h | h
      · exact .inl fun e => h (e.trans e1)
      · exact .inr (.inl (by omega))
      · exact .inr (.inr (by omega))
    · exact .inl fun e => by have := hT.lt; omega
  refine ⟨vb', P ++ (M ++ S), ⟨hr, hkb, ⟨fun t hm => ?_, fun t hm => ?_, ?_⟩, ?_, hso⟩, ht, fun k hk => ?_⟩
  · rcases List.mem_append.1 hm with hm | hm
    · exact hA t (hPs t hm) (h.kk.at_ t (by simp [hm]))
    · rcases List.mem_append.1 hm with hm | hm
      · exact hMA t hm
      · exact hA t (hSs t hm) (h.kk.at_ t (by simp [hm]))
  · rcases List.mem_append.1 hm with hm | hm
    · exact h.kk.ne t (by simp [hm])
    · rcases List.mem_append.1 hm with hm | hm
      · exact hMn t hm
      · exact h.kk.ne t (by simp [hm])
  · refine List.pairwise_append.2 ⟨a1, List.pairwise_append.2 ⟨hMp, a5, fun u hu t hm => (hmv t (hSs t hm) (h.kk.at_ t (by simp [hm])) u hu).symm⟩, fun t hm u hu => ?_⟩
    rcases List.mem_append.1 hu with hu | hu
    · exact hmv t (hPs t hm) (h.kk.at_ t (by simp [hm])) u hu
    · exact a3 t hm u (by simp [hu])
  · rw [flat_app, flat_app]; exact hfl
  · rcases mem_kfp.1 hk with rfl | hk | ⟨t, hm, rfl⟩
    · exact .inl (mem_kfp.2 (.inl rfl))
    · rcases hvb k hk with h1 | h1
      · exact .inl (mem_kfp.2 (.inr (.inl h1)))
      · exact .inr h1
    · rcases List.mem_append.1 hm with hm | hm
      · exact .inl (mem_kfp.2 (.inr (.inr ⟨t, by simp [hm], rfl⟩)))
      · rcases List.mem_append.1 hm with hm | hm
        · rcases hMg t hm with ⟨e1, _⟩ | e1
          · exact .inl (mem_kfp.2 (.inr (.inr ⟨s, by simp, e1.symm⟩)))
          · exact .inr e1
        · exact .inl (mem_kfp.2 (.inr (.inr ⟨t, by simp [hm], rfl⟩)))
/-- the keys less one -/
theorem del_flat {P S : List Seg} {s : Seg} {x : ByteArray} {j : Nat} (hkl : klo (flat (P ++ s :: S)) x = (flat P).length + j) (hj : j < s.ks.length) : (flat (P ++ s :: S)).take (klo (flat (P ++ s :: S)) x) ++ (flat (P ++ s :: S)).drop (klo (flat (P ++ s :: S)) x + 1) = flat P ++ ((s.ks.take j ++ s.ks.drop (j + 1)) ++ flat S) := by
  rw [hkl, flat_app, flat_cons]
  have e1 : (flat P ++ (s.ks ++ flat S)).take ((flat P).length + j) = flat P ++ s.ks.take j := by
    rw [List.take_append, List.take_of_length_le (by omega), Nat.add_sub_cancel_left, List.take_append_of_le_length (by omega)]
  have e2 : (flat P ++ (s.ks ++ flat S)).drop ((flat P).length + j + 1) = s.ks.drop (j + 1) ++ flat S := by
    rw [Nat.add_assoc, List.drop_append, List.drop_of_length_le (by omega), Nat.add_sub_cancel_left, List.drop_append_of_le_length (by omega), List.nil_append]
  rw [e1, e2]
  simp only [List.append_assoc]
/-- behind slices.Delete of the key -/
theorem DelW.of {w w2 w3 : World} {b bm ba bc : Nat} {vq : Value} {P S : List Seg} {s : Seg} {ks : List ByteArray} {j : Nat} (h : KeysAt w b bm (.slice (some ⟨ba, 0, none⟩) (P ++ s :: S).length bc) (P ++ s :: S) vq ks) (hB : Below w.heap.size w w2) (hA : (s.cut j).At w3) (ht : Touch [s.g] w2.drew w3) (ho : ∀ t : Seg, t.Apart s → t.At w2.drew → t.At w3) : InsW w w3 b bm ba bc vq P S s (s.cut j) := by
  have hm : s ∈ P ++ s :: S := by simp
  have hst : ∀ k, k < w.heap.size → k ≠ s.g → w3.heap[k]? = w.heap[k]? := fun k hk hne => (ht.block k (Nat.lt_of_lt_of_le hk hB.size) (by simpa using hne)).trans (hB.block k hk)
  exact ⟨(hst b (hp_lt h.r) (h.seg_b hm).symm).trans h.r, ownsRow_same h.kb fun k hk => hst k (ownsRow_blk h.kb k hk) (h.seg_ba hm hk).symm, hA, fun t hA hT => ho t hA (hT.same (hB.block _ hT.lt)), .inl ⟨rfl, rfl, rfl⟩, (touch_drew (Touch.of_below hB)).trans (fun _ hk => .inl hk) (ht.mono fun k hk => by rw [List.mem_singleton.1 hk]; exact mem_kfp.2 (.inr (.inr ⟨s, hm, rfl⟩)))⟩
/-- others stay in the block -/
theorem del_done {w w3 : World} {b bm ba bc : Nat} {vq : Value} {P S : List Seg} {s : Seg} {ks ks' : List ByteArray} {j : Nat} (h : KeysAt w b bm (.slice (some ⟨ba, 0, none⟩) (P ++ s :: S).length bc) (P ++ s :: S) vq ks) (hso : Rising ks') (hfl : flat P ++ ((s.ks.take j ++ s.ks.drop (j + 1)) ++ flat S) = ks') (hj : j < s.ks.length) (h2 : 2 ≤ s.ks.length) (hi : InsW w w3 b bm ba bc vq P S s (s.cut j)) :
    KeysLeft b bm (.slice (some ⟨ba, 0, none⟩) (P ++ s :: S).length bc) (P ++ s :: S) vq ks' w (w3.setCell ⟨ba, P.length, none⟩ (.slice (some ⟨s.g, s.o, none⟩) (s.ks.length - 1) s.c)) := by
  have hv : (s.cut j).val = .slice (some ⟨s.g, s.o, none⟩) (s.ks.length - 1) s.c := by unfold Seg.val; rw [Seg.cut_len hj]; rfl
  rw [← hv]
  have hm : s ∈ P ++ s :: S := by simp
  have hn8 := (h.kk.ne s hm).2
  have hS : ∀ t : Seg, t.At w3 → t.At (w3.setCell ⟨ba, P.length, none⟩ (s.cut j).val) := fun t ht => ht.same (Below.heap_setCell _ _ _ _ (hi.at_ba ht).1)
  have hkb := ownsRow_set (i := P.length) hi.kb (s.cut j).val
  rw [set_mid] at hkb
  have hlen : (P ++ ([s.cut j] ++ S)).length = (P ++ s :: S).length := by simp
  refine seg_fin (M := [s.cut j]) h hso (by rw [← hfl, flat_cons]; simp [flat, Seg.cut]) ((Below.heap_setCell _ _ _ _ hi.ba_b).trans hi.r) (by rw [hlen]; exact hkb) (fun t hA hT => hS t (hi.o t hA hT)) (fun t hm => by rw [List.mem_singleton.1 hm]; exact hS _ hi.a) (fun t hm => by rw [List.mem_singleton.1 hm, Seg.cut_len hj]; omega) (List.pairwise_singleton _ _) (fun t hm => ?_) (hi.t.trans (fun _ hk => .inl hk) (Touch.setCell _ _ _ (mem_kfp.2 (.inr (.inl rfl))))) (fun k hk => .inl hk)
  rw [List.mem_singleton.1 hm]
  exact .inl ⟨rfl, Nat.le_refl _, Nat.le_refl _⟩
/-- the block goes -/
theorem del_done1 {w w3 w5 : World} {b bm ba bc : Nat} {vq : Value} {P S : List Seg} {s : Seg} {ks ks' : List ByteArray} {j : Nat} (h : KeysAt w b bm (.slice (some ⟨ba, 0, none⟩) (P ++ s :: S).length bc) (P ++ s :: S) vq ks) (hso : Rising ks') (hfl : flat P ++ ((s.ks.take j ++ s.ks.drop (j + 1)) ++ flat S) = ks') (hj : j < s.ks.length) (h1 : s.ks.length = 1) (hi : InsW w w3 b bm ba bc vq P S s (s.cut j)) (v : Value)
    (hown : w5.ownsRow 0 83 1 (.slice (some ⟨ba, 0, none⟩) ((P ++ s :: S).length - 1) bc) ((P ++ s :: S).length - 1) ((P ++ S).map Seg.val)) (ht : Touch [ba] (w3.setCell ⟨ba, P.length, none⟩ v) w5) :
    KeysLeft b bm (.slice (some ⟨ba, 0, none⟩) (P ++ s :: S).length bc) (P ++ s :: S) vq ks' w (w5.setCell ⟨b, 1, none⟩ (.slice (some ⟨ba, 0, none⟩) ((P ++ s :: S).length - 1) bc)) := by
  have t3 : Touch [ba] w3 w5 := (Touch.setCell w3 ⟨ba, P.length, none⟩ v (by simp)).trans (fun _ hk => .inl hk) ht
  have hs3 : ∀ k, k < w3.heap.size → k ≠ ba → w5.heap[k]? = w3.heap[k]? := fun k hk hne => t3.block k hk (by simpa using hne)
  have hS : ∀ t : Seg, t.At w3 → t.At (w5.setCell ⟨b, 1, none⟩ (.slice (some ⟨ba, 0, none⟩) ((P ++ s :: S).length - 1) bc)) := fun t hT => (hT.same (hs3 t.g hT.lt (hi.at_ba hT).1)).same (Below.heap_setCell _ _ _ _ (hi.at_ba hT).2)
  have hlen : (P ++ ([] ++ S)).length = (P ++ s :: S).length - 1 := by simp
  have h0 : s.ks.take j ++ s.ks.drop (j + 1) = [] := List.length_eq_zero_iff.1 (by simp; omega)
  refine seg_fin (vb' := .slice (some ⟨ba, 0, none⟩) ((P ++ s :: S).length - 1) bc) (M := []) h hso (by rw [← hfl, h0]; rfl) ?_ (by rw [hlen]; exact ownsRow_same hown fun k hk => by cases hk; exact Below.heap_setCell _ _ _ _ (show ba ≠ b from hi.ba_b.symm)) (fun t hA hT => hS t (hi.o t hA hT)) (fun t hm => by cases hm) (fun t hm => by cases hm) List.Pairwise.nil (fun t hm => by cases hm) ?_ (fun k hk => .inl hk)
  · rw [heap_setCell_row ((hs3 b (hp_lt hi.r) hi.ba_b).trans hi.r)]
    rfl
  · exact (hi.t.trans (fun _ hk => .inl hk) (t3.mono fun k hk => by rw [List.mem_singleton.1 hk]; exact mem_kfp.2 (.inr (.inl rfl)))).trans (fun _ hk => .inl hk) (Touch.setCell _ _ _ (mem_kfp.2 (.inl rfl)))
/-- the whole store behind a change of its keys -/
theorem key_fin {w w1 W : World} {b bm : Nat} {vb vq : Value} {G : List Seg} {L L' : SL} {q : Nat} {qs : List Value} (h : StM w b bm vb G vq L q qs) (hm1 : MapAt w1 bm L') (t1 : Touch [bm] w w1) (hK : KeysLeft b bm vb G vq (skeys L') w1 W) : PutPost b bm vb G vq L L' q qs w (.returned (.tuple #[])) W := by
  obtain ⟨vb', G', hk, ht, hF⟩ := hK
  refine ⟨rfl, vb', G', ⟨hk, hm1.same (ht.block bm hm1.lt h.bm_kfp), ownsRow_same h.kq fun g hg => ?_⟩, ?_, fun k hk => ?_⟩
  · have hl := ownsRow_blk h.kq g hg
    exact (ht.block g (Nat.lt_of_lt_of_le hl t1.size) (h.vq_kfp g hg).2).trans (t1.block g hl (by simpa using (h.vq_kfp g hg).1))
  · exact (t1.mono fun k hk => by rw [List.mem_singleton.1 hk]; exact (fpr_kfp _ _ _ _ _ _ _).2 (.inl rfl)).trans (fun _ hk => .inl hk) (ht.mono fun k hk => (fpr_kfp _ _ _ _ _ _ _).2 (.inr (.inl hk)))
  · rcases (fpr_kfp _ _ _ _ _ _ _).1 hk with h1 | h1 | h1
    · exact .inl ((fpr_kfp _ _ _ _ _ _ _).2 (.inl h1))
    · rcases hF k h1 with h2 | h2
      · exact .inl ((fpr_kfp _ _ _ _ _ _ _).2 (.inr (.inl h2)))
      · right; have := t1.size; omega
    · exact .inl ((fpr_kfp _ _ _ _ _ _ _).2 (.inr (.inr h1)))
set_option maxRecDepth 100000 in
set_option maxHeartbeats 4000000 in
theorem drop_live (b bm : Nat) (vb : Value) (vk : List Seg) (vq : Value) (L : SL) (q : Nat) (qs : List Value) (k : ByteArray) (w : World) (h : StM w b bm vb vk vq L q qs) (hk : k.size ≤ maxLen) (hN : L.length ≤ 1000000) (hin : (sget L k).isSome = true) :
    Calls Try.prog 48 #[.pointer (some ⟨b, 0, none⟩), .string k] w (PutPost b bm vb vk vq L (sdel L k) q qs w) := by
  obtain ⟨p1, p2, p3⟩ := sdel_parts k L h.so hin
  have hkl : (skeys L).length = L.length := by unfold skeys; simp
  have hfl := h.keys.fl
  have hGl := h.keys.len
  have hne : ∀ s ∈ vk, 0 < s.ks.length := fun s hm => (h.keys.kk.ne s hm).1
  obtain ⟨P, s, S, rfl, hg1, hk1, hjs⟩ : ∃ P s S, vk = P ++ s :: S ∧ gN vk k = P.length ∧ klo (skeys L) k = (flat P).length + klo s.ks k ∧ klo s.ks k < s.ks.length := by
    rcases plc_parts k vk (by rw [hfl]; exact h.so) hne with ⟨h1, h2⟩ | ⟨P, s, S, rfl, h1, h2, h3⟩
    · rw [hfl, hkl] at h2; omega
    · exact ⟨P, s, S, rfl, h1, by rw [← hfl]; exact h2, h3⟩
  have hpos : 0 < (P ++ s :: S).length := by rw [List.length_append, List.length_cons]; omega
  have hlt : P.length < (P ++ s :: S).length := by rw [List.length_append, List.length_cons]; omega
  obtain ⟨ba, bc, rfl, hba⟩ := ownsRow_form h.keys.kb hpos
  obtain ⟨w1, hdel, hm1, t1⟩ := h.m.del h.so k hk 0
  have hK1 : KeysAt w1 b bm (.slice (some ⟨ba, 0, none⟩) (P ++ s :: S).length bc) (P ++ s :: S) vq (skeys L) := h.keys.same fun g hg => t1.block g (h.keys.lt g hg) (by simp only [List.mem_singleton]; intro e; exact h.bm_kfp (e ▸ hg))
  have hcell : ∀ i (hi : i < (P ++ s :: S).length), w1.cell? ⟨ba, i, none⟩ = some (P ++ s :: S)[i].val := fun i hi => ownsRow_cell hK1.kb rfl (by rw [List.getElem?_map, List.getElem?_eq_getElem hi]; rfl)
  have HP := place_some b bm ba bc (P ++ s :: S) vq k w1 hpos (by omega) (by rw [hfl]; exact h.so) hK1.kk hK1.r hcell
  have hpl : plcI (P ++ s :: S) k = (P.length, klo s.ks k) := by
    unfold plcI
    rw [if_neg (by rw [hg1]; simp), hg1]
    rw [List.getD_eq_getElem?_getD, List.getElem?_append_right (Nat.le_refl _), Nat.sub_self]
    rfl
  rw [hpl] at HP
  obtain ⟨j, ej⟩ : ∃ j, j = klo s.ks k := ⟨_, rfl⟩
  rw [← ej] at HP hk1 hjs
  have hdf : flat P ++ ((s.ks.take j ++ s.ks.drop (j + 1)) ++ flat S) = skeys (sdel L k) := by
    rw [skeys_sdel h.so hin, ← hfl]
    exact (del_flat (by rw [hfl]; exact hk1) hjs).symm
  have hso := rising_sdel (k := k) h.so
  have hm : s ∈ P ++ s :: S := by simp
  have ha := hcell P.length hlt
  replace ha : w1.cell? ⟨ba, P.length, none⟩ = some (.slice (some ⟨s.g, s.o, none⟩) s.ks.length s.c) := by
    rw [ha]
    have : (P ++ s :: S)[P.length]'hlt = s := by simp
    rw [this]; rfl
  have hnl : 0 < s.ks.length := hne s hm
  have hn8 := (h.keys.kk.ne s hm).2
  have HW := Lib.hid (fun (w2 w3 : World) (hB : Below w1.heap.size w1 w2) (hA : (s.cut j).At w3) (ht : Touch [s.g] w2.drew w3) ho => DelW.of hK1 hB hA ht ho)
  have HF2 := Lib.hid (fun (w3 : World) (h2 : 2 ≤ s.ks.length) (hi : InsW w1 w3 b bm ba bc vq P S s (s.cut j)) => key_fin h hm1 t1 (del_done hK1 hso hdf hjs h2 hi))
  have HF1 := Lib.hid (fun (w3 w5 : World) (h2 : s.ks.length = 1) (hi : InsW w1 w3 b bm ba bc vq P S s (s.cut j)) v hown ht => key_fin h hm1 t1 (del_done1 (w5 := w5) hK1 hso hdf hjs h2 hi v hown ht))
  have HD := Lib.hid (fun (w2 : World) (hB : Below w1.heap.size w1 w2) => del_seg s j w2.drew ((hK1.kk.at_ s hm).same (hB.block _ (hK1.kk.at_ s hm).lt)) hjs)
  have HR := Lib.hid (fun (w3 : World) (hi : InsW w1 w3 b bm ba bc vq P S s (s.cut j)) (v : Value) (hv : v = (s.cut j).val) => del_rows ba bc (P ++ s :: S).length P S (s.cut j) (w3.setCell ⟨ba, P.length, none⟩ v) (by simp) (by
    have := ownsRow_set (i := P.length) hi.kb v
    rw [hv, set_mid] at this
    rw [hv]
    exact this))
  have hcv : (s.cut j).val = .slice (some ⟨s.g, s.o, none⟩) (s.ks.length - 1) s.c := by unfold Seg.val; rw [Seg.cut_len hjs]; rfl
  have HCv := Lib.hid hcv
  have c0 := (hp_cell (i := 0) h.r).trans rfl
  have lb := hp_lt h.r
  have HR1 := Lib.hid hK1.r
  have HA1 := Lib.hid ha
  have HPl := Lib.hid HP
  obtain ⟨i, ei⟩ : ∃ i, i = P.length := ⟨_, rfl⟩
  obtain ⟨N, eN⟩ : ∃ N, N = (P ++ s :: S).length := ⟨_, rfl⟩
  obtain ⟨n, en⟩ : ∃ n, n = s.ks.length := ⟨_, rfl⟩
  have hiN : i < N := by rw [ei, eN]; exact hlt
  have hN6 : N ≤ 1000000 := by rw [eN]; omega
  rw [← ei] at HF1 HF2 HR HA1 HPl
  rw [← eN] at HF1 HF2 HR HR1 ⊢
  rw [← en] at HF1 HF2 HD HA1 HCv hjs hn8 hnl
  have ei' := ei
  have eN' := eN
  clear hpos hlt h hk hN hin p1 p2 p3 hkl hfl hGl hne hg1 hk1 hba hm1 t1 hK1 hcell HP hpl ej hdf hso hm ha hcv ei eN en
  have Hei := Lib.hid (And.intro ei' eN')
  clear ei' eN'
  have i1 : (i : Int) < (N : Int) := by omega
  have i2 : (N : Int) ≤ 1000000 := by omega
  have i3 : (j : Int) < (n : Int) := by omega
  have i4 : (n : Int) ≤ 128 := by omega
  have hw1 : IntKind.i64.wrap ((j : Int) + 1) = (j : Int) + 1 := IntWalk.i64_in _ (by omega)
  have hw2 : IntKind.i64.wrap ((i : Int) + 1) = (i : Int) + 1 := IntWalk.i64_in _ (by omega)
  go_enter Try.func48, Try.ntmps48
  go_upto_region 2 with (go_at_call 49; refine HPl.out.mono ?_; rintro e w2 ⟨rfl, hb2⟩; have HB2 := Lib.hid hb2; have r2 := (hb2.block b (hp_lt HR1.out)).trans HR1.out; have a2 := (hb2.cell (p := ⟨ba, i, none⟩) (World.block_lt_of_cell? _ _ HA1.out)).trans HA1.out; clear hb2)
  have c1 := (hp_cell (i := 1) r2).trans rfl
  have hd := HD.out w2 HB2.out
  rw [show ((j + 1 : Nat) : Int) = (j : Int) + 1 by omega] at hd
  have HDx := Lib.hid hd
  have HWx := Lib.hid (fun w3 hA ht ho => HW.out w2 w3 HB2.out hA ht ho)
  have HRw := Lib.hid (fun (w3 : World) (hi : InsW w1 w3 b bm ba bc vq P S s (s.cut j)) => show w3.cell? ⟨b, 1, none⟩ = some (.slice (some ⟨ba, 0, none⟩) (P ++ s :: S).length bc) from (hp_cell (i := 1) hi.r).trans rfl)
  have HCl := Lib.hid (fun (w3 : World) (hi : InsW w1 w3 b bm ba bc vq P S s (s.cut j)) => show w3.cell? ⟨ba, P.length, none⟩ = some s.val from ownsRow_cell hi.kb rfl (by simp))
  have HFz := Lib.hid (fun (w3 : World) (hi : InsW w1 w3 b bm ba bc vq P S s (s.cut j)) => show w3.frozen? ⟨ba, P.length, none⟩ = false by obtain ⟨cs, hc⟩ := ownsRow_ty hi.kb rfl; exact hp_free hc)
  have HBa := Lib.hid (fun (w3 : World) (hi : InsW w1 w3 b bm ba bc vq P S s (s.cut j)) => hi.ba_b)
  rw [← Hei.out.1] at HCl HFz
  rw [← Hei.out.2] at HRw
  clear hd HD HW r2 hdel c0 HR1 HA1 HPl HB2
  by_cases h1 : n = 1
  · subst h1
    obtain rfl : j = 0 := by omega
    go_region_with (go_at_call 67; refine HDx.out.mono ?_; rintro e w3 ⟨rfl, hA, ht, ho⟩; have hi := HWx.out w3 hA ht ho; have HI := Lib.hid hi; have d1 := HRw.out w3 hi; have d2 := HCl.out w3 hi; have f2 := HFz.out w3 hi; have e1 := HBa.out w3 hi; clear hA ht ho hi)
    all_goals
      have hr4 : (w3.setCell ⟨ba, i, none⟩ (.slice (some ⟨s.g, s.o, none⟩) 0 s.c)).heap[b]? = some (.cells #[.map (some bm), .slice (some ⟨ba, 0, none⟩) N bc, vq] 77 (0, 0)) := by
        rw [Hei.out.2]; exact (Below.heap_setCell _ _ _ _ (show b ≠ ba from e1)).trans HI.out.r
      have hd5 := HR.out w3 HI.out (.slice (some ⟨s.g, s.o, none⟩) 0 s.c) (by rw [HCv.out])
      rw [show ((i + 1 : Nat) : Int) = (i : Int) + 1 by omega] at hd5
      have HD5 := Lib.hid hd5
      have g4 := (hp_cell (i := 1) hr4).trans rfl
      have HR4 := Lib.hid hr4
      clear hd5 hr4 d1 f2
      go_wp2_with (go_at_call 68; refine HD5.out.mono ?_; rintro e w5 ⟨rfl, hown, ht⟩; have r5 := (ht.block b (hp_lt HR4.out) (by simpa using e1)).trans HR4.out; have z1 := (hp_cell (i := 1) r5).trans rfl; have z2 := hp_free (i := 1) r5; have d3 := Lib.hid (HF1.out w3 w5 trivial HI.out _ hown ht); clear hown ht r5)
      go_end0
      exact d3.out
  · have hn2 : ¬ (n : Int) - 1 = 0 := by omega
    go_region_with (go_at_call 67; refine HDx.out.mono ?_; rintro e w3 ⟨rfl, hA, ht, ho⟩; have hi := HWx.out w3 hA ht ho; have HI := Lib.hid hi; have d1 := HRw.out w3 hi; have d2 := HCl.out w3 hi; have f2 := HFz.out w3 hi; have e1 := HBa.out w3 hi; have d3 := Lib.hid (HF2.out w3 (by omega) hi); clear hA ht ho hi)
    all_goals
      go_wp2
      go_end0
      exact d3.out
end Go.Proofs.Ytbfmhafmncnhfaa

namespace Go.Proofs.Ytbfmhafmncnhfaa
open Go.RowKit

/-- which of two rows stands below: from r on, d places -/
def lexL (f g : Nat → Int) (r : Nat) : Nat → Bool
  | 0 => false
  | d + 1 => if f r ≠ g r then decide (f r < g r) else lexL f g (r + 1) d
def u8l (l : List Nat) : List UInt8 := l.map UInt8.ofNat
theorem strOfNums_u8l (l : List Nat) : (strOfNums (ints l)).toList = u8l l := by
  rw [ByteArray.toList_eq]
  simp [strOfNums, ints, u8l, Function.comp_def]
theorem bytesLess_cons (a b : Nat) (ha : a < 256) (hb : b < 256) (x y : List UInt8) :
    Op.bytesLess (UInt8.ofNat a :: x) (UInt8.ofNat b :: y) = if a = b then Op.bytesLess x y else decide (a < b) := by
  have e1 : (UInt8.ofNat a < UInt8.ofNat b) ↔ a < b := by
    rw [UInt8.lt_iff_toNat_lt, UInt8.toNat_ofNat', UInt8.toNat_ofNat', Nat.mod_eq_of_lt ha, Nat.mod_eq_of_lt hb]
  have e2 : (UInt8.ofNat a = UInt8.ofNat b) ↔ a = b := by
    rw [← UInt8.toNat_inj, UInt8.toNat_ofNat', UInt8.toNat_ofNat', Nat.mod_eq_of_lt ha, Nat.mod_eq_of_lt hb]
  simp only [Op.bytesLess]
  by_cases h : a = b
  · subst h; simp [UInt8.lt_irrefl]
  · have h2 : (UInt8.ofNat a == UInt8.ofNat b) = false := by rw [beq_eq_false_iff_ne]; exact fun e => h (e2.1 e)
    rw [if_neg h, h2]; simp [e1]
/-- k bytes of a, the greatest first -/
def be (a : Nat) : Nat → List Nat
  | 0 => []
  | k + 1 => kbyte a k :: be a k
theorem be_less (a b : Nat) (x y : List UInt8) : ∀ k, Op.bytesLess (u8l (be a k) ++ x) (u8l (be b k) ++ y) = if a % 2 ^ (8 * k) = b % 2 ^ (8 * k) then Op.bytesLess x y else decide (a % 2 ^ (8 * k) < b % 2 ^ (8 * k))
  | 0 => by simp [be, u8l, Nat.mod_one]
  | k + 1 => by
    have ih := be_less a b x y k
    have hp : 0 < 2 ^ (8 * k) := Nat.pow_pos (by decide)
    have ma : a % 2 ^ (8 * (k + 1)) = a % 2 ^ (8 * k) + 2 ^ (8 * k) * kbyte a k := by
      rw [show 8 * (k + 1) = 8 * k + 8 by omega, Nat.pow_add, Nat.mod_mul]; rfl
    have mb : b % 2 ^ (8 * (k + 1)) = b % 2 ^ (8 * k) + 2 ^ (8 * k) * kbyte b k := by
      rw [show 8 * (k + 1) = 8 * k + 8 by omega, Nat.pow_add, Nat.mod_mul]; rfl
    have la := Nat.mod_lt a hp
    have lb := Nat.mod_lt b hp
    have ca := kbyte_lt a k
    have cb := kbyte_lt b k
    rw [ma, mb]
    show Op.bytesLess (UInt8.ofNat (kbyte a k) :: (u8l (be a k) ++ x)) (UInt8.ofNat (kbyte b k) :: (u8l (be b k) ++ y)) = _
    rw [bytesLess_cons _ _ ca cb, ih]
    generalize kbyte a k = p at *
    generalize kbyte b k = q at *
    generalize a % 2 ^ (8 * k) = u at *
    generalize b % 2 ^ (8 * k) = v at *
    generalize 2 ^ (8 * k) = z at *
    by_cases h : p = q
    · subst h
      rw [if_pos rfl]
      by_cases h2 : u = v
      · subst h2; rw [if_pos rfl, if_pos rfl]
      · rw [if_neg h2, if_neg (by omega)]
        by_cases h3 : u < v
        · rw [decide_eq_true h3, decide_eq_true (by omega)]
        · rw [decide_eq_false h3, decide_eq_false (by omega)]
    · rw [if_neg h]
      rcases Nat.lt_or_gt_of_ne h with h3 | h3
      · have := Nat.mul_le_mul_left z (show p + 1 ≤ q from h3)
        rw [Nat.mul_add] at this
        rw [if_neg (by omega), decide_eq_true h3, decide_eq_true (by omega)]
      · have := Nat.mul_le_mul_left z (show q + 1 ≤ p from h3)
        rw [Nat.mul_add] at this
        rw [if_neg (by omega), decide_eq_false (by omega), decide_eq_false (by omega)]
theorem kb8_be (a : Nat) : kb8 a = be a 8 := rfl
/-- the bytes of d numbers from r on -/
def tl (f : Nat → Int) (r : Nat) : Nat → List Nat
  | 0 => []
  | d + 1 => kb8 (f r).toNat ++ tl f (r + 1) d
theorem tl_snoc (f : Nat → Int) : ∀ (d r : Nat), tl f r (d + 1) = tl f r d ++ kb8 (f (r + d)).toNat
  | 0, r => by simp [tl]
  | d + 1, r => by
    rw [tl, tl_snoc f d (r + 1), tl, List.append_assoc, show r + 1 + d = r + (d + 1) by omega]
theorem kbs_tl (t : Nat) (f : Nat → Int) : ∀ n, kbs t f n = t :: tl f 0 n
  | 0 => rfl
  | n + 1 => by rw [kbs, kbs_tl t f n, tl_snoc, Nat.zero_add]; rfl
theorem u8l_append (a b : List Nat) : u8l (a ++ b) = u8l a ++ u8l b := by simp [u8l]
theorem tl_less {f g : Nat → Int} (mf : ∀ i, f i < 2 ^ 63) (mg : ∀ i, g i < 2 ^ 63) : ∀ (d r : Nat), (∀ i, i < r + d → 0 ≤ f i) → (∀ i, i < r + d → 0 ≤ g i) →
    Op.bytesLess (u8l (tl f r d)) (u8l (tl g r d)) = lexL f g r d
  | 0, r, _, _ => by simp [tl, u8l, Op.bytesLess, lexL]
  | d + 1, r, hf, hg => by
    have ih := tl_less mf mg d (r + 1) (fun i hi => hf i (by omega)) (fun i hi => hg i (by omega))
    have f0 := hf r (by omega)
    have g0 := hg r (by omega)
    have f1 := mf r
    have g1 := mg r
    rw [tl, tl, u8l_append, u8l_append, kb8_be, kb8_be, be_less, ih, lexL]
    rw [Nat.mod_eq_of_lt (show (f r).toNat < 2 ^ (8 * 8) by omega), Nat.mod_eq_of_lt (show (g r).toNat < 2 ^ (8 * 8) by omega)]
    by_cases h : f r = g r
    · rw [if_pos (by rw [h]), if_neg (fun e => e h)]
    · rw [if_neg (by omega), if_pos h]
      by_cases h2 : f r < g r
      · rw [decide_eq_true h2, decide_eq_true (by omega)]
      · rw [decide_eq_false h2, decide_eq_false (by omega)]
theorem key_less {t n : Nat} {f g : Nat → Int} (ht : t < 256) (hf : ∀ i, i < n → 0 ≤ f i) (hg : ∀ i, i < n → 0 ≤ g i) (mf : ∀ i, f i < 2 ^ 63) (mg : ∀ i, g i < 2 ^ 63) :
    Op.bytesLess (strOfNums (ints (kbs t f n))).toList (strOfNums (ints (kbs t g n))).toList = lexL f g 0 (n - 0) := by
  rw [strOfNums_u8l, strOfNums_u8l, kbs_tl, kbs_tl, Nat.sub_zero]
  show Op.bytesLess (UInt8.ofNat t :: u8l (tl f 0 n)) (UInt8.ofNat t :: u8l (tl g 0 n)) = _
  rw [bytesLess_cons t t ht ht, if_pos rfl]
  exact tl_less mf mg n 0 (fun i hi => hf i (by omega)) (fun i hi => hg i (by omega))
end Go.Proofs.Ytbfmhafmncnhfaa

namespace Go.Proofs.Ytbfmhafmncnhfaa

theorem u8l_getD {l : List Nat} {i : Nat} (x : List UInt8) (h : i < l.length) (hb : ∀ y ∈ l, y < 256) : ((u8l l ++ x).getD i 0).toNat = l.getD i 0 := by
  have h2 : i < (u8l l).length := by rw [u8l, List.length_map]; exact h
  rw [List.getD, List.getElem?_append_left h2, u8l, List.getElem?_map, List.getElem?_eq_getElem h, List.getD, List.getElem?_eq_getElem h]
  simp only [Option.map_some, Option.getD_some]
  rw [UInt8.toNat_ofNat', Nat.mod_eq_of_lt (hb _ (List.getElem_mem h))]
theorem kb8_lt (a : Nat) : ∀ y ∈ kb8 a, y < 256 := by
  intro y hy
  simp only [kb8, List.mem_cons, List.not_mem_nil, or_false] at hy
  rcases hy with rfl | rfl | rfl | rfl | rfl | rfl | rfl | rfl <;> exact kbyte_lt _ _
theorem numl_kb8 {a : Nat} (x : List UInt8) (ha : a < 2 ^ 64) : numl (u8l (kb8 a) ++ x) 8 = a := by
  have g : ∀ i, i < 8 → ((u8l (kb8 a) ++ x).getD i 0).toNat = (kb8 a).getD i 0 := fun i hi => u8l_getD x hi (kb8_lt a)
  simp only [numl]
  rw [g 0 (by decide), g 1 (by decide), g 2 (by decide), g 3 (by decide), g 4 (by decide), g 5 (by decide), g 6 (by decide), g 7 (by decide)]
  simp only [kb8, List.getD_cons_zero, List.getD_cons_succ, kbyte]
  omega
theorem drop_tl (f : Nat → Int) : ∀ (i r d : Nat), i ≤ d → (u8l (tl f r d)).drop (8 * i) = u8l (tl f (r + i) (d - i))
  | 0, r, d, _ => by simp
  | i + 1, r, d + 1, h => by
    have hl : (u8l (kb8 (f r).toNat)).length = 8 := rfl
    have e8 : (u8l (kb8 (f r).toNat)).drop 8 = [] := List.drop_of_length_le (by omega)
    rw [tl, u8l_append, show 8 * (i + 1) = 8 + 8 * i by omega, ← List.drop_drop, List.drop_append_of_le_length (by omega), e8, List.nil_append, drop_tl f i (r + 1) d (by omega)]
    rw [show r + 1 + i = r + (i + 1) by omega, show d + 1 - (i + 1) = d - i by omega]
theorem chunk_tl {v : ByteArray} {f : Nat → Int} {n i : Nat} (hv : v.data.toList = u8l (tl f 0 n)) (hi : i < n) (hf : f i < 2 ^ 63) : chunk v i = (f i).toNat := by
  unfold chunk
  rw [hv, drop_tl f i 0 n (by omega), Nat.zero_add, show n - i = (n - i - 1) + 1 by omega, tl, u8l_append]
  exact numl_kb8 _ (by omega)
end Go.Proofs.Ytbfmhafmncnhfaa
