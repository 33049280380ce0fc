/- The store: slices.Delete of one key of a row that the store owns. -/
import Derived.Test.YtedkhpnlhkjjgaaG06
import Derived.Deep.RegionLaw
namespace Go.Proofs.Ytedkhpnlhkjjgaa
open Go.RowKit Go.Maps Go.Sort

theorem strsOf_map (ks : List ByteArray) : ((Lib.strsOf (fun i => ks.getD i ⟨#[]⟩) ks.length).map encStr) = ks.map Value.string := by
  unfold Lib.strsOf
  rw [List.map_map]
  refine List.ext_getElem (by simp) fun i h1 h2 => ?_
  have hi : i < ks.length := by simpa using h2
  simp [encStr, List.getD, List.getElem?_eq_getElem hi]
theorem del_own (bk kc j : Nat) (ks : List ByteArray) (w : World) (hown : w.ownsRow 0 9 1 (.slice (some ⟨bk, 0, none⟩) ks.length kc) ks.length (ks.map Value.string)) (hj : j < ks.length) :
    Calls Try.prog 146 #[.slice (some ⟨bk, 0, none⟩) ks.length kc, .int .i64 (j : Nat), .int .i64 ((j + 1 : Nat) : Int)] w fun e w' => e = .returned (.slice (some ⟨bk, 0, none⟩) (ks.length - 1) kc) ∧
      w'.ownsRow 0 9 1 (.slice (some ⟨bk, 0, none⟩) (ks.length - 1) kc) (ks.length - 1) ((ks.take j ++ ks.drop (j + 1)).map Value.string) ∧ Touch [bk] w w' := by
  obtain ⟨cur, hg, hn, hc, hs, ht, hl⟩ := ownsRow_open hown
  have hcell : ∀ i, i < ks.length → w.cell? ⟨bk, 0 + i, none⟩ = some (.string (ks.getD i ⟨#[]⟩)) := by
    intro i hi
    rw [Nat.zero_add, hown.cellAt i (by omega), List.getElem?_map, List.getElem?_eq_getElem hi]
    simp [List.getD, List.getElem?_eq_getElem hi]
  refine (Try.slices_Delete_string_cells bk 0 ks.length kc j (j + 1) (fun i => ks.getD i ⟨#[]⟩) w hn (by unfold maxLen at hc; omega) (by omega) (by omega) hcell (fun i _ => hp_free hg)).mono ?_
  rintro e w' ⟨he, q, rfl⟩
  rw [show j + 1 - j = 1 by omega] at he
  have hvs : (((Lib.strsOf (fun i => ks.getD i ⟨#[]⟩) ks.length).take j ++ (Lib.strsOf (fun i => ks.getD i ⟨#[]⟩) ks.length).drop (j + 1) ++ List.replicate (j + 1 - j) []).map encStr) = (ks.take j ++ ks.drop (j + 1)).map Value.string ++ [.string ⟨#[]⟩] := by
    rw [show j + 1 - j = 1 by omega, List.map_append, List.map_append, List.map_take, List.map_drop, strsOf_map]
    simp [encStr, List.map_take, List.map_drop]
  rw [hvs]
  have hlen : ((ks.take j ++ ks.drop (j + 1)).map Value.string).length = ks.length - 1 := by
    simp
    omega
  refine ⟨he, ?_, ?_⟩
  · refine ownsRow_shut (heap_setCells_row _ _ (show (w.drewN q).heap[bk]? = _ from hg)) (by omega) hc (by rw [putA_size, hs]) ?_ (by rw [hlen]; omega)
    rw [putA_list _ _ _ (by rw [List.length_append, hlen]; simp; omega)]
    rw [List.take_zero, List.nil_append, List.append_assoc, Nat.mul_one]
    exact List.take_left' hlen
  · exact (show Touch [bk] w (w.drewN q) from ⟨rfl, rfl, rfl, Nat.le_refl _, fun _ _ _ => rfl⟩).trans (fun _ hk => .inl hk) (touch_setCells bk (by simp) _ _ _)
end Go.Proofs.Ytedkhpnlhkjjgaa

namespace Go.Proofs.Ytedkhpnlhkjjgaa
open Go.RowKit Go.Maps Go.Sort

theorem drop_done {w w1 w2 w3 : World} {b bm ba bc bk kc : Nat} {vq : Value} {L : SL} {q : Nat} {qs : List Value} {k : ByteArray} (h : StM w b bm (.slice (some ⟨ba, 0, none⟩) 1 bc) (.slice (some ⟨bk, 0, none⟩) L.length kc) vq L q qs) (hin : (sget L k).isSome = true) (h2 : 2 ≤ L.length)
    (hm1 : MapAt w1 bm (sdel L k)) (t1 : Touch [bm] w w1) (b2 : Below w1.heap.size w1 w2) (t3 : Touch [bk] w2 w3)
    (hown : w3.ownsRow 0 9 1 (.slice (some ⟨bk, 0, none⟩) (L.length - 1) kc) (L.length - 1) (((skeys L).take (klo (skeys L) k) ++ (skeys L).drop (klo (skeys L) k + 1)).map Value.string)) :
    PutPost b bm (.slice (some ⟨ba, 0, none⟩) 1 bc) (.slice (some ⟨bk, 0, none⟩) L.length kc) vq L (sdel L k) q qs w (.returned (.tuple #[])) (w3.setCell ⟨ba, 0, none⟩ (.slice (some ⟨bk, 0, none⟩) (L.length - 1) kc)) := by
  have hL0 : L ≠ [] := fun e => by rw [e] at h2; simp at h2
  have hld := length_sdel h.so hin
  have hD0 : sdel L k ≠ [] := fun e => by rw [e] at hld; simp at hld; omega
  have hnd := h.nd
  unfold fpr at hnd
  rw [if_neg hL0] at hnd
  obtain ⟨O, hO⟩ : ∃ O, O = vq.ownBlock := ⟨_, rfl⟩
  rw [← hO] at hnd
  simp only [Value.ownBlock, Option.toList_some, List.cons_append, List.nil_append, List.nodup_cons, List.mem_cons, not_or] at hnd
  obtain ⟨⟨n1, n2, n3, n4⟩, ⟨n5, n6, n7⟩, ⟨n8, n9⟩, n10, n11⟩ := hnd
  have lb := hp_lt h.r
  have lm := h.m.lt
  have la : ba < w.heap.size := ownsRow_blk h.kb ba rfl
  have lk : bk < w.heap.size := ownsRow_blk (h.kk hL0) bk rfl
  have s1 := t1.size
  have s2 := b2.size
  have far : ∀ g, g < w.heap.size → g ≠ bm → g ≠ bk → g ≠ ba → (w3.setCell ⟨ba, 0, none⟩ (.slice (some ⟨bk, 0, none⟩) (L.length - 1) kc)).heap[g]? = w.heap[g]? := fun g hg e1 e2 e3 => by
    rw [Below.heap_setCell _ _ _ _ (show g ≠ ba from e3), t3.block g (by omega) (by simpa using e2), b2.block g (by omega), t1.block g hg (by simpa using e1)]
  obtain ⟨cur, hc, c1, c2, c3, c4, c5⟩ := ownsRow_open (by have := h.kb; rw [if_neg hL0, if_neg hL0] at this; exact this)
  have hb3 : w3.heap[ba]? = some (.cells cur 193 (0, 0)) := by
    rw [t3.block ba (by omega) (by simpa using n8), b2.block ba (by omega), t1.block ba la (by simpa using fun e => n5 e.symm)]
    exact hc
  refine ⟨rfl, .slice (some ⟨ba, 0, none⟩) 1 bc, .slice (some ⟨bk, 0, none⟩) (L.length - 1) kc, ⟨?_, ?_, ?_, fun _ => ?_, ?_, rising_sdel h.so, ?_⟩, ?_, ?_⟩
  · exact (far b lb n1 n3 n2).trans h.r
  · refine hm1.same ?_
    rw [Below.heap_setCell _ _ _ _ (show bm ≠ ba from n5), t3.block bm (by omega) (by simpa using n6), b2.block bm (by omega)]
  · rw [if_neg hD0, if_neg hD0]
    refine ownsRow_shut (heap_setCell_row hb3 _) c1 c2 (by simpa using c3) ?_ rfl
    have : 0 < cur.size := by omega
    rw [Array.toList_setIfInBounds]
    match hcl : cur.toList with
    | [] => simp at hcl; subst hcl; simp at this
    | c :: r => simp
  · rw [skeys_sdel h.so hin, show (sdel L k).length = L.length - 1 by omega]
    exact ownsRow_same hown fun g hg => by cases hg; exact Below.heap_setCell _ _ _ _ (show bk ≠ ba from fun e => n8 e.symm)
  · refine ownsRow_same h.kq fun g hg => ?_
    have hgl := ownsRow_blk h.kq g hg
    rw [hO, hg] at n4 n7 n9 n10
    exact far g hgl (fun e => n7 (by simp [e])) (fun e => n10 (by simp [e])) (fun e => n9 (by simp [e]))
  · have hh := h.nd
    unfold fpr at hh ⊢
    rw [if_neg hL0] at hh
    rw [if_neg hD0]
    exact hh
  · have hmem : ∀ g, g = bm ∨ g = bk ∨ g = ba → g ∈ fpr b bm (.slice (some ⟨ba, 0, none⟩) 1 bc) (.slice (some ⟨bk, 0, none⟩) L.length kc) vq L := by
      intro g hg
      unfold fpr
      rw [if_neg hL0]
      simp [Value.ownBlock]
      rcases hg with rfl | rfl | rfl <;> simp
    exact (((t1.mono fun g hg => by rw [List.mem_singleton.1 hg]; exact hmem _ (.inl rfl)).trans (fun _ hk => .inl hk) (Touch.of_below b2)).trans (fun _ hk => .inl hk) (t3.mono fun g hg => by rw [List.mem_singleton.1 hg]; exact hmem _ (.inr (.inl rfl)))).trans (fun _ hk => .inl hk) (Touch.setCell _ _ _ (hmem _ (.inr (.inr rfl))))
  · intro g hg
    left
    unfold fpr at hg ⊢
    rw [if_neg hD0] at hg
    rw [if_neg hL0]
    exact hg
end Go.Proofs.Ytedkhpnlhkjjgaa

namespace Go.Proofs.Ytedkhpnlhkjjgaa
open Go.RowKit Go.Maps Go.Sort

theorem infoChange : (Try.prog.info? 166).map (fun i => (i.zero, i.size, i.bytes)) = some (some (.agg #[.string { data := #[] }, .bool false, .string { data := #[] }]), 3, 40) := by kernel_rfl
/-- what a change is, in cells -/
def chg (k : ByteArray) (had : Bool) (was : ByteArray) : List Value := [.string k, .bool had, .string was]
def setL (L : SL) (k v : ByteArray) : SL := if sget L k = some v then L else sset L k v
theorem chg_done {W w' : World} {b bm : Nat} {vb vk vq : Value} {L : SL} {q : Nat} {qs : List Value} {g cap : Nat} {new : List Value} {o : Obj} (h : StM W b bm vb vk vq L q qs)
    (hown : w'.ownsRow 0 166 3 (.slice (some ⟨g, 0, none⟩) (q + 1) cap) (q + 1) (qs ++ new)) (hg : (W.drew.alloc o).grownBy w' vq.ownBlock) (hat : vq.ownBlock = some g ∨ g = W.heap.size + 1) :
    StM (w'.setCell ⟨b, 2, none⟩ (.slice (some ⟨g, 0, none⟩) (q + 1) cap)) b bm vb vk (.slice (some ⟨g, 0, none⟩) (q + 1) cap) L (q + 1) (qs ++ new) ∧ Touch (fpr b bm vb vk vq L) W (w'.setCell ⟨b, 2, none⟩ (.slice (some ⟨g, 0, none⟩) (q + 1) cap)) ∧
      (∀ k ∈ fpr b bm vb vk (.slice (some ⟨g, 0, none⟩) (q + 1) cap) L, k ∈ fpr b bm vb vk vq L ∨ W.heap.size ≤ k) := by
  have hnd := nodup_fpr.1 h.nd
  have hb : b ∈ kfp b vb vk (skeys L) := by unfold kfp; simp
  have hgk : ∀ k, k < W.heap.size → vq.ownBlock ≠ some k → w'.heap[k]? = W.heap[k]? := fun k hk hne =>
    (hg.block k (by rw [World.size_alloc]; show k < W.heap.size + 1; omega) (fun e => hne e.symm)).trans (heap_alloc_old W.drew o hk)
  have hkey : ∀ k, k ∈ kfp b vb vk (skeys L) → w'.heap[k]? = W.heap[k]? := fun k hk => hgk k (h.keys.lt k hk) fun e => (hnd.2.2 k e).2 hk
  have hbm : w'.heap[bm]? = W.heap[bm]? := hgk bm h.m.lt fun e => (hnd.2.2 bm e).1 rfl
  have hgn : ∀ k, (k = bm ∨ k ∈ kfp b vb vk (skeys L)) → k ≠ g := fun k hk e => by
    rcases hat with h1 | h1
    · rcases hk with rfl | hk
      · exact (hnd.2.2 g h1).1 e.symm
      · exact (hnd.2.2 g h1).2 (e ▸ hk)
    · rcases hk with rfl | hk
      · have := h.m.lt; omega
      · have := h.keys.lt k hk; omega
  have hfar : ∀ k, k ≠ b → (w'.setCell ⟨b, 2, none⟩ (.slice (some ⟨g, 0, none⟩) (q + 1) cap)).heap[k]? = w'.heap[k]? := fun k hk => Below.heap_setCell _ _ _ _ hk
  refine ⟨?_, ?_, ?_⟩
  · have hK : KeysAt (w'.setCell ⟨b, 2, none⟩ (.slice (some ⟨g, 0, none⟩) (q + 1) cap)) b bm vb vk (.slice (some ⟨g, 0, none⟩) (q + 1) cap) (skeys L) := by
      have h0 := h.keys
      have hsm : ∀ k, k ≠ b → k ∈ kfp b vb vk (skeys L) → (w'.setCell ⟨b, 2, none⟩ (.slice (some ⟨g, 0, none⟩) (q + 1) cap)).heap[k]? = W.heap[k]? := fun k hk hm => (hfar k hk).trans (hkey k hm)
      have hne1 : ∀ k, vb.ownBlock = some k → k ≠ b ∧ k ∈ kfp b vb vk (skeys L) := fun k hk => by
        have hm : k ∈ kfp b vb vk (skeys L) := by unfold kfp; simp [hk]
        refine ⟨fun e => ?_, hm⟩
        have := hnd.1
        unfold kfp at this
        rw [List.nodup_cons] at this
        exact this.1 (by subst e; simp [hk])
      have hne2 : skeys L ≠ [] → ∀ k, vk.ownBlock = some k → k ≠ b ∧ k ∈ kfp b vb vk (skeys L) := fun hn k hk => by
        have hm : k ∈ kfp b vb vk (skeys L) := by unfold kfp; simp [hk, hn]
        refine ⟨fun e => ?_, hm⟩
        have := hnd.1
        unfold kfp at this
        rw [List.nodup_cons] at this
        exact this.1 (by subst e; simp [hk, hn])
      refine ⟨?_, ownsRow_same h0.kb fun k hk => hsm k (hne1 k hk).1 (hne1 k hk).2, fun hn => ownsRow_same (h0.kk hn) fun k hk => hsm k (hne2 hn k hk).1 (hne2 hn k hk).2, h0.so, h0.nd⟩
      rw [heap_setCell_row ((hkey b hb).trans h0.r)]
      rfl
    refine StM.mk' hK rfl (h.m.same ((hfar bm (fun e => hnd.2.1 (e ▸ hb))).trans hbm)) (ownsRow_same hown fun k hk => ?_) hnd.2.1 fun k hk => ?_
    · cases hk
      exact hfar g (fun e => hgn b (.inr hb) e.symm)
    · cases hk
      exact ⟨fun e => hgn bm (.inl rfl) e.symm, fun hm => hgn g (.inr hm) rfl⟩
  · have t0 : Touch (fpr b bm vb vk vq L) W (W.drew.alloc o) := touch_alloc (touch_drew (Touch.refl _ W)) o
    have t1 : Touch (fpr b bm vb vk vq L) (W.drew.alloc o) w' := Touch.grown hg fun k hk => (fpr_kfp _ _ _ _ _ _ _).2 (.inr (.inr hk))
    exact (t0.trans (fun _ hk => .inl hk) t1).trans (fun _ hk => .inl hk) (Touch.setCell _ _ _ ((fpr_kfp _ _ _ _ _ _ _).2 (.inr (.inl hb))))
  · intro k hk
    rcases (fpr_kfp _ _ _ _ _ _ _).1 hk with h1 | h1 | h1
    · exact .inl ((fpr_kfp _ _ _ _ _ _ _).2 (.inl h1))
    · exact .inl ((fpr_kfp _ _ _ _ _ _ _).2 (.inr (.inl h1)))
    · cases h1
      rcases hat with h2 | h2
      · exact .inl ((fpr_kfp _ _ _ _ _ _ _).2 (.inr (.inr h2)))
      · exact .inr (by show W.heap.size ≤ g; omega)
theorem chg_r {W w' : World} {b bm : Nat} {vb vk vq : Value} {L : SL} {q : Nat} {qs : List Value} {o : Obj} (h : StM W b bm vb vk vq L q qs) (hg : (W.drew.alloc o).grownBy w' vq.ownBlock) : w'.heap[b]? = some (.cells #[.map (some bm), vb, vq] 107 (0, 0)) :=
  (hg.block b (by rw [World.size_alloc]; have := hp_lt h.r; show b < W.heap.size + 1; omega) (fun e => ((nodup_fpr.1 h.nd).2.2 b e.symm).2 (by unfold kfp; simp))).trans ((heap_alloc_old W.drew o (hp_lt h.r)).trans h.r)
theorem chg_one {k was : ByteArray} {had : Bool} : ∀ u ∈ chg k had was, u.oneCell' = true := fun u hu => by
  unfold chg at hu
  simp at hu
  rcases hu with rfl | rfl | rfl <;> rfl
theorem chg_news (W : World) (k was : ByteArray) (had : Bool) : ∀ j u, (chg k had was)[j]? = some u → (W.drew.alloc (.cells #[.string k, .bool had, .string was] 166)).cell? ((⟨W.heap.size, 0, none⟩ : Addr).add j) = some u :=
  World.news_of_block (cs := #[.string k, .bool had, .string was]) (heap_alloc_new W.drew _)
/-- what Set leaves -/
def SetPost (b : Nat) (F : List Nat) (L' : SL) (q' : Nat) (qs' : List Value) (r : Int) (w : World) (e : Ending) (w' : World) : Prop :=
  e = .returned (.int .i64 r) ∧ ∃ F', StP w' b F' L' q' qs' ∧ Touch F w w' ∧ ∀ k ∈ F', k ∈ F ∨ w.heap.size ≤ k
theorem set_done {w W w5 w6 : World} {b bm : Nat} {vb vk vq vq' vb' vk' : Value} {L L' : SL} {q' : Nat} {qs' : List Value} (hbW : Below w.heap.size w W) (h1 : Touch (fpr b bm vb vk vq L) W w5) (h2 : ∀ k ∈ fpr b bm vb vk vq' L, k ∈ fpr b bm vb vk vq L ∨ W.heap.size ≤ k)
    (hM : StM w6 b bm vb' vk' vq' L' q' qs') (h3 : Touch (fpr b bm vb vk vq' L) w5 w6) (h4 : ∀ k ∈ fpr b bm vb' vk' vq' L', k ∈ fpr b bm vb vk vq' L ∨ w5.heap.size ≤ k) : SetPost b (fpr b bm vb vk vq L) L' q' qs' 0 w (.returned (.int .i64 0)) w6 := by
  refine ⟨rfl, _, ⟨bm, vb', vk', vq', rfl, hM⟩, ((Touch.of_below hbW).trans (fun _ hk => .inl hk) h1).trans (fun k hk => ?_) h3, fun k hk => ?_⟩
  · rcases h2 k hk with h | h
    · exact .inl h
    · right; have := hbW.size; omega
  · rcases h4 k hk with h | h
    · rcases h2 k h with h | h
      · exact .inl h
      · right; have := hbW.size; omega
    · right; have := hbW.size; have := h1.size; omega
set_option maxRecDepth 100000 in
set_option maxHeartbeats 4000000 in
theorem set_new (b bm : Nat) (vb vk vq : Value) (L : SL) (q : Nat) (qs : List Value) (k v : ByteArray) (w : World) (h : StM w b bm vb vk vq L q qs) (hk : k.size ≤ maxLen) (hv : v.size ≤ maxLen) (hk0 : k ≠ ⟨#[]⟩) (hN : L.length < 128) (hq : q < 1000000) (hne : sget L k ≠ some v) :
    Calls Try.prog 64 #[.pointer (some ⟨b, 0, none⟩), .string k, .string v] w (SetPost b (fpr b bm vb vk vq L) (sset L k v) (q + 1) (qs ++ chg k (sget L k).isSome ((sget L k).getD ⟨#[]⟩)) 0 w) := by
  have hl := h.m.look k hk
  have c0 := (hp_cell (i := 0) h.r).trans rfl
  have lb := hp_lt h.r
  have HM := Lib.hid (made_live b _ L q qs w ⟨bm, vb, vk, vq, rfl, h⟩)
  obtain ⟨old, hold⟩ : ∃ o, o = (sget L k).getD ⟨#[]⟩ := ⟨_, rfl⟩
  obtain ⟨had, hhad⟩ : ∃ o, o = (sget L k).isSome := ⟨_, rfl⟩
  have hno : had = false ∨ (had = true ∧ (old.toList == v.toList) = false) := by
    rw [hold, hhad]
    cases hs : sget L k with
    | none => exact .inl rfl
    | some u =>
      right
      refine ⟨rfl, ?_⟩
      rw [beq_eq_false_iff_ne, Lib.toList_data, Lib.toList_data]
      intro e
      exact hne (by rw [hs, ← lit_inj (congrArg Lit.string e)]; rfl)
  have hk1 : k.toList.isEmpty = false := by
    rw [Lib.toList_data]
    cases hh : k.data.toList with
    | nil => exact absurd (lit_inj (b := ⟨#[]⟩) (congrArg Lit.string (hh.trans rfl))) hk0
    | cons a r => rfl
  rw [← hold, ← hhad] at hl ⊢
  obtain ⟨W, hW⟩ : ∃ W, W = w.alloc (.cells #[.string old] 148) := ⟨_, rfl⟩
  have hbW : Below w.heap.size w W := by rw [hW]; exact (Below.refl w.heap.size w).alloc (Nat.le_refl _) _
  have hSW := h.below hbW
  have hr7 : W.heap[w.heap.size]? = some (.cells #[.string old] 148 (0, 0)) := by rw [hW]; exact heap_alloc_new _ _
  obtain ⟨i0, hi, hz0, hz1, hz2⟩ := info_parts infoChange
  have Hh := Lib.hid (And.intro h (And.intro hk (And.intro hv (And.intro hN (And.intro hq (And.intro hbW hSW))))))
  have HW := Lib.hid hW
  have d2 := (hp_cell (i := 2) hSW.r).trans rfl
  have d7 := (hp_cell (i := 0) hr7).trans rfl
  have lbW := hp_lt hSW.r
  have lwW := hp_lt hr7
  have HO := Lib.hid (fun (o : Obj) => show (W.drew.alloc o).ownsRow 0 166 3 vq q qs from ownsRow_same hSW.kq fun g hg => heap_alloc_old W.drew o (ownsRow_blk hSW.kq g hg))
  have HP := Lib.hid (fun (w' : World) (bm : Nat) (vb vk vq : Value) (q : Nat) (qs : List Value) (h' : StM w' b bm vb vk vq L q qs) => put_live b bm vb vk vq L q qs k v w' h' hk hv hN)
  clear h hk hv hN hold hhad hq hk0 hne hW hbW hSW hr7
  rcases hno with rfl | ⟨rfl, hov⟩
  · go_enter Try.func64, Try.ntmps64
    go_upto_region 7 with (go_at_call 27; refine HM.out.mono ?_; rintro e w1 ⟨rfl, rfl⟩)
    rw [← HW.out]
    go_region_law (refine step_append_lies _ rfl (.tmp 35) (.tmp 40) 105 rfl 0 166 i0 _ 3 40 Try.underlying105 hi hz0 hz1 hz2 rfl (by decide) vq q qs (by simp [Act.eval]) (HO.out _) ⟨W.heap.size, 0, none⟩ 1 1 (chg k false old) (by simp [Act.eval]) rfl (chg_news W k old false) chg_one (by decide) (by have := Hh.out.2.2.2.2.1; unfold maxLen; omega) (by have := Hh.out.2.2.2.2.1; omega) (Nat.zero_le _) _ rfl ?_; intro g cap w5 hown hgrow hat hlt; have hr5 := chg_r Hh.out.2.2.2.2.2.2 hgrow; have e2 := (hp_cell (i := 2) hr5).trans rfl; have f2 := hp_free (i := 2) hr5; have HC := Lib.hid (chg_done Hh.out.2.2.2.2.2.2 hown hgrow (by simpa using hat)); clear hown hgrow hat hlt hr5)
    all_goals go_wp2_with (go_at_call 115; refine (HP.out _ bm vb vk _ (q + 1) _ HC.out.1).mono ?_; rintro e w6 ⟨rfl, vb', vk', hM, ht, hF⟩; have HM6 := Lib.hid (set_done Hh.out.2.2.2.2.2.1 HC.out.2.1 HC.out.2.2 hM ht hF); clear hM ht hF)
    all_goals go_ret
    all_goals exact HM6.out
  · go_enter Try.func64, Try.ntmps64
    go_upto_region 7 with (go_at_call 27; refine HM.out.mono ?_; rintro e w1 ⟨rfl, rfl⟩)
    rw [← HW.out]
    go_region_law (refine step_append_lies _ rfl (.tmp 35) (.tmp 40) 105 rfl 0 166 i0 _ 3 40 Try.underlying105 hi hz0 hz1 hz2 rfl (by decide) vq q qs (by simp [Act.eval]) (HO.out _) ⟨W.heap.size, 0, none⟩ 1 1 (chg k true old) (by simp [Act.eval]) rfl (chg_news W k old true) chg_one (by decide) (by have := Hh.out.2.2.2.2.1; unfold maxLen; omega) (by have := Hh.out.2.2.2.2.1; omega) (Nat.zero_le _) _ rfl ?_; intro g cap w5 hown hgrow hat hlt; have hr5 := chg_r Hh.out.2.2.2.2.2.2 hgrow; have e2 := (hp_cell (i := 2) hr5).trans rfl; have f2 := hp_free (i := 2) hr5; have HC := Lib.hid (chg_done Hh.out.2.2.2.2.2.2 hown hgrow (by simpa using hat)); clear hown hgrow hat hlt hr5)
    all_goals go_wp2_with (go_at_call 115; refine (HP.out _ bm vb vk _ (q + 1) _ HC.out.1).mono ?_; rintro e w6 ⟨rfl, vb', vk', hM, ht, hF⟩; have HM6 := Lib.hid (set_done Hh.out.2.2.2.2.2.1 HC.out.2.1 HC.out.2.2 hM ht hF); clear hM ht hF)
    all_goals go_ret
    all_goals exact HM6.out
end Go.Proofs.Ytedkhpnlhkjjgaa
