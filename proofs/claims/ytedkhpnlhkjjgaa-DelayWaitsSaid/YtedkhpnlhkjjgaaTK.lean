/- The store: drop of a key that is there, where others stay, walked. -/
import Derived.Test.YtedkhpnlhkjjgaaTJ
namespace Go.Proofs.Ytedkhpnlhkjjgaa
open Go.RowKit Go.Maps Go.Sort

theorem drop_done {w w1 w2 w3 : World} {b bm ba bc bk kc : Nat} {vq : Value} {L : SL} {q : Nat} {qs : List Value} {k : ByteArray} (h : StM w b bm (.slice (some ⟨ba, 0, none⟩) 1 bc) (.slice (some ⟨bk, 0, none⟩) L.length kc) vq L q qs) (hin : (sget L k).isSome = true) (h2 : 2 ≤ L.length)
    (hm1 : MapAt w1 bm (sdel L k)) (t1 : Touch [bm] w w1) (b2 : Below w1.heap.size w1 w2) (t3 : Touch [bk] w2 w3)
    (hown : w3.ownsRow 0 9 1 (.slice (some ⟨bk, 0, none⟩) (L.length - 1) kc) (L.length - 1) (((skeys L).take (klo (skeys L) k) ++ (skeys L).drop (klo (skeys L) k + 1)).map Value.string)) :
    PutPost b bm (.slice (some ⟨ba, 0, none⟩) 1 bc) (.slice (some ⟨bk, 0, none⟩) L.length kc) vq L (sdel L k) q qs w (.returned (.tuple #[])) (w3.setCell ⟨ba, 0, none⟩ (.slice (some ⟨bk, 0, none⟩) (L.length - 1) kc)) := by
  have hL0 : L ≠ [] := fun e => by rw [e] at h2; simp at h2
  have hld := length_sdel h.so hin
  have hD0 : sdel L k ≠ [] := fun e => by rw [e] at hld; simp at hld; omega
  have hnd := h.nd
  unfold fpr at hnd
  rw [if_neg hL0] at hnd
  obtain ⟨O, hO⟩ : ∃ O, O = vq.ownBlock := ⟨_, rfl⟩
  rw [← hO] at hnd
  simp only [Value.ownBlock, Option.toList_some, List.cons_append, List.nil_append, List.nodup_cons, List.mem_cons, not_or] at hnd
  obtain ⟨⟨n1, n2, n3, n4⟩, ⟨n5, n6, n7⟩, ⟨n8, n9⟩, n10, n11⟩ := hnd
  have lb := hp_lt h.r
  have lm := h.m.lt
  have la : ba < w.heap.size := ownsRow_blk h.kb ba rfl
  have lk : bk < w.heap.size := ownsRow_blk (h.kk hL0) bk rfl
  have s1 := t1.size
  have s2 := b2.size
  have far : ∀ g, g < w.heap.size → g ≠ bm → g ≠ bk → g ≠ ba → (w3.setCell ⟨ba, 0, none⟩ (.slice (some ⟨bk, 0, none⟩) (L.length - 1) kc)).heap[g]? = w.heap[g]? := fun g hg e1 e2 e3 => by
    rw [Below.heap_setCell _ _ _ _ (show g ≠ ba from e3), t3.block g (by omega) (by simpa using e2), b2.block g (by omega), t1.block g hg (by simpa using e1)]
  obtain ⟨cur, hc, c1, c2, c3, c4, c5⟩ := ownsRow_open (by have := h.kb; rw [if_neg hL0, if_neg hL0] at this; exact this)
  have hb3 : w3.heap[ba]? = some (.cells cur 193 (0, 0)) := by
    rw [t3.block ba (by omega) (by simpa using n8), b2.block ba (by omega), t1.block ba la (by simpa using fun e => n5 e.symm)]
    exact hc
  refine ⟨rfl, .slice (some ⟨ba, 0, none⟩) 1 bc, .slice (some ⟨bk, 0, none⟩) (L.length - 1) kc, ⟨?_, ?_, ?_, fun _ => ?_, ?_, rising_sdel h.so, ?_⟩, ?_, ?_⟩
  · exact (far b lb n1 n3 n2).trans h.r
  · refine hm1.same ?_
    rw [Below.heap_setCell _ _ _ _ (show bm ≠ ba from n5), t3.block bm (by omega) (by simpa using n6), b2.block bm (by omega)]
  · rw [if_neg hD0, if_neg hD0]
    refine ownsRow_shut (heap_setCell_row hb3 _) c1 c2 (by simpa using c3) ?_ rfl
    have : 0 < cur.size := by omega
    rw [Array.toList_setIfInBounds]
    match hcl : cur.toList with
    | [] => simp at hcl; subst hcl; simp at this
    | c :: r => simp
  · rw [skeys_sdel h.so hin, show (sdel L k).length = L.length - 1 by omega]
    exact ownsRow_same hown fun g hg => by cases hg; exact Below.heap_setCell _ _ _ _ (show bk ≠ ba from fun e => n8 e.symm)
  · refine ownsRow_same h.kq fun g hg => ?_
    have hgl := ownsRow_blk h.kq g hg
    rw [hO, hg] at n4 n7 n9 n10
    exact far g hgl (fun e => n7 (by simp [e])) (fun e => n10 (by simp [e])) (fun e => n9 (by simp [e]))
  · have hh := h.nd
    unfold fpr at hh ⊢
    rw [if_neg hL0] at hh
    rw [if_neg hD0]
    exact hh
  · have hmem : ∀ g, g = bm ∨ g = bk ∨ g = ba → g ∈ fpr b bm (.slice (some ⟨ba, 0, none⟩) 1 bc) (.slice (some ⟨bk, 0, none⟩) L.length kc) vq L := by
      intro g hg
      unfold fpr
      rw [if_neg hL0]
      simp [Value.ownBlock]
      rcases hg with rfl | rfl | rfl <;> simp
    exact (((t1.mono fun g hg => by rw [List.mem_singleton.1 hg]; exact hmem _ (.inl rfl)).trans (fun _ hk => .inl hk) (Touch.of_below b2)).trans (fun _ hk => .inl hk) (t3.mono fun g hg => by rw [List.mem_singleton.1 hg]; exact hmem _ (.inr (.inl rfl)))).trans (fun _ hk => .inl hk) (Touch.setCell _ _ _ (hmem _ (.inr (.inr rfl))))
  · intro g hg
    left
    unfold fpr at hg ⊢
    rw [if_neg hD0] at hg
    rw [if_neg hL0]
    exact hg
end Go.Proofs.Ytedkhpnlhkjjgaa
