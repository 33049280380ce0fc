/- The store: drop of the only key, walked. -/
import Derived.Test.YtedkhpnlhkjjgaaTO
namespace Go.Proofs.Ytedkhpnlhkjjgaa
open Go.RowKit Go.Maps Go.Sort

def slEnc (x : Option Addr × Nat × Nat) : Value := .slice x.1 x.2.1 x.2.2
theorem slOne : OneCell slEnc := fun _ => rfl
theorem slInfo : (Try.prog.info? 193).map (·.size) = some 1 := by kernel_rfl
theorem putRow_block {α : Type} [Inhabited α] {enc : α → Value} {w : World} {blk : Nat} {cur : Array Value} {t : TypeId} {fr : Nat × Nat} (d : Array α) (hg : w.heap[blk]? = some (.cells cur t fr)) : (putRow enc w blk 0 d).heap[blk]? = some (.cells (putCells enc 0 d cur) t fr) := by
  unfold putRow mapBlock
  simp [Array.getElem?_modify, hg, onCells]
theorem putRow_touch {α : Type} [Inhabited α] {enc : α → Value} (w : World) (q blk : Nat) (d : Array α) : Touch [blk] w (putRow enc (Sort.ahead w q) blk 0 d) := by
  refine ⟨rfl, rfl, rfl, by simp [putRow, mapBlock, Sort.ahead], fun k hk hn => ?_⟩
  have hne : ¬ blk = k := fun e => hn (by simp [e])
  simp [putRow, mapBlock, Sort.ahead, Array.getElem?_modify, hne]
theorem del_rows (ba bc bk kc : Nat) (cur : Array Value) (w : World) (hg : w.heap[ba]? = some (.cells cur 193 (0, 0))) (hc : cur[0]? = some (.slice (some ⟨bk, 0, none⟩) 0 kc)) (h1 : 1 ≤ bc) (h2 : bc ≤ maxLen) :
    Calls Try.prog 147 #[.slice (some ⟨ba, 0, none⟩) 1 bc, .int .i64 0, .int .i64 1] w fun e w' => e = .returned (.slice (some ⟨ba, 0, none⟩) 0 bc) ∧ ∃ cur', w'.heap[ba]? = some (.cells cur' 193 (0, 0)) ∧ cur'.size = cur.size ∧ Touch [ba] w w' := by
  obtain ⟨i0, hi, hs⟩ := Option.map_eq_some_iff.1 slInfo
  have hH : Holds slEnc w ba 0 #[(some ⟨bk, 0, none⟩, 0, kc)] := fun j hj => by
    obtain rfl : j = 0 := by simpa using hj
    exact ⟨(hp_cell hg).trans hc, hp_free hg⟩
  refine (Try.slices_Delete_f147 slEnc slOne (none, 0, 0) (fun w => Try.zeroValue193 w) i0 hi hs ba 0 bc 0 1 #[(some ⟨bk, 0, none⟩, 0, kc)] w hH h1 (by unfold maxLen at h2; omega) (by omega) (by simp)).mono ?_
  rintro e w' ⟨he, q, rfl⟩
  exact ⟨he, _, putRow_block _ (show (Sort.ahead w q).heap[ba]? = _ from hg), by simp [putCells], putRow_touch w q ba _⟩
theorem drop_done1 {w w1 w2 w3 w5 : World} {b bm ba bc bk kc : Nat} {vq : Value} {L : SL} {q : Nat} {qs : List Value} {k : ByteArray} {cur cur' : Array Value} (h : StM w b bm (.slice (some ⟨ba, 0, none⟩) 1 bc) (.slice (some ⟨bk, 0, none⟩) L.length kc) vq L q qs) (hin : (sget L k).isSome = true) (h2 : L.length = 1)
    (hm1 : MapAt w1 bm (sdel L k)) (t1 : Touch [bm] w w1) (b2 : Below w1.heap.size w1 w2) (t3 : Touch [bk] w2 w3) (hc : w.heap[ba]? = some (.cells cur 193 (0, 0))) (ht5 : w5.heap[ba]? = some (.cells cur' 193 (0, 0))) (hs5 : cur'.size = cur.size) (t5 : Touch [ba] w3 w5) :
    PutPost b bm (.slice (some ⟨ba, 0, none⟩) 1 bc) (.slice (some ⟨bk, 0, none⟩) L.length kc) vq L (sdel L k) q qs w (.returned (.tuple #[])) (w5.setCell ⟨b, 1, none⟩ (.slice (some ⟨ba, 0, none⟩) 0 bc)) := by
  have hL0 : L ≠ [] := fun e => by rw [e] at h2; simp at h2
  have hld := length_sdel h.so hin
  have hD0 : sdel L k = [] := List.eq_nil_of_length_eq_zero (by omega)
  have hnd := h.nd
  unfold fpr at hnd
  rw [if_neg hL0] at hnd
  obtain ⟨O, hO⟩ : ∃ O, O = vq.ownBlock := ⟨_, rfl⟩
  rw [← hO] at hnd
  have hnd0 := hnd
  simp only [Value.ownBlock, Option.toList_some, List.cons_append, List.nil_append, List.nodup_cons, List.mem_cons, not_or] at hnd
  obtain ⟨⟨n1, n2, n3, n4⟩, ⟨n5, n6, n7⟩, ⟨n8, n9⟩, n10, n11⟩ := hnd
  have lb := hp_lt h.r
  have lm := h.m.lt
  have la : ba < w.heap.size := hp_lt hc
  have lk : bk < w.heap.size := ownsRow_blk (h.kk hL0) bk rfl
  have s1 := t1.size
  have s2 := b2.size
  have s3 := t3.size
  have far : ∀ g, g < w.heap.size → g ≠ bm → g ≠ bk → g ≠ ba → w5.heap[g]? = w.heap[g]? := fun g hg e1 e2 e3 => by
    rw [t5.block g (by omega) (by simpa using e3), t3.block g (by omega) (by simpa using e2), b2.block g (by omega), t1.block g hg (by simpa using e1)]
  obtain ⟨cur0, hc0, c1, c2, c3, _, _⟩ := ownsRow_open (by have := h.kb; rw [if_neg hL0, if_neg hL0] at this; exact this)
  obtain rfl : cur0 = cur := by have := hc0.symm.trans hc; cases this; rfl
  refine ⟨rfl, .slice (some ⟨ba, 0, none⟩) 0 bc, .slice none 0 0, ⟨?_, ?_, ?_, fun h => absurd hD0 h, ?_, rising_sdel h.so, ?_⟩, ?_, ?_⟩
  · rw [heap_setCell_row ((far b lb n1 n3 n2).trans h.r)]
    rfl
  · refine hm1.same ?_
    rw [Below.heap_setCell _ _ _ _ (show bm ≠ b from fun e => n1 e.symm), t5.block bm (by omega) (by simpa using n5), t3.block bm (by omega) (by simpa using n6), b2.block bm (by omega)]
  · rw [if_pos hD0, if_pos hD0]
    exact ownsRow_shut (cur := cur') ((Below.heap_setCell _ _ _ _ (show ba ≠ b from fun e => n2 e.symm)).trans ht5) (Nat.zero_le _) c2 (by rw [hs5, c3]) (by simp) rfl
  · refine ownsRow_same h.kq fun g hg => ?_
    have hgl := ownsRow_blk h.kq g hg
    rw [hO, hg] at n4 n7 n9 n10
    rw [Below.heap_setCell _ _ _ _ (show g ≠ b from fun e => n4 (by simp [e]))]
    exact far g hgl (fun e => n7 (by simp [e])) (fun e => n10 (by simp [e])) (fun e => n9 (by simp [e]))
  · unfold fpr
    rw [if_pos hD0, ← hO]
    simp only [Value.ownBlock, Option.toList_some, List.append_nil, List.cons_append, List.nil_append, List.nodup_cons, List.mem_cons, not_or]
    exact ⟨⟨n1, n2, n4⟩, ⟨n5, n7⟩, n9, n11⟩
  · have hmem : ∀ g, g = b ∨ g = bm ∨ g = bk ∨ g = ba → g ∈ fpr b bm (.slice (some ⟨ba, 0, none⟩) 1 bc) (.slice (some ⟨bk, 0, none⟩) L.length kc) vq L := by
      intro g hg
      unfold fpr
      rw [if_neg hL0]
      simp [Value.ownBlock]
      rcases hg with rfl | rfl | rfl | rfl <;> simp
    exact ((((t1.mono fun g hg => by rw [List.mem_singleton.1 hg]; exact hmem _ (.inr (.inl rfl))).trans (fun _ hk => .inl hk) (Touch.of_below b2)).trans (fun _ hk => .inl hk) (t3.mono fun g hg => by rw [List.mem_singleton.1 hg]; exact hmem _ (.inr (.inr (.inl rfl))))).trans (fun _ hk => .inl hk) (t5.mono fun g hg => by rw [List.mem_singleton.1 hg]; exact hmem _ (.inr (.inr (.inr rfl))))).trans (fun _ hk => .inl hk) (Touch.setCell _ _ _ (hmem _ (.inl rfl)))
  · intro g hg
    left
    unfold fpr at hg ⊢
    rw [if_pos hD0] at hg
    rw [if_neg hL0]
    simp [Value.ownBlock] at hg ⊢
    rcases hg with hg | hg | hg | hg
    · exact .inl hg
    · exact .inr (.inl hg)
    · exact .inr (.inr (.inl hg))
    · exact .inr (.inr (.inr (.inr hg)))
end Go.Proofs.Ytedkhpnlhkjjgaa
