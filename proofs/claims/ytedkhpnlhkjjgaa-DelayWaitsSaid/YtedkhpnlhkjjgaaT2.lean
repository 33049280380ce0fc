/- The store: New, Made, Get, Mark, Len on a live one, walked. -/
import Derived.Test.YtedkhpnlhkjjgaaT1
namespace Go.Proofs.Ytedkhpnlhkjjgaa
open Go.RowKit Go.Maps

/-- a live store at b: F its blocks, L its entries, q its changes -/
def StP (w : World) (b : Nat) (F : List Nat) (L : SL) (q : Nat) (qs : List Value) : Prop := ∃ bm vb vk vq, F = fpr b bm vb vk vq L ∧ StM w b bm vb vk vq L q qs
theorem StP.below {w w' : World} {b : Nat} {F : List Nat} {L : SL} {q : Nat} {qs : List Value} (h : StP w b F L q qs) (hb : Below w.heap.size w w') : StP w' b F L q qs := by
  obtain ⟨bm, vb, vk, vq, hF, hM⟩ := h
  exact ⟨bm, vb, vk, vq, hF, hM.below hb⟩
theorem StP.touch {w w' : World} {b : Nat} {F G : List Nat} {L : SL} {q : Nat} {qs : List Value} (h : StP w b F L q qs) (hb : Touch G w w') (hF : ∀ k ∈ F, k ∉ G) : StP w' b F L q qs := by
  obtain ⟨bm, vb, vk, vq, rfl, hM⟩ := h
  exact ⟨bm, vb, vk, vq, rfl, hM.touch hb hF⟩
theorem StP.lt {w : World} {b : Nat} {F : List Nat} {L : SL} {q : Nat} {qs : List Value} (h : StP w b F L q qs) : ∀ k ∈ F, k < w.heap.size := by
  obtain ⟨bm, vb, vk, vq, rfl, hM⟩ := h
  exact hM.lt
theorem StP.row {w : World} {b : Nat} {F : List Nat} {L : SL} {q : Nat} {qs : List Value} (h : StP w b F L q qs) : ∃ bm vb vq, w.heap[b]? = some (.cells #[.map (some bm), vb, vq] 107 (0, 0)) := by
  obtain ⟨bm, vb, vk, vq, rfl, hM⟩ := h
  exact ⟨bm, vb, vq, hM.r⟩
set_option maxRecDepth 100000 in
set_option maxHeartbeats 400000 in
theorem new_walk (w : World) : Calls Try.prog 13 #[] w fun e w' => ∃ b F, e = .returned (.pointer (some ⟨b, 0, none⟩)) ∧ StP w' b F [] 0 [] ∧ (∀ k ∈ F, w.heap.size ≤ k) ∧ Below w.heap.size w w' := by
  have hmm := @run_makeMap Try.prog
  go_enter Try.func13, Try.ntmps13
  go_wp2
  go_ret
  refine ⟨_, _, rfl, ⟨w.heap.size, .slice none 0 0, .slice none 0 0, .slice none 0 0, rfl, ?_⟩, ?_, ?_⟩
  · refine ⟨by simpa using heap_alloc_new (w.alloc (.map #[] 0)) (.cells #[.map (some w.heap.size), .slice none 0 0, .slice none 0 0] 107), ?_, ⟨rfl, .inl ⟨rfl, rfl⟩⟩, fun h => absurd rfl h, ⟨rfl, .inl ⟨rfl, rfl⟩⟩, List.Pairwise.nil, ?_⟩
    · exact ⟨_, (World.ownsMap_made w _ _ _).alloc _, Rep.empty⟩
    · unfold fpr; simp [Value.ownBlock]
  · intro k hk
    unfold fpr at hk
    simp [Value.ownBlock] at hk
    omega
  · exact ((Below.refl _ _).alloc (Nat.le_refl _) _).alloc (by simp) _
set_option maxRecDepth 100000 in
set_option maxHeartbeats 400000 in
theorem made_live (b : Nat) (F : List Nat) (L : SL) (q : Nat) (qs : List Value) (w : World) (h : StP w b F L q qs) : Calls Try.prog 27 #[.pointer (some ⟨b, 0, none⟩)] w fun e w' => e = .returned (.bool true) ∧ w = w' := by
  obtain ⟨bm, vb, vq, hr⟩ := h.row
  have hm := fun w => run_neq_map_nil (P := Try.prog) w 103 _ _ (some bm) Try.underlying103
  have c0 := (hp_cell (i := 0) hr).trans rfl
  clear h hr
  go_enter Try.func27, Try.ntmps27
  go_wp2
  go_ret
  exact ⟨rfl, rfl⟩
set_option maxRecDepth 100000 in
set_option maxHeartbeats 400000 in
theorem sget_live (b : Nat) (F : List Nat) (L : SL) (q : Nat) (qs : List Value) (k : ByteArray) (w : World) (h : StP w b F L q qs) (hk : k.size ≤ maxLen) : Calls Try.prog 47 #[.pointer (some ⟨b, 0, none⟩), .string k] w fun e w' => e = .returned (.tuple #[.string ((sget L k).getD { data := #[] }), .bool (sget L k).isSome]) ∧ Below w.heap.size w w' := by
  have HM := Lib.hid (made_live b F L q qs w h)
  obtain ⟨bm, vb, vk, vq, rfl, hS⟩ := h
  have c0 := (hp_cell (i := 0) hS.r).trans rfl
  have hl := hS.m.look k hk
  obtain ⟨v, hv⟩ : ∃ v, v = (sget L k).getD { data := #[] } := ⟨_, rfl⟩
  obtain ⟨ok, hok⟩ : ∃ v, v = (sget L k).isSome := ⟨_, rfl⟩
  rw [← hv, ← hok] at hl ⊢
  clear hS hk hv hok
  go_enter Try.func47, Try.ntmps47
  go_wp2_with (go_at_call 27; refine HM.out.mono ?_; rintro e w1 ⟨rfl, rfl⟩)
  go_ret2
  exact ⟨rfl, (Below.refl _ _).alloc (Nat.le_refl _) _⟩
set_option maxRecDepth 100000 in
set_option maxHeartbeats 400000 in
theorem mark_live (b : Nat) (F : List Nat) (L : SL) (q : Nat) (qs : List Value) (w : World) (h : StP w b F L q qs) : Calls Try.prog 87 #[.pointer (some ⟨b, 0, none⟩)] w fun e w' => e = .returned (.int .i64 (q : Nat)) ∧ w = w' := by
  have HM := Lib.hid (made_live b F L q qs w h)
  obtain ⟨bm, vb, vk, vq, rfl, hS⟩ := h
  have c2 := (hp_cell (i := 2) hS.r).trans rfl
  obtain ⟨A, c, rfl⟩ : ∃ A c, vq = .slice A q c := by
    rcases hS.kq.2 with ⟨rfl, rfl⟩ | ⟨g, cap, cur, rfl, _⟩
    · exact ⟨_, _, rfl⟩
    · exact ⟨_, _, rfl⟩
  clear hS
  go_enter Try.func87, Try.ntmps87
  go_wp2_with (go_at_call 27; refine HM.out.mono ?_; rintro e w1 ⟨rfl, rfl⟩)
  go_ret
  exact ⟨rfl, rfl⟩
set_option maxRecDepth 100000 in
set_option maxHeartbeats 400000 in
theorem len_live (b : Nat) (F : List Nat) (L : SL) (q : Nat) (qs : List Value) (w : World) (h : StP w b F L q qs) : Calls Try.prog 26 #[.pointer (some ⟨b, 0, none⟩)] w fun e w' => e = .returned (.int .i64 (L.length : Nat)) ∧ w = w' := by
  have HM := Lib.hid (made_live b F L q qs w h)
  obtain ⟨bm, vb, vk, vq, rfl, hS⟩ := h
  have c0 := (hp_cell (i := 0) hS.r).trans rfl
  have hl := fun ty => hS.m.len ty
  obtain ⟨n, hn⟩ : ∃ n, n = L.length := ⟨_, rfl⟩
  rw [← hn] at hl ⊢
  clear hS hn
  go_enter Try.func26, Try.ntmps26
  go_wp2_with (go_at_call 27; refine HM.out.mono ?_; rintro e w1 ⟨rfl, rfl⟩)
  go_ret
  exact ⟨rfl, rfl⟩
end Go.Proofs.Ytedkhpnlhkjjgaa
