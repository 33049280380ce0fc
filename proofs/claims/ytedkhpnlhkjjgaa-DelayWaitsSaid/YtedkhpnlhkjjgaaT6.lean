/- The store: put, walked. -/
import Derived.Test.YtedkhpnlhkjjgaaT5
namespace Go.Proofs.Ytedkhpnlhkjjgaa
open Go.RowKit Go.Maps Go.Sort

theorem skeys_sset (L : SL) (k v : ByteArray) : skeys (sset L k v) = if (sget L k).isSome then skeys L else insK (skeys L) k := by
  unfold sset
  cases h : (sget L k).isSome with
  | true =>
    rw [if_pos rfl, if_pos rfl]
    unfold skeys
    rw [List.map_map]
    apply List.map_congr_left
    intro p _
    show (if keq p.1 k = true then (k, v) else p).1 = p.1
    by_cases e : keq p.1 k = true
    · rw [if_pos e]; exact (keq_iff.1 e).symm
    · rw [if_neg e]
  | false =>
    rw [if_neg (by decide), if_neg (by decide)]
    unfold insK skeys
    rw [List.map_append, List.map_append, List.map_take, List.map_drop]
    rfl
theorem sget_not_mem {L : SL} {k : ByteArray} (h : (sget L k).isSome = false) : k ∉ skeys L := by
  intro hm
  obtain ⟨p, hp, hk⟩ := List.mem_map.1 hm
  have := sget_none h p hp
  rw [hk, keq_self] at this
  cases this
theorem sset_ne (L : SL) (k v : ByteArray) : sset L k v ≠ [] := by
  intro e
  have h := sget_sset L k v k
  rw [e, if_pos rfl] at h
  cases h
theorem skeys_nil {L : SL} : skeys L = [] ↔ L = [] := List.map_eq_nil_iff
theorem fpr_kfp (b bm : Nat) (vb vk vq : Value) (L : SL) (k : Nat) : k ∈ fpr b bm vb vk vq L ↔ k = bm ∨ k ∈ kfp b vb vk (skeys L) ∨ vq.ownBlock = some k := by
  unfold fpr kfp
  simp only [List.mem_cons, List.mem_append, Option.mem_toList, skeys_nil]
  constructor
  · rintro (h | h | ((h | h) | h))
    · exact .inr (.inl (.inl h))
    · exact .inl h
    · exact .inr (.inl (.inr (.inl h)))
    · exact .inr (.inl (.inr (.inr h)))
    · exact .inr (.inr h)
  · rintro (h | (h | h | h) | h)
    · exact .inr (.inl h)
    · exact .inl h
    · exact .inr (.inr (.inl (.inl h)))
    · exact .inr (.inr (.inl (.inr h)))
    · exact .inr (.inr (.inr h))
theorem nodup_fpr {b bm : Nat} {vb vk vq : Value} {L : SL} : (fpr b bm vb vk vq L).Nodup ↔ (kfp b vb vk (skeys L)).Nodup ∧ bm ∉ kfp b vb vk (skeys L) ∧ (∀ k, vq.ownBlock = some k → k ≠ bm ∧ k ∉ kfp b vb vk (skeys L)) := by
  have e : List.Perm (fpr b bm vb vk vq L) (bm :: (kfp b vb vk (skeys L) ++ vq.ownBlock.toList)) := by
    unfold fpr kfp
    simp only [skeys_nil]
    have := List.Perm.swap bm b (vb.ownBlock.toList ++ (if L = [] then [] else vk.ownBlock.toList) ++ vq.ownBlock.toList)
    simpa using this
  rw [e.nodup_iff, List.nodup_cons, List.nodup_append]
  constructor
  · rintro ⟨h1, h2, h3, h4⟩
    refine ⟨h2, fun h => h1 (List.mem_append_left _ h), fun k hk => ⟨fun he => h1 (List.mem_append_right _ (by rw [hk, he]; simp)), fun hm => h4 k hm k (by rw [hk]; simp) rfl⟩⟩
  · rintro ⟨h1, h2, h3⟩
    refine ⟨fun h => ?_, h1, ?_, fun a ha c hc => ?_⟩
    · rcases List.mem_append.1 h with h | h
      · exact h2 h
      · exact (h3 bm (by simpa using h)).1 rfl
    · cases vq.ownBlock with
      | none => exact List.nodup_nil
      | some g => simp
    · intro e2
      subst e2
      exact (h3 a (by simpa using hc)).2 ha
theorem StM.keys {w : World} {b bm : Nat} {vb vk vq : Value} {L : SL} {q : Nat} {qs : List Value} (h : StM w b bm vb vk vq L q qs) : KeysAt w b bm vb vk vq (skeys L) :=
  ⟨h.r, by simp only [skeys_nil]; exact h.kb, fun hn => by have := h.kk (fun e => hn (skeys_nil.2 e)); rw [show (skeys L).length = L.length by unfold skeys; simp]; exact this, h.so, (nodup_fpr.1 h.nd).1⟩
theorem StM.mk' {w : World} {b bm : Nat} {vb vk vq : Value} {L : SL} {q : Nat} {qs : List Value} {ks : List ByteArray} (hk : KeysAt w b bm vb vk vq ks) (e : ks = skeys L) (hm : MapAt w bm L) (hq : w.ownsRow 0 166 3 vq q qs) (h1 : bm ∉ kfp b vb vk ks) (h2 : ∀ k, vq.ownBlock = some k → k ≠ bm ∧ k ∉ kfp b vb vk ks) : StM w b bm vb vk vq L q qs := by
  subst e
  refine ⟨hk.r, hm, ?_, fun hn => ?_, hq, hk.so, nodup_fpr.2 ⟨hk.nd, h1, h2⟩⟩
  · have := hk.kb; simp only [skeys_nil] at this; exact this
  · have := hk.kk (fun e => hn (skeys_nil.1 e)); rw [show (skeys L).length = L.length by unfold skeys; simp] at this; exact this
/-- what put leaves -/
def PutPost (b bm : Nat) (vb vk vq : Value) (L L' : SL) (q : Nat) (qs : List Value) (w : World) (e : Ending) (w' : World) : Prop :=
  e = .returned (.tuple #[]) ∧ ∃ vb' vk', StM w' b bm vb' vk' vq L' q qs ∧ Touch (fpr b bm vb vk vq L) w w' ∧ ∀ k ∈ fpr b bm vb' vk' vq L', k ∈ fpr b bm vb vk vq L ∨ w.heap.size ≤ k
theorem MapAt.below {w w' : World} {bm : Nat} {L : SL} (h : MapAt w bm L) (hb : Below w.heap.size w w') : MapAt w' bm L := h.same (hb.block _ h.lt)
theorem MapAt.drew {w : World} {bm : Nat} {L : SL} (h : MapAt w bm L) : MapAt w.drew bm L := h.same rfl
theorem KeysAt.drew {w : World} {b bm : Nat} {vb vk vq : Value} {ks : List ByteArray} (h : KeysAt w b bm vb vk vq ks) : KeysAt w.drew b bm vb vk vq ks := h.same fun _ _ => rfl
theorem put_done {w w3 w4 : World} {b bm : Nat} {vb vk vq vb' vk' : Value} {L : SL} {q : Nat} {qs : List Value} {k v : ByteArray} {ks' : List ByteArray} (h : StM w b bm vb vk vq L q qs) (e : ks' = skeys (sset L k v)) (hK : KeysAt w3 b bm vb' vk' vq ks') (ht : Touch (kfp b vb vk (skeys L)) w w3) (hF : ∀ k ∈ kfp b vb' vk' ks', k ∈ kfp b vb vk (skeys L) ∨ w.heap.size ≤ k)
    (hm : MapAt w4 bm (sset L k v)) (hg : w3.grownBy w4 (some bm)) : PutPost b bm vb vk vq L (sset L k v) q qs w (.returned (.tuple #[])) w4 := by
  have hnd := nodup_fpr.1 h.nd
  have hbm : bm ∉ kfp b vb' vk' ks' := fun hm' => by
    rcases hF bm hm' with h1 | h1
    · exact hnd.2.1 h1
    · have := h.m.lt; omega
  have hvq : ∀ k, vq.ownBlock = some k → k ≠ bm ∧ k ∉ kfp b vb' vk' ks' := fun k hk => ⟨(hnd.2.2 k hk).1, fun hm' => by
    rcases hF k hm' with h1 | h1
    · exact (hnd.2.2 k hk).2 h1
    · have := ownsRow_blk h.kq k hk; omega⟩
  have t1 : Touch (fpr b bm vb vk vq L) w w3 := ht.mono fun k hk => (fpr_kfp _ _ _ _ _ _ _).2 (.inr (.inl hk))
  have t2 : Touch (fpr b bm vb vk vq L) w3 w4 := Touch.grown hg fun k hk => by cases hk; exact (fpr_kfp _ _ _ _ _ _ _).2 (.inl rfl)
  refine ⟨rfl, vb', vk', StM.mk' (hK.same fun k hk => hg.block k (hK.lt k hk) fun e => by cases e; exact hbm hk) e hm (ownsRow_same h.kq fun g hgq => ?_) hbm hvq, t1.trans (fun _ hk => .inl hk) t2, fun k hk => ?_⟩
  · have hlt := ownsRow_blk h.kq g hgq
    exact (hg.block g (Nat.lt_of_lt_of_le hlt ht.size) fun e => by cases e; exact (hnd.2.2 _ hgq).1 rfl).trans (ht.block g hlt (hnd.2.2 g hgq).2)
  · rcases (fpr_kfp _ _ _ _ _ _ _).1 hk with h1 | h1 | h1
    · exact .inl ((fpr_kfp _ _ _ _ _ _ _).2 (.inl h1))
    · rw [← e] at h1
      rcases hF k h1 with h2 | h2
      · exact .inl ((fpr_kfp _ _ _ _ _ _ _).2 (.inr (.inl h2)))
      · exact .inr h2
    · exact .inl ((fpr_kfp _ _ _ _ _ _ _).2 (.inr (.inr h1)))
theorem insert_live (b bm : Nat) (vb vk vq : Value) (ks : List ByteArray) (x : ByteArray) (w : World) (h : KeysAt w b bm vb vk vq ks) (hN : ks.length < 128) (hx : x ∉ ks) :
    Calls Try.prog 142 #[.pointer (some ⟨b, 0, none⟩), .string x] w (InsPost b bm vb vk vq ks x w) := by
  by_cases e : ks = []
  · subst e; exact insert_none b bm vb vk vq x w h
  · exact insert_some b bm vb vk vq ks x w h (by cases ks with | nil => exact absurd rfl e | cons a r => simp) hN hx
set_option maxRecDepth 100000 in
set_option maxHeartbeats 4000000 in
theorem put_live (b bm : Nat) (vb vk vq : Value) (L : SL) (q : Nat) (qs : List Value) (k v : ByteArray) (w : World) (h : StM w b bm vb vk vq L q qs) (hk : k.size ≤ maxLen) (hv : v.size ≤ maxLen) (hN : L.length < 128) :
    Calls Try.prog 115 #[.pointer (some ⟨b, 0, none⟩), .string k, .agg #[.string v]] w (PutPost b bm vb vk vq L (sset L k v) q qs w) := by
  have hb0 := (Below.refl w.heap.size w).alloc (Nat.le_refl _) (.cells #[.string v] 148)
  have hl := (h.m.below hb0).look k hk
  have c0 := (hp_cell (i := 0) h.r).trans rfl
  have lb := hp_lt h.r
  obtain ⟨old, hold⟩ : ∃ o, o = (sget L k).getD { data := #[] } := ⟨_, rfl⟩
  obtain ⟨had, hhad⟩ : ∃ o, o = (sget L k).isSome := ⟨_, rfl⟩
  rw [← hold, ← hhad] at hl
  have hsk := skeys_sset L k v
  rw [← hhad] at hsk
  have hKx := h.keys.below (((Below.refl w.heap.size w).alloc (Nat.le_refl _) (.cells #[.string v] 148)).alloc (by simp) (.cells #[.string old] 148))
  have Hh := Lib.hid (And.intro h (And.intro hk (And.intro hv (And.intro hN (And.intro hsk (And.intro hhad hKx))))))
  clear h hk hv hN hsk hhad hold hb0 hKx
  cases had
  · have hI := insert_live b bm vb vk vq (skeys L) k _ Hh.out.2.2.2.2.2.2 (by unfold skeys; simpa using Hh.out.2.2.2.1) (sget_not_mem Hh.out.2.2.2.2.2.1.symm)
    have HI := Lib.hid hI
    clear hI
    go_enter Try.func115, Try.ntmps115
    go_upto_region 4 with (go_at_call 142; refine HI.out.mono ?_; rintro e w3 ⟨rfl, vb', vk', hK, ht, hF⟩)
    have h := Hh.out.1
    have hlt : ∀ k ∈ kfp b vb vk (skeys L), k < w.heap.size := h.keys.lt
    have hb2 : Below w.heap.size w ((w.alloc (.cells #[.string v] 148)).alloc (.cells #[.string old] 148)) := ((Below.refl w.heap.size w).alloc (Nat.le_refl _) _).alloc (by simp) _
    have r5 : w3.heap[w.heap.size]? = some (.cells #[.string v] 148 (0, 0)) :=
      (ht.block w.heap.size (by simp; omega) (fun hm => Nat.lt_irrefl _ (hlt _ hm))).trans ((heap_alloc_old _ _ (by simp)).trans (heap_alloc_new _ _))
    have m3 : MapAt w3 bm L := h.m.same ((ht.block bm (Nat.lt_of_lt_of_le h.m.lt hb2.size) (nodup_fpr.1 h.nd).2.1).trans (hb2.block bm h.m.lt))
    obtain ⟨w4, hput, hm4, hg4⟩ := MapAt.put (w := w3.drew) m3.drew k v Hh.out.2.1 Hh.out.2.2.1 (by have := Hh.out.2.2.2.1; unfold maxLen; omega)
    have c3 := (hp_cell (i := 0) hK.r).trans rfl
    have c5 := (hp_cell (i := 0) r5).trans rfl
    have hfin := Lib.hid (put_done (k := k) (v := v) (w4 := w4) h (by rw [Hh.out.2.2.2.2.1, if_neg (by decide)]) hK.drew (touch_drew ((Touch.of_below hb2).trans (fun _ hk => .inl hk) ht)) (fun k hk => by
      rcases hF k hk with h1 | h1
      · exact .inl h1
      · right; have := hb2.size; omega) hm4 hg4)
    clear hK ht hF h hlt hb2 r5 m3 hm4 hg4 HI Hh c0 hl
    go_region
    all_goals go_wp2
    all_goals go_end0
    all_goals exact hfin.out
  · go_enter Try.func115, Try.ntmps115
    go_upto_region 4 with (fail)
    obtain ⟨W, hW⟩ : ∃ W, W = (w.alloc (.cells #[.string v] 148)).alloc (.cells #[.string old] 148) := ⟨_, rfl⟩
    have h := Hh.out.1
    have hb2 : Below w.heap.size w W := by rw [hW]; exact ((Below.refl w.heap.size w).alloc (Nat.le_refl _) _).alloc (by simp) _
    have r5 : W.heap[w.heap.size]? = some (.cells #[.string v] 148 (0, 0)) := by rw [hW]; exact (heap_alloc_old _ _ (by simp)).trans (heap_alloc_new _ _)
    have hK := Hh.out.2.2.2.2.2.2
    rw [← hW] at hK ⊢
    obtain ⟨w4, hput, hm4, hg4⟩ := MapAt.put (w := W.drew) (h.m.below hb2).drew k v Hh.out.2.1 Hh.out.2.2.1 (by have := Hh.out.2.2.2.1; unfold maxLen; omega)
    have c3 := (hp_cell (i := 0) hK.r).trans rfl
    have c5 := (hp_cell (i := 0) r5).trans rfl
    have hfin := Lib.hid (put_done (k := k) (v := v) (w4 := w4) h (by rw [Hh.out.2.2.2.2.1, if_pos rfl]) hK.drew (touch_drew (Touch.of_below hb2)) (fun k hk => .inl hk) hm4 hg4)
    clear hK h hb2 r5 hm4 hg4 Hh c0 hl hW
    go_region
    all_goals go_wp2
    all_goals go_end0
    all_goals exact hfin.out
end Go.Proofs.Ytedkhpnlhkjjgaa
