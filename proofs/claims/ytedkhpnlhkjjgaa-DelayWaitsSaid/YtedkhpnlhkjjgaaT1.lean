/- The store in memory (one block of keys at most): what lies where, and what a change may touch. -/
import Derived.Test.YtedkhpnlhkjjgaaT0
import Derived.Test.YtedkhpnlhkjjgaaSN
import Derived.StringKeys
namespace Go.Proofs.Ytedkhpnlhkjjgaa
open Go.RowKit Go.Maps

/-- of the blocks that were there, only those of F may be other than they were -/
structure Touch (F : List Nat) (w w' : World) : Prop where
  os : w'.os = w.os
  tape : w'.tape = w.tape
  output : w'.output = w.output
  size : w.heap.size ≤ w'.heap.size
  block : ∀ k, k < w.heap.size → k ∉ F → w'.heap[k]? = w.heap[k]?
theorem Touch.refl (F : List Nat) (w : World) : Touch F w w := ⟨rfl, rfl, rfl, Nat.le_refl _, fun _ _ _ => rfl⟩
theorem Touch.of_below {F : List Nat} {w w' : World} (h : Below w.heap.size w w') : Touch F w w' := ⟨h.os, h.tape, h.output, h.size, fun k hk _ => h.block k hk⟩
theorem Touch.trans {F F' : List Nat} {a b c : World} (h : Touch F a b) (hF : ∀ k ∈ F', k ∈ F ∨ a.heap.size ≤ k) (h' : Touch F' b c) : Touch F a c :=
  ⟨h'.os.trans h.os, h'.tape.trans h.tape, h'.output.trans h.output, Nat.le_trans h.size h'.size, fun k hk hn => by
    have hk' : k ∉ F' := fun hm => by rcases hF k hm with h1 | h1; exact hn h1; omega
    exact (h'.block k (Nat.lt_of_lt_of_le hk h.size) hk').trans (h.block k hk hn)⟩
theorem Touch.below {F : List Nat} {w w' : World} {n : Nat} (h : Touch F w w') (hF : ∀ k ∈ F, n ≤ k) (hn : n ≤ w.heap.size) : Below n w w' :=
  ⟨h.os, h.tape, h.output, h.size, fun k hk => h.block k (by omega) (fun hm => by have := hF k hm; omega)⟩
theorem Touch.mono {F F' : List Nat} {w w' : World} (h : Touch F w w') (hF : ∀ k ∈ F, k ∈ F') : Touch F' w w' := ⟨h.os, h.tape, h.output, h.size, fun k hk hn => h.block k hk fun hm => hn (hF k hm)⟩
theorem Touch.grown {F : List Nat} {w w' : World} {row : Option Nat} (hg : w.grownBy w' row) (hr : ∀ k, row = some k → k ∈ F) : Touch F w w' :=
  ⟨hg.os, hg.tape, hg.output, hg.size, fun k hk hn => hg.block k hk fun e => hn (hr k e.symm)⟩
theorem Touch.setCell {F : List Nat} (w : World) (a : Addr) (u : Value) (h : a.block ∈ F) : Touch F w (w.setCell a u) :=
  ⟨rfl, rfl, rfl, by simp, fun k _ hn => Below.heap_setCell _ _ _ _ (fun e => hn (by rw [e]; exact h))⟩

theorem skeyed : Keyed Try.prog 9 := string_keyed Try.underlying9
/-- how an entry reads -/
def entR {H : Type} (v : Value) : Option (DataW H × List MemPlace) :=
  match v with
  | .agg cs => match cs.toList with
    | [.string s] => if s.size ≤ maxLen then some (.lit (.string s.data.toList), []) else none
    | _ => none
  | _ => none
theorem entR_mk {H : Type} {s : ByteArray} (h : s.size ≤ maxLen) : entR (H := H) (.agg #[.string s]) = some (.lit (.string s.data.toList), []) := by
  simp [entR, h]
theorem entR_inv {H : Type} {v : Value} {z : DataW H × List MemPlace} (h : entR v = some z) : ∃ s : ByteArray, v = .agg #[.string s] ∧ z = (.lit (.string s.data.toList), []) := by
  unfold entR at h
  split at h
  · rename_i cs
    split at h
    · rename_i s hs
      split at h
      · cases h
        refine ⟨s, ?_, rfl⟩
        have : cs = #[.string s] := Array.toList_inj.1 (by rw [hs])
        rw [this]
      · cases h
    · cases h
  · cases h
theorem zeroEntry (w : World) : (zeroValue 148).run Try.prog w = .ok (.agg #[.string { data := #[] }]) w := by kernel_rfl

/-- the map of a store: block bm reads as the entries L -/
def MapAt (w : World) (bm : Nat) (L : SL) : Prop := ∃ D : DataW Unit, w.ownsMap Try.prog 9 entR bm L.length D ∧ Rep D L
theorem ownsMap_size {H : Type} {w : World} {P : Program} {k : TypeId} {R : Value → Option (DataW H × List MemPlace)} {b n : Nat} {D : DataW H} (h : w.ownsMap P k R b n D) : w.ownsMap P k R b (Maps.size D) D := by
  obtain ⟨es, clock, hb, F, hs, hD⟩ := h
  refine ⟨es, clock, hb, F, ?_, hD⟩
  rw [hD, size_eq, length_sorted]
  simp
theorem MapAt.lt {w : World} {bm : Nat} {L : SL} (h : MapAt w bm L) : bm < w.heap.size := by obtain ⟨D, h1, _⟩ := h; exact h1.lt
theorem MapAt.same {w w' : World} {bm : Nat} {L : SL} (h : MapAt w bm L) (e : w'.heap[bm]? = w.heap[bm]?) : MapAt w' bm L := by
  obtain ⟨D, ⟨es, clock, hb, F, hs, hD⟩, hR⟩ := h
  exact ⟨D, ⟨es, clock, e.trans hb, F, hs, hD⟩, hR⟩
theorem keyOf_s {k : ByteArray} (h : k.size ≤ maxLen) : keyOf Try.prog 9 (.string k) = some (.string k.data.toList) := Go.WideMaps.keyOf_string_mk Try.underlying9 h
/-- 'm[k] = v' -/
theorem MapAt.put {w : World} {bm : Nat} {L : SL} (h : MapAt w bm L) (k v : ByteArray) (hk : k.size ≤ maxLen) (hv : v.size ≤ maxLen) (hn : L.length < maxLen) :
    ∃ w', (Instr.mapUpdate 103 (.map (some bm)) (.string k) (.agg #[.string v])).run Try.prog w = .ok () w' ∧ MapAt w' bm (sset L k v) ∧ w.grownBy w' (some bm) := by
  obtain ⟨D, ho, hR⟩ := h
  obtain ⟨w', hrun, ho', hg⟩ := ho.update skeyed Try.underlying103 hn (keyOf_s hk) (entR_mk hv)
  have hR' := hR.set k v
  exact ⟨w', hrun, ⟨_, by rw [← hR'.sz]; exact ownsMap_size ho', hR'⟩, hg⟩
/-- 'v, ok := m[k]' -/
theorem MapAt.look {w : World} {bm : Nat} {L : SL} (h : MapAt w bm L) (k : ByteArray) (hk : k.size ≤ maxLen) :
    (Instr.lookup 103 (.map (some bm)) (.string k) true).run Try.prog w = .ok (.tuple #[.agg #[.string ((sget L k).getD { data := #[] })], .bool (sget L k).isSome]) w := by
  obtain ⟨D, ho, hR⟩ := h
  obtain ⟨v, ps, hrun, hv⟩ := ho.look_ok skeyed Try.underlying103 (zeroEntry w) (entR_mk (s := { data := #[] }) (by decide)) (keyOf_s hk)
  obtain ⟨s, rfl, hz⟩ := entR_inv hv
  have e := hR.get (k := k) (s := s) (by have := congrArg Prod.fst hz; simpa using this)
  rw [hrun, hR.has, e]
/-- 'len(m)' -/
theorem MapAt.len {w : World} {bm : Nat} {L : SL} (h : MapAt w bm L) (ty : TypeId) : (Builtin.len_ #[103] ty #[.map (some bm)]).run Try.prog w = .ok (.int .i64 (L.length : Nat)) w := by
  obtain ⟨D, ho, hR⟩ := h
  rw [ho.len Try.underlying103 ty, hR.sz]
/-- the blocks of a store -/
def fpr (b bm : Nat) (vb vk vq : Value) (L : SL) : List Nat := b :: bm :: (vb.ownBlock.toList ++ (if L = [] then [] else vk.ownBlock.toList) ++ vq.ownBlock.toList)
/-- what lies in memory of a store: L its entries, q its changes, whose cells are qs -/
structure StM (w : World) (b bm : Nat) (vb vk vq : Value) (L : SL) (q : Nat) (qs : List Value) : Prop where
  r : w.heap[b]? = some (.cells #[.map (some bm), vb, vq] 107 (0, 0))
  m : MapAt w bm L
  kb : w.ownsRow 0 193 1 vb (if L = [] then 0 else 1) (if L = [] then [] else [vk])
  kk : L ≠ [] → w.ownsRow 0 9 1 vk L.length ((skeys L).map Value.string)
  kq : w.ownsRow 0 166 3 vq q qs
  so : Rising (skeys L)
  nd : (fpr b bm vb vk vq L).Nodup
theorem ownsRow_same {w w' : World} {base : Nat} {e : TypeId} {size : Nat} {v : Value} {n : Nat} {xs : List Value} (h : w.ownsRow base e size v n xs) (hs : ∀ g, v.ownBlock = some g → w'.heap[g]? = w.heap[g]?) : w'.ownsRow base e size v n xs := by
  obtain ⟨h1, h2⟩ := h
  refine ⟨h1, ?_⟩
  rcases h2 with h2 | ⟨g, cap, cur, rfl, hb, hg, hr⟩
  · exact .inl h2
  · exact .inr ⟨g, cap, cur, rfl, hb, (hs g rfl).trans hg, hr⟩
theorem ownsRow_blk {w : World} {base : Nat} {e : TypeId} {size : Nat} {v : Value} {n : Nat} {xs : List Value} (h : w.ownsRow base e size v n xs) : ∀ g, v.ownBlock = some g → g < w.heap.size := by
  intro g hg
  rcases h.2 with ⟨rfl, _⟩ | ⟨g', cap, cur, rfl, hb, hg', hr⟩
  · cases hg
  · cases hg; exact hp_lt hg'
theorem StM.lt {w : World} {b bm : Nat} {vb vk vq : Value} {L : SL} {q : Nat} {qs : List Value} (h : StM w b bm vb vk vq L q qs) : ∀ k ∈ fpr b bm vb vk vq L, k < w.heap.size := by
  intro k hk
  unfold fpr at hk
  simp only [List.mem_cons, List.mem_append, Option.mem_toList] at hk
  rcases hk with rfl | rfl | ((hk | hk) | hk)
  · exact hp_lt h.r
  · exact h.m.lt
  · exact ownsRow_blk h.kb k hk
  · split at hk
    · cases hk
    · rename_i hn
      exact ownsRow_blk (h.kk hn) k (by simpa using hk)
  · exact ownsRow_blk h.kq k hk
theorem StM.same {w w' : World} {b bm : Nat} {vb vk vq : Value} {L : SL} {q : Nat} {qs : List Value} (h : StM w b bm vb vk vq L q qs) (hs : ∀ k ∈ fpr b bm vb vk vq L, w'.heap[k]? = w.heap[k]?) : StM w' b bm vb vk vq L q qs := by
  have hm : ∀ k, (k = b ∨ k = bm ∨ vb.ownBlock = some k ∨ (L ≠ [] ∧ vk.ownBlock = some k) ∨ vq.ownBlock = some k) → w'.heap[k]? = w.heap[k]? := fun k hk => hs k (by
    unfold fpr
    simp only [List.mem_cons, List.mem_append, Option.mem_toList]
    rcases hk with h | h | h | ⟨hn, h⟩ | h
    · exact .inl h
    · exact .inr (.inl h)
    · exact .inr (.inr (.inl (.inl h)))
    · exact .inr (.inr (.inl (.inr (by rw [if_neg hn]; simpa using h))))
    · exact .inr (.inr (.inr h)))
  exact ⟨(hm b (.inl rfl)).trans h.r, h.m.same (hm bm (.inr (.inl rfl))), ownsRow_same h.kb fun g hg => hm g (.inr (.inr (.inl hg))), fun hn => ownsRow_same (h.kk hn) fun g hg => hm g (.inr (.inr (.inr (.inl ⟨hn, hg⟩)))), ownsRow_same h.kq fun g hg => hm g (.inr (.inr (.inr (.inr hg)))), h.so, h.nd⟩
theorem StM.below {w w' : World} {b bm : Nat} {vb vk vq : Value} {L : SL} {q : Nat} {qs : List Value} (h : StM w b bm vb vk vq L q qs) (hb : Below w.heap.size w w') : StM w' b bm vb vk vq L q qs :=
  h.same fun k hk => hb.block k (h.lt k hk)
theorem StM.touch {w w' : World} {b bm : Nat} {vb vk vq : Value} {L : SL} {q : Nat} {qs : List Value} {F : List Nat} (h : StM w b bm vb vk vq L q qs) (hb : Touch F w w') (hF : ∀ k ∈ fpr b bm vb vk vq L, k ∉ F) : StM w' b bm vb vk vq L q qs :=
  h.same fun k hk => hb.block k (h.lt k hk) (hF k hk)
end Go.Proofs.Ytedkhpnlhkjjgaa
