/- The law StoreLast: what it keeps. No walks. -/
import Derived.Test.YtbfmhafmncnhfaaG09
import Derived.Test.YtbfmhafmncnhfaaG12
import Derived.Test.YtbfmhafmncnhfaaG00
import Derived.Deep.Slices
namespace Go.Proofs.Ytbfmhafmncnhfaa
open Go.RowKit Go.Maps Go.Sort

/-- the law's two variables tell what the entries have under the key -/
def KeepS (L : SL) (key want : ByteArray) (th : Bool) : Prop := (th = true ∧ sget L key = some want) ∨ (th = false ∧ want = ⟨#[]⟩ ∧ sget L key = none)
theorem mem_setE {L : SL} {k v : ByteArray} {p : ByteArray × ByteArray} (h : p ∈ setE L k v) : p ∈ L ∨ p.1 = k := by
  unfold setE at h
  split at h
  · exact .inl h
  · unfold setL at h
    split at h
    · exact .inl h
    · unfold sset at h
      split at h
      · obtain ⟨q, hq, rfl⟩ := List.mem_map.1 h
        split
        · exact .inr rfl
        · exact .inl hq
      · rcases List.mem_append.1 h with h | h
        · rcases List.mem_append.1 h with h | h
          · exact .inl (List.mem_of_mem_take h)
          · rw [List.mem_singleton.1 h]; exact .inr rfl
        · exact .inl (List.mem_of_mem_drop h)
theorem setE_len (L : SL) (k v : ByteArray) : (setE L k v).length ≤ L.length + 1 := by
  unfold setE
  split
  · omega
  · exact setL_len L k v
theorem KeepS.set {L : SL} {key v : ByteArray} (hne : key ≠ ⟨#[]⟩) : KeepS (setE L key v) key v true := by
  refine .inl ⟨rfl, ?_⟩
  unfold setE
  rw [if_neg hne, sget_setL, if_pos rfl]
theorem KeepS.other {L : SL} {key want k v : ByteArray} {th : Bool} (h : KeepS L key want th) (hne : k ≠ key ∨ key = ⟨#[]⟩) : KeepS (setE L k v) key want th := by
  have e : sget (setE L k v) key = sget L key := by
    unfold setE
    split
    · rfl
    · rename_i h0
      rw [sget_setL, if_neg]
      intro e
      rcases hne with h1 | h1
      · exact h1 e.symm
      · exact h0 (e.symm.trans h1)
  unfold KeepS at h ⊢
  rw [e]; exact h
theorem KeepS.del {L : SL} {key : ByteArray} : KeepS (sdel L key) key ⟨#[]⟩ false := .inr ⟨rfl, rfl, by rw [sget_sdel, if_pos rfl]⟩
theorem KeepS.delOther {L : SL} {key want k : ByteArray} {th : Bool} (h : KeepS L key want th) (hne : k ≠ key) : KeepS (sdel L k) key want th := by
  unfold KeepS at h ⊢
  rw [sget_sdel, if_neg (fun e => hne e.symm)]; exact h
theorem KeepS.get {L : SL} {key want : ByteArray} {th : Bool} (h : KeepS L key want th) : (sget L key).getD ⟨#[]⟩ = want ∧ (sget L key).isSome = th := by
  rcases h with ⟨h1, h2⟩ | ⟨h1, h2, h3⟩
  · rw [h2, h1]; exact ⟨rfl, rfl⟩
  · rw [h3, h1, h2]; exact ⟨rfl, rfl⟩
end Go.Proofs.Ytbfmhafmncnhfaa

namespace Go.Proofs.Ytbfmhafmncnhfaa
open Go.RowKit Go.Maps Go.Sort

/-- what keeps every block of cells of one type -/
def KeepT (T : TypeId) (W W' : World) : Prop := W.heap.size ≤ W'.heap.size ∧ ∀ (k : Nat) (cs : Array Value) (fr : Nat × Nat), W.heap[k]? = some (Obj.cells cs T fr) → W'.heap[k]? = some (Obj.cells cs T fr)
theorem KeepT.refl (T : TypeId) (W : World) : KeepT T W W := ⟨Nat.le_refl _, fun _ _ _ h => h⟩
theorem KeepT.trans {T : TypeId} {A B C : World} (h : KeepT T A B) (k : KeepT T B C) : KeepT T A C := ⟨Nat.le_trans h.1 k.1, fun i cs fr hi => k.2 i cs fr (h.2 i cs fr hi)⟩
theorem KeepT.of_below {T : TypeId} {W W' : World} (h : Below W.heap.size W W') : KeepT T W W' := ⟨h.size, fun k cs fr hk => (h.block k (hp_lt hk)).trans hk⟩
theorem ownsRow_keepT {T : TypeId} {w w' : World} {B k n : Nat} {v : Value} {xs : List Value} (h : w.ownsRow B T k v n xs) (hk : KeepT T w w') : w'.ownsRow B T k v n xs := by
  refine ownsRow_same h fun g hg => ?_
  rcases h.2 with ⟨rfl, _⟩ | ⟨g', cap, cur, rfl, _, hh, _⟩
  · cases hg
  · cases hg
    exact (hk.2 _ _ _ hh).trans hh.symm
theorem ownsRow_typ {T : TypeId} {w : World} {B k n : Nat} {v : Value} {xs : List Value} (h : w.ownsRow B T k v n xs) {g : Nat} (hg : v.ownBlock = some g) : ∃ cs, w.heap[g]? = some (Obj.cells cs T (0, 0)) := by
  rcases h.2 with ⟨rfl, _⟩ | ⟨g', cap, cur, rfl, _, hh, _⟩
  · cases hg
  · cases hg
    exact ⟨_, hh⟩
/-- a type of which no block of a store is -/
structure Foreign (T : TypeId) : Prop where
  s : T ≠ 77
  b : T ≠ 83
  k : T ≠ 9
  c : T ≠ 87
theorem stp_blk {w : World} {b : Nat} {F : List Nat} {L : SL} {q : Nat} {qs : List Value} (h : StP w b F L q qs) : ∀ k ∈ F, (∃ es c, w.heap[k]? = some (Obj.map es c)) ∨ ∃ cs T, w.heap[k]? = some (Obj.cells cs T (0, 0)) ∧ ¬ Foreign T := by
  obtain ⟨bm, vb, vk, vq, rfl, hS⟩ := h
  intro k hk
  rcases (fpr_kfp _ _ _ _ _ _ _).1 hk with rfl | hk | hk
  · obtain ⟨D, ⟨es, clock, hb, _⟩, _⟩ := hS.m
    exact .inl ⟨_, _, hb⟩
  · obtain ⟨cs, T, hc, hT⟩ := hS.keys.ty hk
    exact .inr ⟨cs, T, hc, fun h => by rcases hT with e | e | e; exact h.s e; exact h.b e; exact h.k e⟩
  · obtain ⟨cs, hc⟩ := ownsRow_typ hS.kq hk
    exact .inr ⟨cs, _, hc, fun h => h.c rfl⟩
theorem stp_other {w : World} {b : Nat} {F : List Nat} {L : SL} {q : Nat} {qs : List Value} (h : StP w b F L q qs) {k : Nat} {cs : Array Value} {T : TypeId} {fr : Nat × Nat} (hk : w.heap[k]? = some (Obj.cells cs T fr)) (hT : Foreign T) : k ∉ F := fun hm => by
  rcases stp_blk h k hm with ⟨es, c, h1⟩ | ⟨cs', T', h1, h2⟩
  · rw [h1] at hk; cases hk
  · rw [h1] at hk; cases hk; exact h2 hT
theorem LiveTo.keepT {w W W' : World} {b : Nat} {F : List Nat} {L L' : SL} {q q' : Nat} {qs : List Value} (hs : SNew w W b F L q qs) (h : LiveTo w W W' b F L' q') {T : TypeId} (hT : Foreign T) : KeepT T W W' := by
  obtain ⟨_, _, _, _, _, ht, _⟩ := h
  exact ⟨ht.size, fun k cs fr hk => (ht.block k (hp_lt hk) (stp_other hs.s hk hT)).trans hk⟩
/-- a store lies as it lay where a block of another type is written -/
theorem SNew.other {w W W' : World} {b : Nat} {F : List Nat} {L : SL} {q : Nat} {qs : List Value} (h : SNew w W b F L q qs) (G : List Nat) (ht : Touch G W W') (hG : ∀ g ∈ G, w.heap.size ≤ g ∧ ∃ cs T fr, W.heap[g]? = some (Obj.cells cs T fr) ∧ Foreign T) : SNew w W' b F L q qs :=
  ⟨h.s.touch ht (fun k hk hm => by obtain ⟨_, cs, T, fr, h1, h2⟩ := hG k hm; exact stp_other h.s h1 h2 hk), h.f, h.l.trans (ht.below (fun k hk => (hG k hk).1) h.l.size)⟩
theorem KeepT.setOther {T T' : TypeId} {W : World} {g o : Nat} {cs : Array Value} {fr : Nat × Nat} (v : Value) (hg : W.heap[g]? = some (Obj.cells cs T' fr)) (hne : T ≠ T') : KeepT T W (W.setCell ⟨g, o, none⟩ v) := by
  refine ⟨by simp, fun k cs' fr' hk => ?_⟩
  have hk2 : k ≠ g := fun e => by subst e; rw [hg] at hk; cases hk; exact hne rfl
  rw [Below.heap_setCell _ _ _ _ hk2]
  exact hk
theorem KeepT.grown {T T' : TypeId} {W W' : World} {row : Option Nat} (hg : W.grownBy W' row) (hr : ∀ g, row = some g → ∃ cs fr, W.heap[g]? = some (Obj.cells cs T' fr)) (hne : T ≠ T') : KeepT T W W' :=
  ⟨hg.size, fun k cs fr hk => (hg.block k (hp_lt hk) (fun e => by
    obtain ⟨cs', fr', h1⟩ := hr k e.symm
    rw [hk] at h1; cases h1; exact hne rfl)).trans hk⟩
theorem Touch.keepT {F : List Nat} {W W' : World} {T : TypeId} (ht : Touch F W W') (hF : ∀ k ∈ F, ∀ cs fr, W.heap[k]? ≠ some (Obj.cells cs T fr)) : KeepT T W W' :=
  ⟨ht.size, fun k cs fr hk => (ht.block k (hp_lt hk) (fun hm => hF k hm cs fr hk)).trans hk⟩
/-- a row of ints in a block of its own stays -/
theorem il_touch {w W : World} {b : Nat} {F : List Nat} {L : SL} {q : Nat} {qs : List Value} (hs : SNew w W b F L q qs) {g : Nat} {cs : Array Value} (hg : W.heap[g]? = some (Obj.cells cs 3 (0, 0))) {n : Nat} {f : Nat → Int} (hl : Il W (some ⟨g, 0, none⟩) n f) (hT : Foreign 3) (W' : World) (ht : Touch F W W') : Il W' (some ⟨g, 0, none⟩) n f := by
  have he := ht.block g (hp_lt hg) (stp_other hs.s hg hT)
  refine ⟨hl.1, fun hn => ?_⟩
  obtain ⟨g', o, e, hlt, hc⟩ := hl.2 hn
  cases e
  refine ⟨g, 0, rfl, Nat.lt_of_lt_of_le hlt ht.size, fun i hi => ?_⟩
  rw [← hc i hi]
  simp only [World.cell?, he]
end Go.Proofs.Ytbfmhafmncnhfaa

namespace Go.Proofs.Ytbfmhafmncnhfaa
open Go.RowKit

/-- N rows of k cells at A: row i holds V i -/
def RowsV (W : World) (A : Option Addr) (N k : Nat) (V : Nat → List Value) : Prop :=
  0 < N → ∃ g o, A = some ⟨g, o, none⟩ ∧ g < W.heap.size ∧ ∀ i, i < N → ∀ j u, (V i)[j]? = some u → W.cell? ⟨g, o + i * k + j, none⟩ = some u
theorem RowsV.nil (W : World) (A : Option Addr) (k : Nat) (V : Nat → List Value) : RowsV W A 0 k V := fun h => absurd h (by omega)
theorem RowsV.below {W W' : World} {A : Option Addr} {N k : Nat} {V : Nat → List Value} (h : RowsV W A N k V) (hb : Below W.heap.size W W') : RowsV W' A N k V := fun hN => by
  obtain ⟨g, o, e, hg, hc⟩ := h hN
  refine ⟨g, o, e, Nat.lt_of_lt_of_le hg hb.size, fun i hi j u hu => ?_⟩
  exact (hb.cell (p := ⟨g, o + i * k + j, none⟩) hg).trans (hc i hi j u hu)
theorem RowsV.of_cells {W : World} {a : Addr} {N k : Nat} {V : Nat → List Value} (hk : 0 < k) (h : ∀ i, i < N → W.cells? 0 (a.add (i * k)) k = some (V i)) : RowsV W (some a) N k V := fun hN => by
  have hat : ∀ i, i < N → ∀ j u, (V i)[j]? = some u → W.cell? (a.add (i * k + j)) = some u := fun i hi j u hu => by
    obtain ⟨_, hl, hc⟩ := World.cells?_some (h i hi)
    have hj : j < k := by
      rw [← hl]
      rcases Nat.lt_or_ge j (V i).length with h | h
      · exact h
      · rw [List.getElem?_eq_none h] at hu; cases hu
    have := hc j hj
    rw [Go.Deep.add_add] at this
    rw [this, hu]
  obtain ⟨_, hl, _⟩ := World.cells?_some (h 0 hN)
  obtain ⟨u, hu⟩ : ∃ u, (V 0)[0]? = some u := ⟨(V 0)[0]'(by omega), by rw [List.getElem?_eq_getElem]⟩
  have h0 := hat 0 hN 0 u hu
  have hlt := World.block_lt_of_cell? W _ h0
  obtain ⟨g, o, sp⟩ := a
  have hspot : sp = none := by simpa [Addr.add] using World.cell?_spot h0
  subst hspot
  refine ⟨g, o, rfl, by simpa [Addr.add] using hlt, fun i hi j u hu => ?_⟩
  have := hat i hi j u hu
  rw [show (⟨g, o, none⟩ : Addr).add (i * k + j) = ⟨g, o + (i * k + j), none⟩ from by
    generalize i * k + j = z
    cases z <;> simp [Addr.add], ← Nat.add_assoc] at this
  exact this
end Go.Proofs.Ytbfmhafmncnhfaa
