/- The law StoreLast: what it keeps. No walks. -/
import Derived.Test.YtnjcnlbphaodcaaGreatG25
import Derived.Test.YtnjcnlbphaodcaaGreatG23
import Derived.Test.YtnjcnlbphaodcaaGreatG00
import Derived.Deep.Slices
namespace Go.Proofs.YtnjcnlbphaodcaaGreat
open Go.RowKit Go.Maps Go.Sort

/-- the law's two variables tell what the entries have under the key -/
def KeepS (L : SL) (key want : ByteArray) (th : Bool) : Prop := (th = true ∧ sget L key = some want) ∨ (th = false ∧ want = ⟨#[]⟩ ∧ sget L key = none)
theorem mem_setE {L : SL} {k v : ByteArray} {p : ByteArray × ByteArray} (h : p ∈ setE L k v) : p ∈ L ∨ p.1 = k := by
  unfold setE at h
  split at h
  · exact .inl h
  · unfold setL at h
    split at h
    · exact .inl h
    · unfold sset at h
      split at h
      · obtain ⟨q, hq, rfl⟩ := List.mem_map.1 h
        split
        · exact .inr rfl
        · exact .inl hq
      · rcases List.mem_append.1 h with h | h
        · rcases List.mem_append.1 h with h | h
          · exact .inl (List.mem_of_mem_take h)
          · rw [List.mem_singleton.1 h]; exact .inr rfl
        · exact .inl (List.mem_of_mem_drop h)
theorem setE_len (L : SL) (k v : ByteArray) : (setE L k v).length ≤ L.length + 1 := by
  unfold setE
  split
  · omega
  · exact setL_len L k v
theorem KeepS.set {L : SL} {key v : ByteArray} (hne : key ≠ ⟨#[]⟩) : KeepS (setE L key v) key v true := by
  refine .inl ⟨rfl, ?_⟩
  unfold setE
  rw [if_neg hne, sget_setL, if_pos rfl]
theorem KeepS.other {L : SL} {key want k v : ByteArray} {th : Bool} (h : KeepS L key want th) (hne : k ≠ key ∨ key = ⟨#[]⟩) : KeepS (setE L k v) key want th := by
  have e : sget (setE L k v) key = sget L key := by
    unfold setE
    split
    · rfl
    · rename_i h0
      rw [sget_setL, if_neg]
      intro e
      rcases hne with h1 | h1
      · exact h1 e.symm
      · exact h0 (e.symm.trans h1)
  unfold KeepS at h ⊢
  rw [e]; exact h
theorem KeepS.del {L : SL} {key : ByteArray} : KeepS (sdel L key) key ⟨#[]⟩ false := .inr ⟨rfl, rfl, by rw [sget_sdel, if_pos rfl]⟩
theorem KeepS.delOther {L : SL} {key want k : ByteArray} {th : Bool} (h : KeepS L key want th) (hne : k ≠ key) : KeepS (sdel L k) key want th := by
  unfold KeepS at h ⊢
  rw [sget_sdel, if_neg (fun e => hne e.symm)]; exact h
theorem KeepS.get {L : SL} {key want : ByteArray} {th : Bool} (h : KeepS L key want th) : (sget L key).getD ⟨#[]⟩ = want ∧ (sget L key).isSome = th := by
  rcases h with ⟨h1, h2⟩ | ⟨h1, h2, h3⟩
  · rw [h2, h1]; exact ⟨rfl, rfl⟩
  · rw [h3, h1, h2]; exact ⟨rfl, rfl⟩
end Go.Proofs.YtnjcnlbphaodcaaGreat

namespace Go.Proofs.YtnjcnlbphaodcaaGreat
open Go.RowKit

/-- N rows of k cells at A: row i holds V i -/
def RowsV (W : World) (A : Option Addr) (N k : Nat) (V : Nat → List Value) : Prop :=
  0 < N → ∃ g o, A = some ⟨g, o, none⟩ ∧ g < W.heap.size ∧ ∀ i, i < N → ∀ j u, (V i)[j]? = some u → W.cell? ⟨g, o + i * k + j, none⟩ = some u
theorem RowsV.nil (W : World) (A : Option Addr) (k : Nat) (V : Nat → List Value) : RowsV W A 0 k V := fun h => absurd h (by omega)
theorem RowsV.below {W W' : World} {A : Option Addr} {N k : Nat} {V : Nat → List Value} (h : RowsV W A N k V) (hb : Below W.heap.size W W') : RowsV W' A N k V := fun hN => by
  obtain ⟨g, o, e, hg, hc⟩ := h hN
  refine ⟨g, o, e, Nat.lt_of_lt_of_le hg hb.size, fun i hi j u hu => ?_⟩
  exact (hb.cell (p := ⟨g, o + i * k + j, none⟩) hg).trans (hc i hi j u hu)
theorem RowsV.of_cells {W : World} {a : Addr} {N k : Nat} {V : Nat → List Value} (hk : 0 < k) (h : ∀ i, i < N → W.cells? 0 (a.add (i * k)) k = some (V i)) : RowsV W (some a) N k V := fun hN => by
  have hat : ∀ i, i < N → ∀ j u, (V i)[j]? = some u → W.cell? (a.add (i * k + j)) = some u := fun i hi j u hu => by
    obtain ⟨_, hl, hc⟩ := World.cells?_some (h i hi)
    have hj : j < k := by
      rw [← hl]
      rcases Nat.lt_or_ge j (V i).length with h | h
      · exact h
      · rw [List.getElem?_eq_none h] at hu; cases hu
    have := hc j hj
    rw [Go.Deep.add_add] at this
    rw [this, hu]
  obtain ⟨_, hl, _⟩ := World.cells?_some (h 0 hN)
  obtain ⟨u, hu⟩ : ∃ u, (V 0)[0]? = some u := ⟨(V 0)[0]'(by omega), by rw [List.getElem?_eq_getElem]⟩
  have h0 := hat 0 hN 0 u hu
  have hlt := World.block_lt_of_cell? W _ h0
  obtain ⟨g, o, sp⟩ := a
  have hspot : sp = none := by simpa [Addr.add] using World.cell?_spot h0
  subst hspot
  refine ⟨g, o, rfl, by simpa [Addr.add] using hlt, fun i hi j u hu => ?_⟩
  have := hat i hi j u hu
  rw [show (⟨g, o, none⟩ : Addr).add (i * k + j) = ⟨g, o + (i * k + j), none⟩ from by
    generalize i * k + j = z
    cases z <;> simp [Addr.add], ← Nat.add_assoc] at this
  exact this
end Go.Proofs.YtnjcnlbphaodcaaGreat

namespace Go.Proofs.YtnjcnlbphaodcaaGreat
open Go.RowKit Go.Maps Go.Sort

/-- the sum of the lengths so far, as it wraps -/
def lacc (x1 x2 : Nat → ByteArray) : Nat → Int
  | 0 => 0
  | j + 1 => wrap64 (lacc x1 x2 j + wrap64 (((x1 j).size : Int) + ((x2 j).size : Int)))
/-- the law's world -/
structure SlW (w W : World) (b : Nat) (key want : ByteArray) (th : Bool) (c : Nat) (L : SL) : Prop where
  s : ∃ F q qs, SNew w W b F L q qs ∧ q ≤ c
  len : L.length ≤ c
  ks : ∀ p ∈ L, p.1.size ≤ maxLen
  k : KeepS L key want th
theorem SlW.below {w W W' : World} {b : Nat} {key want : ByteArray} {th : Bool} {c : Nat} {L : SL} (h : SlW w W b key want th c L) (hb : Below W.heap.size W W') : SlW w W' b key want th c L := by
  obtain ⟨F, q, qs, hs, hq⟩ := h.s
  exact ⟨⟨F, q, qs, hs.below hb, hq⟩, h.len, h.ks, h.k⟩
theorem SlW.l {w W : World} {b : Nat} {key want : ByteArray} {th : Bool} {c : Nat} {L : SL} (h : SlW w W b key want th c L) : Below w.heap.size w W := by
  obtain ⟨F, q, qs, hs, hq⟩ := h.s
  exact hs.l
theorem SlW.next {w W : World} {b : Nat} {key want : ByteArray} {th : Bool} {c : Nat} {L : SL} (h : SlW w W b key want th c L) : SlW w W b key want th (c + 1) L := by
  obtain ⟨F, q, qs, hs, hq⟩ := h.s
  exact ⟨⟨F, q, qs, hs, by omega⟩, by have := h.len; omega, h.ks, h.k⟩
/-- Set by it -/
theorem SlW.set {w W : World} {b : Nat} {key want : ByteArray} {th : Bool} {c : Nat} {L : SL} (h : SlW w W b key want th c L) (hc : c < 100000) (k v : ByteArray) (hk : k.size ≤ maxLen) (hv : v.size ≤ maxLen) :
    Calls Tryz.prog 60 #[.pointer (some ⟨b, 0, none⟩), .string k, .string v] W fun e W' => (∃ r, e = .returned (.int .i64 r)) ∧ (∀ want' th', KeepS (setE L k v) key want' th' → SlW w W' b key want' th' (c + 1) (setE L k v)) ∧ ∀ T, Foreign T → KeepT T W W' := by
  obtain ⟨F, q, qs, hs, hq⟩ := h.s
  have hl := h.len
  refine (hs.setAny k v hk hv (by omega) (by omega)).mono ?_
  rintro e W' ⟨he, hL⟩
  refine ⟨he, fun want' th' hk' => ?_, fun T hT => LiveTo.keepT hs hL hT⟩
  obtain ⟨F', q', qs', h1, h2, _⟩ := hL
  refine ⟨⟨F', q', qs', h1, by omega⟩, by have := setE_len L k v; omega, fun p hp => ?_, hk'⟩
  rcases mem_setE hp with h3 | h3
  · exact h.ks p h3
  · rw [h3]; exact hk
/-- Delete by it -/
theorem SlW.del {w W : World} {b : Nat} {key want : ByteArray} {th : Bool} {c : Nat} {L : SL} (h : SlW w W b key want th c L) (hc : c < 100000) (k : ByteArray) (hk : k.size ≤ maxLen) :
    Calls Tryz.prog 59 #[.pointer (some ⟨b, 0, none⟩), .string k] W fun e W' => (∃ r, e = .returned (.bool r)) ∧ (∀ want' th', KeepS (sdel L k) key want' th' → SlW w W' b key want' th' (c + 1) (sdel L k)) ∧ ∀ T, Foreign T → KeepT T W W' := by
  obtain ⟨F, q, qs, hs, hq⟩ := h.s
  have hl := h.len
  refine (hs.del k hk (by omega) (by omega)).mono ?_
  rintro e W' ⟨he, hL⟩
  refine ⟨⟨_, he⟩, fun want' th' hk' => ?_, fun T hT => LiveTo.keepT hs hL hT⟩
  obtain ⟨F', q', qs', h1, h2, _⟩ := hL
  refine ⟨⟨F', q', qs', h1, by omega⟩, by have : (sdel L k).length ≤ L.length := List.length_filter_le _ _; omega, fun p hp => h.ks p (List.mem_filter.1 hp).1, hk'⟩
theorem SlW.get {w W : World} {b : Nat} {key want : ByteArray} {th : Bool} {c : Nat} {L : SL} (h : SlW w W b key want th c L) (hk : key.size ≤ maxLen) :
    Calls Tryz.prog 30 #[.pointer (some ⟨b, 0, none⟩), .string key] W fun e W' => e = .returned (.tuple #[.string want, .bool th]) ∧ Below W.heap.size W W' := by
  obtain ⟨F, q, qs, hs, hq⟩ := h.s
  have := sget_live b F L q qs key W hs.s hk
  rw [h.k.get.1, h.k.get.2] at this
  exact this
end Go.Proofs.YtnjcnlbphaodcaaGreat
