/- Rows of k cells that a slice of structs leads to. -/
import Derived.Test.YtffipojlpdphiaaGreatG00
import Derived.Test.YtffipojlpdphiaaGreatG29
import Derived.Test.YtffipojlpdphiaaGreatG23
import Derived.Test.YtffipojlpdphiaaGreatG24
import Derived.Deep.Slices
namespace Go.Proofs.YtffipojlpdphiaaGreat
open Go.RowKit

/-- N rows of k cells at A: row i holds V i -/
def RowsV (W : World) (A : Option Addr) (N k : Nat) (V : Nat → List Value) : Prop :=
  0 < N → ∃ g o, A = some ⟨g, o, none⟩ ∧ g < W.heap.size ∧ ∀ i, i < N → ∀ j u, (V i)[j]? = some u → W.cell? ⟨g, o + i * k + j, none⟩ = some u
theorem RowsV.nil (W : World) (A : Option Addr) (k : Nat) (V : Nat → List Value) : RowsV W A 0 k V := fun h => absurd h (by omega)
theorem RowsV.below {W W' : World} {A : Option Addr} {N k : Nat} {V : Nat → List Value} (h : RowsV W A N k V) (hb : Below W.heap.size W W') : RowsV W' A N k V := fun hN => by
  obtain ⟨g, o, e, hg, hc⟩ := h hN
  refine ⟨g, o, e, Nat.lt_of_lt_of_le hg hb.size, fun i hi j u hu => ?_⟩
  exact (hb.cell (p := ⟨g, o + i * k + j, none⟩) hg).trans (hc i hi j u hu)
theorem RowsV.of_cells {W : World} {a : Addr} {N k : Nat} {V : Nat → List Value} (hk : 0 < k) (h : ∀ i, i < N → W.cells? 0 (a.add (i * k)) k = some (V i)) : RowsV W (some a) N k V := fun hN => by
  have hat : ∀ i, i < N → ∀ j u, (V i)[j]? = some u → W.cell? (a.add (i * k + j)) = some u := fun i hi j u hu => by
    obtain ⟨_, hl, hc⟩ := World.cells?_some (h i hi)
    have hj : j < k := by
      rw [← hl]
      rcases Nat.lt_or_ge j (V i).length with h | h
      · exact h
      · rw [List.getElem?_eq_none h] at hu; cases hu
    have := hc j hj
    rw [Go.Deep.add_add] at this
    rw [this, hu]
  obtain ⟨_, hl, _⟩ := World.cells?_some (h 0 hN)
  obtain ⟨u, hu⟩ : ∃ u, (V 0)[0]? = some u := ⟨(V 0)[0]'(by omega), by rw [List.getElem?_eq_getElem]⟩
  have h0 := hat 0 hN 0 u hu
  have hlt := World.block_lt_of_cell? W _ h0
  obtain ⟨g, o, sp⟩ := a
  have hspot : sp = none := by simpa [Addr.add] using World.cell?_spot h0
  subst hspot
  refine ⟨g, o, rfl, by simpa [Addr.add] using hlt, fun i hi j u hu => ?_⟩
  have := hat i hi j u hu
  rw [show (⟨g, o, none⟩ : Addr).add (i * k + j) = ⟨g, o + (i * k + j), none⟩ from by
    generalize i * k + j = z
    cases z <;> simp [Addr.add], ← Nat.add_assoc] at this
  exact this
end Go.Proofs.YtffipojlpdphiaaGreat

namespace Go.Proofs.YtffipojlpdphiaaGreat
open Go.RowKit Go.Maps Go.Sort

/-- the sum of the lengths so far, as it wraps -/
def lacc (x1 x2 : Nat → ByteArray) : Nat → Int
  | 0 => 0
  | j + 1 => wrap64 (lacc x1 x2 j + wrap64 (((x1 j).size : Int) + ((x2 j).size : Int)))
/-- the law's world -/
structure SlW (w W : World) (b : Nat) (key want : ByteArray) (th : Bool) (c : Nat) (L : SL) : Prop where
  s : ∃ F q qs, SNew w W b F L q qs ∧ q ≤ c
  len : L.length ≤ c
  ks : ∀ p ∈ L, p.1.size ≤ maxLen
  k : KeepS L key want th
theorem SlW.below {w W W' : World} {b : Nat} {key want : ByteArray} {th : Bool} {c : Nat} {L : SL} (h : SlW w W b key want th c L) (hb : Below W.heap.size W W') : SlW w W' b key want th c L := by
  obtain ⟨F, q, qs, hs, hq⟩ := h.s
  exact ⟨⟨F, q, qs, hs.below hb, hq⟩, h.len, h.ks, h.k⟩
theorem SlW.l {w W : World} {b : Nat} {key want : ByteArray} {th : Bool} {c : Nat} {L : SL} (h : SlW w W b key want th c L) : Below w.heap.size w W := by
  obtain ⟨F, q, qs, hs, hq⟩ := h.s
  exact hs.l
theorem SlW.next {w W : World} {b : Nat} {key want : ByteArray} {th : Bool} {c : Nat} {L : SL} (h : SlW w W b key want th c L) : SlW w W b key want th (c + 1) L := by
  obtain ⟨F, q, qs, hs, hq⟩ := h.s
  exact ⟨⟨F, q, qs, hs, by omega⟩, by have := h.len; omega, h.ks, h.k⟩
/-- Set by it -/
theorem SlW.set {w W : World} {b : Nat} {key want : ByteArray} {th : Bool} {c : Nat} {L : SL} (h : SlW w W b key want th c L) (hc : c < 100000) (k v : ByteArray) (hk : k.size ≤ maxLen) (hv : v.size ≤ maxLen) :
    Calls Tryz.prog 101 #[.pointer (some ⟨b, 0, none⟩), .string k, .string v] W fun e W' => (∃ r, e = .returned (.int .i64 r)) ∧ (∀ want' th', KeepS (setE L k v) key want' th' → SlW w W' b key want' th' (c + 1) (setE L k v)) ∧ ∀ T, Foreign T → KeepT T W W' := by
  obtain ⟨F, q, qs, hs, hq⟩ := h.s
  have hl := h.len
  refine (hs.setAny k v hk hv (by omega) (by omega)).mono ?_
  rintro e W' ⟨he, hL⟩
  refine ⟨he, fun want' th' hk' => ?_, fun T hT => LiveTo.keepT hs hL hT⟩
  obtain ⟨F', q', qs', h1, h2, _⟩ := hL
  refine ⟨⟨F', q', qs', h1, by omega⟩, by have := setE_len L k v; omega, fun p hp => ?_, hk'⟩
  rcases mem_setE hp with h3 | h3
  · exact h.ks p h3
  · rw [h3]; exact hk
/-- Delete by it -/
theorem SlW.del {w W : World} {b : Nat} {key want : ByteArray} {th : Bool} {c : Nat} {L : SL} (h : SlW w W b key want th c L) (hc : c < 100000) (k : ByteArray) (hk : k.size ≤ maxLen) :
    Calls Tryz.prog 100 #[.pointer (some ⟨b, 0, none⟩), .string k] W fun e W' => (∃ r, e = .returned (.bool r)) ∧ (∀ want' th', KeepS (sdel L k) key want' th' → SlW w W' b key want' th' (c + 1) (sdel L k)) ∧ ∀ T, Foreign T → KeepT T W W' := by
  obtain ⟨F, q, qs, hs, hq⟩ := h.s
  have hl := h.len
  refine (hs.del k hk (by omega) (by omega)).mono ?_
  rintro e W' ⟨he, hL⟩
  refine ⟨⟨_, he⟩, fun want' th' hk' => ?_, fun T hT => LiveTo.keepT hs hL hT⟩
  obtain ⟨F', q', qs', h1, h2, _⟩ := hL
  refine ⟨⟨F', q', qs', h1, by omega⟩, by have : (sdel L k).length ≤ L.length := List.length_filter_le _ _; omega, fun p hp => h.ks p (List.mem_filter.1 hp).1, hk'⟩
theorem SlW.get {w W : World} {b : Nat} {key want : ByteArray} {th : Bool} {c : Nat} {L : SL} (h : SlW w W b key want th c L) (hk : key.size ≤ maxLen) :
    Calls Tryz.prog 47 #[.pointer (some ⟨b, 0, none⟩), .string key] W fun e W' => e = .returned (.tuple #[.string want, .bool th]) ∧ Below W.heap.size W W' := by
  obtain ⟨F, q, qs, hs, hq⟩ := h.s
  have := sget_live b F L q qs key W hs.s hk
  rw [h.k.get.1, h.k.get.2] at this
  exact this
end Go.Proofs.YtffipojlpdphiaaGreat

namespace Go.Proofs.YtffipojlpdphiaaGreat
open Go.RowKit Go.Maps Go.Sort

theorem lpre_take : ∀ (k b : List UInt8), b.length ≤ k.length → ((k.take b.length == b) = Lib.hasPrefix k b)
  | _, [], _ => by simp [Lib.hasPrefix]
  | [], b :: x, h => by simp at h
  | a :: k, b :: x, h => by
    have ih := lpre_take k x (by simpa using h)
    unfold Lib.hasPrefix at ih ⊢
    rw [List.length_cons, List.take_succ_cons, List.isPrefixOf_cons_cons, ← ih, Bool.eq_iff_iff]
    rw [Bool.and_eq_true, beq_iff_eq, beq_iff_eq, beq_iff_eq, List.cons_eq_cons]
    exact ⟨fun ⟨h1, h2⟩ => ⟨h1.symm, h2⟩, fun ⟨h1, h2⟩ => ⟨h1.symm, h2⟩⟩
theorem pre_ext {k b v : ByteArray} (h : b.size ≤ k.size) : ((k.extract 0 b.size).toList == b.toList) = hpre b (k, v) := by
  have h1 : b.size = b.data.toList.length := by rw [Array.length_toList]; rfl
  have h2 : k.size = k.data.toList.length := by rw [Array.length_toList]; rfl
  have e : (k.extract 0 b.size).toList = k.data.toList.take b.data.toList.length := by
    rw [Lib.toList_data, ByteArray.data_extract, Array.toList_extract, ← h1]
    show ((k.data.toList).drop 0).take (b.size - 0) = _
    rw [List.drop_zero, Nat.sub_zero]
  rw [e, Lib.toList_data, lpre_take _ _ (by omega)]
  rfl
theorem pre_short {k b v : ByteArray} (h : k.size < b.size) : hpre b (k, v) = false := by
  cases hp : hpre b (k, v) with
  | false => rfl
  | true =>
    unfold hpre Lib.hasPrefix at hp
    have := (List.isPrefixOf_iff_prefix.1 hp).length_le
    have h1 : b.size = b.data.toList.length := by rw [Array.length_toList]; rfl
    have h2 : k.size = k.data.toList.length := by rw [Array.length_toList]; rfl
    dsimp only at this
    omega
theorem cp_take {L : SL} (P : ByteArray × ByteArray → Bool) {m : Nat} (h : m < L.length) : (L.take (m + 1)).countP P = (L.take m).countP P + (if P L[m] = true then 1 else 0) := by
  rw [List.take_succ_eq_append_getElem h, List.countP_append, List.countP_singleton]
/-- All by it -/
theorem SlW.all {w W : World} {b : Nat} {key want : ByteArray} {th : Bool} {c : Nat} {L : SL} (h : SlW w W b key want th c L) (hc : c < 1000000) :
    Calls Tryz.prog 14 #[.pointer (some ⟨b, 0, none⟩)] W fun e w' => (∃ v, e = .returned v ∧ w'.ownsRow W.heap.size 70 2 v L.length (pcs L)) ∧ Below W.heap.size W w' := by
  obtain ⟨F, q, qs, hs, hq⟩ := h.s
  exact all_live b F L q qs W hs.s h.ks (by have := h.len; omega)
theorem SlW.under {w W : World} {b : Nat} {key want : ByteArray} {th : Bool} {c : Nat} {L : SL} (h : SlW w W b key want th c L) (hc : c < 1000000) (x : ByteArray) :
    Calls Tryz.prog 35 #[.pointer (some ⟨b, 0, none⟩), .string x] W fun e w' => (∃ A C, e = .returned (.slice A (L.countP (hpre x)) C)) ∧ Below W.heap.size W w' := by
  obtain ⟨F, q, qs, hs, hq⟩ := h.s
  refine (under_live b F L q qs W hs.s x h.ks (by have := h.len; omega)).mono ?_
  rintro e w' ⟨⟨v, rfl, ho⟩, hb⟩
  obtain ⟨A, C, rfl, _⟩ := row_pairs ho
  obtain ⟨bm, vb, vk, vq, _, hM⟩ := hs.s
  exact ⟨⟨A, C, by rw [under_count hM.so x]⟩, hb⟩
end Go.Proofs.YtffipojlpdphiaaGreat
