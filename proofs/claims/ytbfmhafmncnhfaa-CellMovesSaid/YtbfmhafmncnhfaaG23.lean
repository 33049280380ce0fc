/- The law CellBack: what it keeps, step by step. -/
import Derived.Test.YtbfmhafmncnhfaaG21
import Derived.Test.YtbfmhafmncnhfaaG22
import Derived.Test.YtbfmhafmncnhfaaG00
import Derived.Deep.Slices
namespace Go.Proofs.Ytbfmhafmncnhfaa
open Go.RowKit Go.Maps Go.Sort

abbrev uBox (a : Nat) : Obj := .cells #[.int .u64 (limb a 0 : Nat), .int .u64 (limb a 1 : Nat), .int .u64 (limb a 2 : Nat), .int .u64 (limb a 3 : Nat)] 55
theorem fU10 : Foreign 55 := ⟨by decide, by decide, by decide, by decide⟩
/-- the law's world: a live store at b, the amount's box at xb -/
structure CbW (w W : World) (b xb a : Nat) (L : SL) (c : Nat) : Prop where
  s : ∃ F q qs, SNew w W b F L q qs ∧ q ≤ c
  x : W.heap[xb]? = some (uBox a)
theorem CbW.l {w W : World} {b xb a : Nat} {L : SL} {c : Nat} (h : CbW w W b xb a L c) : Below w.heap.size w W := by
  obtain ⟨F, q, qs, hs, _⟩ := h.s
  exact hs.l
theorem CbW.below {w W W' : World} {b xb a : Nat} {L : SL} {c : Nat} (h : CbW w W b xb a L c) (hb : Below W.heap.size W W') : CbW w W' b xb a L c := by
  obtain ⟨F, q, qs, hs, hq⟩ := h.s
  exact ⟨⟨F, q, qs, hs.below hb, hq⟩, (hb.block xb (hp_lt h.x)).trans h.x⟩
theorem CbW.live {w W W' : World} {b xb a : Nat} {L L' : SL} {c : Nat} {F : List Nat} {q : Nat} {qs : List Value} (hs : SNew w W b F L q qs) (hq : q ≤ c) (hx : W.heap[xb]? = some (uBox a)) (hl : LiveTo w W W' b F L' (q + 1)) : CbW w W' b xb a L' (c + 1) := by
  have hk := (LiveTo.keepT hs hl fU10).2 _ _ _ hx
  obtain ⟨F', q', qs', h1, h2, _⟩ := hl
  exact ⟨⟨F', q', qs', h1, by omega⟩, hk⟩
theorem setL_new {L : SL} {k v : ByteArray} (h : sget L k = none) : (setL L k v).length = L.length + 1 := by
  unfold setL
  rw [if_neg (by rw [h]; simp)]
  unfold sset
  rw [if_neg (by rw [h]; simp)]
  have := klo_le (skeys L) k
  have hl : (skeys L).length = L.length := by unfold skeys; simp
  simp only [List.length_append, List.length_take, List.length_drop, List.length_cons, List.length_nil]
  omega
theorem sdel_same {L : SL} {k : ByteArray} (h : sget L k = none) : sdel L k = L := by
  unfold sdel
  rw [List.filter_eq_self]
  intro p hp
  simp [sget_none (by rw [h]; rfl) p hp]
theorem setA_get (L : SL) (k k' : ByteArray) (a : Nat) (hne : k' ≠ k) : sget (setA L k a) k' = sget L k' := by
  unfold setA
  split
  · rw [sget_sdel, if_neg hne]
  · rw [sget_setL, if_neg hne]
theorem setA_at (L : SL) (k : ByteArray) (a : Nat) : amtAt (setA L k a) k a := by
  unfold amtAt setA
  split
  · rename_i h; exact .inl ⟨h, by rw [sget_sdel, if_pos rfl]⟩
  · exact .inr (by rw [sget_setL, if_pos rfl])
theorem setA_len {L : SL} {k : ByteArray} {a : Nat} (h : sget L k = none) : (setA L k a).length = L.length + (if a = 0 then 0 else 1) := by
  unfold setA
  split
  · rw [sdel_same h]; rfl
  · exact setL_new h
theorem CbW.setInt {w W : World} {b xb a : Nat} {L : SL} {c : Nat} (h : CbW w W b xb a L c) (hN : L.length ≤ 100) (hc : c ≤ 100) (i : Nat) (hi : i < 10) (n : Int) (hn : n < 2 ^ 63) :
    Calls Try.prog 32 #[.pointer (some ⟨b, 0, none⟩), .string (kN i), .int .i64 n] W fun e W' => e = .returned (.tuple #[]) ∧ CbW w W' b xb a (if n < 1 then sdel L (kN i) else setL L (kN i) (numStr n)) (c + 1) := by
  obtain ⟨F, q, qs, hs, hq⟩ := h.s
  exact (csetInt_any hs (kN i) n (by have := (kN_ok i hi).1; unfold maxLen; omega) (kN_ok i hi).2 hn (by omega) (by omega)).mono fun e W' hp => ⟨hp.1, CbW.live hs hq h.x hp.2⟩
theorem CbW.setAmount {w W : World} {b xb a : Nat} {L : SL} {c : Nat} (h : CbW w W b xb a L c) (hN : L.length ≤ 100) (hc : c ≤ 100) (i : Nat) (hi : i < 10) (z : Nat) (hz : z < 2 ^ 256) :
    Calls Try.prog 27 #[.pointer (some ⟨b, 0, none⟩), .string (kN i), U z] W fun e W' => e = .returned (.tuple #[]) ∧ CbW w W' b xb a (setA L (kN i) z) (c + 1) := by
  obtain ⟨F, q, qs, hs, hq⟩ := h.s
  exact (csetAmount_live hs (kN i) z (by have := (kN_ok i hi).1; unfold maxLen; omega) (kN_ok i hi).2 hz (by omega) (by omega)).mono fun e W' hp => ⟨hp.1, CbW.live hs hq h.x hp.2⟩
theorem first_neg (f : Nat → Int) : ∀ m, (∃ p, p < m ∧ f p < 0) → ∃ p, p < m ∧ f p < 0 ∧ ∀ t, t < p → 0 ≤ f t
  | 0, ⟨p, h, _⟩ => absurd h (Nat.not_lt_zero _)
  | m + 1, ⟨p, h1, h2⟩ => by
    by_cases h : ∃ p, p < m ∧ f p < 0
    · obtain ⟨p, a1, a2, a3⟩ := first_neg f m h
      exact ⟨p, by omega, a2, a3⟩
    · have hpm : p = m := by
        refine Classical.byContradiction fun hne => h ⟨p, by omega, h2⟩
      subst hpm
      refine ⟨p, h1, h2, fun t ht => Classical.byContradiction fun h3 => h ⟨t, ht, by omega⟩⟩
theorem CbW.setRow {w W : World} {b xb a : Nat} {L : SL} {c : Nat} (h : CbW w W b xb a L c) (hN : L.length ≤ 100) (hc : c ≤ 100) (i : Nat) (hi : i < 10) (A : Option Addr) (m C : Nat) (f : Nat → Int) (hl : Il W A m f) (hm : m ≤ 20) (gd : Bool) (hgd : gd = true ↔ 0 < m ∧ ∀ t, t < m → 0 ≤ f t) (he : sget L (kN i) = none) :
    Calls Try.prog 33 #[.pointer (some ⟨b, 0, none⟩), .string (kN i), .slice A m C] W fun e W' => e = .returned (.tuple #[]) ∧ CbW w W' b xb a (if gd = true then setL L (kN i) (rowV f m) else L) (c + 1) := by
  obtain ⟨F, q, qs, hs, hq⟩ := h.s
  have hk : (kN i).size ≤ maxLen := by have := (kN_ok i hi).1; unfold maxLen; omega
  have hk0 := (kN_ok i hi).2
  by_cases hm0 : m = 0
  · have : gd = false := by
      cases gd with
      | false => rfl
      | true => have := (hgd.1 rfl).1; omega
    subst this
    simp only [Bool.false_eq_true, if_false]
    refine (csetRow_nil hs (kN i) A m C f hl hm0 (fun t ht => by omega) hk hk0 (by omega) (by omega)).mono fun e W' hp => ⟨hp.1, ?_⟩
    have h2 := hp.2
    rw [sdel_same he] at h2
    exact CbW.live hs hq h.x h2
  · by_cases hall : ∀ t, t < m → 0 ≤ f t
    · obtain rfl : gd = true := hgd.2 ⟨by omega, hall⟩
      simp only [if_true]
      exact (csetRow_set hs (kN i) A m C f hl (by omega) (by omega) hall hk hk0 (by omega) (by omega)).mono fun e W' hp => ⟨hp.1, CbW.live hs hq h.x hp.2⟩
    · have : gd = false := by
        cases gd with
        | false => rfl
        | true => exact absurd (hgd.1 rfl).2 hall
      subst this
      simp only [Bool.false_eq_true, if_false]
      obtain ⟨p, hp1, hp2, hp3⟩ : ∃ p, p < m ∧ f p < 0 ∧ ∀ t, t < p → 0 ≤ f t := by
        have hex : ∃ p, p < m ∧ f p < 0 := by
          refine Classical.byContradiction fun hno => hall fun t ht => ?_
          refine Classical.byContradiction fun h2 => hno ⟨t, ht, by omega⟩
        exact first_neg f m hex
      exact (csetRow_neg hs (kN i) A m C f hl (by omega) p hp1 hp3 hp2 hk hk0 (by omega) (by omega)).mono fun e W' hp => ⟨hp.1, CbW.live hs hq h.x hp.2⟩
theorem CbW.int {w W : World} {b xb a : Nat} {L : SL} {c : Nat} (h : CbW w W b xb a L c) (i : Nat) (hi : i < 10) (n : Nat) (he : intAt L (kN i) n) (hn : n < 2 ^ 63) :
    Calls Try.prog 35 #[.pointer (some ⟨b, 0, none⟩), .string (kN i)] W fun e W' => e = .returned (.int .i64 (n : Nat)) ∧ Below W.heap.size W W' := by
  obtain ⟨F, q, qs, hs, hq⟩ := h.s
  exact cint_at hs (kN i) n (by have := (kN_ok i hi).1; unfold maxLen; omega) he hn
theorem CbW.amount {w W : World} {b xb a : Nat} {L : SL} {c : Nat} (h : CbW w W b xb a L c) (i : Nat) (hi : i < 10) (z : Nat) (he : amtAt L (kN i) z) (hz : z < 2 ^ 256) :
    Calls Try.prog 31 #[.pointer (some ⟨b, 0, none⟩), .string (kN i)] W fun e W' => e = .returned (U z) ∧ Below W.heap.size W W' := by
  obtain ⟨F, q, qs, hs, hq⟩ := h.s
  exact camount_at hs (kN i) z (by have := (kN_ok i hi).1; unfold maxLen; omega) he hz
theorem CbW.row {w W : World} {b xb a : Nat} {L : SL} {c : Nat} (h : CbW w W b xb a L c) (i : Nat) (hi : i < 10) (m : Nat) (f : Nat → Int) (hm : m ≤ 20) (hf : ∀ t, f t < 2 ^ 63) (gd : Bool) (hgd : gd = true → 0 < m ∧ ∀ t, t < m → 0 ≤ f t) (he : sget L (kN i) = if gd = true then some (rowV f m) else none) :
    Calls Try.prog 34 #[.pointer (some ⟨b, 0, none⟩), .string (kN i)] W fun e W' => (∃ g n c, e = .returned (.slice (some ⟨g, 0, none⟩) n c) ∧ n = (if gd = true then m else 0) ∧ (gd = true → Il W' (some ⟨g, 0, none⟩) m f)) ∧ Below W.heap.size W W' := by
  obtain ⟨F, q, qs, hs, hq⟩ := h.s
  have hk : (kN i).size ≤ maxLen := by have := (kN_ok i hi).1; unfold maxLen; omega
  cases gd with
  | true =>
    obtain ⟨h1, h2⟩ := hgd rfl
    refine (crow_some hs (kN i) f m (by omega) (by omega) (fun t ht => ⟨h2 t ht, hf t⟩) hk (by rw [he]; rfl)).mono ?_
    rintro e W' ⟨⟨g, he, hc, hg⟩, hb⟩
    exact ⟨⟨g, m, m, he, rfl, fun _ => ⟨hf, fun _ => ⟨g, 0, rfl, hg, fun j hj => by rw [Nat.zero_add]; exact hc j hj⟩⟩⟩, hb⟩
  | false =>
    refine (crow_none hs (kN i) hk (by rw [he]; rfl)).mono ?_
    rintro e W' ⟨⟨g, he⟩, hb⟩
    exact ⟨⟨g, 0, 0, he, rfl, fun h => by cases h⟩, hb⟩
theorem CbW.len {w W : World} {b xb a : Nat} {L : SL} {c : Nat} (h : CbW w W b xb a L c) : Calls Try.prog 15 #[.pointer (some ⟨b, 0, none⟩)] W fun e W' => e = .returned (.int .i64 (L.length : Nat)) ∧ W = W' := by
  obtain ⟨F, q, qs, hs, hq⟩ := h.s
  exact len_live b F L q qs W hs.s
theorem CbW.add {w W : World} {b xb a : Nat} {L : SL} {c : Nat} (h : CbW w W b xb a L c) (hN : L.length ≤ 100) (hc : c ≤ 100) (i : Nat) (hi : i < 10) (z : Nat) (he : sget L (kN i) = none) (hz : z < 2 ^ 256) (hle : z ≤ MOST) :
    Calls Try.prog 37 #[.pointer (some ⟨b, 0, none⟩), .string (kN i), U z] W fun e W' => e = .returned (.int .i64 0) ∧ CbW w W' b xb a (setA L (kN i) z) (c + 1) := by
  obtain ⟨F, q, qs, hs, hq⟩ := h.s
  refine (cadd_live hs (kN i) 0 z (by have := (kN_ok i hi).1; unfold maxLen; omega) (kN_ok i hi).2 (.inl ⟨rfl, he⟩) (by decide) hz (by omega) (by omega) (by omega)).mono fun e W' hp => ⟨hp.1, ?_⟩
  have h2 := hp.2
  rw [Nat.zero_add] at h2
  exact CbW.live hs hq h.x h2
theorem CbW.addNo {w W : World} {b xb a : Nat} {L : SL} {c : Nat} (h : CbW w W b xb a L c) (i : Nat) (hi : i < 10) (z : Nat) (he : sget L (kN i) = none) (hz : z < 2 ^ 256) (hle : MOST < z) :
    Calls Try.prog 37 #[.pointer (some ⟨b, 0, none⟩), .string (kN i), U z] W fun e W' => e = .returned (.int .i64 6) ∧ Below W.heap.size W W' :=
  cadd_no _ (kN i) 0 z (by decide) hz (by omega) W fun W1 hb => (h.below hb).amount i hi 0 (.inl ⟨rfl, he⟩) (by decide)
theorem CbW.sub {w W : World} {b xb a : Nat} {L : SL} {c : Nat} (h : CbW w W b xb a L c) (hN : L.length ≤ 100) (hc : c ≤ 100) (i : Nat) (hi : i < 10) (z : Nat) (he : amtAt L (kN i) z) (hz : z < 2 ^ 256) :
    Calls Try.prog 38 #[.pointer (some ⟨b, 0, none⟩), .string (kN i), U z] W fun e W' => e = .returned (.int .i64 0) ∧ CbW w W' b xb a (setA L (kN i) 0) (c + 1) := by
  obtain ⟨F, q, qs, hs, hq⟩ := h.s
  refine (csub_live hs (kN i) z z (by have := (kN_ok i hi).1; unfold maxLen; omega) (kN_ok i hi).2 he hz hz (Nat.le_refl _) (by omega) (by omega)).mono fun e W' hp => ⟨hp.1, ?_⟩
  have h2 := hp.2
  rw [Nat.sub_self] at h2
  exact CbW.live hs hq h.x h2
end Go.Proofs.Ytbfmhafmncnhfaa

namespace Go.Proofs.Ytbfmhafmncnhfaa
open Go.RowKit Go.Maps Go.Sort

/-- the amounts at the ten keys -/
def AmsAt (L : SL) (g : Nat → Nat) : Prop := ∀ i, i < 10 → amtAt L (kN i) (g i)
def upG (g : Nat → Nat) (i z : Nat) : Nat → Nat := fun t => if t = i then z else g t
theorem AmsAt.set {L : SL} {g : Nat → Nat} (h : AmsAt L g) (i z : Nat) (hi : i < 10) : AmsAt (setA L (kN i) z) (upG g i z) := by
  intro t ht
  unfold upG
  by_cases e : t = i
  · rw [if_pos e, e]; exact setA_at L (kN i) z
  · rw [if_neg e]
    have := h t ht
    unfold amtAt at this ⊢
    rw [setA_get L (kN i) (kN t) z (kN_ne t ht i hi e)]
    exact this
theorem setA_keys {L : SL} {k : ByteArray} {z : Nat} {p : ByteArray × ByteArray} (h : p ∈ setA L k z) : p ∈ L ∨ p.1 = k := by
  unfold setA at h
  split at h
  · exact .inl (List.mem_filter.1 h).1
  · unfold setL at h
    split at h
    · exact .inl h
    · unfold sset at h
      split at h
      · obtain ⟨q, hq, rfl⟩ := List.mem_map.1 h
        split
        · exact .inr rfl
        · exact .inl hq
      · rcases List.mem_append.1 h with h | h
        · rcases List.mem_append.1 h with h | h
          · exact .inl (List.mem_of_mem_take h)
          · rw [List.mem_singleton.1 h]; exact .inr rfl
        · exact .inl (List.mem_of_mem_drop h)
theorem setA_len2 (L : SL) (k : ByteArray) (z : Nat) : (setA L k z).length ≤ L.length + 1 := by
  unfold setA
  split
  · have : (sdel L k).length ≤ L.length := List.length_filter_le _ _
    omega
  · exact setL_len L k _
/-- the law's world -/
structure CmW (w W : World) (b : Nat) (L : SL) (g : Nat → Nat) (c : Nat) : Prop where
  s : ∃ F q qs, SNew w W b F L q qs ∧ q ≤ c
  len : L.length ≤ c
  ks : ∀ p ∈ L, p.1.size ≤ maxLen
  am : AmsAt L g
theorem CmW.l {w W : World} {b : Nat} {L : SL} {g : Nat → Nat} {c : Nat} (h : CmW w W b L g c) : Below w.heap.size w W := by
  obtain ⟨F, q, qs, hs, _⟩ := h.s
  exact hs.l
theorem CmW.below {w W W' : World} {b : Nat} {L : SL} {g : Nat → Nat} {c : Nat} (h : CmW w W b L g c) (hb : Below W.heap.size W W') : CmW w W' b L g c := by
  obtain ⟨F, q, qs, hs, hq⟩ := h.s
  exact ⟨⟨F, q, qs, hs.below hb, hq⟩, h.len, h.ks, h.am⟩
theorem CmW.up {w W : World} {b : Nat} {L : SL} {g : Nat → Nat} {c d : Nat} (h : CmW w W b L g c) (hd : c ≤ d) : CmW w W b L g d := by
  obtain ⟨F, q, qs, hs, hq⟩ := h.s
  exact ⟨⟨F, q, qs, hs, by omega⟩, by have := h.len; omega, h.ks, h.am⟩
theorem kN_max (i : Nat) (hi : i < 10) : (kN i).size ≤ maxLen := by have := (kN_ok i hi).1; unfold maxLen; omega
/-- SetAmount by it; what else lies in blocks of types that no store has stays -/
theorem CmW.setAmount {w W : World} {b : Nat} {L : SL} {g : Nat → Nat} {c : Nat} (h : CmW w W b L g c) (hc : c ≤ 10000) (i : Nat) (hi : i < 10) (z : Nat) (hz : z < 2 ^ 256) :
    Calls Try.prog 27 #[.pointer (some ⟨b, 0, none⟩), .string (kN i), U z] W fun e W' => e = .returned (.tuple #[]) ∧ CmW w W' b (setA L (kN i) z) (upG g i z) (c + 1) ∧ ∀ T, Foreign T → KeepT T W W' := by
  obtain ⟨F, q, qs, hs, hq⟩ := h.s
  have hl := h.len
  refine (csetAmount_live hs (kN i) z (kN_max i hi) (kN_ok i hi).2 hz (by omega) (by omega)).mono ?_
  rintro e W' ⟨he, hL⟩
  have hk := fun T (hT : Foreign T) => LiveTo.keepT hs hL hT
  obtain ⟨F', q', qs', h1, h2, _⟩ := hL
  refine ⟨he, ⟨⟨F', q', qs', h1, by omega⟩, by have := setA_len2 L (kN i) z; omega, fun p hp => ?_, h.am.set i z hi⟩, hk⟩
  rcases setA_keys hp with h3 | h3
  · exact h.ks p h3
  · rw [h3]; exact kN_max i hi
theorem CmW.amount {w W : World} {b : Nat} {L : SL} {g : Nat → Nat} {c : Nat} (h : CmW w W b L g c) (i : Nat) (hi : i < 10) (hz : g i < 2 ^ 256) :
    Calls Try.prog 31 #[.pointer (some ⟨b, 0, none⟩), .string (kN i)] W fun e W' => e = .returned (U (g i)) ∧ Below W.heap.size W W' := by
  obtain ⟨F, q, qs, hs, hq⟩ := h.s
  exact camount_at hs (kN i) (g i) (kN_max i hi) (h.am i hi) hz
theorem CmW.all {w W : World} {b : Nat} {L : SL} {g : Nat → Nat} {c : Nat} (h : CmW w W b L g c) (hc : c ≤ 10000) :
    Calls Try.prog 20 #[.pointer (some ⟨b, 0, none⟩)] W fun e w' => (∃ v, e = .returned v ∧ w'.ownsRow W.heap.size 43 2 v L.length (pcs L)) ∧ Below W.heap.size W w' := by
  obtain ⟨F, q, qs, hs, hq⟩ := h.s
  exact all_live b F L q qs W hs.s h.ks (by have := h.len; omega)
/-- what Move answers -/
def mvErr (g : Nat → Nat) (i j a : Nat) : Int := if g i < a then 13 else if i = j then 0 else if MOST < g j + a then 6 else 0
/-- the amounts behind it -/
def mvG (g : Nat → Nat) (i j a : Nat) : Nat → Nat := if g i < a ∨ i = j ∨ MOST < g j + a then g else upG (upG g j (g j + a)) i (g i - a)
def mvL (L : SL) (g : Nat → Nat) (i j a : Nat) : SL := if g i < a ∨ i = j ∨ MOST < g j + a then L else setA (setA L (kN j) (g j + a)) (kN i) (g i - a)
theorem mv_stays {g : Nat → Nat} {i j a : Nat} {L : SL} (h : mvErr g i j a ≠ 0) : mvL L g i j a = L := by
  unfold mvErr at h
  unfold mvL
  split at h
  · rw [if_pos (.inl (by assumption))]
  · split at h
    · exact absurd rfl h
    · split at h
      · rw [if_pos (.inr (.inr (by assumption)))]
      · exact absurd rfl h
theorem CmW.move {w W : World} {b : Nat} {L : SL} {g : Nat → Nat} {c : Nat} (h : CmW w W b L g c) (hc : c ≤ 10000) (i j a : Nat) (hi : i < 10) (hj : j < 10) (ha : a < 2 ^ 256) (hg : ∀ t, t < 10 → g t < 2 ^ 256) :
    Calls Try.prog 30 #[.pointer (some ⟨b, 0, none⟩), .string (kN i), .string (kN j), U a] W fun e W' => e = .returned (.int .i64 (mvErr g i j a)) ∧ CmW w W' b (mvL L g i j a) (mvG g i j a) (c + 2) ∧ ∀ T, Foreign T → KeepT T W W' := by
  obtain ⟨F, q, qs, hs, hq⟩ := h.s
  have hl := h.len
  unfold mvErr mvL mvG
  by_cases h1 : g i < a
  · rw [if_pos h1, if_pos (.inl h1), if_pos (.inl h1)]
    exact (cmove_less hs (kN i) (kN j) (g i) a (kN_max i hi) (h.am i hi) (hg i hi) ha h1).mono fun e W' hp => ⟨hp.1, (h.below hp.2).up (by omega), fun T _ => KeepT.of_below hp.2⟩
  · rw [if_neg h1]
    by_cases h2 : i = j
    · rw [if_pos h2, if_pos (.inr (.inl h2)), if_pos (.inr (.inl h2))]
      exact (cmove_same hs (kN i) (kN j) (g i) a (kN_max i hi) (h.am i hi) (hg i hi) ha (by omega) (by rw [h2])).mono fun e W' hp => ⟨hp.1, (h.below hp.2).up (by omega), fun T _ => KeepT.of_below hp.2⟩
    · rw [if_neg h2]
      have hne := kN_ne i hi j hj h2
      by_cases h3 : MOST < g j + a
      · rw [if_pos h3, if_pos (.inr (.inr h3)), if_pos (.inr (.inr h3))]
        exact (cmove_over hs (kN i) (kN j) (g i) a (kN_max i hi) (h.am i hi) (hg i hi) ha (g j) (kN_max j hj) hne (h.am j hj) (hg j hj) (by omega) h3).mono fun e W' hp => ⟨hp.1, (h.below hp.2).up (by omega), fun T _ => KeepT.of_below hp.2⟩
      · rw [if_neg h3, if_neg (by omega), if_neg (by omega)]
        have hset := h.am.set j (g j + a) hj
        have hset2 := hset.set i (g i - a) hi
        have e1 : upG g j (g j + a) i = g i := by unfold upG; rw [if_neg h2]
        have hi1 := hset i hi
        rw [e1] at hi1
        have hl1 := setA_len2 L (kN j) (g j + a)
        have hl2 := setA_len2 (setA L (kN j) (g j + a)) (kN i) (g i - a)
        refine (cmove_live hs (kN i) (kN j) (g i) (g j) a (kN_max i hi) (kN_ok i hi).2 (kN_max j hj) (kN_ok j hj).2 hne (h.am i hi) (h.am j hj) hi1 (hg i hi) (hg j hj) ha (by omega) (by omega) (by omega) (by omega) (by omega)).mono ?_
        rintro e W' ⟨he, hL⟩
        have hk := fun T (hT : Foreign T) => LiveTo.keepT hs hL hT
        obtain ⟨F', q', qs', a1, a2, _⟩ := hL
        refine ⟨he, ⟨⟨F', q', qs', a1, by omega⟩, by omega, fun p hp => ?_, hset2⟩, hk⟩
        rcases setA_keys hp with b1 | b1
        · rcases setA_keys b1 with b2 | b2
          · exact h.ks p b2
          · rw [b2]; exact kN_max j hj
        · rw [b1]; exact kN_max i hi
/-- the sum of the ten amounts -/
def sumG (g : Nat → Nat) : Nat → Nat
  | 0 => 0
  | k + 1 => sumG g k + g k
theorem sumG_up (g : Nat → Nat) (i z : Nat) : ∀ k, sumG (upG g i z) k + (if i < k then g i else 0) = sumG g k + (if i < k then z else 0)
  | 0 => by simp [sumG]
  | k + 1 => by
    have ih := sumG_up g i z k
    unfold sumG
    unfold upG at ih ⊢
    by_cases h : k = i
    · subst h
      rw [if_neg (by omega), if_neg (by omega)] at ih
      rw [if_pos rfl, if_pos (by omega), if_pos (by omega)]
      omega
    · rw [if_neg h]
      by_cases h2 : i < k
      · rw [if_pos h2, if_pos h2] at ih
        rw [if_pos (by omega), if_pos (by omega)]
        omega
      · rw [if_neg h2, if_neg h2] at ih
        rw [if_neg (by omega), if_neg (by omega)]
        omega
theorem mv_sum (g : Nat → Nat) (i j a : Nat) (hi : i < 10) (hj : j < 10) : sumG (mvG g i j a) 10 = sumG g 10 := by
  unfold mvG
  split
  · rfl
  · rename_i h
    have h1 := sumG_up g j (g j + a) 10
    have h2 := sumG_up (upG g j (g j + a)) i (g i - a) 10
    rw [if_pos hj, if_pos hj] at h1
    rw [if_pos hi, if_pos hi] at h2
    have e1 : upG g j (g j + a) i = g i := by unfold upG; rw [if_neg (by omega)]
    rw [e1] at h2
    omega
theorem sumG_ge (g : Nat → Nat) (i : Nat) : ∀ k, i < k → g i ≤ sumG g k
  | 0, h => absurd h (Nat.not_lt_zero _)
  | k + 1, h => by
    unfold sumG
    by_cases e : i = k
    · subst e; omega
    · have := sumG_ge g i k (by omega)
      omega
end Go.Proofs.Ytbfmhafmncnhfaa

namespace Go.Proofs.Ytbfmhafmncnhfaa
open Go.RowKit

/-- N rows of k cells at A: row i holds V i -/
def RowsV (W : World) (A : Option Addr) (N k : Nat) (V : Nat → List Value) : Prop :=
  0 < N → ∃ g o, A = some ⟨g, o, none⟩ ∧ g < W.heap.size ∧ ∀ i, i < N → ∀ j u, (V i)[j]? = some u → W.cell? ⟨g, o + i * k + j, none⟩ = some u
theorem RowsV.nil (W : World) (A : Option Addr) (k : Nat) (V : Nat → List Value) : RowsV W A 0 k V := fun h => absurd h (by omega)
theorem RowsV.below {W W' : World} {A : Option Addr} {N k : Nat} {V : Nat → List Value} (h : RowsV W A N k V) (hb : Below W.heap.size W W') : RowsV W' A N k V := fun hN => by
  obtain ⟨g, o, e, hg, hc⟩ := h hN
  refine ⟨g, o, e, Nat.lt_of_lt_of_le hg hb.size, fun i hi j u hu => ?_⟩
  exact (hb.cell (p := ⟨g, o + i * k + j, none⟩) hg).trans (hc i hi j u hu)
theorem RowsV.of_cells {W : World} {a : Addr} {N k : Nat} {V : Nat → List Value} (hk : 0 < k) (h : ∀ i, i < N → W.cells? 0 (a.add (i * k)) k = some (V i)) : RowsV W (some a) N k V := fun hN => by
  have hat : ∀ i, i < N → ∀ j u, (V i)[j]? = some u → W.cell? (a.add (i * k + j)) = some u := fun i hi j u hu => by
    obtain ⟨_, hl, hc⟩ := World.cells?_some (h i hi)
    have hj : j < k := by
      rw [← hl]
      rcases Nat.lt_or_ge j (V i).length with h | h
      · exact h
      · rw [List.getElem?_eq_none h] at hu; cases hu
    have := hc j hj
    rw [Go.Deep.add_add] at this
    rw [this, hu]
  obtain ⟨_, hl, _⟩ := World.cells?_some (h 0 hN)
  obtain ⟨u, hu⟩ : ∃ u, (V 0)[0]? = some u := ⟨(V 0)[0]'(by omega), by rw [List.getElem?_eq_getElem]⟩
  have h0 := hat 0 hN 0 u hu
  have hlt := World.block_lt_of_cell? W _ h0
  obtain ⟨g, o, sp⟩ := a
  have hspot : sp = none := by simpa [Addr.add] using World.cell?_spot h0
  subst hspot
  refine ⟨g, o, rfl, by simpa [Addr.add] using hlt, fun i hi j u hu => ?_⟩
  have := hat i hi j u hu
  rw [show (⟨g, o, none⟩ : Addr).add (i * k + j) = ⟨g, o + (i * k + j), none⟩ from by
    generalize i * k + j = z
    cases z <;> simp [Addr.add], ← Nat.add_assoc] at this
  exact this
end Go.Proofs.Ytbfmhafmncnhfaa
