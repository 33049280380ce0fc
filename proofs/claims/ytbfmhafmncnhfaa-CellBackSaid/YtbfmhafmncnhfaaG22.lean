/- The law CellBack: what it keeps, step by step. -/
import Derived.Test.YtbfmhafmncnhfaaG20
import Derived.Test.YtbfmhafmncnhfaaG21
import Derived.Test.YtbfmhafmncnhfaaG05
namespace Go.Proofs.Ytbfmhafmncnhfaa
open Go.RowKit Go.Maps Go.Sort

abbrev uBox (a : Nat) : Obj := .cells #[.int .u64 (limb a 0 : Nat), .int .u64 (limb a 1 : Nat), .int .u64 (limb a 2 : Nat), .int .u64 (limb a 3 : Nat)] 55
theorem fU10 : Foreign 55 := ⟨by decide, by decide, by decide, by decide⟩
/-- the law's world: a live store at b, the amount's box at xb -/
structure CbW (w W : World) (b xb a : Nat) (L : SL) (c : Nat) : Prop where
  s : ∃ F q qs, SNew w W b F L q qs ∧ q ≤ c
  x : W.heap[xb]? = some (uBox a)
theorem CbW.l {w W : World} {b xb a : Nat} {L : SL} {c : Nat} (h : CbW w W b xb a L c) : Below w.heap.size w W := by
  obtain ⟨F, q, qs, hs, _⟩ := h.s
  exact hs.l
theorem CbW.below {w W W' : World} {b xb a : Nat} {L : SL} {c : Nat} (h : CbW w W b xb a L c) (hb : Below W.heap.size W W') : CbW w W' b xb a L c := by
  obtain ⟨F, q, qs, hs, hq⟩ := h.s
  exact ⟨⟨F, q, qs, hs.below hb, hq⟩, (hb.block xb (hp_lt h.x)).trans h.x⟩
theorem CbW.live {w W W' : World} {b xb a : Nat} {L L' : SL} {c : Nat} {F : List Nat} {q : Nat} {qs : List Value} (hs : SNew w W b F L q qs) (hq : q ≤ c) (hx : W.heap[xb]? = some (uBox a)) (hl : LiveTo w W W' b F L' (q + 1)) : CbW w W' b xb a L' (c + 1) := by
  have hk := (LiveTo.keepT hs hl fU10).2 _ _ _ hx
  obtain ⟨F', q', qs', h1, h2, _⟩ := hl
  exact ⟨⟨F', q', qs', h1, by omega⟩, hk⟩
theorem setL_new {L : SL} {k v : ByteArray} (h : sget L k = none) : (setL L k v).length = L.length + 1 := by
  unfold setL
  rw [if_neg (by rw [h]; simp)]
  unfold sset
  rw [if_neg (by rw [h]; simp)]
  have := klo_le (skeys L) k
  have hl : (skeys L).length = L.length := by unfold skeys; simp
  simp only [List.length_append, List.length_take, List.length_drop, List.length_cons, List.length_nil]
  omega
theorem sdel_same {L : SL} {k : ByteArray} (h : sget L k = none) : sdel L k = L := by
  unfold sdel
  rw [List.filter_eq_self]
  intro p hp
  simp [sget_none (by rw [h]; rfl) p hp]
theorem setA_get (L : SL) (k k' : ByteArray) (a : Nat) (hne : k' ≠ k) : sget (setA L k a) k' = sget L k' := by
  unfold setA
  split
  · rw [sget_sdel, if_neg hne]
  · rw [sget_setL, if_neg hne]
theorem setA_at (L : SL) (k : ByteArray) (a : Nat) : amtAt (setA L k a) k a := by
  unfold amtAt setA
  split
  · rename_i h; exact .inl ⟨h, by rw [sget_sdel, if_pos rfl]⟩
  · exact .inr (by rw [sget_setL, if_pos rfl])
theorem setA_len {L : SL} {k : ByteArray} {a : Nat} (h : sget L k = none) : (setA L k a).length = L.length + (if a = 0 then 0 else 1) := by
  unfold setA
  split
  · rw [sdel_same h]; rfl
  · exact setL_new h
theorem CbW.setInt {w W : World} {b xb a : Nat} {L : SL} {c : Nat} (h : CbW w W b xb a L c) (hN : L.length ≤ 100) (hc : c ≤ 100) (i : Nat) (hi : i < 10) (n : Int) (hn : n < 2 ^ 63) :
    Calls Try.prog 32 #[.pointer (some ⟨b, 0, none⟩), .string (kN i), .int .i64 n] W fun e W' => e = .returned (.tuple #[]) ∧ CbW w W' b xb a (if n < 1 then sdel L (kN i) else setL L (kN i) (numStr n)) (c + 1) := by
  obtain ⟨F, q, qs, hs, hq⟩ := h.s
  exact (csetInt_any hs (kN i) n (by have := (kN_ok i hi).1; unfold maxLen; omega) (kN_ok i hi).2 hn (by omega) (by omega)).mono fun e W' hp => ⟨hp.1, CbW.live hs hq h.x hp.2⟩
theorem CbW.setAmount {w W : World} {b xb a : Nat} {L : SL} {c : Nat} (h : CbW w W b xb a L c) (hN : L.length ≤ 100) (hc : c ≤ 100) (i : Nat) (hi : i < 10) (z : Nat) (hz : z < 2 ^ 256) :
    Calls Try.prog 27 #[.pointer (some ⟨b, 0, none⟩), .string (kN i), U z] W fun e W' => e = .returned (.tuple #[]) ∧ CbW w W' b xb a (setA L (kN i) z) (c + 1) := by
  obtain ⟨F, q, qs, hs, hq⟩ := h.s
  exact (csetAmount_live hs (kN i) z (by have := (kN_ok i hi).1; unfold maxLen; omega) (kN_ok i hi).2 hz (by omega) (by omega)).mono fun e W' hp => ⟨hp.1, CbW.live hs hq h.x hp.2⟩
theorem first_neg (f : Nat → Int) : ∀ m, (∃ p, p < m ∧ f p < 0) → ∃ p, p < m ∧ f p < 0 ∧ ∀ t, t < p → 0 ≤ f t
  | 0, ⟨p, h, _⟩ => absurd h (Nat.not_lt_zero _)
  | m + 1, ⟨p, h1, h2⟩ => by
    by_cases h : ∃ p, p < m ∧ f p < 0
    · obtain ⟨p, a1, a2, a3⟩ := first_neg f m h
      exact ⟨p, by omega, a2, a3⟩
    · have hpm : p = m := by
        refine Classical.byContradiction fun hne => h ⟨p, by omega, h2⟩
      subst hpm
      refine ⟨p, h1, h2, fun t ht => Classical.byContradiction fun h3 => h ⟨t, ht, by omega⟩⟩
theorem CbW.setRow {w W : World} {b xb a : Nat} {L : SL} {c : Nat} (h : CbW w W b xb a L c) (hN : L.length ≤ 100) (hc : c ≤ 100) (i : Nat) (hi : i < 10) (A : Option Addr) (m C : Nat) (f : Nat → Int) (hl : Il W A m f) (hm : m ≤ 20) (gd : Bool) (hgd : gd = true ↔ 0 < m ∧ ∀ t, t < m → 0 ≤ f t) (he : sget L (kN i) = none) :
    Calls Try.prog 33 #[.pointer (some ⟨b, 0, none⟩), .string (kN i), .slice A m C] W fun e W' => e = .returned (.tuple #[]) ∧ CbW w W' b xb a (if gd = true then setL L (kN i) (rowV f m) else L) (c + 1) := by
  obtain ⟨F, q, qs, hs, hq⟩ := h.s
  have hk : (kN i).size ≤ maxLen := by have := (kN_ok i hi).1; unfold maxLen; omega
  have hk0 := (kN_ok i hi).2
  by_cases hm0 : m = 0
  · have : gd = false := by
      cases gd with
      | false => rfl
      | true => have := (hgd.1 rfl).1; omega
    subst this
    simp only [Bool.false_eq_true, if_false]
    refine (csetRow_nil hs (kN i) A m C f hl hm0 (fun t ht => by omega) hk hk0 (by omega) (by omega)).mono fun e W' hp => ⟨hp.1, ?_⟩
    have h2 := hp.2
    rw [sdel_same he] at h2
    exact CbW.live hs hq h.x h2
  · by_cases hall : ∀ t, t < m → 0 ≤ f t
    · obtain rfl : gd = true := hgd.2 ⟨by omega, hall⟩
      simp only [if_true]
      exact (csetRow_set hs (kN i) A m C f hl (by omega) (by omega) hall hk hk0 (by omega) (by omega)).mono fun e W' hp => ⟨hp.1, CbW.live hs hq h.x hp.2⟩
    · have : gd = false := by
        cases gd with
        | false => rfl
        | true => exact absurd (hgd.1 rfl).2 hall
      subst this
      simp only [Bool.false_eq_true, if_false]
      obtain ⟨p, hp1, hp2, hp3⟩ : ∃ p, p < m ∧ f p < 0 ∧ ∀ t, t < p → 0 ≤ f t := by
        have hex : ∃ p, p < m ∧ f p < 0 := by
          refine Classical.byContradiction fun hno => hall fun t ht => ?_
          refine Classical.byContradiction fun h2 => hno ⟨t, ht, by omega⟩
        exact first_neg f m hex
      exact (csetRow_neg hs (kN i) A m C f hl (by omega) p hp1 hp3 hp2 hk hk0 (by omega) (by omega)).mono fun e W' hp => ⟨hp.1, CbW.live hs hq h.x hp.2⟩
theorem CbW.int {w W : World} {b xb a : Nat} {L : SL} {c : Nat} (h : CbW w W b xb a L c) (i : Nat) (hi : i < 10) (n : Nat) (he : intAt L (kN i) n) (hn : n < 2 ^ 63) :
    Calls Try.prog 35 #[.pointer (some ⟨b, 0, none⟩), .string (kN i)] W fun e W' => e = .returned (.int .i64 (n : Nat)) ∧ Below W.heap.size W W' := by
  obtain ⟨F, q, qs, hs, hq⟩ := h.s
  exact cint_at hs (kN i) n (by have := (kN_ok i hi).1; unfold maxLen; omega) he hn
theorem CbW.amount {w W : World} {b xb a : Nat} {L : SL} {c : Nat} (h : CbW w W b xb a L c) (i : Nat) (hi : i < 10) (z : Nat) (he : amtAt L (kN i) z) (hz : z < 2 ^ 256) :
    Calls Try.prog 31 #[.pointer (some ⟨b, 0, none⟩), .string (kN i)] W fun e W' => e = .returned (U z) ∧ Below W.heap.size W W' := by
  obtain ⟨F, q, qs, hs, hq⟩ := h.s
  exact camount_at hs (kN i) z (by have := (kN_ok i hi).1; unfold maxLen; omega) he hz
theorem CbW.row {w W : World} {b xb a : Nat} {L : SL} {c : Nat} (h : CbW w W b xb a L c) (i : Nat) (hi : i < 10) (m : Nat) (f : Nat → Int) (hm : m ≤ 20) (hf : ∀ t, f t < 2 ^ 63) (gd : Bool) (hgd : gd = true → 0 < m ∧ ∀ t, t < m → 0 ≤ f t) (he : sget L (kN i) = if gd = true then some (rowV f m) else none) :
    Calls Try.prog 34 #[.pointer (some ⟨b, 0, none⟩), .string (kN i)] W fun e W' => (∃ g n c, e = .returned (.slice (some ⟨g, 0, none⟩) n c) ∧ n = (if gd = true then m else 0) ∧ (gd = true → Il W' (some ⟨g, 0, none⟩) m f)) ∧ Below W.heap.size W W' := by
  obtain ⟨F, q, qs, hs, hq⟩ := h.s
  have hk : (kN i).size ≤ maxLen := by have := (kN_ok i hi).1; unfold maxLen; omega
  cases gd with
  | true =>
    obtain ⟨h1, h2⟩ := hgd rfl
    refine (crow_some hs (kN i) f m (by omega) (by omega) (fun t ht => ⟨h2 t ht, hf t⟩) hk (by rw [he]; rfl)).mono ?_
    rintro e W' ⟨⟨g, he, hc, hg⟩, hb⟩
    exact ⟨⟨g, m, m, he, rfl, fun _ => ⟨hf, fun _ => ⟨g, 0, rfl, hg, fun j hj => by rw [Nat.zero_add]; exact hc j hj⟩⟩⟩, hb⟩
  | false =>
    refine (crow_none hs (kN i) hk (by rw [he]; rfl)).mono ?_
    rintro e W' ⟨⟨g, he⟩, hb⟩
    exact ⟨⟨g, 0, 0, he, rfl, fun h => by cases h⟩, hb⟩
theorem CbW.len {w W : World} {b xb a : Nat} {L : SL} {c : Nat} (h : CbW w W b xb a L c) : Calls Try.prog 15 #[.pointer (some ⟨b, 0, none⟩)] W fun e W' => e = .returned (.int .i64 (L.length : Nat)) ∧ W = W' := by
  obtain ⟨F, q, qs, hs, hq⟩ := h.s
  exact len_live b F L q qs W hs.s
theorem CbW.add {w W : World} {b xb a : Nat} {L : SL} {c : Nat} (h : CbW w W b xb a L c) (hN : L.length ≤ 100) (hc : c ≤ 100) (i : Nat) (hi : i < 10) (z : Nat) (he : sget L (kN i) = none) (hz : z < 2 ^ 256) (hle : z ≤ MOST) :
    Calls Try.prog 37 #[.pointer (some ⟨b, 0, none⟩), .string (kN i), U z] W fun e W' => e = .returned (.int .i64 0) ∧ CbW w W' b xb a (setA L (kN i) z) (c + 1) := by
  obtain ⟨F, q, qs, hs, hq⟩ := h.s
  refine (cadd_live hs (kN i) 0 z (by have := (kN_ok i hi).1; unfold maxLen; omega) (kN_ok i hi).2 (.inl ⟨rfl, he⟩) (by decide) hz (by omega) (by omega) (by omega)).mono fun e W' hp => ⟨hp.1, ?_⟩
  have h2 := hp.2
  rw [Nat.zero_add] at h2
  exact CbW.live hs hq h.x h2
theorem CbW.addNo {w W : World} {b xb a : Nat} {L : SL} {c : Nat} (h : CbW w W b xb a L c) (i : Nat) (hi : i < 10) (z : Nat) (he : sget L (kN i) = none) (hz : z < 2 ^ 256) (hle : MOST < z) :
    Calls Try.prog 37 #[.pointer (some ⟨b, 0, none⟩), .string (kN i), U z] W fun e W' => e = .returned (.int .i64 6) ∧ Below W.heap.size W W' :=
  cadd_no _ (kN i) 0 z (by decide) hz (by omega) W fun W1 hb => (h.below hb).amount i hi 0 (.inl ⟨rfl, he⟩) (by decide)
theorem CbW.sub {w W : World} {b xb a : Nat} {L : SL} {c : Nat} (h : CbW w W b xb a L c) (hN : L.length ≤ 100) (hc : c ≤ 100) (i : Nat) (hi : i < 10) (z : Nat) (he : amtAt L (kN i) z) (hz : z < 2 ^ 256) :
    Calls Try.prog 38 #[.pointer (some ⟨b, 0, none⟩), .string (kN i), U z] W fun e W' => e = .returned (.int .i64 0) ∧ CbW w W' b xb a (setA L (kN i) 0) (c + 1) := by
  obtain ⟨F, q, qs, hs, hq⟩ := h.s
  refine (csub_live hs (kN i) z z (by have := (kN_ok i hi).1; unfold maxLen; omega) (kN_ok i hi).2 he hz hz (Nat.le_refl _) (by omega) (by omega)).mono fun e W' hp => ⟨hp.1, ?_⟩
  have h2 := hp.2
  rw [Nat.sub_self] at h2
  exact CbW.live hs hq h.x h2
end Go.Proofs.Ytbfmhafmncnhfaa

namespace Go.Proofs.Ytbfmhafmncnhfaa
open Go.RowKit Go.Maps Go.Sort

theorem cb_facts (n : Int) (a m : Nat) (f : Nat → Int) (gd : Bool) (hn : n < 2 ^ 63) : ∃ L1 L2 L3 : SL, L1 = (if n < 1 then sdel [] (kN 1) else setL [] (kN 1) (numStr n)) ∧ L2 = setA L1 (kN 2) a ∧ L3 = (if gd = true then setL L2 (kN 3) (rowV f m) else L2) ∧ intAt L3 (kN 1) n.toNat ∧ amtAt L3 (kN 2) a ∧ sget L2 (kN 3) = none ∧
    sget L3 (kN 3) = (if gd = true then some (rowV f m) else none) ∧ sget L3 (kN 4) = none ∧ L1.length ≤ 1 ∧ L2.length ≤ 2 ∧ L3.length = (if n < 1 then 0 else 1) + (if a = 0 then 0 else 1) + (if gd = true then 1 else 0) := by
  have k12 := kN_ne 1 (by omega) 2 (by omega) (by omega)
  have k13 := kN_ne 1 (by omega) 3 (by omega) (by omega)
  have k23 := kN_ne 2 (by omega) 3 (by omega) (by omega)
  have k32 := kN_ne 3 (by omega) 2 (by omega) (by omega)
  have k31 := kN_ne 3 (by omega) 1 (by omega) (by omega)
  have k21 := kN_ne 2 (by omega) 1 (by omega) (by omega)
  have k41 := kN_ne 4 (by omega) 1 (by omega) (by omega)
  have k42 := kN_ne 4 (by omega) 2 (by omega) (by omega)
  have k43 := kN_ne 4 (by omega) 3 (by omega) (by omega)
  have h1 : ∀ k, k ≠ kN 1 → sget (if n < 1 then sdel [] (kN 1) else setL [] (kN 1) (numStr n)) k = none := fun k hk => by
    split
    · rw [sget_sdel, if_neg hk]; rfl
    · rw [sget_setL, if_neg hk]; rfl
  have h1i : intAt (if n < 1 then sdel [] (kN 1) else setL [] (kN 1) (numStr n)) (kN 1) n.toNat := by
    by_cases h : n < 1
    · rw [if_pos h]; exact .inl ⟨by omega, by rw [sget_sdel, if_pos rfl]⟩
    · rw [if_neg h]; exact .inr (by rw [sget_setL, if_pos rfl, show ((n.toNat : Nat) : Int) = n by omega])
  have h1l : (if n < 1 then sdel [] (kN 1) else setL [] (kN 1) (numStr n) : SL).length = if n < 1 then 0 else 1 := by
    split
    · rfl
    · exact setL_new rfl
  refine ⟨_, _, _, rfl, rfl, rfl, ?_⟩
  generalize (if n < 1 then sdel [] (kN 1) else setL [] (kN 1) (numStr n) : SL) = L1 at h1 h1i h1l ⊢
  have h2 : ∀ k, k ≠ kN 2 → sget (setA L1 (kN 2) a) k = sget L1 k := fun k hk => setA_get L1 (kN 2) k a hk
  have h2a := setA_at L1 (kN 2) a
  have h2l : (setA L1 (kN 2) a).length = L1.length + (if a = 0 then 0 else 1) := setA_len (h1 _ k21)
  generalize setA L1 (kN 2) a = L2 at h2 h2a h2l ⊢
  have h3 : ∀ k, k ≠ kN 3 → sget (if gd = true then setL L2 (kN 3) (rowV f m) else L2) k = sget L2 k := fun k hk => by
    split
    · rw [sget_setL, if_neg hk]
    · rfl
  have n23 : sget L2 (kN 3) = none := by rw [h2 _ k32, h1 _ k31]
  have h33 : sget (if gd = true then setL L2 (kN 3) (rowV f m) else L2) (kN 3) = if gd = true then some (rowV f m) else none := by
    split
    · rw [sget_setL, if_pos rfl]
    · exact n23
  have h3l : (if gd = true then setL L2 (kN 3) (rowV f m) else L2 : SL).length = L2.length + (if gd = true then 1 else 0) := by
    split
    · exact setL_new n23
    · rfl
  generalize (if gd = true then setL L2 (kN 3) (rowV f m) else L2 : SL) = L3 at h3 h33 h3l ⊢
  refine ⟨?_, ?_, n23, h33, by rw [h3 _ k43, h2 _ k42, h1 _ k41], by rw [h1l]; split <;> omega, by rw [h2l, h1l]; split <;> split <;> omega, by rw [h3l, h2l, h1l]⟩
  · unfold intAt at h1i ⊢
    rw [h3 _ k13, h2 _ k12]; exact h1i
  · unfold amtAt at h2a ⊢
    rw [h3 _ k23]; exact h2a
theorem box_cells {W : World} {x a : Nat} (h : W.heap[x]? = some (uBox a)) : W.cell? ⟨x, 0, none⟩ = some (.int .u64 (limb a 0 : Nat)) ∧ W.cell? ⟨x, 1, none⟩ = some (.int .u64 (limb a 1 : Nat)) ∧ W.cell? ⟨x, 2, none⟩ = some (.int .u64 (limb a 2 : Nat)) ∧ W.cell? ⟨x, 3, none⟩ = some (.int .u64 (limb a 3 : Nat)) :=
  ⟨(hp_cell (i := 0) h).trans rfl, (hp_cell (i := 1) h).trans rfl, (hp_cell (i := 2) h).trans rfl, (hp_cell (i := 3) h).trans rfl⟩
set_option maxRecDepth 100000 in
set_option maxHeartbeats 16000000 in
theorem cellBack_go (n : Int) (a : Nat) (A : Option Addr) (m C : Nat) (f : Nat → Int) (w : World) (hn : -9223372036854775808 ≤ n ∧ n < 2 ^ 63) (ha : a < 2 ^ 256) (hl : Il w A m f) (hm : m ≤ 20) (gd bad : Bool) (hgd : gd = true ↔ 0 < m ∧ ∀ t, t < m → 0 ≤ f t) (hbad : bad = true ↔ ∃ t, t < m ∧ f t < 0) :
    Calls Try.prog 7 #[.int .i64 n, U a, .slice A m C] w fun e w' => e = .returned (.bool true) ∧ Below w.heap.size w w' := by
  obtain ⟨L1, L2, L3, e1, e2, e3, f1, f2, f3, f4, f5, f6, f7, f8⟩ := cb_facts n a m f gd hn.2
  have HL := Lib.hid (And.intro e1 (And.intro e2 e3))
  have HF := Lib.hid (And.intro f1 (And.intro f2 (And.intro f3 (And.intro f4 (And.intro f5 f8)))))
  have HA := Lib.hid (And.intro hl (And.intro hgd (And.intro hbad (And.intro hn ha))))
  have hmI : (m : Int) ≤ 20 := by omega
  have hb0 := (Below.refl w.heap.size w).alloc (Nat.le_refl _) (uBox a)
  have hx0 := heap_alloc_new w (uBox a)
  have hq := fun w => eq_run ha ha w
  rw [decide_eq_true rfl] at hq
  have hq0 := fun w => eq0_run ha w
  have hq00 : ∀ w, (Op.equalIn 10000 55 (.agg #[.int .u64 0, .int .u64 0, .int .u64 0, .int .u64 0]) (.agg #[.int .u64 0, .int .u64 0, .int .u64 0, .int .u64 0])).run Try.prog w = .ok true w := fun w => by
    have h := eq0_run (a := 0) (by decide) w
    rw [decide_eq_true rfl] at h
    rw [← h]
    congr
  have H0 := Lib.hid (And.intro hb0 hx0)
  have HF4 : Hid (sget L3 (kN 4) = none) := Lib.hid f5
  clear e1 e2 e3 f1 f2 f3 f4 f5 f8 hl hgd hbad hn ha hb0 hx0
  unfold U
  go_enter Try.func7, Try.ntmps7
  go_upto_region 3 with fail
  unfold uBox at H0
  generalize w.alloc (.cells #[.int .u64 (limb a 0 : Nat), .int .u64 (limb a 1 : Nat), .int .u64 (limb a 2 : Nat), .int .u64 (limb a 3 : Nat)] 55) = W0 at H0 ⊢
  obtain ⟨x, hx⟩ : ∃ x, x = w.heap.size := ⟨_, rfl⟩
  rw [← hx] at H0 ⊢
  have HB0 : Hid (Below w.heap.size w W0) := Lib.hid (by have := H0.out.1; rw [hx] at this; exact this)
  clear hx
  go_upto_region 4 with (go_at_call 10; with_reducible refine (SNew.new w _ HB0.out).mono ?_; rintro e w3 ⟨b, F1, rfl, hs1, hB, _⟩; have H3 : Hid (CbW w w3 b x a [] 0) := Lib.hid ⟨⟨F1, 0, [], hs1, Nat.le_refl _⟩, (hB.block x (hp_lt H0.out.2)).trans H0.out.2⟩; clear hs1 hB)
  go_upto_region 5 with (first
    | (go_at_call 32; refine (CbW.setInt H4.out (by simp) (by omega) 1 (by omega) n HA.out.2.2.2.1.2).mono ?_; rintro e w5 ⟨rfl, h5⟩; rw [← HL.out.1] at h5; have H5 := Lib.hid h5; clear h5)
    | (go_at_call 28; refine (key10_walk 1 (by omega) _).mono ?_; rintro e w4 ⟨rfl, hb4⟩; have H4 := Lib.hid (H3.out.below hb4); clear hb4))
  refine wp_region_held_drew (S := fun w' => w'.heap[x]? = some (uBox a)) (by kernel_rfl) ?_ (fun hHeld => ?_)
  · exact H5.out.x
  have H5d := Lib.hid (H5.out.below (Below.refl _ w5).drew)
  refine wpAnyH_take (i := 0) (v := ?_) rfl (by kernel_rfl) (by kernel_rfl) (by kernel_rfl) (fun _ _ _ h => h) (Or.inl ⟨by kernel_rfl, ?_⟩) (by with_reducible assumption) ?_
  rotate_left
  · intro wz hSw
    (try dsimp only at hSw)
    go_simp
    (try with_reducible rfl)
  show wpAnyH _ _ _ _ _ _ _ (Act.put _ (some 23) _) _
  (try simp only [Act.put, List.setIfInBounds_toArray, List.set_cons_zero, List.set_cons_succ])
  refine wpAnyH_take (i := 2) (v := .agg #[.int .u64 (limb a 0 : Nat), .int .u64 (limb a 1 : Nat), .int .u64 (limb a 2 : Nat), .int .u64 (limb a 3 : Nat)]) rfl (by kernel_rfl) (by kernel_rfl) (by kernel_rfl) (fun _ _ _ h => h) (Or.inl ⟨by kernel_rfl, ?_⟩) (by with_reducible assumption) ?_
  · intro wz hSw
    (try dsimp only at hSw)
    have y0 := (hp_cell (i := 0) hSw).trans rfl
    have y1 := (hp_cell (i := 1) hSw).trans rfl
    have y2 := (hp_cell (i := 2) hSw).trans rfl
    have y3 := (hp_cell (i := 3) hSw).trans rfl
    go_simp
    (try with_reducible rfl)
  show wpAnyH _ _ _ _ _ _ _ (Act.put _ (some 25) _) _
  (try simp only [Act.put, List.setIfInBounds_toArray, List.set_cons_zero, List.set_cons_succ])
  refine wpAnyH_ready (rs := [1]) (by kernel_rfl) (by simp) ?_
  refine AllReadyH.cons rfl (fun K hK => ?_) AllReadyH.nil
  clear hHeld
  go_simp
  go_at_call 28
  refine (key10_walk 2 (by omega) _).mono ?_
  rintro e ZK5 ⟨rfl, hb⟩
  have K5 := Lib.hid (H5d.out.below hb)
  clear hb
  go_wp2_with fail
  refine hK.out _ _ ?_ (fun hHeld => ?_)
  · exact K5.out.x
  clear hK K
  (try simp only [Act.put, List.setIfInBounds_toArray, List.set_cons_zero, List.set_cons_succ])
  refine wpAnyH_ready (rs := [3]) (by kernel_rfl) (by simp) ?_
  refine AllReadyH.cons rfl (fun K hK => ?_) AllReadyH.nil
  clear hHeld
  go_simp
  go_at_call 27
  refine (CbW.setAmount K5.out (by omega) (by omega) 2 (by omega) a HA.out.2.2.2.2).mono ?_
  rintro e ZK6 ⟨rfl, h6⟩
  rw [← HL.out.2.1] at h6
  have K6 := Lib.hid h6
  clear h6
  go_wp2_with fail
  refine hK.out _ _ ?_ (fun hHeld => ?_)
  · exact K6.out.x
  clear hK K
  (try simp only [Act.put, List.setIfInBounds_toArray, List.set_cons_zero, List.set_cons_succ])
  refine wpAnyH_done (by kernel_rfl) ?_ _
  go_upto_region 7 with (first
    | (go_at_call 33; refine (CbW.setRow K7.out (by omega) (by omega) 3 (by omega) A m C f (HA.out.1.below K7.out.l) hm gd HA.out.2.1 HF.out.2.2.1).mono ?_; rintro e w8 ⟨rfl, h8⟩; rw [← HL.out.2.2] at h8; have H8 := Lib.hid h8; clear h8)
    | (go_at_call 28; refine (key10_walk 3 (by omega) _).mono ?_; rintro e w7 ⟨rfl, hb7⟩; have K7 := Lib.hid (K6.out.below hb7); clear hb7))
  go_wp2
  go_loopw [8, 33] (fun v8 i wr => ∃ (j : Nat) (bd : Bool), j ≤ m ∧ i = .int .i64 (j : Nat) ∧ v8 = .bool bd ∧ (bd = true ↔ ∃ t, t < j ∧ f t < 0) ∧ Below w8.heap.size w8 wr) (fun _ i _ => m - (intOf i).toNat)
  case atStart => exact ⟨0, false, by omega, rfl, rfl, ⟨fun h => (by cases h), fun ⟨t, h, _⟩ => absurd h (Nat.not_lt_zero _)⟩, Below.refl _ _⟩
  case round =>
    obtain ⟨j, bd, hj, rfl, rfl, hbd, hbb⟩ := hrel
    by_cases hlt : j < m
    · have p2 : (j : Int) < (m : Int) := by omega
      obtain ⟨g, o, rfl, hg, hc⟩ := ((HA.out.1.below H8.out.l).below hbb).2 (by omega)
      have d0 := hc j hlt
      obtain ⟨y, ey⟩ : ∃ y, y = f j := ⟨_, rfl⟩
      rw [← ey] at d0
      have HX := Lib.hid (And.intro hbd (And.intro hbb ey))
      clear hc hbd hbb ey
      cases bd with
      | true =>
        go_wp2
        exact ⟨⟨j + 1, true, by omega, by go_num, rfl, ⟨fun _ => by obtain ⟨t, h1, h2⟩ := HX.out.1.1 rfl; exact ⟨t, by omega, h2⟩, fun _ => rfl⟩, HX.out.2.1⟩, by simp [intOf]; omega⟩
      | false =>
        by_cases hy : y < 0
        · have q1 : decide (y < 0) = true := decide_eq_true hy
          have HY := Lib.hid hy
          go_wp2
          exact ⟨⟨j + 1, true, by omega, by go_num, rfl, ⟨fun _ => ⟨j, by omega, by rw [← HX.out.2.2]; exact HY.out⟩, fun _ => rfl⟩, HX.out.2.1⟩, by simp [intOf]; omega⟩
        · have q1 : decide (y < 0) = false := decide_eq_false hy
          have HY := Lib.hid hy
          go_wp2
          refine ⟨⟨j + 1, false, by omega, by go_num, rfl, ⟨fun h => (by cases h), fun ⟨t, h1, h2⟩ => ?_⟩, HX.out.2.1⟩, by simp [intOf]; omega⟩
          rcases (by omega : t < j ∨ t = j) with h3 | rfl
          · exact HX.out.1.2 ⟨t, h3, h2⟩
          · exact absurd (by rw [HX.out.2.2]; exact h2) HY.out
    · obtain rfl : j = m := by omega
      have p2 : ¬ (j : Int) < (j : Int) := by omega
      obtain rfl : bd = bad := Bool.eq_iff_iff.2 (hbd.trans HA.out.2.2.1.symm)
      have H9 := Lib.hid (H8.out.below hbb)
      clear hbd hbb
      go_upto_region 15 with (first
        | (go_at_call 34; refine (CbW.row K10.out 3 (by omega) j f hm HA.out.1.1 gd HA.out.2.1.1 HF.out.2.2.2.1).mono ?_; rintro e w11 ⟨⟨gr, nr, cr, rfl, hnr, hil⟩, hb11⟩; have H11 := Lib.hid (K10.out.below hb11); have HRw := Lib.hid (And.intro hnr hil); clear hnr hil hb11)
        | (go_at_call 28; refine (key10_walk 3 (by omega) _).mono ?_; rintro e w10 ⟨rfl, hb10⟩; have K10 := Lib.hid (H9.out.below hb10); clear hb10))
      obtain ⟨E1, hE1⟩ : ∃ E : Nat, E = if n < 1 then 0 else 1 := ⟨_, rfl⟩
      have HE1 := Lib.hid hE1
      clear hE1
      go_upto_if 47 with fail
      go_cut [12] (fun v wx => v = .int .i64 (E1 : Nat) ∧ wx = w11)
      case first =>
        by_cases hn0 : 0 < n
        · have e : E1 = 1 := by rw [HE1.out, if_neg (by omega)]
          subst e
          go_wp2_with fail
          go_meet
          exact ⟨rfl, rfl⟩
        · have e : E1 = 0 := by rw [HE1.out, if_pos (by omega)]
          subst e
          go_wp2_with fail
          go_meet
          exact ⟨rfl, rfl⟩
      case rest =>
        obtain ⟨rfl, rfl⟩ := hcut
        obtain ⟨z0, z1, z2, z3⟩ := box_cells H11.out.x
        go_upto_region 17 with fail
        have hE1 : E1 ≤ 1 := by rw [HE1.out]; split <;> omega
        obtain ⟨E2, hE2⟩ : ∃ E : Nat, E = E1 + (if a = 0 then 0 else 1) := ⟨_, rfl⟩
        have hE2' : E2 ≤ 2 := by rw [hE2]; split <;> omega
        have HE2 := Lib.hid hE2
        clear hE2
        go_upto_if 52 with fail
        go_cut [12] (fun v wx => v = .int .i64 (E2 : Nat) ∧ wx = wc)
        case first =>
          by_cases h0 : a = 0
          · have e : E2 = E1 := by rw [HE2.out, if_pos h0, Nat.add_zero]
            subst e
            have q5 : (!decide (a = 0)) = false := by rw [decide_eq_true h0]; rfl
            go_wp2_with fail
            all_goals first | (exfalso; have q6 : (!decide (a = 0)) = true := by assumption
                               rw [q5] at q6; cases q6) | (go_meet; exact ⟨rfl, rfl⟩)
          · have e : E2 = E1 + 1 := by rw [HE2.out, if_neg h0]
            subst e
            have q5 : (!decide (a = 0)) = true := by rw [decide_eq_false h0]; rfl
            go_wp2_with fail
            all_goals first | (exfalso; have q6 : (!decide (a = 0)) = false := by assumption
                               rw [q5] at q6; cases q6) | (go_meet; exact ⟨by go_num, rfl⟩)
        case rest =>
          obtain ⟨rfl, rfl⟩ := hcut
          go_upto_region 19 with fail
          obtain ⟨E3, hE3⟩ : ∃ E : Nat, E = E2 + (if gd = true then 1 else 0) := ⟨_, rfl⟩
          have hE3L : E3 = L3.length := by rw [hE3, HE2.out, HE1.out, HF.out.2.2.2.2.2]
          have HE3 := Lib.hid (And.intro hE3 hE3L)
          have hgb : (0 < j ∧ bd = false) ↔ gd = true := by
            rw [HA.out.2.1]
            refine ⟨fun ⟨h1, h2⟩ => ⟨h1, fun t ht => ?_⟩, fun ⟨h1, h2⟩ => ⟨h1, ?_⟩⟩
            · refine Classical.byContradiction fun h3 => ?_
              have := HA.out.2.2.1.2 ⟨t, ht, by omega⟩
              rw [h2] at this; cases this
            · cases hb : bd with
              | false => rfl
              | true =>
                obtain ⟨t, h3, h4⟩ := HA.out.2.2.1.1 hb
                have := h2 t h3
                omega
          have HGB := Lib.hid hgb
          clear hE3 hE3L hgb
          go_cut [61] (fun v wx => v = .bool gd ∧ wx = wc)
          case first =>
            by_cases h0 : 0 < j
            · have q5 : decide ((0 : Int) < (j : Int)) = true := decide_eq_true (by omega)
              have q5n : decide (0 < j) = true := decide_eq_true h0
              have hgn : (!bd) = gd := by
                cases hbd : bd with
                | true =>
                  cases hg : gd with
                  | false => rfl
                  | true => have := (HGB.out.2 hg).2; rw [hbd] at this; cases this
                | false => exact (HGB.out.1 ⟨h0, hbd⟩).symm
              have HGn := Lib.hid hgn
              clear hgn
              go_wp2_with fail
              all_goals first | (exfalso; omega) | (go_meet; exact ⟨by rw [HGn.out], rfl⟩)
            · have q5 : decide ((0 : Int) < (j : Int)) = false := decide_eq_false (by omega)
              have q5n : decide (0 < j) = false := decide_eq_false h0
              obtain rfl : gd = false := by
                cases hg : gd with
                | false => rfl
                | true => exact absurd (HGB.out.2 hg).1 h0
              go_wp2_with fail
              all_goals first | (exfalso; omega) | (go_meet; exact ⟨rfl, rfl⟩)
          case rest =>
            obtain ⟨rfl, rfl⟩ := hcut
            go_upto_if 61 with fail
            go_cut [12] (fun v wx => v = .int .i64 (E3 : Nat) ∧ wx = wc)
            case first =>
              by_cases hg : gd = true
              · have e : E3 = E2 + 1 := by rw [HE3.out.1, if_pos hg]
                subst e
                go_wp2_with fail
                all_goals first | (exfalso; have q6 : gd = false := by assumption
                                   rw [hg] at q6; cases q6) | (go_meet; exact ⟨by go_num, rfl⟩)
              · have e : E3 = E2 := by rw [HE3.out.1, if_neg hg]; rfl
                have hg2 : gd = false := by simpa using hg
                subst e
                go_wp2_with fail
                all_goals first | (exfalso; exact hg (by assumption)) | (go_meet; exact ⟨rfl, rfl⟩)
            case rest =>
              obtain ⟨rfl, rfl⟩ := hcut
              go_upto_region 21 with fail
              have H21 : Hid (CbW w _ b x a L3 3) := H11
              have hx9 : n.toNat = (max n 0).toNat := by omega
              go_cut [106] (fun v wx => v = .bool false ∧ CbW w wx b x a L3 3)
              case first =>
                by_cases hg : gd = true
                · obtain ⟨h0, hbd⟩ := HGB.out.2 hg
                  have HBd := Lib.hid hbd
                  clear hbd
                  have hnr : nr = j := by rw [HRw.out.1, if_pos hg]
                  have hil := HRw.out.2 hg
                  have p1 : 0 < nr := by omega
                  have q1 : decide ((0 : Int) < (nr : Int)) = true := decide_eq_true (by omega)
                  have q1n : decide (0 < nr) = true := decide_eq_true p1
                  have q2 : decide ((0 : Int) < (j : Int)) = true := decide_eq_true (by omega)
                  have q2n : decide (0 < j) = true := decide_eq_true h0
                  have HInt : Hid (∀ W, CbW w W b x a L3 3 → Below _ _ W → Calls Try.prog 36 #[.slice (some ⟨gr, 0, none⟩) nr cr, .slice A j C] W fun e w' => e = .returned (.bool true) ∧ Below W.heap.size W w') := Lib.hid fun W hc hb => by
                    rw [hnr]
                    exact ints_same _ _ j cr C f f W (hil.below hb) (HA.out.1.below hc.l) (by omega) (fun _ _ => rfl)
                  clear hnr hil
                  refine wp_region_held_drew (S := fun w' => w'.heap[x]? = some (uBox a)) (by kernel_rfl) ?_ (fun hHeld => ?_)
                  · exact H21.out.x
                  have H21d := Lib.hid (H21.out.below (Below.refl _ _).drew)
                  have BH21d := Lib.hid (show Below wc.heap.size wc wc.drew from (Below.refl _ _).drew)
                  refine wpAnyH_take (i := 0) (v := ?_) rfl (by kernel_rfl) (by kernel_rfl) (by kernel_rfl) (fun _ _ _ h => h) (Or.inl ⟨by kernel_rfl, ?_⟩) (by with_reducible assumption) ?_
                  rotate_left
                  · intro wz hSw
                    (try dsimp only at hSw)
                    go_simp
                    (try with_reducible rfl)
                  show wpAnyH _ _ _ _ _ _ _ (Act.put _ (some 64) _) _
                  (try simp only [Act.put, List.setIfInBounds_toArray, List.set_cons_zero, List.set_cons_succ])
                  refine wpAnyH_take (i := 2) (v := ?_) rfl (by kernel_rfl) (by kernel_rfl) (by kernel_rfl) (fun _ _ _ h => h) (Or.inl ⟨by kernel_rfl, ?_⟩) (by with_reducible assumption) ?_
                  rotate_left
                  · intro wz hSw
                    (try dsimp only at hSw)
                    go_simp
                    (try with_reducible rfl)
                  show wpAnyH _ _ _ _ _ _ _ (Act.put _ (some 66) _) _
                  (try simp only [Act.put, List.setIfInBounds_toArray, List.set_cons_zero, List.set_cons_succ])
                  refine wpAnyH_ready (rs := [1]) (by kernel_rfl) (by simp) ?_
                  refine AllReadyH.cons rfl (fun K hK => ?_) AllReadyH.nil
                  clear hHeld
                  go_simp
                  go_at_call 15
                  refine (CbW.len H21d.out).mono ?_
                  rintro e Z1 ⟨he, rfl⟩
                  rw [← HE3.out.2] at he
                  subst he
                  go_wp2_with fail
                  refine hK.out _ _ ?_ (fun hHeld => ?_)
                  · exact H21d.out.x
                  clear hK K
                  (try simp only [Act.put, List.setIfInBounds_toArray, List.set_cons_zero, List.set_cons_succ])
                  refine wpAnyH_take (i := 3) (v := .bool false) rfl (by kernel_rfl) (by kernel_rfl) (by kernel_rfl) (fun _ _ _ h => h) (Or.inl ⟨by kernel_rfl, ?_⟩) (by with_reducible assumption) ?_
                  · intro wz hSw
                    (try dsimp only at hSw)
                    go_simp
                    (try with_reducible rfl)
                  show wpAnyH _ _ _ _ _ _ _ (Act.put _ (some 67) _) _
                  (try simp only [Act.put, List.setIfInBounds_toArray, List.set_cons_zero, List.set_cons_succ])
                  refine wpAnyH_take (i := 4) (v := ?_) rfl (by kernel_rfl) (by kernel_rfl) (by kernel_rfl) (fun _ _ _ h => h) (Or.inl ⟨by kernel_rfl, ?_⟩) (by with_reducible assumption) ?_
                  rotate_left
                  · intro wz hSw
                    (try dsimp only at hSw)
                    go_simp
                    (try with_reducible rfl)
                  show wpAnyH _ _ _ _ _ _ _ (Act.put _ (some 68) _) _
                  (try simp only [Act.put, List.setIfInBounds_toArray, List.set_cons_zero, List.set_cons_succ])
                  refine wpAnyH_take (i := 5) (v := ?_) rfl (by kernel_rfl) (by kernel_rfl) (by kernel_rfl) (fun _ _ _ h => h) (Or.inl ⟨by kernel_rfl, ?_⟩) (by with_reducible assumption) ?_
                  rotate_left
                  · intro wz hSw
                    (try dsimp only at hSw)
                    go_simp
                    (try with_reducible rfl)
                  show wpAnyH _ _ _ _ _ _ _ (Act.put _ (some 69) _) _
                  (try simp only [Act.put, List.setIfInBounds_toArray, List.set_cons_zero, List.set_cons_succ])
                  refine wpAnyH_take (i := 8) (v := ?_) rfl (by kernel_rfl) (by kernel_rfl) (by kernel_rfl) (fun _ _ _ h => h) (Or.inl ⟨by kernel_rfl, ?_⟩) (by with_reducible assumption) ?_
                  rotate_left
                  · intro wz hSw
                    (try dsimp only at hSw)
                    go_simp
                    (try with_reducible rfl)
                  show wpAnyH _ _ _ _ _ _ _ (Act.put _ (some 72) _) _
                  (try simp only [Act.put, List.setIfInBounds_toArray, List.set_cons_zero, List.set_cons_succ])
                  refine wpAnyH_take (i := 9) (v := ?_) rfl (by kernel_rfl) (by kernel_rfl) (by kernel_rfl) (fun _ _ _ h => h) (Or.inl ⟨by kernel_rfl, ?_⟩) (by with_reducible assumption) ?_
                  rotate_left
                  · intro wz hSw
                    (try dsimp only at hSw)
                    go_simp
                    (try with_reducible rfl)
                  show wpAnyH _ _ _ _ _ _ _ (Act.put _ (some 73) _) _
                  (try simp only [Act.put, List.setIfInBounds_toArray, List.set_cons_zero, List.set_cons_succ])
                  refine wpAnyH_ready (rs := [6]) (by kernel_rfl) (by simp) ?_
                  refine AllReadyH.cons rfl (fun K hK => ?_) AllReadyH.nil
                  clear hHeld
                  go_simp
                  go_at_call 28
                  refine (key10_walk 1 (by omega) _).mono ?_
                  rintro e ZJ6 ⟨rfl, hb⟩
                  have J6 := Lib.hid (H21d.out.below hb)
                  have BJ6 := Lib.hid (BH21d.out.trans (hb.mono BH21d.out.size))
                  clear hb
                  go_wp2_with fail
                  refine hK.out _ _ ?_ (fun hHeld => ?_)
                  · exact J6.out.x
                  clear hK K
                  (try simp only [Act.put, List.setIfInBounds_toArray, List.set_cons_zero, List.set_cons_succ])
                  refine wpAnyH_ready (rs := [7]) (by kernel_rfl) (by simp) ?_
                  refine AllReadyH.cons rfl (fun K hK => ?_) AllReadyH.nil
                  clear hHeld
                  go_simp
                  go_at_call 35
                  refine (CbW.int J6.out 1 (by omega) n.toNat HF.out.1 (by have := HA.out.2.2.2.1.2; omega)).mono ?_
                  rintro e ZJ7 ⟨rfl, hb⟩
                  have J7 := Lib.hid (J6.out.below hb)
                  have BJ7 := Lib.hid (BJ6.out.trans (hb.mono BJ6.out.size))
                  clear hb
                  go_wp2_with fail
                  refine hK.out _ _ ?_ (fun hHeld => ?_)
                  · exact J7.out.x
                  clear hK K
                  (try simp only [Act.put, List.setIfInBounds_toArray, List.set_cons_zero, List.set_cons_succ])
                  refine wpAnyH_take (i := 10) (v := .bool false) rfl (by kernel_rfl) (by kernel_rfl) (by kernel_rfl) (fun _ _ _ h => h) (Or.inl ⟨by kernel_rfl, ?_⟩) (by with_reducible assumption) ?_
                  · intro wz hSw
                    (try dsimp only at hSw)
                    go_simp
                    (try with_reducible rfl)
                  show wpAnyH _ _ _ _ _ _ _ (Act.put _ (some 74) _) _
                  (try simp only [Act.put, List.setIfInBounds_toArray, List.set_cons_zero, List.set_cons_succ])
                  refine wpAnyH_take (i := 11) (v := ?_) rfl (by kernel_rfl) (by kernel_rfl) (by kernel_rfl) (fun _ _ _ h => h) (Or.inl ⟨by kernel_rfl, ?_⟩) (by with_reducible assumption) ?_
                  rotate_left
                  · intro wz hSw
                    (try dsimp only at hSw)
                    go_simp
                    (try with_reducible rfl)
                  show wpAnyH _ _ _ _ _ _ _ (Act.put _ (some 75) _) _
                  (try simp only [Act.put, List.setIfInBounds_toArray, List.set_cons_zero, List.set_cons_succ])
                  refine wpAnyH_take (i := 12) (v := ?_) rfl (by kernel_rfl) (by kernel_rfl) (by kernel_rfl) (fun _ _ _ h => h) (Or.inl ⟨by kernel_rfl, ?_⟩) (by with_reducible assumption) ?_
                  rotate_left
                  · intro wz hSw
                    (try dsimp only at hSw)
                    go_simp
                    (try with_reducible rfl)
                  show wpAnyH _ _ _ _ _ _ _ (Act.put _ (some 76) _) _
                  (try simp only [Act.put, List.setIfInBounds_toArray, List.set_cons_zero, List.set_cons_succ])
                  refine wpAnyH_take (i := 13) (v := ?_) rfl (by kernel_rfl) (by kernel_rfl) (by kernel_rfl) (fun _ _ _ h => h) (Or.inl ⟨by kernel_rfl, ?_⟩) (by with_reducible assumption) ?_
                  rotate_left
                  · intro wz hSw
                    (try dsimp only at hSw)
                    go_simp
                    (try with_reducible rfl)
                  show wpAnyH _ _ _ _ _ _ _ (Act.put _ (some 77) _) _
                  (try simp only [Act.put, List.setIfInBounds_toArray, List.set_cons_zero, List.set_cons_succ])
                  refine wpAnyH_take (i := 16) (v := .agg #[.int .u64 (limb a 0 : Nat), .int .u64 (limb a 1 : Nat), .int .u64 (limb a 2 : Nat), .int .u64 (limb a 3 : Nat)]) rfl (by kernel_rfl) (by kernel_rfl) (by kernel_rfl) (fun _ _ _ h => h) (Or.inl ⟨by kernel_rfl, ?_⟩) (by with_reducible assumption) ?_
                  · intro wz hSw
                    (try dsimp only at hSw)
                    have y0 := (hp_cell (i := 0) hSw).trans rfl
                    have y1 := (hp_cell (i := 1) hSw).trans rfl
                    have y2 := (hp_cell (i := 2) hSw).trans rfl
                    have y3 := (hp_cell (i := 3) hSw).trans rfl
                    go_simp
                    (try with_reducible rfl)
                  show wpAnyH _ _ _ _ _ _ _ (Act.put _ (some 80) _) _
                  (try simp only [Act.put, List.setIfInBounds_toArray, List.set_cons_zero, List.set_cons_succ])
                  refine wpAnyH_ready (rs := [14]) (by kernel_rfl) (by simp) ?_
                  refine AllReadyH.cons rfl (fun K hK => ?_) AllReadyH.nil
                  clear hHeld
                  go_simp
                  go_at_call 28
                  refine (key10_walk 2 (by omega) _).mono ?_
                  rintro e ZJ14 ⟨rfl, hb⟩
                  have J14 := Lib.hid (J7.out.below hb)
                  have BJ14 := Lib.hid (BJ7.out.trans (hb.mono BJ7.out.size))
                  clear hb
                  go_wp2_with fail
                  refine hK.out _ _ ?_ (fun hHeld => ?_)
                  · exact J14.out.x
                  clear hK K
                  (try simp only [Act.put, List.setIfInBounds_toArray, List.set_cons_zero, List.set_cons_succ])
                  refine wpAnyH_ready (rs := [15]) (by kernel_rfl) (by simp) ?_
                  refine AllReadyH.cons rfl (fun K hK => ?_) AllReadyH.nil
                  clear hHeld
                  go_simp
                  go_at_call 31
                  refine (CbW.amount J14.out 2 (by omega) a HF.out.2.1 HA.out.2.2.2.2).mono ?_
                  rintro e ZJ15 ⟨he, hb⟩
                  unfold U at he
                  subst he
                  have J15 := Lib.hid (J14.out.below hb)
                  have BJ15 := Lib.hid (BJ14.out.trans (hb.mono BJ14.out.size))
                  clear hb
                  go_wp2_with fail
                  refine hK.out _ _ ?_ (fun hHeld => ?_)
                  · exact J15.out.x
                  clear hK K
                  (try simp only [Act.put, List.setIfInBounds_toArray, List.set_cons_zero, List.set_cons_succ])
                  refine wpAnyH_take (i := 17) (v := .bool false) rfl (by kernel_rfl) (by kernel_rfl) (by kernel_rfl) (fun _ _ _ h => h) (Or.inl ⟨by kernel_rfl, ?_⟩) (by with_reducible assumption) ?_
                  · intro wz hSw
                    (try dsimp only at hSw)
                    go_simp
                    (try with_reducible rfl)
                  show wpAnyH _ _ _ _ _ _ _ (Act.put _ (some 81) _) _
                  (try simp only [Act.put, List.setIfInBounds_toArray, List.set_cons_zero, List.set_cons_succ])
                  refine wpAnyH_take (i := 18) (v := ?_) rfl (by kernel_rfl) (by kernel_rfl) (by kernel_rfl) (fun _ _ _ h => h) (Or.inl ⟨by kernel_rfl, ?_⟩) (by with_reducible assumption) ?_
                  rotate_left
                  · intro wz hSw
                    (try dsimp only at hSw)
                    go_simp
                    (try with_reducible rfl)
                  show wpAnyH _ _ _ _ _ _ _ (Act.put _ (some 82) _) _
                  (try simp only [Act.put, List.setIfInBounds_toArray, List.set_cons_zero, List.set_cons_succ])
                  refine wpAnyH_take (i := 19) (v := ?_) rfl (by kernel_rfl) (by kernel_rfl) (by kernel_rfl) (fun _ _ _ h => h) (Or.inl ⟨by kernel_rfl, ?_⟩) (by with_reducible assumption) ?_
                  rotate_left
                  · intro wz hSw
                    (try dsimp only at hSw)
                    go_simp
                    (try with_reducible rfl)
                  show wpAnyH _ _ _ _ _ _ _ (Act.put _ (some 83) _) _
                  (try simp only [Act.put, List.setIfInBounds_toArray, List.set_cons_zero, List.set_cons_succ])
                  refine wpAnyH_take (i := 20) (v := ?_) rfl (by kernel_rfl) (by kernel_rfl) (by kernel_rfl) (fun _ _ _ h => h) (Or.inl ⟨by kernel_rfl, ?_⟩) (by with_reducible assumption) ?_
                  rotate_left
                  · intro wz hSw
                    (try dsimp only at hSw)
                    go_simp
                    (try with_reducible rfl)
                  show wpAnyH _ _ _ _ _ _ _ (Act.put _ (some 84) _) _
                  (try simp only [Act.put, List.setIfInBounds_toArray, List.set_cons_zero, List.set_cons_succ])
                  refine wpAnyH_take (i := 21) (v := ?_) rfl (by kernel_rfl) (by kernel_rfl) (by kernel_rfl) (fun _ _ _ h => h) (Or.inl ⟨by kernel_rfl, ?_⟩) (by with_reducible assumption) ?_
                  rotate_left
                  · intro wz hSw
                    (try dsimp only at hSw)
                    go_simp
                    (try with_reducible rfl)
                  show wpAnyH _ _ _ _ _ _ _ (Act.put _ (some 85) _) _
                  (try simp only [Act.put, List.setIfInBounds_toArray, List.set_cons_zero, List.set_cons_succ])
                  refine wpAnyH_take (i := 22) (v := .bool true) rfl (by kernel_rfl) (by kernel_rfl) (by kernel_rfl) (fun _ _ _ h => h) (Or.inl ⟨by kernel_rfl, ?_⟩) (by with_reducible assumption) ?_
                  · intro wz hSw
                    (try dsimp only at hSw)
                    go_simp
                    (try with_reducible rfl)
                  show wpAnyH _ _ _ _ _ _ _ (Act.put _ (some 86) _) _
                  (try simp only [Act.put, List.setIfInBounds_toArray, List.set_cons_zero, List.set_cons_succ])
                  refine wpAnyH_take (i := 23) (v := ?_) rfl (by kernel_rfl) (by kernel_rfl) (by kernel_rfl) (fun _ _ _ h => h) (Or.inl ⟨by kernel_rfl, ?_⟩) (by with_reducible assumption) ?_
                  rotate_left
                  · intro wz hSw
                    (try dsimp only at hSw)
                    go_simp
                    (try with_reducible rfl)
                  show wpAnyH _ _ _ _ _ _ _ (Act.put _ (some 87) _) _
                  (try simp only [Act.put, List.setIfInBounds_toArray, List.set_cons_zero, List.set_cons_succ])
                  refine wpAnyH_take (i := 24) (v := ?_) rfl (by kernel_rfl) (by kernel_rfl) (by kernel_rfl) (fun _ _ _ h => h) (Or.inl ⟨by kernel_rfl, ?_⟩) (by with_reducible assumption) ?_
                  rotate_left
                  · intro wz hSw
                    (try dsimp only at hSw)
                    go_simp
                    (try with_reducible rfl)
                  show wpAnyH _ _ _ _ _ _ _ (Act.put _ (some 88) _) _
                  (try simp only [Act.put, List.setIfInBounds_toArray, List.set_cons_zero, List.set_cons_succ])
                  refine wpAnyH_take (i := 25) (v := ?_) rfl (by kernel_rfl) (by kernel_rfl) (by kernel_rfl) (fun _ _ _ h => h) (Or.inl ⟨by kernel_rfl, ?_⟩) (by with_reducible assumption) ?_
                  rotate_left
                  · intro wz hSw
                    (try dsimp only at hSw)
                    go_simp
                    (try with_reducible rfl)
                  show wpAnyH _ _ _ _ _ _ _ (Act.put _ (some 89) _) _
                  (try simp only [Act.put, List.setIfInBounds_toArray, List.set_cons_zero, List.set_cons_succ])
                  refine wpAnyH_ready (rs := [26]) (by kernel_rfl) (by simp) ?_
                  refine AllReadyH.cons rfl (fun K hK => ?_) AllReadyH.nil
                  clear hHeld
                  go_simp
                  go_at_call 36
                  with_reducible refine (HInt.out _ J15.out BJ15.out).mono ?_
                  rintro e Z26 ⟨rfl, hb⟩
                  have J26 := Lib.hid (J15.out.below hb)
                  clear hb
                  go_wp2_with fail
                  refine hK.out _ _ ?_ (fun hHeld => ?_)
                  · exact J26.out.x
                  clear hK K
                  (try simp only [Act.put, List.setIfInBounds_toArray, List.set_cons_zero, List.set_cons_succ])
                  refine wpAnyH_take (i := 27) (v := ?_) rfl (by kernel_rfl) (by kernel_rfl) (by kernel_rfl) (fun _ _ _ h => h) (Or.inl ⟨by kernel_rfl, ?_⟩) (by with_reducible assumption) ?_
                  rotate_left
                  · intro wz hSw
                    (try dsimp only at hSw)
                    go_simp
                    (try with_reducible rfl)
                  show wpAnyH _ _ _ _ _ _ _ (Act.put _ (some 91) _) _
                  (try simp only [Act.put, List.setIfInBounds_toArray, List.set_cons_zero, List.set_cons_succ])
                  refine wpAnyH_take (i := 28) (v := ?_) rfl (by kernel_rfl) (by kernel_rfl) (by kernel_rfl) (fun _ _ _ h => h) (Or.inl ⟨by kernel_rfl, ?_⟩) (by with_reducible assumption) ?_
                  rotate_left
                  · intro wz hSw
                    (try dsimp only at hSw)
                    go_simp
                    (try with_reducible rfl)
                  show wpAnyH _ _ _ _ _ _ _ (Act.put _ (some 92) _) _
                  (try simp only [Act.put, List.setIfInBounds_toArray, List.set_cons_zero, List.set_cons_succ])
                  refine wpAnyH_take (i := 29) (v := ?_) rfl (by kernel_rfl) (by kernel_rfl) (by kernel_rfl) (fun _ _ _ h => h) (Or.inl ⟨by kernel_rfl, ?_⟩) (by with_reducible assumption) ?_
                  rotate_left
                  · intro wz hSw
                    (try dsimp only at hSw)
                    go_simp
                    (try with_reducible rfl)
                  show wpAnyH _ _ _ _ _ _ _ (Act.put _ (some 93) _) _
                  (try simp only [Act.put, List.setIfInBounds_toArray, List.set_cons_zero, List.set_cons_succ])
                  refine wpAnyH_take (i := 30) (v := ?_) rfl (by kernel_rfl) (by kernel_rfl) (by kernel_rfl) (fun _ _ _ h => h) (Or.inl ⟨by kernel_rfl, ?_⟩) (by with_reducible assumption) ?_
                  rotate_left
                  · intro wz hSw
                    (try dsimp only at hSw)
                    go_simp
                    (try with_reducible rfl)
                  show wpAnyH _ _ _ _ _ _ _ (Act.put _ (some 94) _) _
                  (try simp only [Act.put, List.setIfInBounds_toArray, List.set_cons_zero, List.set_cons_succ])
                  refine wpAnyH_take (i := 31) (v := ?_) rfl (by kernel_rfl) (by kernel_rfl) (by kernel_rfl) (fun _ _ _ h => h) (Or.inl ⟨by kernel_rfl, ?_⟩) (by with_reducible assumption) ?_
                  rotate_left
                  · intro wz hSw
                    (try dsimp only at hSw)
                    go_simp
                    (try with_reducible rfl)
                  show wpAnyH _ _ _ _ _ _ _ (Act.put _ (some 95) _) _
                  (try simp only [Act.put, List.setIfInBounds_toArray, List.set_cons_zero, List.set_cons_succ])
                  refine wpAnyH_take (i := 32) (v := ?_) rfl (by kernel_rfl) (by kernel_rfl) (by kernel_rfl) (fun _ _ _ h => h) (Or.inl ⟨by kernel_rfl, ?_⟩) (by with_reducible assumption) ?_
                  rotate_left
                  · intro wz hSw
                    (try dsimp only at hSw)
                    go_simp
                    (try with_reducible rfl)
                  show wpAnyH _ _ _ _ _ _ _ (Act.put _ (some 96) _) _
                  (try simp only [Act.put, List.setIfInBounds_toArray, List.set_cons_zero, List.set_cons_succ])
                  refine wpAnyH_take (i := 33) (v := .bool true) rfl (by kernel_rfl) (by kernel_rfl) (by kernel_rfl) (fun _ _ _ h => h) (Or.inl ⟨by kernel_rfl, ?_⟩) (by with_reducible assumption) ?_
                  · intro wz hSw
                    (try dsimp only at hSw)
                    go_simp
                    (try with_reducible rfl)
                  show wpAnyH _ _ _ _ _ _ _ (Act.put _ (some 97) _) _
                  (try simp only [Act.put, List.setIfInBounds_toArray, List.set_cons_zero, List.set_cons_succ])
                  refine wpAnyH_take (i := 34) (v := ?_) rfl (by kernel_rfl) (by kernel_rfl) (by kernel_rfl) (fun _ _ _ h => h) (Or.inl ⟨by kernel_rfl, ?_⟩) (by with_reducible assumption) ?_
                  rotate_left
                  · intro wz hSw
                    (try dsimp only at hSw)
                    go_simp
                    (try with_reducible rfl)
                  show wpAnyH _ _ _ _ _ _ _ (Act.put _ (some 98) _) _
                  (try simp only [Act.put, List.setIfInBounds_toArray, List.set_cons_zero, List.set_cons_succ])
                  refine wpAnyH_take (i := 35) (v := ?_) rfl (by kernel_rfl) (by kernel_rfl) (by kernel_rfl) (fun _ _ _ h => h) (Or.inl ⟨by kernel_rfl, ?_⟩) (by with_reducible assumption) ?_
                  rotate_left
                  · intro wz hSw
                    (try dsimp only at hSw)
                    go_simp
                    (try with_reducible rfl)
                  show wpAnyH _ _ _ _ _ _ _ (Act.put _ (some 99) _) _
                  (try simp only [Act.put, List.setIfInBounds_toArray, List.set_cons_zero, List.set_cons_succ])
                  refine wpAnyH_take (i := 36) (v := .bool true) rfl (by kernel_rfl) (by kernel_rfl) (by kernel_rfl) (fun _ _ _ h => h) (Or.inl ⟨by kernel_rfl, ?_⟩) (by with_reducible assumption) ?_
                  · intro wz hSw
                    (try dsimp only at hSw)
                    go_simp
                    (try with_reducible rfl)
                  show wpAnyH _ _ _ _ _ _ _ (Act.put _ (some 100) _) _
                  (try simp only [Act.put, List.setIfInBounds_toArray, List.set_cons_zero, List.set_cons_succ])
                  refine wpAnyH_take (i := 37) (v := ?_) rfl (by kernel_rfl) (by kernel_rfl) (by kernel_rfl) (fun _ _ _ h => h) (Or.inl ⟨by kernel_rfl, ?_⟩) (by with_reducible assumption) ?_
                  rotate_left
                  · intro wz hSw
                    (try dsimp only at hSw)
                    go_simp
                    (try with_reducible rfl)
                  show wpAnyH _ _ _ _ _ _ _ (Act.put _ (some 101) _) _
                  (try simp only [Act.put, List.setIfInBounds_toArray, List.set_cons_zero, List.set_cons_succ])
                  refine wpAnyH_take (i := 38) (v := ?_) rfl (by kernel_rfl) (by kernel_rfl) (by kernel_rfl) (fun _ _ _ h => h) (Or.inl ⟨by kernel_rfl, ?_⟩) (by with_reducible assumption) ?_
                  rotate_left
                  · intro wz hSw
                    (try dsimp only at hSw)
                    go_simp
                    (try with_reducible rfl)
                  show wpAnyH _ _ _ _ _ _ _ (Act.put _ (some 102) _) _
                  (try simp only [Act.put, List.setIfInBounds_toArray, List.set_cons_zero, List.set_cons_succ])
                  refine wpAnyH_take (i := 39) (v := .bool true) rfl (by kernel_rfl) (by kernel_rfl) (by kernel_rfl) (fun _ _ _ h => h) (Or.inl ⟨by kernel_rfl, ?_⟩) (by with_reducible assumption) ?_
                  · intro wz hSw
                    (try dsimp only at hSw)
                    go_simp
                    exact HBd.out
                  show wpAnyH _ _ _ _ _ _ _ (Act.put _ (some 103) _) _
                  (try simp only [Act.put, List.setIfInBounds_toArray, List.set_cons_zero, List.set_cons_succ])
                  refine wpAnyH_take (i := 40) (v := ?_) rfl (by kernel_rfl) (by kernel_rfl) (by kernel_rfl) (fun _ _ _ h => h) (Or.inl ⟨by kernel_rfl, ?_⟩) (by with_reducible assumption) ?_
                  rotate_left
                  · intro wz hSw
                    (try dsimp only at hSw)
                    go_simp
                    (try with_reducible rfl)
                  show wpAnyH _ _ _ _ _ _ _ (Act.put _ (some 104) _) _
                  (try simp only [Act.put, List.setIfInBounds_toArray, List.set_cons_zero, List.set_cons_succ])
                  refine wpAnyH_take (i := 41) (v := .bool false) rfl (by kernel_rfl) (by kernel_rfl) (by kernel_rfl) (fun _ _ _ h => h) (Or.inl ⟨by kernel_rfl, ?_⟩) (by with_reducible assumption) ?_
                  · intro wz hSw
                    (try dsimp only at hSw)
                    go_simp
                    (try with_reducible rfl)
                  show wpAnyH _ _ _ _ _ _ _ (Act.put _ (some 105) _) _
                  (try simp only [Act.put, List.setIfInBounds_toArray, List.set_cons_zero, List.set_cons_succ])
                  refine wpAnyH_take (i := 42) (v := ?_) rfl (by kernel_rfl) (by kernel_rfl) (by kernel_rfl) (fun _ _ _ h => h) (Or.inl ⟨by kernel_rfl, ?_⟩) (by with_reducible assumption) ?_
                  rotate_left
                  · intro wz hSw
                    (try dsimp only at hSw)
                    go_simp
                    (try with_reducible rfl)
                  show wpAnyH _ _ _ _ _ _ _ (Act.put _ (some 106) _) _
                  (try simp only [Act.put, List.setIfInBounds_toArray, List.set_cons_zero, List.set_cons_succ])
                  refine wpAnyH_done (by kernel_rfl) ?_ _
                  go_wp2_with fail
                  go_meet
                  exact ⟨rfl, J26.out⟩
                · have hnr : nr = 0 := by rw [HRw.out.1, if_neg hg]
                  have q1 : decide ((0 : Int) < (nr : Int)) = false := decide_eq_false (by omega)
                  have q1n : decide (0 < nr) = false := decide_eq_false (by omega)
                  by_cases h0 : 0 < j
                  · have hbd : bd = true := by
                      cases hb : bd with
                      | true => rfl
                      | false => exact absurd (HGB.out.1 ⟨h0, hb⟩) hg
                    have q2 : decide ((0 : Int) < (j : Int)) = true := decide_eq_true (by omega)
                    have q2n : decide (0 < j) = true := decide_eq_true h0
                    have HBd := Lib.hid hbd
                    clear hnr hbd
                    refine wp_region_held_drew (S := fun w' => w'.heap[x]? = some (uBox a)) (by kernel_rfl) ?_ (fun hHeld => ?_)
                    · exact H21.out.x
                    have H21d := Lib.hid (H21.out.below (Below.refl _ _).drew)
                    have BH21d := Lib.hid (show Below wc.heap.size wc wc.drew from (Below.refl _ _).drew)
                    refine wpAnyH_take (i := 0) (v := ?_) rfl (by kernel_rfl) (by kernel_rfl) (by kernel_rfl) (fun _ _ _ h => h) (Or.inl ⟨by kernel_rfl, ?_⟩) (by with_reducible assumption) ?_
                    rotate_left
                    · intro wz hSw
                      (try dsimp only at hSw)
                      go_simp
                      (try with_reducible rfl)
                    show wpAnyH _ _ _ _ _ _ _ (Act.put _ (some 64) _) _
                    (try simp only [Act.put, List.setIfInBounds_toArray, List.set_cons_zero, List.set_cons_succ])
                    refine wpAnyH_take (i := 2) (v := ?_) rfl (by kernel_rfl) (by kernel_rfl) (by kernel_rfl) (fun _ _ _ h => h) (Or.inl ⟨by kernel_rfl, ?_⟩) (by with_reducible assumption) ?_
                    rotate_left
                    · intro wz hSw
                      (try dsimp only at hSw)
                      go_simp
                      (try with_reducible rfl)
                    show wpAnyH _ _ _ _ _ _ _ (Act.put _ (some 66) _) _
                    (try simp only [Act.put, List.setIfInBounds_toArray, List.set_cons_zero, List.set_cons_succ])
                    refine wpAnyH_ready (rs := [1]) (by kernel_rfl) (by simp) ?_
                    refine AllReadyH.cons rfl (fun K hK => ?_) AllReadyH.nil
                    clear hHeld
                    go_simp
                    go_at_call 15
                    refine (CbW.len H21d.out).mono ?_
                    rintro e Z1 ⟨he, rfl⟩
                    rw [← HE3.out.2] at he
                    subst he
                    go_wp2_with fail
                    refine hK.out _ _ ?_ (fun hHeld => ?_)
                    · exact H21d.out.x
                    clear hK K
                    (try simp only [Act.put, List.setIfInBounds_toArray, List.set_cons_zero, List.set_cons_succ])
                    refine wpAnyH_take (i := 3) (v := .bool false) rfl (by kernel_rfl) (by kernel_rfl) (by kernel_rfl) (fun _ _ _ h => h) (Or.inl ⟨by kernel_rfl, ?_⟩) (by with_reducible assumption) ?_
                    · intro wz hSw
                      (try dsimp only at hSw)
                      go_simp
                      (try with_reducible rfl)
                    show wpAnyH _ _ _ _ _ _ _ (Act.put _ (some 67) _) _
                    (try simp only [Act.put, List.setIfInBounds_toArray, List.set_cons_zero, List.set_cons_succ])
                    refine wpAnyH_take (i := 4) (v := ?_) rfl (by kernel_rfl) (by kernel_rfl) (by kernel_rfl) (fun _ _ _ h => h) (Or.inl ⟨by kernel_rfl, ?_⟩) (by with_reducible assumption) ?_
                    rotate_left
                    · intro wz hSw
                      (try dsimp only at hSw)
                      go_simp
                      (try with_reducible rfl)
                    show wpAnyH _ _ _ _ _ _ _ (Act.put _ (some 68) _) _
                    (try simp only [Act.put, List.setIfInBounds_toArray, List.set_cons_zero, List.set_cons_succ])
                    refine wpAnyH_take (i := 5) (v := ?_) rfl (by kernel_rfl) (by kernel_rfl) (by kernel_rfl) (fun _ _ _ h => h) (Or.inl ⟨by kernel_rfl, ?_⟩) (by with_reducible assumption) ?_
                    rotate_left
                    · intro wz hSw
                      (try dsimp only at hSw)
                      go_simp
                      (try with_reducible rfl)
                    show wpAnyH _ _ _ _ _ _ _ (Act.put _ (some 69) _) _
                    (try simp only [Act.put, List.setIfInBounds_toArray, List.set_cons_zero, List.set_cons_succ])
                    refine wpAnyH_take (i := 8) (v := ?_) rfl (by kernel_rfl) (by kernel_rfl) (by kernel_rfl) (fun _ _ _ h => h) (Or.inl ⟨by kernel_rfl, ?_⟩) (by with_reducible assumption) ?_
                    rotate_left
                    · intro wz hSw
                      (try dsimp only at hSw)
                      go_simp
                      (try with_reducible rfl)
                    show wpAnyH _ _ _ _ _ _ _ (Act.put _ (some 72) _) _
                    (try simp only [Act.put, List.setIfInBounds_toArray, List.set_cons_zero, List.set_cons_succ])
                    refine wpAnyH_take (i := 9) (v := ?_) rfl (by kernel_rfl) (by kernel_rfl) (by kernel_rfl) (fun _ _ _ h => h) (Or.inl ⟨by kernel_rfl, ?_⟩) (by with_reducible assumption) ?_
                    rotate_left
                    · intro wz hSw
                      (try dsimp only at hSw)
                      go_simp
                      (try with_reducible rfl)
                    show wpAnyH _ _ _ _ _ _ _ (Act.put _ (some 73) _) _
                    (try simp only [Act.put, List.setIfInBounds_toArray, List.set_cons_zero, List.set_cons_succ])
                    refine wpAnyH_ready (rs := [6]) (by kernel_rfl) (by simp) ?_
                    refine AllReadyH.cons rfl (fun K hK => ?_) AllReadyH.nil
                    clear hHeld
                    go_simp
                    go_at_call 28
                    refine (key10_walk 1 (by omega) _).mono ?_
                    rintro e ZJ6 ⟨rfl, hb⟩
                    have J6 := Lib.hid (H21d.out.below hb)
                    have BJ6 := Lib.hid (BH21d.out.trans (hb.mono BH21d.out.size))
                    clear hb
                    go_wp2_with fail
                    refine hK.out _ _ ?_ (fun hHeld => ?_)
                    · exact J6.out.x
                    clear hK K
                    (try simp only [Act.put, List.setIfInBounds_toArray, List.set_cons_zero, List.set_cons_succ])
                    refine wpAnyH_ready (rs := [7]) (by kernel_rfl) (by simp) ?_
                    refine AllReadyH.cons rfl (fun K hK => ?_) AllReadyH.nil
                    clear hHeld
                    go_simp
                    go_at_call 35
                    refine (CbW.int J6.out 1 (by omega) n.toNat HF.out.1 (by have := HA.out.2.2.2.1.2; omega)).mono ?_
                    rintro e ZJ7 ⟨rfl, hb⟩
                    have J7 := Lib.hid (J6.out.below hb)
                    have BJ7 := Lib.hid (BJ6.out.trans (hb.mono BJ6.out.size))
                    clear hb
                    go_wp2_with fail
                    refine hK.out _ _ ?_ (fun hHeld => ?_)
                    · exact J7.out.x
                    clear hK K
                    (try simp only [Act.put, List.setIfInBounds_toArray, List.set_cons_zero, List.set_cons_succ])
                    refine wpAnyH_take (i := 10) (v := .bool false) rfl (by kernel_rfl) (by kernel_rfl) (by kernel_rfl) (fun _ _ _ h => h) (Or.inl ⟨by kernel_rfl, ?_⟩) (by with_reducible assumption) ?_
                    · intro wz hSw
                      (try dsimp only at hSw)
                      go_simp
                      (try with_reducible rfl)
                    show wpAnyH _ _ _ _ _ _ _ (Act.put _ (some 74) _) _
                    (try simp only [Act.put, List.setIfInBounds_toArray, List.set_cons_zero, List.set_cons_succ])
                    refine wpAnyH_take (i := 11) (v := ?_) rfl (by kernel_rfl) (by kernel_rfl) (by kernel_rfl) (fun _ _ _ h => h) (Or.inl ⟨by kernel_rfl, ?_⟩) (by with_reducible assumption) ?_
                    rotate_left
                    · intro wz hSw
                      (try dsimp only at hSw)
                      go_simp
                      (try with_reducible rfl)
                    show wpAnyH _ _ _ _ _ _ _ (Act.put _ (some 75) _) _
                    (try simp only [Act.put, List.setIfInBounds_toArray, List.set_cons_zero, List.set_cons_succ])
                    refine wpAnyH_take (i := 12) (v := ?_) rfl (by kernel_rfl) (by kernel_rfl) (by kernel_rfl) (fun _ _ _ h => h) (Or.inl ⟨by kernel_rfl, ?_⟩) (by with_reducible assumption) ?_
                    rotate_left
                    · intro wz hSw
                      (try dsimp only at hSw)
                      go_simp
                      (try with_reducible rfl)
                    show wpAnyH _ _ _ _ _ _ _ (Act.put _ (some 76) _) _
                    (try simp only [Act.put, List.setIfInBounds_toArray, List.set_cons_zero, List.set_cons_succ])
                    refine wpAnyH_take (i := 13) (v := ?_) rfl (by kernel_rfl) (by kernel_rfl) (by kernel_rfl) (fun _ _ _ h => h) (Or.inl ⟨by kernel_rfl, ?_⟩) (by with_reducible assumption) ?_
                    rotate_left
                    · intro wz hSw
                      (try dsimp only at hSw)
                      go_simp
                      (try with_reducible rfl)
                    show wpAnyH _ _ _ _ _ _ _ (Act.put _ (some 77) _) _
                    (try simp only [Act.put, List.setIfInBounds_toArray, List.set_cons_zero, List.set_cons_succ])
                    refine wpAnyH_take (i := 16) (v := .agg #[.int .u64 (limb a 0 : Nat), .int .u64 (limb a 1 : Nat), .int .u64 (limb a 2 : Nat), .int .u64 (limb a 3 : Nat)]) rfl (by kernel_rfl) (by kernel_rfl) (by kernel_rfl) (fun _ _ _ h => h) (Or.inl ⟨by kernel_rfl, ?_⟩) (by with_reducible assumption) ?_
                    · intro wz hSw
                      (try dsimp only at hSw)
                      have y0 := (hp_cell (i := 0) hSw).trans rfl
                      have y1 := (hp_cell (i := 1) hSw).trans rfl
                      have y2 := (hp_cell (i := 2) hSw).trans rfl
                      have y3 := (hp_cell (i := 3) hSw).trans rfl
                      go_simp
                      (try with_reducible rfl)
                    show wpAnyH _ _ _ _ _ _ _ (Act.put _ (some 80) _) _
                    (try simp only [Act.put, List.setIfInBounds_toArray, List.set_cons_zero, List.set_cons_succ])
                    refine wpAnyH_ready (rs := [14]) (by kernel_rfl) (by simp) ?_
                    refine AllReadyH.cons rfl (fun K hK => ?_) AllReadyH.nil
                    clear hHeld
                    go_simp
                    go_at_call 28
                    refine (key10_walk 2 (by omega) _).mono ?_
                    rintro e ZJ14 ⟨rfl, hb⟩
                    have J14 := Lib.hid (J7.out.below hb)
                    have BJ14 := Lib.hid (BJ7.out.trans (hb.mono BJ7.out.size))
                    clear hb
                    go_wp2_with fail
                    refine hK.out _ _ ?_ (fun hHeld => ?_)
                    · exact J14.out.x
                    clear hK K
                    (try simp only [Act.put, List.setIfInBounds_toArray, List.set_cons_zero, List.set_cons_succ])
                    refine wpAnyH_ready (rs := [15]) (by kernel_rfl) (by simp) ?_
                    refine AllReadyH.cons rfl (fun K hK => ?_) AllReadyH.nil
                    clear hHeld
                    go_simp
                    go_at_call 31
                    refine (CbW.amount J14.out 2 (by omega) a HF.out.2.1 HA.out.2.2.2.2).mono ?_
                    rintro e ZJ15 ⟨he, hb⟩
                    unfold U at he
                    subst he
                    have J15 := Lib.hid (J14.out.below hb)
                    have BJ15 := Lib.hid (BJ14.out.trans (hb.mono BJ14.out.size))
                    clear hb
                    go_wp2_with fail
                    refine hK.out _ _ ?_ (fun hHeld => ?_)
                    · exact J15.out.x
                    clear hK K
                    (try simp only [Act.put, List.setIfInBounds_toArray, List.set_cons_zero, List.set_cons_succ])
                    refine wpAnyH_take (i := 17) (v := .bool false) rfl (by kernel_rfl) (by kernel_rfl) (by kernel_rfl) (fun _ _ _ h => h) (Or.inl ⟨by kernel_rfl, ?_⟩) (by with_reducible assumption) ?_
                    · intro wz hSw
                      (try dsimp only at hSw)
                      go_simp
                      (try with_reducible rfl)
                    show wpAnyH _ _ _ _ _ _ _ (Act.put _ (some 81) _) _
                    (try simp only [Act.put, List.setIfInBounds_toArray, List.set_cons_zero, List.set_cons_succ])
                    refine wpAnyH_take (i := 18) (v := ?_) rfl (by kernel_rfl) (by kernel_rfl) (by kernel_rfl) (fun _ _ _ h => h) (Or.inl ⟨by kernel_rfl, ?_⟩) (by with_reducible assumption) ?_
                    rotate_left
                    · intro wz hSw
                      (try dsimp only at hSw)
                      go_simp
                      (try with_reducible rfl)
                    show wpAnyH _ _ _ _ _ _ _ (Act.put _ (some 82) _) _
                    (try simp only [Act.put, List.setIfInBounds_toArray, List.set_cons_zero, List.set_cons_succ])
                    refine wpAnyH_take (i := 19) (v := ?_) rfl (by kernel_rfl) (by kernel_rfl) (by kernel_rfl) (fun _ _ _ h => h) (Or.inl ⟨by kernel_rfl, ?_⟩) (by with_reducible assumption) ?_
                    rotate_left
                    · intro wz hSw
                      (try dsimp only at hSw)
                      go_simp
                      (try with_reducible rfl)
                    show wpAnyH _ _ _ _ _ _ _ (Act.put _ (some 83) _) _
                    (try simp only [Act.put, List.setIfInBounds_toArray, List.set_cons_zero, List.set_cons_succ])
                    refine wpAnyH_take (i := 20) (v := ?_) rfl (by kernel_rfl) (by kernel_rfl) (by kernel_rfl) (fun _ _ _ h => h) (Or.inl ⟨by kernel_rfl, ?_⟩) (by with_reducible assumption) ?_
                    rotate_left
                    · intro wz hSw
                      (try dsimp only at hSw)
                      go_simp
                      (try with_reducible rfl)
                    show wpAnyH _ _ _ _ _ _ _ (Act.put _ (some 84) _) _
                    (try simp only [Act.put, List.setIfInBounds_toArray, List.set_cons_zero, List.set_cons_succ])
                    refine wpAnyH_take (i := 21) (v := ?_) rfl (by kernel_rfl) (by kernel_rfl) (by kernel_rfl) (fun _ _ _ h => h) (Or.inl ⟨by kernel_rfl, ?_⟩) (by with_reducible assumption) ?_
                    rotate_left
                    · intro wz hSw
                      (try dsimp only at hSw)
                      go_simp
                      (try with_reducible rfl)
                    show wpAnyH _ _ _ _ _ _ _ (Act.put _ (some 85) _) _
                    (try simp only [Act.put, List.setIfInBounds_toArray, List.set_cons_zero, List.set_cons_succ])
                    refine wpAnyH_take (i := 22) (v := .bool false) rfl (by kernel_rfl) (by kernel_rfl) (by kernel_rfl) (fun _ _ _ h => h) (Or.inl ⟨by kernel_rfl, ?_⟩) (by with_reducible assumption) ?_
                    · intro wz hSw
                      (try dsimp only at hSw)
                      go_simp
                      (try with_reducible rfl)
                    show wpAnyH _ _ _ _ _ _ _ (Act.put _ (some 86) _) _
                    (try simp only [Act.put, List.setIfInBounds_toArray, List.set_cons_zero, List.set_cons_succ])
                    refine wpAnyH_take (i := 23) (v := ?_) rfl (by kernel_rfl) (by kernel_rfl) (by kernel_rfl) (fun _ _ _ h => h) (Or.inl ⟨by kernel_rfl, ?_⟩) (by with_reducible assumption) ?_
                    rotate_left
                    · intro wz hSw
                      (try dsimp only at hSw)
                      go_simp
                      (try with_reducible rfl)
                    show wpAnyH _ _ _ _ _ _ _ (Act.put _ (some 87) _) _
                    (try simp only [Act.put, List.setIfInBounds_toArray, List.set_cons_zero, List.set_cons_succ])
                    refine wpAnyH_take (i := 24) (v := undef) rfl (by kernel_rfl) (by kernel_rfl) (by kernel_rfl) (fun _ _ _ h => h) (Or.inr ⟨by kernel_rfl, rfl⟩) (by with_reducible assumption) ?_
                    show wpAnyH _ _ _ _ _ _ _ (Act.put _ (some 88) _) _
                    (try simp only [Act.put, List.setIfInBounds_toArray, List.set_cons_zero, List.set_cons_succ])
                    refine wpAnyH_take (i := 25) (v := undef) rfl (by kernel_rfl) (by kernel_rfl) (by kernel_rfl) (fun _ _ _ h => h) (Or.inr ⟨by kernel_rfl, rfl⟩) (by with_reducible assumption) ?_
                    show wpAnyH _ _ _ _ _ _ _ (Act.put _ (some 89) _) _
                    (try simp only [Act.put, List.setIfInBounds_toArray, List.set_cons_zero, List.set_cons_succ])
                    refine wpAnyH_ready (rs := [26]) (by kernel_rfl) (by simp) ?_
                    refine AllReadyH.cons rfl (fun K hK => ?_) AllReadyH.nil
                    clear hHeld
                    go_simp
                    refine hK.out _ _ ?_ (fun hHeld => ?_)
                    · exact J15.out.x
                    clear hK K
                    (try simp only [Act.put, List.setIfInBounds_toArray, List.set_cons_zero, List.set_cons_succ])
                    refine wpAnyH_take (i := 27) (v := undef) rfl (by kernel_rfl) (by kernel_rfl) (by kernel_rfl) (fun _ _ _ h => h) (Or.inr ⟨by kernel_rfl, rfl⟩) (by with_reducible assumption) ?_
                    show wpAnyH _ _ _ _ _ _ _ (Act.put _ (some 91) _) _
                    (try simp only [Act.put, List.setIfInBounds_toArray, List.set_cons_zero, List.set_cons_succ])
                    refine wpAnyH_take (i := 28) (v := ?_) rfl (by kernel_rfl) (by kernel_rfl) (by kernel_rfl) (fun _ _ _ h => h) (Or.inl ⟨by kernel_rfl, ?_⟩) (by with_reducible assumption) ?_
                    rotate_left
                    · intro wz hSw
                      (try dsimp only at hSw)
                      go_simp
                      (try with_reducible rfl)
                    show wpAnyH _ _ _ _ _ _ _ (Act.put _ (some 92) _) _
                    (try simp only [Act.put, List.setIfInBounds_toArray, List.set_cons_zero, List.set_cons_succ])
                    refine wpAnyH_take (i := 29) (v := ?_) rfl (by kernel_rfl) (by kernel_rfl) (by kernel_rfl) (fun _ _ _ h => h) (Or.inl ⟨by kernel_rfl, ?_⟩) (by with_reducible assumption) ?_
                    rotate_left
                    · intro wz hSw
                      (try dsimp only at hSw)
                      go_simp
                      (try with_reducible rfl)
                    show wpAnyH _ _ _ _ _ _ _ (Act.put _ (some 93) _) _
                    (try simp only [Act.put, List.setIfInBounds_toArray, List.set_cons_zero, List.set_cons_succ])
                    refine wpAnyH_take (i := 30) (v := ?_) rfl (by kernel_rfl) (by kernel_rfl) (by kernel_rfl) (fun _ _ _ h => h) (Or.inl ⟨by kernel_rfl, ?_⟩) (by with_reducible assumption) ?_
                    rotate_left
                    · intro wz hSw
                      (try dsimp only at hSw)
                      go_simp
                      (try with_reducible rfl)
                    show wpAnyH _ _ _ _ _ _ _ (Act.put _ (some 94) _) _
                    (try simp only [Act.put, List.setIfInBounds_toArray, List.set_cons_zero, List.set_cons_succ])
                    refine wpAnyH_take (i := 31) (v := ?_) rfl (by kernel_rfl) (by kernel_rfl) (by kernel_rfl) (fun _ _ _ h => h) (Or.inl ⟨by kernel_rfl, ?_⟩) (by with_reducible assumption) ?_
                    rotate_left
                    · intro wz hSw
                      (try dsimp only at hSw)
                      go_simp
                      (try with_reducible rfl)
                    show wpAnyH _ _ _ _ _ _ _ (Act.put _ (some 95) _) _
                    (try simp only [Act.put, List.setIfInBounds_toArray, List.set_cons_zero, List.set_cons_succ])
                    refine wpAnyH_take (i := 32) (v := ?_) rfl (by kernel_rfl) (by kernel_rfl) (by kernel_rfl) (fun _ _ _ h => h) (Or.inl ⟨by kernel_rfl, ?_⟩) (by with_reducible assumption) ?_
                    rotate_left
                    · intro wz hSw
                      (try dsimp only at hSw)
                      go_simp
                      (try with_reducible rfl)
                    show wpAnyH _ _ _ _ _ _ _ (Act.put _ (some 96) _) _
                    (try simp only [Act.put, List.setIfInBounds_toArray, List.set_cons_zero, List.set_cons_succ])
                    refine wpAnyH_take (i := 33) (v := .bool false) rfl (by kernel_rfl) (by kernel_rfl) (by kernel_rfl) (fun _ _ _ h => h) (Or.inl ⟨by kernel_rfl, ?_⟩) (by with_reducible assumption) ?_
                    · intro wz hSw
                      (try dsimp only at hSw)
                      go_simp
                      (try with_reducible rfl)
                    show wpAnyH _ _ _ _ _ _ _ (Act.put _ (some 97) _) _
                    (try simp only [Act.put, List.setIfInBounds_toArray, List.set_cons_zero, List.set_cons_succ])
                    refine wpAnyH_take (i := 34) (v := ?_) rfl (by kernel_rfl) (by kernel_rfl) (by kernel_rfl) (fun _ _ _ h => h) (Or.inl ⟨by kernel_rfl, ?_⟩) (by with_reducible assumption) ?_
                    rotate_left
                    · intro wz hSw
                      (try dsimp only at hSw)
                      go_simp
                      (try with_reducible rfl)
                    show wpAnyH _ _ _ _ _ _ _ (Act.put _ (some 98) _) _
                    (try simp only [Act.put, List.setIfInBounds_toArray, List.set_cons_zero, List.set_cons_succ])
                    refine wpAnyH_take (i := 35) (v := ?_) rfl (by kernel_rfl) (by kernel_rfl) (by kernel_rfl) (fun _ _ _ h => h) (Or.inl ⟨by kernel_rfl, ?_⟩) (by with_reducible assumption) ?_
                    rotate_left
                    · intro wz hSw
                      (try dsimp only at hSw)
                      go_simp
                      (try with_reducible rfl)
                    show wpAnyH _ _ _ _ _ _ _ (Act.put _ (some 99) _) _
                    (try simp only [Act.put, List.setIfInBounds_toArray, List.set_cons_zero, List.set_cons_succ])
                    refine wpAnyH_take (i := 36) (v := .bool true) rfl (by kernel_rfl) (by kernel_rfl) (by kernel_rfl) (fun _ _ _ h => h) (Or.inl ⟨by kernel_rfl, ?_⟩) (by with_reducible assumption) ?_
                    · intro wz hSw
                      (try dsimp only at hSw)
                      go_simp
                      (try with_reducible rfl)
                    show wpAnyH _ _ _ _ _ _ _ (Act.put _ (some 100) _) _
                    (try simp only [Act.put, List.setIfInBounds_toArray, List.set_cons_zero, List.set_cons_succ])
                    refine wpAnyH_take (i := 37) (v := ?_) rfl (by kernel_rfl) (by kernel_rfl) (by kernel_rfl) (fun _ _ _ h => h) (Or.inl ⟨by kernel_rfl, ?_⟩) (by with_reducible assumption) ?_
                    rotate_left
                    · intro wz hSw
                      (try dsimp only at hSw)
                      go_simp
                      (try with_reducible rfl)
                    show wpAnyH _ _ _ _ _ _ _ (Act.put _ (some 101) _) _
                    (try simp only [Act.put, List.setIfInBounds_toArray, List.set_cons_zero, List.set_cons_succ])
                    refine wpAnyH_take (i := 38) (v := ?_) rfl (by kernel_rfl) (by kernel_rfl) (by kernel_rfl) (fun _ _ _ h => h) (Or.inl ⟨by kernel_rfl, ?_⟩) (by with_reducible assumption) ?_
                    rotate_left
                    · intro wz hSw
                      (try dsimp only at hSw)
                      go_simp
                      (try with_reducible rfl)
                    show wpAnyH _ _ _ _ _ _ _ (Act.put _ (some 102) _) _
                    (try simp only [Act.put, List.setIfInBounds_toArray, List.set_cons_zero, List.set_cons_succ])
                    refine wpAnyH_take (i := 39) (v := .bool false) rfl (by kernel_rfl) (by kernel_rfl) (by kernel_rfl) (fun _ _ _ h => h) (Or.inl ⟨by kernel_rfl, ?_⟩) (by with_reducible assumption) ?_
                    · intro wz hSw
                      (try dsimp only at hSw)
                      go_simp
                      exact HBd.out
                    show wpAnyH _ _ _ _ _ _ _ (Act.put _ (some 103) _) _
                    (try simp only [Act.put, List.setIfInBounds_toArray, List.set_cons_zero, List.set_cons_succ])
                    refine wpAnyH_take (i := 40) (v := ?_) rfl (by kernel_rfl) (by kernel_rfl) (by kernel_rfl) (fun _ _ _ h => h) (Or.inl ⟨by kernel_rfl, ?_⟩) (by with_reducible assumption) ?_
                    rotate_left
                    · intro wz hSw
                      (try dsimp only at hSw)
                      go_simp
                      (try with_reducible rfl)
                    show wpAnyH _ _ _ _ _ _ _ (Act.put _ (some 104) _) _
                    (try simp only [Act.put, List.setIfInBounds_toArray, List.set_cons_zero, List.set_cons_succ])
                    refine wpAnyH_take (i := 41) (v := .bool false) rfl (by kernel_rfl) (by kernel_rfl) (by kernel_rfl) (fun _ _ _ h => h) (Or.inl ⟨by kernel_rfl, ?_⟩) (by with_reducible assumption) ?_
                    · intro wz hSw
                      (try dsimp only at hSw)
                      go_simp
                      (try with_reducible rfl)
                    show wpAnyH _ _ _ _ _ _ _ (Act.put _ (some 105) _) _
                    (try simp only [Act.put, List.setIfInBounds_toArray, List.set_cons_zero, List.set_cons_succ])
                    refine wpAnyH_take (i := 42) (v := ?_) rfl (by kernel_rfl) (by kernel_rfl) (by kernel_rfl) (fun _ _ _ h => h) (Or.inl ⟨by kernel_rfl, ?_⟩) (by with_reducible assumption) ?_
                    rotate_left
                    · intro wz hSw
                      (try dsimp only at hSw)
                      go_simp
                      (try with_reducible rfl)
                    show wpAnyH _ _ _ _ _ _ _ (Act.put _ (some 106) _) _
                    (try simp only [Act.put, List.setIfInBounds_toArray, List.set_cons_zero, List.set_cons_succ])
                    refine wpAnyH_done (by kernel_rfl) ?_ _
                    go_wp2_with fail
                    go_meet
                    exact ⟨rfl, J15.out⟩
                  · have q2 : decide ((0 : Int) < (j : Int)) = false := decide_eq_false (by omega)
                    have q2n : decide (0 < j) = false := decide_eq_false h0
                    clear hnr
                    refine wp_region_held_drew (S := fun w' => w'.heap[x]? = some (uBox a)) (by kernel_rfl) ?_ (fun hHeld => ?_)
                    · exact H21.out.x
                    have H21d := Lib.hid (H21.out.below (Below.refl _ _).drew)
                    have BH21d := Lib.hid (show Below wc.heap.size wc wc.drew from (Below.refl _ _).drew)
                    refine wpAnyH_take (i := 0) (v := ?_) rfl (by kernel_rfl) (by kernel_rfl) (by kernel_rfl) (fun _ _ _ h => h) (Or.inl ⟨by kernel_rfl, ?_⟩) (by with_reducible assumption) ?_
                    rotate_left
                    · intro wz hSw
                      (try dsimp only at hSw)
                      go_simp
                      (try with_reducible rfl)
                    show wpAnyH _ _ _ _ _ _ _ (Act.put _ (some 64) _) _
                    (try simp only [Act.put, List.setIfInBounds_toArray, List.set_cons_zero, List.set_cons_succ])
                    refine wpAnyH_take (i := 2) (v := ?_) rfl (by kernel_rfl) (by kernel_rfl) (by kernel_rfl) (fun _ _ _ h => h) (Or.inl ⟨by kernel_rfl, ?_⟩) (by with_reducible assumption) ?_
                    rotate_left
                    · intro wz hSw
                      (try dsimp only at hSw)
                      go_simp
                      (try with_reducible rfl)
                    show wpAnyH _ _ _ _ _ _ _ (Act.put _ (some 66) _) _
                    (try simp only [Act.put, List.setIfInBounds_toArray, List.set_cons_zero, List.set_cons_succ])
                    refine wpAnyH_ready (rs := [1]) (by kernel_rfl) (by simp) ?_
                    refine AllReadyH.cons rfl (fun K hK => ?_) AllReadyH.nil
                    clear hHeld
                    go_simp
                    go_at_call 15
                    refine (CbW.len H21d.out).mono ?_
                    rintro e Z1 ⟨he, rfl⟩
                    rw [← HE3.out.2] at he
                    subst he
                    go_wp2_with fail
                    refine hK.out _ _ ?_ (fun hHeld => ?_)
                    · exact H21d.out.x
                    clear hK K
                    (try simp only [Act.put, List.setIfInBounds_toArray, List.set_cons_zero, List.set_cons_succ])
                    refine wpAnyH_take (i := 3) (v := .bool false) rfl (by kernel_rfl) (by kernel_rfl) (by kernel_rfl) (fun _ _ _ h => h) (Or.inl ⟨by kernel_rfl, ?_⟩) (by with_reducible assumption) ?_
                    · intro wz hSw
                      (try dsimp only at hSw)
                      go_simp
                      (try with_reducible rfl)
                    show wpAnyH _ _ _ _ _ _ _ (Act.put _ (some 67) _) _
                    (try simp only [Act.put, List.setIfInBounds_toArray, List.set_cons_zero, List.set_cons_succ])
                    refine wpAnyH_take (i := 4) (v := ?_) rfl (by kernel_rfl) (by kernel_rfl) (by kernel_rfl) (fun _ _ _ h => h) (Or.inl ⟨by kernel_rfl, ?_⟩) (by with_reducible assumption) ?_
                    rotate_left
                    · intro wz hSw
                      (try dsimp only at hSw)
                      go_simp
                      (try with_reducible rfl)
                    show wpAnyH _ _ _ _ _ _ _ (Act.put _ (some 68) _) _
                    (try simp only [Act.put, List.setIfInBounds_toArray, List.set_cons_zero, List.set_cons_succ])
                    refine wpAnyH_take (i := 5) (v := ?_) rfl (by kernel_rfl) (by kernel_rfl) (by kernel_rfl) (fun _ _ _ h => h) (Or.inl ⟨by kernel_rfl, ?_⟩) (by with_reducible assumption) ?_
                    rotate_left
                    · intro wz hSw
                      (try dsimp only at hSw)
                      go_simp
                      (try with_reducible rfl)
                    show wpAnyH _ _ _ _ _ _ _ (Act.put _ (some 69) _) _
                    (try simp only [Act.put, List.setIfInBounds_toArray, List.set_cons_zero, List.set_cons_succ])
                    refine wpAnyH_take (i := 8) (v := ?_) rfl (by kernel_rfl) (by kernel_rfl) (by kernel_rfl) (fun _ _ _ h => h) (Or.inl ⟨by kernel_rfl, ?_⟩) (by with_reducible assumption) ?_
                    rotate_left
                    · intro wz hSw
                      (try dsimp only at hSw)
                      go_simp
                      (try with_reducible rfl)
                    show wpAnyH _ _ _ _ _ _ _ (Act.put _ (some 72) _) _
                    (try simp only [Act.put, List.setIfInBounds_toArray, List.set_cons_zero, List.set_cons_succ])
                    refine wpAnyH_take (i := 9) (v := ?_) rfl (by kernel_rfl) (by kernel_rfl) (by kernel_rfl) (fun _ _ _ h => h) (Or.inl ⟨by kernel_rfl, ?_⟩) (by with_reducible assumption) ?_
                    rotate_left
                    · intro wz hSw
                      (try dsimp only at hSw)
                      go_simp
                      (try with_reducible rfl)
                    show wpAnyH _ _ _ _ _ _ _ (Act.put _ (some 73) _) _
                    (try simp only [Act.put, List.setIfInBounds_toArray, List.set_cons_zero, List.set_cons_succ])
                    refine wpAnyH_ready (rs := [6]) (by kernel_rfl) (by simp) ?_
                    refine AllReadyH.cons rfl (fun K hK => ?_) AllReadyH.nil
                    clear hHeld
                    go_simp
                    go_at_call 28
                    refine (key10_walk 1 (by omega) _).mono ?_
                    rintro e ZJ6 ⟨rfl, hb⟩
                    have J6 := Lib.hid (H21d.out.below hb)
                    have BJ6 := Lib.hid (BH21d.out.trans (hb.mono BH21d.out.size))
                    clear hb
                    go_wp2_with fail
                    refine hK.out _ _ ?_ (fun hHeld => ?_)
                    · exact J6.out.x
                    clear hK K
                    (try simp only [Act.put, List.setIfInBounds_toArray, List.set_cons_zero, List.set_cons_succ])
                    refine wpAnyH_ready (rs := [7]) (by kernel_rfl) (by simp) ?_
                    refine AllReadyH.cons rfl (fun K hK => ?_) AllReadyH.nil
                    clear hHeld
                    go_simp
                    go_at_call 35
                    refine (CbW.int J6.out 1 (by omega) n.toNat HF.out.1 (by have := HA.out.2.2.2.1.2; omega)).mono ?_
                    rintro e ZJ7 ⟨rfl, hb⟩
                    have J7 := Lib.hid (J6.out.below hb)
                    have BJ7 := Lib.hid (BJ6.out.trans (hb.mono BJ6.out.size))
                    clear hb
                    go_wp2_with fail
                    refine hK.out _ _ ?_ (fun hHeld => ?_)
                    · exact J7.out.x
                    clear hK K
                    (try simp only [Act.put, List.setIfInBounds_toArray, List.set_cons_zero, List.set_cons_succ])
                    refine wpAnyH_take (i := 10) (v := .bool false) rfl (by kernel_rfl) (by kernel_rfl) (by kernel_rfl) (fun _ _ _ h => h) (Or.inl ⟨by kernel_rfl, ?_⟩) (by with_reducible assumption) ?_
                    · intro wz hSw
                      (try dsimp only at hSw)
                      go_simp
                      (try with_reducible rfl)
                    show wpAnyH _ _ _ _ _ _ _ (Act.put _ (some 74) _) _
                    (try simp only [Act.put, List.setIfInBounds_toArray, List.set_cons_zero, List.set_cons_succ])
                    refine wpAnyH_take (i := 11) (v := ?_) rfl (by kernel_rfl) (by kernel_rfl) (by kernel_rfl) (fun _ _ _ h => h) (Or.inl ⟨by kernel_rfl, ?_⟩) (by with_reducible assumption) ?_
                    rotate_left
                    · intro wz hSw
                      (try dsimp only at hSw)
                      go_simp
                      (try with_reducible rfl)
                    show wpAnyH _ _ _ _ _ _ _ (Act.put _ (some 75) _) _
                    (try simp only [Act.put, List.setIfInBounds_toArray, List.set_cons_zero, List.set_cons_succ])
                    refine wpAnyH_take (i := 12) (v := ?_) rfl (by kernel_rfl) (by kernel_rfl) (by kernel_rfl) (fun _ _ _ h => h) (Or.inl ⟨by kernel_rfl, ?_⟩) (by with_reducible assumption) ?_
                    rotate_left
                    · intro wz hSw
                      (try dsimp only at hSw)
                      go_simp
                      (try with_reducible rfl)
                    show wpAnyH _ _ _ _ _ _ _ (Act.put _ (some 76) _) _
                    (try simp only [Act.put, List.setIfInBounds_toArray, List.set_cons_zero, List.set_cons_succ])
                    refine wpAnyH_take (i := 13) (v := ?_) rfl (by kernel_rfl) (by kernel_rfl) (by kernel_rfl) (fun _ _ _ h => h) (Or.inl ⟨by kernel_rfl, ?_⟩) (by with_reducible assumption) ?_
                    rotate_left
                    · intro wz hSw
                      (try dsimp only at hSw)
                      go_simp
                      (try with_reducible rfl)
                    show wpAnyH _ _ _ _ _ _ _ (Act.put _ (some 77) _) _
                    (try simp only [Act.put, List.setIfInBounds_toArray, List.set_cons_zero, List.set_cons_succ])
                    refine wpAnyH_take (i := 16) (v := .agg #[.int .u64 (limb a 0 : Nat), .int .u64 (limb a 1 : Nat), .int .u64 (limb a 2 : Nat), .int .u64 (limb a 3 : Nat)]) rfl (by kernel_rfl) (by kernel_rfl) (by kernel_rfl) (fun _ _ _ h => h) (Or.inl ⟨by kernel_rfl, ?_⟩) (by with_reducible assumption) ?_
                    · intro wz hSw
                      (try dsimp only at hSw)
                      have y0 := (hp_cell (i := 0) hSw).trans rfl
                      have y1 := (hp_cell (i := 1) hSw).trans rfl
                      have y2 := (hp_cell (i := 2) hSw).trans rfl
                      have y3 := (hp_cell (i := 3) hSw).trans rfl
                      go_simp
                      (try with_reducible rfl)
                    show wpAnyH _ _ _ _ _ _ _ (Act.put _ (some 80) _) _
                    (try simp only [Act.put, List.setIfInBounds_toArray, List.set_cons_zero, List.set_cons_succ])
                    refine wpAnyH_ready (rs := [14]) (by kernel_rfl) (by simp) ?_
                    refine AllReadyH.cons rfl (fun K hK => ?_) AllReadyH.nil
                    clear hHeld
                    go_simp
                    go_at_call 28
                    refine (key10_walk 2 (by omega) _).mono ?_
                    rintro e ZJ14 ⟨rfl, hb⟩
                    have J14 := Lib.hid (J7.out.below hb)
                    have BJ14 := Lib.hid (BJ7.out.trans (hb.mono BJ7.out.size))
                    clear hb
                    go_wp2_with fail
                    refine hK.out _ _ ?_ (fun hHeld => ?_)
                    · exact J14.out.x
                    clear hK K
                    (try simp only [Act.put, List.setIfInBounds_toArray, List.set_cons_zero, List.set_cons_succ])
                    refine wpAnyH_ready (rs := [15]) (by kernel_rfl) (by simp) ?_
                    refine AllReadyH.cons rfl (fun K hK => ?_) AllReadyH.nil
                    clear hHeld
                    go_simp
                    go_at_call 31
                    refine (CbW.amount J14.out 2 (by omega) a HF.out.2.1 HA.out.2.2.2.2).mono ?_
                    rintro e ZJ15 ⟨he, hb⟩
                    unfold U at he
                    subst he
                    have J15 := Lib.hid (J14.out.below hb)
                    have BJ15 := Lib.hid (BJ14.out.trans (hb.mono BJ14.out.size))
                    clear hb
                    go_wp2_with fail
                    refine hK.out _ _ ?_ (fun hHeld => ?_)
                    · exact J15.out.x
                    clear hK K
                    (try simp only [Act.put, List.setIfInBounds_toArray, List.set_cons_zero, List.set_cons_succ])
                    refine wpAnyH_take (i := 17) (v := .bool false) rfl (by kernel_rfl) (by kernel_rfl) (by kernel_rfl) (fun _ _ _ h => h) (Or.inl ⟨by kernel_rfl, ?_⟩) (by with_reducible assumption) ?_
                    · intro wz hSw
                      (try dsimp only at hSw)
                      go_simp
                      (try with_reducible rfl)
                    show wpAnyH _ _ _ _ _ _ _ (Act.put _ (some 81) _) _
                    (try simp only [Act.put, List.setIfInBounds_toArray, List.set_cons_zero, List.set_cons_succ])
                    refine wpAnyH_take (i := 18) (v := ?_) rfl (by kernel_rfl) (by kernel_rfl) (by kernel_rfl) (fun _ _ _ h => h) (Or.inl ⟨by kernel_rfl, ?_⟩) (by with_reducible assumption) ?_
                    rotate_left
                    · intro wz hSw
                      (try dsimp only at hSw)
                      go_simp
                      (try with_reducible rfl)
                    show wpAnyH _ _ _ _ _ _ _ (Act.put _ (some 82) _) _
                    (try simp only [Act.put, List.setIfInBounds_toArray, List.set_cons_zero, List.set_cons_succ])
                    refine wpAnyH_take (i := 19) (v := ?_) rfl (by kernel_rfl) (by kernel_rfl) (by kernel_rfl) (fun _ _ _ h => h) (Or.inl ⟨by kernel_rfl, ?_⟩) (by with_reducible assumption) ?_
                    rotate_left
                    · intro wz hSw
                      (try dsimp only at hSw)
                      go_simp
                      (try with_reducible rfl)
                    show wpAnyH _ _ _ _ _ _ _ (Act.put _ (some 83) _) _
                    (try simp only [Act.put, List.setIfInBounds_toArray, List.set_cons_zero, List.set_cons_succ])
                    refine wpAnyH_take (i := 20) (v := ?_) rfl (by kernel_rfl) (by kernel_rfl) (by kernel_rfl) (fun _ _ _ h => h) (Or.inl ⟨by kernel_rfl, ?_⟩) (by with_reducible assumption) ?_
                    rotate_left
                    · intro wz hSw
                      (try dsimp only at hSw)
                      go_simp
                      (try with_reducible rfl)
                    show wpAnyH _ _ _ _ _ _ _ (Act.put _ (some 84) _) _
                    (try simp only [Act.put, List.setIfInBounds_toArray, List.set_cons_zero, List.set_cons_succ])
                    refine wpAnyH_take (i := 21) (v := ?_) rfl (by kernel_rfl) (by kernel_rfl) (by kernel_rfl) (fun _ _ _ h => h) (Or.inl ⟨by kernel_rfl, ?_⟩) (by with_reducible assumption) ?_
                    rotate_left
                    · intro wz hSw
                      (try dsimp only at hSw)
                      go_simp
                      (try with_reducible rfl)
                    show wpAnyH _ _ _ _ _ _ _ (Act.put _ (some 85) _) _
                    (try simp only [Act.put, List.setIfInBounds_toArray, List.set_cons_zero, List.set_cons_succ])
                    refine wpAnyH_take (i := 22) (v := .bool false) rfl (by kernel_rfl) (by kernel_rfl) (by kernel_rfl) (fun _ _ _ h => h) (Or.inl ⟨by kernel_rfl, ?_⟩) (by with_reducible assumption) ?_
                    · intro wz hSw
                      (try dsimp only at hSw)
                      go_simp
                      (try with_reducible rfl)
                    show wpAnyH _ _ _ _ _ _ _ (Act.put _ (some 86) _) _
                    (try simp only [Act.put, List.setIfInBounds_toArray, List.set_cons_zero, List.set_cons_succ])
                    refine wpAnyH_take (i := 23) (v := ?_) rfl (by kernel_rfl) (by kernel_rfl) (by kernel_rfl) (fun _ _ _ h => h) (Or.inl ⟨by kernel_rfl, ?_⟩) (by with_reducible assumption) ?_
                    rotate_left
                    · intro wz hSw
                      (try dsimp only at hSw)
                      go_simp
                      (try with_reducible rfl)
                    show wpAnyH _ _ _ _ _ _ _ (Act.put _ (some 87) _) _
                    (try simp only [Act.put, List.setIfInBounds_toArray, List.set_cons_zero, List.set_cons_succ])
                    refine wpAnyH_take (i := 24) (v := undef) rfl (by kernel_rfl) (by kernel_rfl) (by kernel_rfl) (fun _ _ _ h => h) (Or.inr ⟨by kernel_rfl, rfl⟩) (by with_reducible assumption) ?_
                    show wpAnyH _ _ _ _ _ _ _ (Act.put _ (some 88) _) _
                    (try simp only [Act.put, List.setIfInBounds_toArray, List.set_cons_zero, List.set_cons_succ])
                    refine wpAnyH_take (i := 25) (v := undef) rfl (by kernel_rfl) (by kernel_rfl) (by kernel_rfl) (fun _ _ _ h => h) (Or.inr ⟨by kernel_rfl, rfl⟩) (by with_reducible assumption) ?_
                    show wpAnyH _ _ _ _ _ _ _ (Act.put _ (some 89) _) _
                    (try simp only [Act.put, List.setIfInBounds_toArray, List.set_cons_zero, List.set_cons_succ])
                    refine wpAnyH_ready (rs := [26]) (by kernel_rfl) (by simp) ?_
                    refine AllReadyH.cons rfl (fun K hK => ?_) AllReadyH.nil
                    clear hHeld
                    go_simp
                    refine hK.out _ _ ?_ (fun hHeld => ?_)
                    · exact J15.out.x
                    clear hK K
                    (try simp only [Act.put, List.setIfInBounds_toArray, List.set_cons_zero, List.set_cons_succ])
                    refine wpAnyH_take (i := 27) (v := undef) rfl (by kernel_rfl) (by kernel_rfl) (by kernel_rfl) (fun _ _ _ h => h) (Or.inr ⟨by kernel_rfl, rfl⟩) (by with_reducible assumption) ?_
                    show wpAnyH _ _ _ _ _ _ _ (Act.put _ (some 91) _) _
                    (try simp only [Act.put, List.setIfInBounds_toArray, List.set_cons_zero, List.set_cons_succ])
                    refine wpAnyH_take (i := 28) (v := ?_) rfl (by kernel_rfl) (by kernel_rfl) (by kernel_rfl) (fun _ _ _ h => h) (Or.inl ⟨by kernel_rfl, ?_⟩) (by with_reducible assumption) ?_
                    rotate_left
                    · intro wz hSw
                      (try dsimp only at hSw)
                      go_simp
                      (try with_reducible rfl)
                    show wpAnyH _ _ _ _ _ _ _ (Act.put _ (some 92) _) _
                    (try simp only [Act.put, List.setIfInBounds_toArray, List.set_cons_zero, List.set_cons_succ])
                    refine wpAnyH_take (i := 29) (v := ?_) rfl (by kernel_rfl) (by kernel_rfl) (by kernel_rfl) (fun _ _ _ h => h) (Or.inl ⟨by kernel_rfl, ?_⟩) (by with_reducible assumption) ?_
                    rotate_left
                    · intro wz hSw
                      (try dsimp only at hSw)
                      go_simp
                      (try with_reducible rfl)
                    show wpAnyH _ _ _ _ _ _ _ (Act.put _ (some 93) _) _
                    (try simp only [Act.put, List.setIfInBounds_toArray, List.set_cons_zero, List.set_cons_succ])
                    refine wpAnyH_take (i := 30) (v := ?_) rfl (by kernel_rfl) (by kernel_rfl) (by kernel_rfl) (fun _ _ _ h => h) (Or.inl ⟨by kernel_rfl, ?_⟩) (by with_reducible assumption) ?_
                    rotate_left
                    · intro wz hSw
                      (try dsimp only at hSw)
                      go_simp
                      (try with_reducible rfl)
                    show wpAnyH _ _ _ _ _ _ _ (Act.put _ (some 94) _) _
                    (try simp only [Act.put, List.setIfInBounds_toArray, List.set_cons_zero, List.set_cons_succ])
                    refine wpAnyH_take (i := 31) (v := ?_) rfl (by kernel_rfl) (by kernel_rfl) (by kernel_rfl) (fun _ _ _ h => h) (Or.inl ⟨by kernel_rfl, ?_⟩) (by with_reducible assumption) ?_
                    rotate_left
                    · intro wz hSw
                      (try dsimp only at hSw)
                      go_simp
                      (try with_reducible rfl)
                    show wpAnyH _ _ _ _ _ _ _ (Act.put _ (some 95) _) _
                    (try simp only [Act.put, List.setIfInBounds_toArray, List.set_cons_zero, List.set_cons_succ])
                    refine wpAnyH_take (i := 32) (v := ?_) rfl (by kernel_rfl) (by kernel_rfl) (by kernel_rfl) (fun _ _ _ h => h) (Or.inl ⟨by kernel_rfl, ?_⟩) (by with_reducible assumption) ?_
                    rotate_left
                    · intro wz hSw
                      (try dsimp only at hSw)
                      go_simp
                      (try with_reducible rfl)
                    show wpAnyH _ _ _ _ _ _ _ (Act.put _ (some 96) _) _
                    (try simp only [Act.put, List.setIfInBounds_toArray, List.set_cons_zero, List.set_cons_succ])
                    refine wpAnyH_take (i := 33) (v := .bool false) rfl (by kernel_rfl) (by kernel_rfl) (by kernel_rfl) (fun _ _ _ h => h) (Or.inl ⟨by kernel_rfl, ?_⟩) (by with_reducible assumption) ?_
                    · intro wz hSw
                      (try dsimp only at hSw)
                      go_simp
                      (try with_reducible rfl)
                    show wpAnyH _ _ _ _ _ _ _ (Act.put _ (some 97) _) _
                    (try simp only [Act.put, List.setIfInBounds_toArray, List.set_cons_zero, List.set_cons_succ])
                    refine wpAnyH_take (i := 34) (v := ?_) rfl (by kernel_rfl) (by kernel_rfl) (by kernel_rfl) (fun _ _ _ h => h) (Or.inl ⟨by kernel_rfl, ?_⟩) (by with_reducible assumption) ?_
                    rotate_left
                    · intro wz hSw
                      (try dsimp only at hSw)
                      go_simp
                      (try with_reducible rfl)
                    show wpAnyH _ _ _ _ _ _ _ (Act.put _ (some 98) _) _
                    (try simp only [Act.put, List.setIfInBounds_toArray, List.set_cons_zero, List.set_cons_succ])
                    refine wpAnyH_take (i := 35) (v := ?_) rfl (by kernel_rfl) (by kernel_rfl) (by kernel_rfl) (fun _ _ _ h => h) (Or.inl ⟨by kernel_rfl, ?_⟩) (by with_reducible assumption) ?_
                    rotate_left
                    · intro wz hSw
                      (try dsimp only at hSw)
                      go_simp
                      (try with_reducible rfl)
                    show wpAnyH _ _ _ _ _ _ _ (Act.put _ (some 99) _) _
                    (try simp only [Act.put, List.setIfInBounds_toArray, List.set_cons_zero, List.set_cons_succ])
                    refine wpAnyH_take (i := 36) (v := .bool false) rfl (by kernel_rfl) (by kernel_rfl) (by kernel_rfl) (fun _ _ _ h => h) (Or.inl ⟨by kernel_rfl, ?_⟩) (by with_reducible assumption) ?_
                    · intro wz hSw
                      (try dsimp only at hSw)
                      go_simp
                      (try with_reducible rfl)
                    show wpAnyH _ _ _ _ _ _ _ (Act.put _ (some 100) _) _
                    (try simp only [Act.put, List.setIfInBounds_toArray, List.set_cons_zero, List.set_cons_succ])
                    refine wpAnyH_take (i := 37) (v := ?_) rfl (by kernel_rfl) (by kernel_rfl) (by kernel_rfl) (fun _ _ _ h => h) (Or.inl ⟨by kernel_rfl, ?_⟩) (by with_reducible assumption) ?_
                    rotate_left
                    · intro wz hSw
                      (try dsimp only at hSw)
                      go_simp
                      (try with_reducible rfl)
                    show wpAnyH _ _ _ _ _ _ _ (Act.put _ (some 101) _) _
                    (try simp only [Act.put, List.setIfInBounds_toArray, List.set_cons_zero, List.set_cons_succ])
                    refine wpAnyH_take (i := 38) (v := undef) rfl (by kernel_rfl) (by kernel_rfl) (by kernel_rfl) (fun _ _ _ h => h) (Or.inr ⟨by kernel_rfl, rfl⟩) (by with_reducible assumption) ?_
                    show wpAnyH _ _ _ _ _ _ _ (Act.put _ (some 102) _) _
                    (try simp only [Act.put, List.setIfInBounds_toArray, List.set_cons_zero, List.set_cons_succ])
                    refine wpAnyH_take (i := 39) (v := undef) rfl (by kernel_rfl) (by kernel_rfl) (by kernel_rfl) (fun _ _ _ h => h) (Or.inr ⟨by kernel_rfl, rfl⟩) (by with_reducible assumption) ?_
                    show wpAnyH _ _ _ _ _ _ _ (Act.put _ (some 103) _) _
                    (try simp only [Act.put, List.setIfInBounds_toArray, List.set_cons_zero, List.set_cons_succ])
                    refine wpAnyH_take (i := 40) (v := ?_) rfl (by kernel_rfl) (by kernel_rfl) (by kernel_rfl) (fun _ _ _ h => h) (Or.inl ⟨by kernel_rfl, ?_⟩) (by with_reducible assumption) ?_
                    rotate_left
                    · intro wz hSw
                      (try dsimp only at hSw)
                      go_simp
                      (try with_reducible rfl)
                    show wpAnyH _ _ _ _ _ _ _ (Act.put _ (some 104) _) _
                    (try simp only [Act.put, List.setIfInBounds_toArray, List.set_cons_zero, List.set_cons_succ])
                    refine wpAnyH_take (i := 41) (v := .bool false) rfl (by kernel_rfl) (by kernel_rfl) (by kernel_rfl) (fun _ _ _ h => h) (Or.inl ⟨by kernel_rfl, ?_⟩) (by with_reducible assumption) ?_
                    · intro wz hSw
                      (try dsimp only at hSw)
                      go_simp
                      (try with_reducible rfl)
                    show wpAnyH _ _ _ _ _ _ _ (Act.put _ (some 105) _) _
                    (try simp only [Act.put, List.setIfInBounds_toArray, List.set_cons_zero, List.set_cons_succ])
                    refine wpAnyH_take (i := 42) (v := ?_) rfl (by kernel_rfl) (by kernel_rfl) (by kernel_rfl) (fun _ _ _ h => h) (Or.inl ⟨by kernel_rfl, ?_⟩) (by with_reducible assumption) ?_
                    rotate_left
                    · intro wz hSw
                      (try dsimp only at hSw)
                      go_simp
                      (try with_reducible rfl)
                    show wpAnyH _ _ _ _ _ _ _ (Act.put _ (some 106) _) _
                    (try simp only [Act.put, List.setIfInBounds_toArray, List.set_cons_zero, List.set_cons_succ])
                    refine wpAnyH_done (by kernel_rfl) ?_ _
                    go_wp2_with fail
                    go_meet
                    exact ⟨rfl, J15.out⟩
              case rest =>
                obtain ⟨rfl, hc22⟩ := hcut
                have H22 := Lib.hid hc22
                have hL3 : L3.length ≤ 3 := by
                  rw [← HE3.out.2, HE3.out.1]
                  split <;> omega
                have HS4 : Hid (sget L3 (kN 4) = none) := Lib.hid HF4.out
                obtain ⟨L4, hL4⟩ : ∃ y, y = setA L3 (kN 4) a := ⟨_, rfl⟩
                have HM4 : Hid (amtAt L4 (kN 4) a) := Lib.hid (by rw [hL4]; exact setA_at _ _ _)
                have hl4 : L4.length ≤ 4 := by
                  rw [hL4, setA_len HF4.out]
                  split <;> omega
                obtain ⟨L5, hL5⟩ : ∃ y, y = setA L4 (kN 4) 0 := ⟨_, rfl⟩
                have HM5 : Hid (amtAt L5 (kN 4) 0) := Lib.hid (by rw [hL5]; exact setA_at _ _ _)
                have HL4 := Lib.hid hL4
                have HL5 := Lib.hid hL5
                clear hc22 hL4 hL5
                go_upto_region 23 with fail
                by_cases hle : a ≤ MOST
                · refine wp_region_held_drew (S := fun w' => w'.heap[x]? = some (uBox a)) (by kernel_rfl) ?_ (fun hHeld => ?_)
                  · exact H22.out.x
                  have H22d := Lib.hid (H22.out.below (Below.refl _ _).drew)
                  refine wpAnyH_take (i := 0) (v := ?_) rfl (by kernel_rfl) (by kernel_rfl) (by kernel_rfl) (fun _ _ _ h => h) (Or.inl ⟨by kernel_rfl, ?_⟩) (by with_reducible assumption) ?_
                  rotate_left
                  · intro wz hSw
                    (try dsimp only at hSw)
                    go_simp
                    (try with_reducible rfl)
                  show wpAnyH _ _ _ _ _ _ _ (Act.put _ (some 107) _) _
                  (try simp only [Act.put, List.setIfInBounds_toArray, List.set_cons_zero, List.set_cons_succ])
                  refine wpAnyH_take (i := 2) (v := .agg #[.int .u64 (limb a 0 : Nat), .int .u64 (limb a 1 : Nat), .int .u64 (limb a 2 : Nat), .int .u64 (limb a 3 : Nat)]) rfl (by kernel_rfl) (by kernel_rfl) (by kernel_rfl) (fun _ _ _ h => h) (Or.inl ⟨by kernel_rfl, ?_⟩) (by with_reducible assumption) ?_
                  · intro wz hSw
                    (try dsimp only at hSw)
                    have y0 := (hp_cell (i := 0) hSw).trans rfl
                    have y1 := (hp_cell (i := 1) hSw).trans rfl
                    have y2 := (hp_cell (i := 2) hSw).trans rfl
                    have y3 := (hp_cell (i := 3) hSw).trans rfl
                    go_simp
                    (try with_reducible rfl)
                  show wpAnyH _ _ _ _ _ _ _ (Act.put _ (some 109) _) _
                  (try simp only [Act.put, List.setIfInBounds_toArray, List.set_cons_zero, List.set_cons_succ])
                  refine wpAnyH_ready (rs := [1]) (by kernel_rfl) (by simp) ?_
                  refine AllReadyH.cons rfl (fun K hK => ?_) AllReadyH.nil
                  clear hHeld
                  go_simp
                  go_at_call 28
                  refine (key10_walk 4 (by omega) _).mono ?_
                  rintro e ZP1 ⟨rfl, hb⟩
                  have P1 := Lib.hid (H22d.out.below hb)
                  clear hb
                  go_wp2_with fail
                  refine hK.out _ _ ?_ (fun hHeld => ?_)
                  · exact P1.out.x
                  clear hK K
                  (try simp only [Act.put, List.setIfInBounds_toArray, List.set_cons_zero, List.set_cons_succ])
                  refine wpAnyH_ready (rs := [3]) (by kernel_rfl) (by simp) ?_
                  refine AllReadyH.cons rfl (fun K hK => ?_) AllReadyH.nil
                  clear hHeld
                  go_simp
                  go_at_call 37
                  refine (CbW.add P1.out (by omega) (by omega) 4 (by omega) a HS4.out HA.out.2.2.2.2 hle).mono ?_
                  rintro e ZP3 ⟨rfl, h6⟩
                  rw [← HL4.out] at h6
                  have P3 := Lib.hid h6
                  clear h6
                  go_wp2_with fail
                  refine hK.out _ _ ?_ (fun hHeld => ?_)
                  · exact P3.out.x
                  clear hK K
                  (try simp only [Act.put, List.setIfInBounds_toArray, List.set_cons_zero, List.set_cons_succ])
                  refine wpAnyH_take (i := 4) (v := ?_) rfl (by kernel_rfl) (by kernel_rfl) (by kernel_rfl) (fun _ _ _ h => h) (Or.inl ⟨by kernel_rfl, ?_⟩) (by with_reducible assumption) ?_
                  rotate_left
                  · intro wz hSw
                    (try dsimp only at hSw)
                    go_simp
                    (try with_reducible rfl)
                  show wpAnyH _ _ _ _ _ _ _ (Act.put _ (some 13) _) _
                  (try simp only [Act.put, List.setIfInBounds_toArray, List.set_cons_zero, List.set_cons_succ])
                  refine wpAnyH_done (by kernel_rfl) ?_ _
                  go_upto_region 24 with fail
                  refine wp_region_held_drew (S := fun w' => w'.heap[x]? = some (uBox a)) (by kernel_rfl) ?_ (fun hHeld => ?_)
                  · exact P3.out.x
                  have P3d := Lib.hid (P3.out.below (Below.refl _ _).drew)
                  refine wpAnyH_take (i := 0) (v := ?_) rfl (by kernel_rfl) (by kernel_rfl) (by kernel_rfl) (fun _ _ _ h => h) (Or.inl ⟨by kernel_rfl, ?_⟩) (by with_reducible assumption) ?_
                  rotate_left
                  · intro wz hSw
                    (try dsimp only at hSw)
                    go_simp
                    (try with_reducible rfl)
                  show wpAnyH _ _ _ _ _ _ _ (Act.put _ (some 111) _) _
                  (try simp only [Act.put, List.setIfInBounds_toArray, List.set_cons_zero, List.set_cons_succ])
                  refine wpAnyH_take (i := 1) (v := ?_) rfl (by kernel_rfl) (by kernel_rfl) (by kernel_rfl) (fun _ _ _ h => h) (Or.inl ⟨by kernel_rfl, ?_⟩) (by with_reducible assumption) ?_
                  rotate_left
                  · intro wz hSw
                    (try dsimp only at hSw)
                    go_simp
                    (try with_reducible rfl)
                  show wpAnyH _ _ _ _ _ _ _ (Act.put _ (some 112) _) _
                  (try simp only [Act.put, List.setIfInBounds_toArray, List.set_cons_zero, List.set_cons_succ])
                  refine wpAnyH_take (i := 2) (v := ?_) rfl (by kernel_rfl) (by kernel_rfl) (by kernel_rfl) (fun _ _ _ h => h) (Or.inl ⟨by kernel_rfl, ?_⟩) (by with_reducible assumption) ?_
                  rotate_left
                  · intro wz hSw
                    (try dsimp only at hSw)
                    go_simp
                    (try with_reducible rfl)
                  show wpAnyH _ _ _ _ _ _ _ (Act.put _ (some 113) _) _
                  (try simp only [Act.put, List.setIfInBounds_toArray, List.set_cons_zero, List.set_cons_succ])
                  refine wpAnyH_take (i := 3) (v := ?_) rfl (by kernel_rfl) (by kernel_rfl) (by kernel_rfl) (fun _ _ _ h => h) (Or.inl ⟨by kernel_rfl, ?_⟩) (by with_reducible assumption) ?_
                  rotate_left
                  · intro wz hSw
                    (try dsimp only at hSw)
                    go_simp
                    (try with_reducible rfl)
                  show wpAnyH _ _ _ _ _ _ _ (Act.put _ (some 114) _) _
                  (try simp only [Act.put, List.setIfInBounds_toArray, List.set_cons_zero, List.set_cons_succ])
                  refine wpAnyH_take (i := 6) (v := .agg #[.int .u64 (limb a 0 : Nat), .int .u64 (limb a 1 : Nat), .int .u64 (limb a 2 : Nat), .int .u64 (limb a 3 : Nat)]) rfl (by kernel_rfl) (by kernel_rfl) (by kernel_rfl) (fun _ _ _ h => h) (Or.inl ⟨by kernel_rfl, ?_⟩) (by with_reducible assumption) ?_
                  · intro wz hSw
                    (try dsimp only at hSw)
                    have y0 := (hp_cell (i := 0) hSw).trans rfl
                    have y1 := (hp_cell (i := 1) hSw).trans rfl
                    have y2 := (hp_cell (i := 2) hSw).trans rfl
                    have y3 := (hp_cell (i := 3) hSw).trans rfl
                    go_simp
                    (try with_reducible rfl)
                  show wpAnyH _ _ _ _ _ _ _ (Act.put _ (some 117) _) _
                  (try simp only [Act.put, List.setIfInBounds_toArray, List.set_cons_zero, List.set_cons_succ])
                  refine wpAnyH_ready (rs := [4]) (by kernel_rfl) (by simp) ?_
                  refine AllReadyH.cons rfl (fun K hK => ?_) AllReadyH.nil
                  clear hHeld
                  go_simp
                  go_at_call 28
                  refine (key10_walk 4 (by omega) _).mono ?_
                  rintro e ZQ4 ⟨rfl, hb⟩
                  have Q4 := Lib.hid (P3d.out.below hb)
                  clear hb
                  go_wp2_with fail
                  refine hK.out _ _ ?_ (fun hHeld => ?_)
                  · exact Q4.out.x
                  clear hK K
                  (try simp only [Act.put, List.setIfInBounds_toArray, List.set_cons_zero, List.set_cons_succ])
                  refine wpAnyH_ready (rs := [5]) (by kernel_rfl) (by simp) ?_
                  refine AllReadyH.cons rfl (fun K hK => ?_) AllReadyH.nil
                  clear hHeld
                  go_simp
                  go_at_call 31
                  refine (CbW.amount Q4.out 4 (by omega) a HM4.out HA.out.2.2.2.2).mono ?_
                  rintro e ZQ5 ⟨he, hb⟩
                  unfold U at he
                  subst he
                  have Q5 := Lib.hid (Q4.out.below hb)
                  clear hb
                  go_wp2_with fail
                  refine hK.out _ _ ?_ (fun hHeld => ?_)
                  · exact Q5.out.x
                  clear hK K
                  (try simp only [Act.put, List.setIfInBounds_toArray, List.set_cons_zero, List.set_cons_succ])
                  refine wpAnyH_take (i := 7) (v := .bool false) rfl (by kernel_rfl) (by kernel_rfl) (by kernel_rfl) (fun _ _ _ h => h) (Or.inl ⟨by kernel_rfl, ?_⟩) (by with_reducible assumption) ?_
                  · intro wz hSw
                    (try dsimp only at hSw)
                    go_simp
                    (try with_reducible rfl)
                  show wpAnyH _ _ _ _ _ _ _ (Act.put _ (some 118) _) _
                  (try simp only [Act.put, List.setIfInBounds_toArray, List.set_cons_zero, List.set_cons_succ])
                  refine wpAnyH_take (i := 8) (v := ?_) rfl (by kernel_rfl) (by kernel_rfl) (by kernel_rfl) (fun _ _ _ h => h) (Or.inl ⟨by kernel_rfl, ?_⟩) (by with_reducible assumption) ?_
                  rotate_left
                  · intro wz hSw
                    (try dsimp only at hSw)
                    go_simp
                    (try with_reducible rfl)
                  show wpAnyH _ _ _ _ _ _ _ (Act.put _ (some 119) _) _
                  (try simp only [Act.put, List.setIfInBounds_toArray, List.set_cons_zero, List.set_cons_succ])
                  refine wpAnyH_take (i := 9) (v := ?_) rfl (by kernel_rfl) (by kernel_rfl) (by kernel_rfl) (fun _ _ _ h => h) (Or.inl ⟨by kernel_rfl, ?_⟩) (by with_reducible assumption) ?_
                  rotate_left
                  · intro wz hSw
                    (try dsimp only at hSw)
                    go_simp
                    (try with_reducible rfl)
                  show wpAnyH _ _ _ _ _ _ _ (Act.put _ (some 120) _) _
                  (try simp only [Act.put, List.setIfInBounds_toArray, List.set_cons_zero, List.set_cons_succ])
                  refine wpAnyH_take (i := 11) (v := .agg #[.int .u64 (limb a 0 : Nat), .int .u64 (limb a 1 : Nat), .int .u64 (limb a 2 : Nat), .int .u64 (limb a 3 : Nat)]) rfl (by kernel_rfl) (by kernel_rfl) (by kernel_rfl) (fun _ _ _ h => h) (Or.inl ⟨by kernel_rfl, ?_⟩) (by with_reducible assumption) ?_
                  · intro wz hSw
                    (try dsimp only at hSw)
                    have y0 := (hp_cell (i := 0) hSw).trans rfl
                    have y1 := (hp_cell (i := 1) hSw).trans rfl
                    have y2 := (hp_cell (i := 2) hSw).trans rfl
                    have y3 := (hp_cell (i := 3) hSw).trans rfl
                    go_simp
                    (try with_reducible rfl)
                  show wpAnyH _ _ _ _ _ _ _ (Act.put _ (some 122) _) _
                  (try simp only [Act.put, List.setIfInBounds_toArray, List.set_cons_zero, List.set_cons_succ])
                  refine wpAnyH_ready (rs := [10]) (by kernel_rfl) (by simp) ?_
                  refine AllReadyH.cons rfl (fun K hK => ?_) AllReadyH.nil
                  clear hHeld
                  go_simp
                  go_at_call 28
                  refine (key10_walk 4 (by omega) _).mono ?_
                  rintro e ZQ10 ⟨rfl, hb⟩
                  have Q10 := Lib.hid (Q5.out.below hb)
                  clear hb
                  go_wp2_with fail
                  refine hK.out _ _ ?_ (fun hHeld => ?_)
                  · exact Q10.out.x
                  clear hK K
                  (try simp only [Act.put, List.setIfInBounds_toArray, List.set_cons_zero, List.set_cons_succ])
                  refine wpAnyH_ready (rs := [12]) (by kernel_rfl) (by simp) ?_
                  refine AllReadyH.cons rfl (fun K hK => ?_) AllReadyH.nil
                  clear hHeld
                  go_simp
                  go_at_call 38
                  refine (CbW.sub Q10.out (by omega) (by omega) 4 (by omega) a HM4.out HA.out.2.2.2.2).mono ?_
                  rintro e ZQ12 ⟨rfl, h6⟩
                  rw [← HL5.out] at h6
                  have Q12 := Lib.hid h6
                  clear h6
                  go_wp2_with fail
                  refine hK.out _ _ ?_ (fun hHeld => ?_)
                  · exact Q12.out.x
                  clear hK K
                  (try simp only [Act.put, List.setIfInBounds_toArray, List.set_cons_zero, List.set_cons_succ])
                  refine wpAnyH_take (i := 13) (v := .bool false) rfl (by kernel_rfl) (by kernel_rfl) (by kernel_rfl) (fun _ _ _ h => h) (Or.inl ⟨by kernel_rfl, ?_⟩) (by with_reducible assumption) ?_
                  · intro wz hSw
                    (try dsimp only at hSw)
                    go_simp
                    (try with_reducible rfl)
                  show wpAnyH _ _ _ _ _ _ _ (Act.put _ (some 124) _) _
                  (try simp only [Act.put, List.setIfInBounds_toArray, List.set_cons_zero, List.set_cons_succ])
                  refine wpAnyH_take (i := 14) (v := ?_) rfl (by kernel_rfl) (by kernel_rfl) (by kernel_rfl) (fun _ _ _ h => h) (Or.inl ⟨by kernel_rfl, ?_⟩) (by with_reducible assumption) ?_
                  rotate_left
                  · intro wz hSw
                    (try dsimp only at hSw)
                    go_simp
                    (try with_reducible rfl)
                  show wpAnyH _ _ _ _ _ _ _ (Act.put _ (some 125) _) _
                  (try simp only [Act.put, List.setIfInBounds_toArray, List.set_cons_zero, List.set_cons_succ])
                  refine wpAnyH_take (i := 15) (v := ?_) rfl (by kernel_rfl) (by kernel_rfl) (by kernel_rfl) (fun _ _ _ h => h) (Or.inl ⟨by kernel_rfl, ?_⟩) (by with_reducible assumption) ?_
                  rotate_left
                  · intro wz hSw
                    (try dsimp only at hSw)
                    go_simp
                    (try with_reducible rfl)
                  show wpAnyH _ _ _ _ _ _ _ (Act.put _ (some 126) _) _
                  (try simp only [Act.put, List.setIfInBounds_toArray, List.set_cons_zero, List.set_cons_succ])
                  refine wpAnyH_take (i := 16) (v := ?_) rfl (by kernel_rfl) (by kernel_rfl) (by kernel_rfl) (fun _ _ _ h => h) (Or.inl ⟨by kernel_rfl, ?_⟩) (by with_reducible assumption) ?_
                  rotate_left
                  · intro wz hSw
                    (try dsimp only at hSw)
                    go_simp
                    (try with_reducible rfl)
                  show wpAnyH _ _ _ _ _ _ _ (Act.put _ (some 127) _) _
                  (try simp only [Act.put, List.setIfInBounds_toArray, List.set_cons_zero, List.set_cons_succ])
                  refine wpAnyH_take (i := 19) (v := ?_) rfl (by kernel_rfl) (by kernel_rfl) (by kernel_rfl) (fun _ _ _ h => h) (Or.inl ⟨by kernel_rfl, ?_⟩) (by with_reducible assumption) ?_
                  rotate_left
                  · intro wz hSw
                    (try dsimp only at hSw)
                    go_simp
                    (try with_reducible rfl)
                  show wpAnyH _ _ _ _ _ _ _ (Act.put _ (some 130) _) _
                  (try simp only [Act.put, List.setIfInBounds_toArray, List.set_cons_zero, List.set_cons_succ])
                  refine wpAnyH_ready (rs := [17]) (by kernel_rfl) (by simp) ?_
                  refine AllReadyH.cons rfl (fun K hK => ?_) AllReadyH.nil
                  clear hHeld
                  go_simp
                  go_at_call 28
                  refine (key10_walk 4 (by omega) _).mono ?_
                  rintro e ZQ17 ⟨rfl, hb⟩
                  have Q17 := Lib.hid (Q12.out.below hb)
                  clear hb
                  go_wp2_with fail
                  refine hK.out _ _ ?_ (fun hHeld => ?_)
                  · exact Q17.out.x
                  clear hK K
                  (try simp only [Act.put, List.setIfInBounds_toArray, List.set_cons_zero, List.set_cons_succ])
                  refine wpAnyH_ready (rs := [18]) (by kernel_rfl) (by simp) ?_
                  refine AllReadyH.cons rfl (fun K hK => ?_) AllReadyH.nil
                  clear hHeld
                  go_simp
                  go_at_call 31
                  refine (CbW.amount Q17.out 4 (by omega) 0 HM5.out (by decide)).mono ?_
                  rintro e ZQ18 ⟨he, hb⟩
                  rw [U_zero] at he
                  subst he
                  have Q18 := Lib.hid (Q17.out.below hb)
                  clear hb
                  go_wp2_with fail
                  refine hK.out _ _ ?_ (fun hHeld => ?_)
                  · exact Q18.out.x
                  clear hK K
                  (try simp only [Act.put, List.setIfInBounds_toArray, List.set_cons_zero, List.set_cons_succ])
                  refine wpAnyH_take (i := 20) (v := .bool false) rfl (by kernel_rfl) (by kernel_rfl) (by kernel_rfl) (fun _ _ _ h => h) (Or.inl ⟨by kernel_rfl, ?_⟩) (by with_reducible assumption) ?_
                  · intro wz hSw
                    (try dsimp only at hSw)
                    go_simp
                    (try with_reducible rfl)
                  show wpAnyH _ _ _ _ _ _ _ (Act.put _ (some 131) _) _
                  (try simp only [Act.put, List.setIfInBounds_toArray, List.set_cons_zero, List.set_cons_succ])
                  refine wpAnyH_take (i := 21) (v := ?_) rfl (by kernel_rfl) (by kernel_rfl) (by kernel_rfl) (fun _ _ _ h => h) (Or.inl ⟨by kernel_rfl, ?_⟩) (by with_reducible assumption) ?_
                  rotate_left
                  · intro wz hSw
                    (try dsimp only at hSw)
                    go_simp
                    (try with_reducible rfl)
                  show wpAnyH _ _ _ _ _ _ _ (Act.put _ (some 132) _) _
                  (try simp only [Act.put, List.setIfInBounds_toArray, List.set_cons_zero, List.set_cons_succ])
                  refine wpAnyH_take (i := 22) (v := ?_) rfl (by kernel_rfl) (by kernel_rfl) (by kernel_rfl) (fun _ _ _ h => h) (Or.inl ⟨by kernel_rfl, ?_⟩) (by with_reducible assumption) ?_
                  rotate_left
                  · intro wz hSw
                    (try dsimp only at hSw)
                    go_simp
                    (try with_reducible rfl)
                  show wpAnyH _ _ _ _ _ _ _ (Act.put _ (some 133) _) _
                  (try simp only [Act.put, List.setIfInBounds_toArray, List.set_cons_zero, List.set_cons_succ])
                  refine wpAnyH_done (by kernel_rfl) ?_ _
                  go_wp2_with (go_at_call 26; refine (lives10_walk _).mono ?_; rintro e Zl ⟨rfl, hbl⟩; have JL := Lib.hid hbl; clear hbl)
                  go_ret
                  exact ⟨rfl, Q18.out.l.trans (JL.out.mono Q18.out.l.size)⟩
                · refine wp_region_held_drew (S := fun w' => w'.heap[x]? = some (uBox a)) (by kernel_rfl) ?_ (fun hHeld => ?_)
                  · exact H22.out.x
                  have H22d := Lib.hid (H22.out.below (Below.refl _ _).drew)
                  refine wpAnyH_take (i := 0) (v := ?_) rfl (by kernel_rfl) (by kernel_rfl) (by kernel_rfl) (fun _ _ _ h => h) (Or.inl ⟨by kernel_rfl, ?_⟩) (by with_reducible assumption) ?_
                  rotate_left
                  · intro wz hSw
                    (try dsimp only at hSw)
                    go_simp
                    (try with_reducible rfl)
                  show wpAnyH _ _ _ _ _ _ _ (Act.put _ (some 107) _) _
                  (try simp only [Act.put, List.setIfInBounds_toArray, List.set_cons_zero, List.set_cons_succ])
                  refine wpAnyH_take (i := 2) (v := .agg #[.int .u64 (limb a 0 : Nat), .int .u64 (limb a 1 : Nat), .int .u64 (limb a 2 : Nat), .int .u64 (limb a 3 : Nat)]) rfl (by kernel_rfl) (by kernel_rfl) (by kernel_rfl) (fun _ _ _ h => h) (Or.inl ⟨by kernel_rfl, ?_⟩) (by with_reducible assumption) ?_
                  · intro wz hSw
                    (try dsimp only at hSw)
                    have y0 := (hp_cell (i := 0) hSw).trans rfl
                    have y1 := (hp_cell (i := 1) hSw).trans rfl
                    have y2 := (hp_cell (i := 2) hSw).trans rfl
                    have y3 := (hp_cell (i := 3) hSw).trans rfl
                    go_simp
                    (try with_reducible rfl)
                  show wpAnyH _ _ _ _ _ _ _ (Act.put _ (some 109) _) _
                  (try simp only [Act.put, List.setIfInBounds_toArray, List.set_cons_zero, List.set_cons_succ])
                  refine wpAnyH_ready (rs := [1]) (by kernel_rfl) (by simp) ?_
                  refine AllReadyH.cons rfl (fun K hK => ?_) AllReadyH.nil
                  clear hHeld
                  go_simp
                  go_at_call 28
                  refine (key10_walk 4 (by omega) _).mono ?_
                  rintro e ZP1 ⟨rfl, hb⟩
                  have P1 := Lib.hid (H22d.out.below hb)
                  clear hb
                  go_wp2_with fail
                  refine hK.out _ _ ?_ (fun hHeld => ?_)
                  · exact P1.out.x
                  clear hK K
                  (try simp only [Act.put, List.setIfInBounds_toArray, List.set_cons_zero, List.set_cons_succ])
                  refine wpAnyH_ready (rs := [3]) (by kernel_rfl) (by simp) ?_
                  refine AllReadyH.cons rfl (fun K hK => ?_) AllReadyH.nil
                  clear hHeld
                  go_simp
                  go_at_call 37
                  refine (CbW.addNo P1.out 4 (by omega) a HS4.out HA.out.2.2.2.2 (by omega)).mono ?_
                  rintro e ZP3 ⟨rfl, hb⟩
                  have P3 := Lib.hid (P1.out.below hb)
                  clear hb
                  go_wp2_with fail
                  refine hK.out _ _ ?_ (fun hHeld => ?_)
                  · exact P3.out.x
                  clear hK K
                  (try simp only [Act.put, List.setIfInBounds_toArray, List.set_cons_zero, List.set_cons_succ])
                  refine wpAnyH_take (i := 4) (v := ?_) rfl (by kernel_rfl) (by kernel_rfl) (by kernel_rfl) (fun _ _ _ h => h) (Or.inl ⟨by kernel_rfl, ?_⟩) (by with_reducible assumption) ?_
                  rotate_left
                  · intro wz hSw
                    (try dsimp only at hSw)
                    go_simp
                    (try with_reducible rfl)
                  show wpAnyH _ _ _ _ _ _ _ (Act.put _ (some 13) _) _
                  (try simp only [Act.put, List.setIfInBounds_toArray, List.set_cons_zero, List.set_cons_succ])
                  refine wpAnyH_done (by kernel_rfl) ?_ _
                  go_upto_region 24 with fail
                  refine wp_region_held_drew (S := fun w' => w'.heap[x]? = some (uBox a)) (by kernel_rfl) ?_ (fun hHeld => ?_)
                  · exact P3.out.x
                  have P3d := Lib.hid (P3.out.below (Below.refl _ _).drew)
                  refine wpAnyH_take (i := 0) (v := ?_) rfl (by kernel_rfl) (by kernel_rfl) (by kernel_rfl) (fun _ _ _ h => h) (Or.inl ⟨by kernel_rfl, ?_⟩) (by with_reducible assumption) ?_
                  rotate_left
                  · intro wz hSw
                    (try dsimp only at hSw)
                    go_simp
                    (try with_reducible rfl)
                  show wpAnyH _ _ _ _ _ _ _ (Act.put _ (some 111) _) _
                  (try simp only [Act.put, List.setIfInBounds_toArray, List.set_cons_zero, List.set_cons_succ])
                  refine wpAnyH_take (i := 1) (v := ?_) rfl (by kernel_rfl) (by kernel_rfl) (by kernel_rfl) (fun _ _ _ h => h) (Or.inl ⟨by kernel_rfl, ?_⟩) (by with_reducible assumption) ?_
                  rotate_left
                  · intro wz hSw
                    (try dsimp only at hSw)
                    go_simp
                    (try with_reducible rfl)
                  show wpAnyH _ _ _ _ _ _ _ (Act.put _ (some 112) _) _
                  (try simp only [Act.put, List.setIfInBounds_toArray, List.set_cons_zero, List.set_cons_succ])
                  refine wpAnyH_take (i := 2) (v := ?_) rfl (by kernel_rfl) (by kernel_rfl) (by kernel_rfl) (fun _ _ _ h => h) (Or.inl ⟨by kernel_rfl, ?_⟩) (by with_reducible assumption) ?_
                  rotate_left
                  · intro wz hSw
                    (try dsimp only at hSw)
                    go_simp
                    (try with_reducible rfl)
                  show wpAnyH _ _ _ _ _ _ _ (Act.put _ (some 113) _) _
                  (try simp only [Act.put, List.setIfInBounds_toArray, List.set_cons_zero, List.set_cons_succ])
                  refine wpAnyH_take (i := 3) (v := undef) rfl (by kernel_rfl) (by kernel_rfl) (by kernel_rfl) (fun _ _ _ h => h) (Or.inr ⟨by kernel_rfl, rfl⟩) (by with_reducible assumption) ?_
                  show wpAnyH _ _ _ _ _ _ _ (Act.put _ (some 114) _) _
                  (try simp only [Act.put, List.setIfInBounds_toArray, List.set_cons_zero, List.set_cons_succ])
                  refine wpAnyH_take (i := 6) (v := undef) rfl (by kernel_rfl) (by kernel_rfl) (by kernel_rfl) (fun _ _ _ h => h) (Or.inr ⟨by kernel_rfl, rfl⟩) (by with_reducible assumption) ?_
                  show wpAnyH _ _ _ _ _ _ _ (Act.put _ (some 117) _) _
                  (try simp only [Act.put, List.setIfInBounds_toArray, List.set_cons_zero, List.set_cons_succ])
                  refine wpAnyH_ready (rs := [4]) (by kernel_rfl) (by simp) ?_
                  refine AllReadyH.cons rfl (fun K hK => ?_) AllReadyH.nil
                  clear hHeld
                  go_simp
                  refine hK.out _ _ ?_ (fun hHeld => ?_)
                  · exact P3d.out.x
                  clear hK K
                  (try simp only [Act.put, List.setIfInBounds_toArray, List.set_cons_zero, List.set_cons_succ])
                  refine wpAnyH_ready (rs := [5]) (by kernel_rfl) (by simp) ?_
                  refine AllReadyH.cons rfl (fun K hK => ?_) AllReadyH.nil
                  clear hHeld
                  go_simp
                  refine hK.out _ _ ?_ (fun hHeld => ?_)
                  · exact P3d.out.x
                  clear hK K
                  (try simp only [Act.put, List.setIfInBounds_toArray, List.set_cons_zero, List.set_cons_succ])
                  refine wpAnyH_take (i := 7) (v := undef) rfl (by kernel_rfl) (by kernel_rfl) (by kernel_rfl) (fun _ _ _ h => h) (Or.inr ⟨by kernel_rfl, rfl⟩) (by with_reducible assumption) ?_
                  show wpAnyH _ _ _ _ _ _ _ (Act.put _ (some 118) _) _
                  (try simp only [Act.put, List.setIfInBounds_toArray, List.set_cons_zero, List.set_cons_succ])
                  refine wpAnyH_take (i := 8) (v := undef) rfl (by kernel_rfl) (by kernel_rfl) (by kernel_rfl) (fun _ _ _ h => h) (Or.inr ⟨by kernel_rfl, rfl⟩) (by with_reducible assumption) ?_
                  show wpAnyH _ _ _ _ _ _ _ (Act.put _ (some 119) _) _
                  (try simp only [Act.put, List.setIfInBounds_toArray, List.set_cons_zero, List.set_cons_succ])
                  refine wpAnyH_take (i := 9) (v := undef) rfl (by kernel_rfl) (by kernel_rfl) (by kernel_rfl) (fun _ _ _ h => h) (Or.inr ⟨by kernel_rfl, rfl⟩) (by with_reducible assumption) ?_
                  show wpAnyH _ _ _ _ _ _ _ (Act.put _ (some 120) _) _
                  (try simp only [Act.put, List.setIfInBounds_toArray, List.set_cons_zero, List.set_cons_succ])
                  refine wpAnyH_take (i := 11) (v := undef) rfl (by kernel_rfl) (by kernel_rfl) (by kernel_rfl) (fun _ _ _ h => h) (Or.inr ⟨by kernel_rfl, rfl⟩) (by with_reducible assumption) ?_
                  show wpAnyH _ _ _ _ _ _ _ (Act.put _ (some 122) _) _
                  (try simp only [Act.put, List.setIfInBounds_toArray, List.set_cons_zero, List.set_cons_succ])
                  refine wpAnyH_ready (rs := [10]) (by kernel_rfl) (by simp) ?_
                  refine AllReadyH.cons rfl (fun K hK => ?_) AllReadyH.nil
                  clear hHeld
                  go_simp
                  refine hK.out _ _ ?_ (fun hHeld => ?_)
                  · exact P3d.out.x
                  clear hK K
                  (try simp only [Act.put, List.setIfInBounds_toArray, List.set_cons_zero, List.set_cons_succ])
                  refine wpAnyH_ready (rs := [12]) (by kernel_rfl) (by simp) ?_
                  refine AllReadyH.cons rfl (fun K hK => ?_) AllReadyH.nil
                  clear hHeld
                  go_simp
                  refine hK.out _ _ ?_ (fun hHeld => ?_)
                  · exact P3d.out.x
                  clear hK K
                  (try simp only [Act.put, List.setIfInBounds_toArray, List.set_cons_zero, List.set_cons_succ])
                  refine wpAnyH_take (i := 13) (v := undef) rfl (by kernel_rfl) (by kernel_rfl) (by kernel_rfl) (fun _ _ _ h => h) (Or.inr ⟨by kernel_rfl, rfl⟩) (by with_reducible assumption) ?_
                  show wpAnyH _ _ _ _ _ _ _ (Act.put _ (some 124) _) _
                  (try simp only [Act.put, List.setIfInBounds_toArray, List.set_cons_zero, List.set_cons_succ])
                  refine wpAnyH_take (i := 14) (v := undef) rfl (by kernel_rfl) (by kernel_rfl) (by kernel_rfl) (fun _ _ _ h => h) (Or.inr ⟨by kernel_rfl, rfl⟩) (by with_reducible assumption) ?_
                  show wpAnyH _ _ _ _ _ _ _ (Act.put _ (some 125) _) _
                  (try simp only [Act.put, List.setIfInBounds_toArray, List.set_cons_zero, List.set_cons_succ])
                  refine wpAnyH_take (i := 15) (v := undef) rfl (by kernel_rfl) (by kernel_rfl) (by kernel_rfl) (fun _ _ _ h => h) (Or.inr ⟨by kernel_rfl, rfl⟩) (by with_reducible assumption) ?_
                  show wpAnyH _ _ _ _ _ _ _ (Act.put _ (some 126) _) _
                  (try simp only [Act.put, List.setIfInBounds_toArray, List.set_cons_zero, List.set_cons_succ])
                  refine wpAnyH_take (i := 16) (v := undef) rfl (by kernel_rfl) (by kernel_rfl) (by kernel_rfl) (fun _ _ _ h => h) (Or.inr ⟨by kernel_rfl, rfl⟩) (by with_reducible assumption) ?_
                  show wpAnyH _ _ _ _ _ _ _ (Act.put _ (some 127) _) _
                  (try simp only [Act.put, List.setIfInBounds_toArray, List.set_cons_zero, List.set_cons_succ])
                  refine wpAnyH_take (i := 19) (v := undef) rfl (by kernel_rfl) (by kernel_rfl) (by kernel_rfl) (fun _ _ _ h => h) (Or.inr ⟨by kernel_rfl, rfl⟩) (by with_reducible assumption) ?_
                  show wpAnyH _ _ _ _ _ _ _ (Act.put _ (some 130) _) _
                  (try simp only [Act.put, List.setIfInBounds_toArray, List.set_cons_zero, List.set_cons_succ])
                  refine wpAnyH_ready (rs := [17]) (by kernel_rfl) (by simp) ?_
                  refine AllReadyH.cons rfl (fun K hK => ?_) AllReadyH.nil
                  clear hHeld
                  go_simp
                  refine hK.out _ _ ?_ (fun hHeld => ?_)
                  · exact P3d.out.x
                  clear hK K
                  (try simp only [Act.put, List.setIfInBounds_toArray, List.set_cons_zero, List.set_cons_succ])
                  refine wpAnyH_ready (rs := [18]) (by kernel_rfl) (by simp) ?_
                  refine AllReadyH.cons rfl (fun K hK => ?_) AllReadyH.nil
                  clear hHeld
                  go_simp
                  refine hK.out _ _ ?_ (fun hHeld => ?_)
                  · exact P3d.out.x
                  clear hK K
                  (try simp only [Act.put, List.setIfInBounds_toArray, List.set_cons_zero, List.set_cons_succ])
                  refine wpAnyH_take (i := 20) (v := undef) rfl (by kernel_rfl) (by kernel_rfl) (by kernel_rfl) (fun _ _ _ h => h) (Or.inr ⟨by kernel_rfl, rfl⟩) (by with_reducible assumption) ?_
                  show wpAnyH _ _ _ _ _ _ _ (Act.put _ (some 131) _) _
                  (try simp only [Act.put, List.setIfInBounds_toArray, List.set_cons_zero, List.set_cons_succ])
                  refine wpAnyH_take (i := 21) (v := undef) rfl (by kernel_rfl) (by kernel_rfl) (by kernel_rfl) (fun _ _ _ h => h) (Or.inr ⟨by kernel_rfl, rfl⟩) (by with_reducible assumption) ?_
                  show wpAnyH _ _ _ _ _ _ _ (Act.put _ (some 132) _) _
                  (try simp only [Act.put, List.setIfInBounds_toArray, List.set_cons_zero, List.set_cons_succ])
                  refine wpAnyH_take (i := 22) (v := ?_) rfl (by kernel_rfl) (by kernel_rfl) (by kernel_rfl) (fun _ _ _ h => h) (Or.inl ⟨by kernel_rfl, ?_⟩) (by with_reducible assumption) ?_
                  rotate_left
                  · intro wz hSw
                    (try dsimp only at hSw)
                    go_simp
                    (try with_reducible rfl)
                  show wpAnyH _ _ _ _ _ _ _ (Act.put _ (some 133) _) _
                  (try simp only [Act.put, List.setIfInBounds_toArray, List.set_cons_zero, List.set_cons_succ])
                  refine wpAnyH_done (by kernel_rfl) ?_ _
                  go_wp2_with (go_at_call 26; refine (lives10_walk _).mono ?_; rintro e Zl ⟨rfl, hbl⟩; have JL := Lib.hid hbl; clear hbl)
                  go_ret
                  exact ⟨rfl, P3d.out.l.trans (JL.out.mono P3d.out.l.size)⟩
  all_goals done
end Go.Proofs.Ytbfmhafmncnhfaa

namespace Go.Proofs.Ytbfmhafmncnhfaa
open Go.RowKit Go.Maps Go.Sort

set_option maxRecDepth 100000 in
set_option maxHeartbeats 1000000 in
theorem cellBack_walk (n : Int) (a : Nat) (A : Option Addr) (m C : Nat) (f : Nat → Int) (w : World) (hn : -9223372036854775808 ≤ n ∧ n < 2 ^ 63) (ha : a < 2 ^ 256) (hl : Il w A m f) (hm : (m : Int) ≤ 9223372036854775807) :
    Calls Try.prog 7 #[.int .i64 n, U a, .slice A m C] w fun e w' => e = .returned (.bool true) ∧ Below w.heap.size w w' := by
  by_cases h : m ≤ 20
  · classical
    exact cellBack_go n a A m C f w hn ha hl h (decide (0 < m ∧ ∀ t, t < m → 0 ≤ f t)) (decide (∃ t, t < m ∧ f t < 0)) decide_eq_true_iff decide_eq_true_iff
  · have p1 : (20 : Int) < (m : Int) := by omega
    have hb0 := (Below.refl w.heap.size w).alloc (Nat.le_refl _) (uBox a)
    have H0 := Lib.hid hb0
    clear hl hm h hn ha hb0
    unfold U
    go_enter Try.func7, Try.ntmps7
    go_wp2_with (go_at_call 26; refine (lives10_walk _).mono ?_; rintro e w2 ⟨rfl, hb⟩; have H2 := Lib.hid hb; clear hb)
    go_ret
    exact ⟨rfl, H0.out.trans (H2.out.mono H0.out.size)⟩
end Go.Proofs.Ytbfmhafmncnhfaa
