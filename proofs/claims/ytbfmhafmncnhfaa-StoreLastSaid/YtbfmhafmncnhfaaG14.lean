/- The law StoreLast: light; its world. -/
import Derived.Test.YtbfmhafmncnhfaaG13
import Derived.Test.YtbfmhafmncnhfaaG07
namespace Go.Proofs.Ytbfmhafmncnhfaa
open Go.RowKit Go.Maps Go.Sort

/-- the sum of the lengths so far, as it wraps -/
def lacc (x1 x2 : Nat → ByteArray) : Nat → Int
  | 0 => 0
  | j + 1 => wrap64 (lacc x1 x2 j + wrap64 (((x1 j).size : Int) + ((x2 j).size : Int)))
set_option maxRecDepth 100000 in
set_option maxHeartbeats 1000000 in
/-- light of any row of acts -/
theorem light08_rows (A : Option Addr) (N C : Nat) (x0 : Nat → Int) (x1 x2 : Nat → ByteArray) (x3 : Nat → Int) (w : World) (hr : RowsV w A N 4 (fun i => [.int .i64 (x0 i), .string (x1 i), .string (x2 i), .int .i64 (x3 i)])) (hN : (N : Int) ≤ 9223372036854775807)
    (B : Bool) (hB : B = true ↔ N ≤ 300 ∧ ∀ j, j < N → lacc x1 x2 (j + 1) ≤ 20000) :
    Calls Try.prog 8 #[.slice A N C] w fun e w' => e = .returned (.bool B) ∧ Below w.heap.size w w' := by
  have HR := Lib.hid hr
  have HBB := Lib.hid hB
  clear hr hB
  by_cases h1 : N ≤ 300
  · have p1 : ¬ (300 : Int) < (N : Int) := by omega
    have HN := Lib.hid h1
    go_enter Try.func8, Try.ntmps8
    go_wp2
    go_loopw [3, 11] (fun v i wr => ∃ (j : Nat) (z : Int), j ≤ N ∧ v = .int .i64 z ∧ i = .int .i64 (j : Nat) ∧ z = lacc x1 x2 j ∧ (∀ t, t < j → lacc x1 x2 (t + 1) ≤ 20000) ∧ Below w.heap.size w wr) (fun _ i _ => N - (intOf i).toNat)
    case atStart => exact ⟨0, 0, by omega, rfl, rfl, rfl, fun t h => absurd h (Nat.not_lt_zero _), Below.refl _ _⟩
    case round =>
      obtain ⟨j, z, hj, rfl, rfl, hz, hall, hb⟩ := hrel
      have HB := Lib.hid hb
      have HZ := Lib.hid (And.intro hz hall)
      by_cases hlt : j < N
      · have p2 : (j : Int) < (N : Int) := by omega
        obtain ⟨g, o, rfl, hg, hc⟩ := (HR.out.below hb) (by omega)
        have d0 := hc j hlt 0 _ rfl
        have d1 := hc j hlt 1 _ rfl
        have d2 := hc j hlt 2 _ rfl
        have d3 := hc j hlt 3 _ rfl
        simp only [Nat.add_zero] at d0
        obtain ⟨y, ey⟩ : ∃ y : Int, y = wrap64 (z + wrap64 (((x1 j).size : Int) + ((x2 j).size : Int))) := ⟨_, rfl⟩
        have hy : lacc x1 x2 (j + 1) = y := by rw [ey, hz]; rfl
        have HY := Lib.hid (And.intro hy ey)
        clear hb hc hz hall ey hy
        go_upto_region 8 with fail
        rw [← HY.out.2]
        by_cases h20 : (20000 : Int) < y
        · have e0 : B = false := by
            cases hBv : B with
            | false => rfl
            | true => exact absurd ((HBB.out.1 hBv).2 j hlt) (by rw [HY.out.1]; omega)
          subst e0
          go_wp2
          go_ret
          exact ⟨rfl, HB.out.alloc HB.out.size _⟩
        · go_wp2
          exact ⟨⟨j + 1, y, by omega, rfl, by go_num, HY.out.1.symm, fun t ht => by
            rcases (by omega : t < j ∨ t = j) with h | rfl
            · exact HZ.out.2 t h
            · rw [HY.out.1]; omega, HB.out.alloc HB.out.size _⟩, by simp [intOf]; omega⟩
      · obtain rfl : j = N := by omega
        have p2 : ¬ (j : Int) < (j : Int) := by omega
        have e0 : B = true := HBB.out.2 ⟨h1, hall⟩
        subst e0
        clear hb hz hall
        go_wp2
        go_ret
        exact ⟨rfl, HB.out⟩
  · have p1 : (300 : Int) < (N : Int) := by omega
    have e0 : B = false := by
      cases hBv : B with
      | false => rfl
      | true => exact absurd (HBB.out.1 hBv).1 h1
    subst e0
    go_enter Try.func8, Try.ntmps8
    go_wp2
    go_ret
    exact ⟨rfl, Below.refl _ _⟩
theorem fAct08 : Foreign 33 := ⟨by decide, by decide, by decide, by decide⟩
/-- the law's world -/
structure SlW (w W : World) (b : Nat) (key want : ByteArray) (th : Bool) (c : Nat) (L : SL) : Prop where
  s : ∃ F q qs, SNew w W b F L q qs ∧ q ≤ c
  len : L.length ≤ c
  ks : ∀ p ∈ L, p.1.size ≤ maxLen
  k : KeepS L key want th
theorem SlW.below {w W W' : World} {b : Nat} {key want : ByteArray} {th : Bool} {c : Nat} {L : SL} (h : SlW w W b key want th c L) (hb : Below W.heap.size W W') : SlW w W' b key want th c L := by
  obtain ⟨F, q, qs, hs, hq⟩ := h.s
  exact ⟨⟨F, q, qs, hs.below hb, hq⟩, h.len, h.ks, h.k⟩
theorem SlW.l {w W : World} {b : Nat} {key want : ByteArray} {th : Bool} {c : Nat} {L : SL} (h : SlW w W b key want th c L) : Below w.heap.size w W := by
  obtain ⟨F, q, qs, hs, hq⟩ := h.s
  exact hs.l
theorem SlW.next {w W : World} {b : Nat} {key want : ByteArray} {th : Bool} {c : Nat} {L : SL} (h : SlW w W b key want th c L) : SlW w W b key want th (c + 1) L := by
  obtain ⟨F, q, qs, hs, hq⟩ := h.s
  exact ⟨⟨F, q, qs, hs, by omega⟩, by have := h.len; omega, h.ks, h.k⟩
/-- Set by it -/
theorem SlW.set {w W : World} {b : Nat} {key want : ByteArray} {th : Bool} {c : Nat} {L : SL} (h : SlW w W b key want th c L) (hc : c < 100000) (k v : ByteArray) (hk : k.size ≤ maxLen) (hv : v.size ≤ maxLen) :
    Calls Try.prog 22 #[.pointer (some ⟨b, 0, none⟩), .string k, .string v] W fun e W' => (∃ r, e = .returned (.int .i64 r)) ∧ (∀ want' th', KeepS (setE L k v) key want' th' → SlW w W' b key want' th' (c + 1) (setE L k v)) ∧ ∀ T, Foreign T → KeepT T W W' := by
  obtain ⟨F, q, qs, hs, hq⟩ := h.s
  have hl := h.len
  refine (hs.setAny k v hk hv (by omega) (by omega)).mono ?_
  rintro e W' ⟨he, hL⟩
  refine ⟨he, fun want' th' hk' => ?_, fun T hT => LiveTo.keepT hs hL hT⟩
  obtain ⟨F', q', qs', h1, h2, _⟩ := hL
  refine ⟨⟨F', q', qs', h1, by omega⟩, by have := setE_len L k v; omega, fun p hp => ?_, hk'⟩
  rcases mem_setE hp with h3 | h3
  · exact h.ks p h3
  · rw [h3]; exact hk
/-- Delete by it -/
theorem SlW.del {w W : World} {b : Nat} {key want : ByteArray} {th : Bool} {c : Nat} {L : SL} (h : SlW w W b key want th c L) (hc : c < 100000) (k : ByteArray) (hk : k.size ≤ maxLen) :
    Calls Try.prog 23 #[.pointer (some ⟨b, 0, none⟩), .string k] W fun e W' => (∃ r, e = .returned (.bool r)) ∧ (∀ want' th', KeepS (sdel L k) key want' th' → SlW w W' b key want' th' (c + 1) (sdel L k)) ∧ ∀ T, Foreign T → KeepT T W W' := by
  obtain ⟨F, q, qs, hs, hq⟩ := h.s
  have hl := h.len
  refine (hs.del k hk (by omega) (by omega)).mono ?_
  rintro e W' ⟨he, hL⟩
  refine ⟨⟨_, he⟩, fun want' th' hk' => ?_, fun T hT => LiveTo.keepT hs hL hT⟩
  obtain ⟨F', q', qs', h1, h2, _⟩ := hL
  refine ⟨⟨F', q', qs', h1, by omega⟩, by have : (sdel L k).length ≤ L.length := List.length_filter_le _ _; omega, fun p hp => h.ks p (List.mem_filter.1 hp).1, hk'⟩
theorem SlW.get {w W : World} {b : Nat} {key want : ByteArray} {th : Bool} {c : Nat} {L : SL} (h : SlW w W b key want th c L) (hk : key.size ≤ maxLen) :
    Calls Try.prog 12 #[.pointer (some ⟨b, 0, none⟩), .string key] W fun e W' => e = .returned (.tuple #[.string want, .bool th]) ∧ Below W.heap.size W W' := by
  obtain ⟨F, q, qs, hs, hq⟩ := h.s
  have := sget_live b F L q qs key W hs.s hk
  rw [h.k.get.1, h.k.get.2] at this
  exact this
end Go.Proofs.Ytbfmhafmncnhfaa

namespace Go.Proofs.Ytbfmhafmncnhfaa
open Go.RowKit Go.Maps Go.Sort

theorem pcs_at : ∀ (l : SL) (j : Nat) (h : j < l.length), (pcs l)[j * 2]? = some (.string l[j].1) ∧ (pcs l)[j * 2 + 1]? = some (.string l[j].2)
  | [], j, h => absurd h (Nat.not_lt_zero _)
  | p :: r, 0, _ => ⟨rfl, rfl⟩
  | p :: r, j + 1, h => by
    have ih := pcs_at r j (by simpa using h)
    have e : pcs (p :: r) = .string p.1 :: .string p.2 :: pcs r := rfl
    rw [e]
    refine ⟨?_, ?_⟩
    · rw [show (j + 1) * 2 = j * 2 + 1 + 1 by omega, List.getElem?_cons_succ, List.getElem?_cons_succ]
      simpa using ih.1
    · rw [show (j + 1) * 2 + 1 = j * 2 + 1 + 1 + 1 by omega, List.getElem?_cons_succ, List.getElem?_cons_succ]
      simpa using ih.2
/-- a row of pairs that was made: how it is read -/
theorem row_pairs {w : World} {B : Nat} {v : Value} {l : SL} (h : w.ownsRow B 43 2 v l.length (pcs l)) :
    ∃ A c, v = .slice A l.length c ∧ (0 < l.length → ∃ g, A = some ⟨g, 0, none⟩ ∧ B ≤ g ∧ g < w.heap.size ∧ ∀ j (h : j < l.length), w.cell? ⟨g, j * 2, none⟩ = some (.string l[j].1) ∧ w.cell? ⟨g, j * 2 + 1, none⟩ = some (.string l[j].2)) := by
  rcases h.2 with ⟨rfl, h0⟩ | ⟨g, cap, cur, rfl, hb, hg, r⟩
  · exact ⟨none, 0, by rw [h0], fun hp => by omega⟩
  · exact ⟨_, cap, rfl, fun _ => ⟨g, rfl, hb, hp_lt hg, fun j hj => ⟨ownsRow_cell h rfl (pcs_at l j hj).1, ownsRow_cell h rfl (pcs_at l j hj).2⟩⟩⟩
end Go.Proofs.Ytbfmhafmncnhfaa

namespace Go.Proofs.Ytbfmhafmncnhfaa
open Go.RowKit Go.Maps Go.Sort

theorem lpre_take : ∀ (k b : List UInt8), b.length ≤ k.length → ((k.take b.length == b) = Lib.hasPrefix k b)
  | _, [], _ => by simp [Lib.hasPrefix]
  | [], b :: x, h => by simp at h
  | a :: k, b :: x, h => by
    have ih := lpre_take k x (by simpa using h)
    unfold Lib.hasPrefix at ih ⊢
    rw [List.length_cons, List.take_succ_cons, List.isPrefixOf_cons_cons, ← ih, Bool.eq_iff_iff]
    rw [Bool.and_eq_true, beq_iff_eq, beq_iff_eq, beq_iff_eq, List.cons_eq_cons]
    exact ⟨fun ⟨h1, h2⟩ => ⟨h1.symm, h2⟩, fun ⟨h1, h2⟩ => ⟨h1.symm, h2⟩⟩
theorem pre_ext {k b v : ByteArray} (h : b.size ≤ k.size) : ((k.extract 0 b.size).toList == b.toList) = hpre b (k, v) := by
  have h1 : b.size = b.data.toList.length := by rw [Array.length_toList]; rfl
  have h2 : k.size = k.data.toList.length := by rw [Array.length_toList]; rfl
  have e : (k.extract 0 b.size).toList = k.data.toList.take b.data.toList.length := by
    rw [Lib.toList_data, ByteArray.data_extract, Array.toList_extract, ← h1]
    show ((k.data.toList).drop 0).take (b.size - 0) = _
    rw [List.drop_zero, Nat.sub_zero]
  rw [e, Lib.toList_data, lpre_take _ _ (by omega)]
  rfl
theorem pre_short {k b v : ByteArray} (h : k.size < b.size) : hpre b (k, v) = false := by
  cases hp : hpre b (k, v) with
  | false => rfl
  | true =>
    unfold hpre Lib.hasPrefix at hp
    have := (List.isPrefixOf_iff_prefix.1 hp).length_le
    have h1 : b.size = b.data.toList.length := by rw [Array.length_toList]; rfl
    have h2 : k.size = k.data.toList.length := by rw [Array.length_toList]; rfl
    dsimp only at this
    omega
theorem cp_take {L : SL} (P : ByteArray × ByteArray → Bool) {m : Nat} (h : m < L.length) : (L.take (m + 1)).countP P = (L.take m).countP P + (if P L[m] = true then 1 else 0) := by
  rw [List.take_succ_eq_append_getElem h, List.countP_append, List.countP_singleton]
/-- All by it -/
theorem SlW.all {w W : World} {b : Nat} {key want : ByteArray} {th : Bool} {c : Nat} {L : SL} (h : SlW w W b key want th c L) (hc : c < 1000000) :
    Calls Try.prog 20 #[.pointer (some ⟨b, 0, none⟩)] W fun e w' => (∃ v, e = .returned v ∧ w'.ownsRow W.heap.size 43 2 v L.length (pcs L)) ∧ Below W.heap.size W w' := by
  obtain ⟨F, q, qs, hs, hq⟩ := h.s
  exact all_live b F L q qs W hs.s h.ks (by have := h.len; omega)
theorem SlW.under {w W : World} {b : Nat} {key want : ByteArray} {th : Bool} {c : Nat} {L : SL} (h : SlW w W b key want th c L) (hc : c < 1000000) (x : ByteArray) :
    Calls Try.prog 24 #[.pointer (some ⟨b, 0, none⟩), .string x] W fun e w' => (∃ A C, e = .returned (.slice A (L.countP (hpre x)) C)) ∧ Below W.heap.size W w' := by
  obtain ⟨F, q, qs, hs, hq⟩ := h.s
  refine (under_live b F L q qs W hs.s x h.ks (by have := h.len; omega)).mono ?_
  rintro e w' ⟨⟨v, rfl, ho⟩, hb⟩
  obtain ⟨A, C, rfl, _⟩ := row_pairs ho
  obtain ⟨bm, vb, vk, vq, _, hM⟩ := hs.s
  exact ⟨⟨A, C, by rw [under_count hM.so x]⟩, hb⟩
end Go.Proofs.Ytbfmhafmncnhfaa
