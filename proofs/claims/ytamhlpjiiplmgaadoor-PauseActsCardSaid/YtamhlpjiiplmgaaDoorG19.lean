/- The law StoreLast: what is read at its end. -/
import Derived.Test.YtamhlpjiiplmgaaDoorG18
import Derived.Test.YtamhlpjiiplmgaaDoorG15
import Derived.Test.YtamhlpjiiplmgaaDoorG17
import Derived.Test.YtamhlpjiiplmgaaDoorProg
import Derived.Test.YtamhlpjiiplmgaaDoorG00
import Derived.Laws.Externs
import Derived.Lib.Hide
namespace Go.Proofs.YtamhlpjiiplmgaaDoor
open Go.RowKit Go.Maps Go.Sort

theorem lpre_take : ∀ (k b : List UInt8), b.length ≤ k.length → ((k.take b.length == b) = Lib.hasPrefix k b)
  | _, [], _ => by simp [Lib.hasPrefix]
  | [], b :: x, h => by simp at h
  | a :: k, b :: x, h => by
    have ih := lpre_take k x (by simpa using h)
    unfold Lib.hasPrefix at ih ⊢
    rw [List.length_cons, List.take_succ_cons, List.isPrefixOf_cons_cons, ← ih, Bool.eq_iff_iff]
    rw [Bool.and_eq_true, beq_iff_eq, beq_iff_eq, beq_iff_eq, List.cons_eq_cons]
    exact ⟨fun ⟨h1, h2⟩ => ⟨h1.symm, h2⟩, fun ⟨h1, h2⟩ => ⟨h1.symm, h2⟩⟩
theorem pre_ext {k b v : ByteArray} (h : b.size ≤ k.size) : ((k.extract 0 b.size).toList == b.toList) = hpre b (k, v) := by
  have h1 : b.size = b.data.toList.length := by rw [Array.length_toList]; rfl
  have h2 : k.size = k.data.toList.length := by rw [Array.length_toList]; rfl
  have e : (k.extract 0 b.size).toList = k.data.toList.take b.data.toList.length := by
    rw [Lib.toList_data, ByteArray.data_extract, Array.toList_extract, ← h1]
    show ((k.data.toList).drop 0).take (b.size - 0) = _
    rw [List.drop_zero, Nat.sub_zero]
  rw [e, Lib.toList_data, lpre_take _ _ (by omega)]
  rfl
theorem pre_short {k b v : ByteArray} (h : k.size < b.size) : hpre b (k, v) = false := by
  cases hp : hpre b (k, v) with
  | false => rfl
  | true =>
    unfold hpre Lib.hasPrefix at hp
    have := (List.isPrefixOf_iff_prefix.1 hp).length_le
    have h1 : b.size = b.data.toList.length := by rw [Array.length_toList]; rfl
    have h2 : k.size = k.data.toList.length := by rw [Array.length_toList]; rfl
    dsimp only at this
    omega
theorem cp_take {L : SL} (P : ByteArray × ByteArray → Bool) {m : Nat} (h : m < L.length) : (L.take (m + 1)).countP P = (L.take m).countP P + (if P L[m] = true then 1 else 0) := by
  rw [List.take_succ_eq_append_getElem h, List.countP_append, List.countP_singleton]
/-- All by it -/
theorem SlW.all {w W : World} {b : Nat} {key want : ByteArray} {th : Bool} {c : Nat} {L : SL} (h : SlW w W b key want th c L) (hc : c < 1000000) :
    Calls Tryd.prog 13 #[.pointer (some ⟨b, 0, none⟩)] W fun e w' => (∃ v, e = .returned v ∧ w'.ownsRow W.heap.size 54 2 v L.length (pcs L)) ∧ Below W.heap.size W w' := by
  obtain ⟨F, q, qs, hs, hq⟩ := h.s
  exact all_live b F L q qs W hs.s h.ks (by have := h.len; omega)
theorem SlW.under {w W : World} {b : Nat} {key want : ByteArray} {th : Bool} {c : Nat} {L : SL} (h : SlW w W b key want th c L) (hc : c < 1000000) (x : ByteArray) :
    Calls Tryd.prog 23 #[.pointer (some ⟨b, 0, none⟩), .string x] W fun e w' => (∃ A C, e = .returned (.slice A (L.countP (hpre x)) C)) ∧ Below W.heap.size W w' := by
  obtain ⟨F, q, qs, hs, hq⟩ := h.s
  refine (under_live b F L q qs W hs.s x h.ks (by have := h.len; omega)).mono ?_
  rintro e w' ⟨⟨v, rfl, ho⟩, hb⟩
  obtain ⟨A, C, rfl, _⟩ := row_pairs ho
  obtain ⟨bm, vb, vk, vq, _, hM⟩ := hs.s
  exact ⟨⟨A, C, by rw [under_count hM.so x]⟩, hb⟩
end Go.Proofs.YtamhlpjiiplmgaaDoor

namespace Go.Proofs.YtamhlpjiiplmgaaDoor
open Go.RowKit Go.Maps Go.Sort

end Go.Proofs.YtamhlpjiiplmgaaDoor

namespace Go.Proofs.YtamhlpjiiplmgaaDoor
open Go.RowKit

def r64 (x y c : Nat) : Nat := (x + 18446744073709551616 - y - c) % 18446744073709551616
def b64 (x y c : Nat) : Nat := if x < y + c then 1 else 0
theorem r64_lt (x y c : Nat) : r64 x y c < 2 ^ 64 := by unfold r64; omega
theorem b64_le (x y c : Nat) : b64 x y c ≤ 1 := by unfold b64; split <;> omega
theorem rb64 (x y c : Nat) (hx : x < 2 ^ 64) (hy : y < 2 ^ 64) (hc : c ≤ 1) : r64 x y c + y + c = x + b64 x y c * 2 ^ 64 := by unfold r64 b64; split <;> omega

/-- what Sub comes to -/
def SubPost (a b : Nat) (w : World) (e : Ending) (w' : World) : Prop :=
  e = .returned (.tuple #[U (if b ≤ a then a - b else 0), .bool (decide (b ≤ a))]) ∧ Below w.heap.size w w'
theorem subPost_yes {a b : Nat} {w w' : World} {e : Ending} (h : b ≤ a) (he : e = .returned (.tuple #[U (a - b), .bool true])) (hw : Below w.heap.size w w') : SubPost a b w e w' := by
  unfold SubPost; rw [if_pos h, decide_eq_true h]; exact ⟨he, hw⟩
theorem subPost_no {a b : Nat} {w w' : World} {e : Ending} (h : ¬ b ≤ a) (he : e = .returned (.tuple #[U 0, .bool false])) (hw : Below w.heap.size w w') : SubPost a b w e w' := by
  unfold SubPost; rw [if_neg h, decide_eq_false h]; exact ⟨he, hw⟩
/-- the state at the head of Sub's loop -/
def SubRel (a b : Nat) (w : World) (c i : Value) (wr : World) : Prop :=
  ∃ (k d : Nat) (f : Nat → Nat), k ≤ 4 ∧ i = .int .i64 (k : Nat) ∧ c = .int .u64 (d : Nat) ∧ d ≤ 1 ∧ (∀ j, f j < 2 ^ 64) ∧
    val f k + val (limb b) k = val (limb a) k + d * 2 ^ (64 * k) ∧
    Arr .u64 wr w.heap.size 4 (limb a) ∧ Arr .u64 wr (w.heap.size + 1) 4 (limb b) ∧ Arr .u64 wr (w.heap.size + 1 + 1) 4 (fun _ => 0) ∧ Arr .u64 wr (w.heap.size + 1 + 1 + 1) 4 f ∧
    Below w.heap.size w wr ∧ w.heap.size + 1 + 1 + 1 < wr.heap.size

end Go.Proofs.YtamhlpjiiplmgaaDoor
