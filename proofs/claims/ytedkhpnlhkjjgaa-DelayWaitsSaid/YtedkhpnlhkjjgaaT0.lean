/- The store, plain: a list of entries, by rising keys; what a map reads as. No program's functions. -/
import Derived.Test.YtedkhpnlhkjjgaaKit
import Derived.Maps.OwnSet
import Derived.Maps.OwnOps
import Derived.Maps.Views
import Derived.Deep.AppendLies
namespace Go.Proofs.Ytedkhpnlhkjjgaa
open Go.RowKit Go.Maps

def keq (a b : ByteArray) : Bool := decide (a.data.toList = b.data.toList)
theorem keq_iff {a b : ByteArray} : keq a b = true ↔ a = b := by
  unfold keq
  rw [decide_eq_true_eq]
  constructor
  · intro h
    cases a with | mk a => cases b with | mk b =>
    have := Array.toList_inj.1 h
    subst this; rfl
  · intro h; rw [h]
theorem keq_ne {a b : ByteArray} (h : a ≠ b) : keq a b = false := by
  cases e : keq a b with
  | false => rfl
  | true => exact absurd (keq_iff.1 e) h
theorem keq_self (a : ByteArray) : keq a a = true := keq_iff.2 rfl
abbrev SL := List (ByteArray × ByteArray)
def skeys (L : SL) : List ByteArray := L.map (·.1)
def sget (L : SL) (k : ByteArray) : Option ByteArray := (L.find? (fun p => keq p.1 k)).map (·.2)
def klo (ks : List ByteArray) (x : ByteArray) : Nat := ks.countP (fun y => decide (y.data.toList < x.data.toList))
def sset (L : SL) (k v : ByteArray) : SL := if (sget L k).isSome then L.map (fun p => if keq p.1 k then (k, v) else p) else L.take (klo (skeys L) k) ++ [(k, v)] ++ L.drop (klo (skeys L) k)
def sdel (L : SL) (k : ByteArray) : SL := L.filter (fun p => !(keq p.1 k))
def Rising (ks : List ByteArray) : Prop := ks.Pairwise (fun a b => a.data.toList < b.data.toList)

theorem sget_none {L : SL} {k : ByteArray} (h : (sget L k).isSome = false) : ∀ p ∈ L, (keq p.1 k) = false := by
  unfold sget at h
  rw [Option.isSome_map, Option.isSome_eq_false_iff] at h
  intro p hp
  have := List.find?_eq_none.1 (Option.isNone_iff_eq_none.1 h) p hp
  simpa using this
theorem find_map_same (k v : ByteArray) : ∀ L : SL, (sget L k).isSome = true → sget (L.map (fun p => if keq p.1 k then (k, v) else p)) k = some v
  | [], h => by simp [sget] at h
  | p :: r, h => by
    unfold sget at h ⊢
    rw [List.map_cons, List.find?_cons]
    by_cases hp : (keq p.1 k) = true
    · rw [if_pos hp]
      simp [keq_self]
    · rw [if_neg hp]
      have hp' : (keq p.1 k) = false := by simpa using hp
      rw [hp']
      rw [List.find?_cons, hp'] at h
      exact find_map_same k v r h
theorem find_map_other (k v k' : ByteArray) (hk : k' ≠ k) : ∀ L : SL, sget (L.map (fun p => if keq p.1 k then (k, v) else p)) k' = sget L k'
  | [] => rfl
  | p :: r => by
    unfold sget
    rw [List.map_cons, List.find?_cons, List.find?_cons]
    have ih := find_map_other k v k' hk r
    unfold sget at ih
    by_cases hp : (keq p.1 k) = true
    · rw [if_pos hp]
      have e : p.1 = k := keq_iff.1 hp
      have h1 : keq k k' = false := keq_ne fun h => hk h.symm
      rw [e, h1]
      exact ih
    · rw [if_neg hp]
      by_cases hq : (keq p.1 k') = true
      · rw [hq]
      · have hq' : (keq p.1 k') = false := by simpa using hq
        rw [hq']
        exact ih
theorem find_ins (k v k' : ByteArray) (A B : SL) : sget (A ++ [(k, v)] ++ B) k' = if (sget A k').isSome then sget A k' else if k = k' then some v else sget B k' := by
  unfold sget
  rw [List.find?_append, List.find?_append]
  cases hA : List.find? (fun p => keq p.1 k') A with
  | some p => simp
  | none =>
    by_cases e : k = k'
    · subst e; simp [keq_self]
    · have : keq k k' = false := keq_ne e
      simp [this, e]
theorem sget_append (A B : SL) (k' : ByteArray) : sget (A ++ B) k' = if (sget A k').isSome then sget A k' else sget B k' := by
  unfold sget
  rw [List.find?_append]
  cases hA : List.find? (fun p => keq p.1 k') A with
  | some p => simp
  | none => simp
theorem sget_of_none {L : SL} {k : ByteArray} (h : ∀ p ∈ L, (keq p.1 k) = false) : sget L k = none := by
  unfold sget
  rw [List.find?_eq_none.2 (fun p hp => by rw [h p hp]; decide)]
  rfl
/-- what was set is there; the rest is as it was -/
theorem sget_sset (L : SL) (k v k' : ByteArray) : sget (sset L k v) k' = if k' = k then some v else sget L k' := by
  unfold sset
  cases h : (sget L k).isSome with
  | true =>
    rw [if_pos rfl]
    by_cases e : k' = k
    · rw [if_pos e, e]; exact find_map_same k v L h
    · rw [if_neg e]; exact find_map_other k v k' e L
  | false =>
    rw [if_neg (by decide)]
    have hn := sget_none h
    rw [find_ins]
    by_cases e : k' = k
    · rw [if_pos e, if_pos e.symm]
      have : sget (L.take (klo (skeys L) k)) k' = none := sget_of_none (fun p hp => by rw [e]; exact hn p (List.mem_of_mem_take hp))
      rw [this]; rfl
    · have h2 := sget_append (L.take (klo (skeys L) k)) (L.drop (klo (skeys L) k)) k'
      rw [List.take_append_drop] at h2
      rw [if_neg e, h2, if_neg (fun h : k = k' => e h.symm)]
theorem sget_sdel (L : SL) (k k' : ByteArray) : sget (sdel L k) k' = if k' = k then none else sget L k' := by
  by_cases e : k' = k
  · rw [if_pos e, e]
    exact sget_of_none (fun p hp => by have := (List.mem_filter.1 hp).2; simpa using this)
  · rw [if_neg e]
    unfold sget sdel
    rw [List.find?_filter]
    congr 2
    funext p
    by_cases hp : (keq p.1 k') = true
    · have : p.1 = k' := keq_iff.1 hp
      have h1 : keq p.1 k = false := by rw [this]; exact keq_ne e
      rw [hp, h1]; rfl
    · have hp' : (keq p.1 k') = false := by simpa using hp
      rw [hp']; simp

/-! ### a map that reads as the list -/
theorem lit_inj {a b : ByteArray} (h : (Lit.string a.data.toList) = (Lit.string b.data.toList)) : a = b := by
  cases a with | mk a => cases b with | mk b =>
  simp only [Lit.string.injEq] at h
  have := Array.toList_inj.1 h
  subst this; rfl
structure Rep (D : DataW Unit) (L : SL) : Prop where
  td : Tidy D
  has : ∀ k : ByteArray, Maps.has D (.string k.data.toList) = (sget L k).isSome
  at_ : ∀ (k : ByteArray) (z : DataW Unit), D.atKey (.string k.data.toList) z = match sget L k with | some v => .lit (.string v.data.toList) | none => z
  sz : Maps.size D = L.length
theorem Rep.empty : Rep (.map []) [] := ⟨tidy_empty, fun _ => rfl, fun _ _ => rfl, rfl⟩
theorem isKeyLit_string (l : List UInt8) : WideAt.IsKeyLit (.string l) := by unfold WideAt.IsKeyLit; first | trivial | simp
theorem Rep.set {D : DataW Unit} {L : SL} (h : Rep D L) (k v : ByteArray) : Rep (D.put (.string k.data.toList) (.lit (.string v.data.toList))) (sset L k v) := by
  refine ⟨h.td.put (isKeyLit_string _) _, fun k' => ?_, fun k' z => ?_, ?_⟩
  · rw [sget_sset]
    by_cases e : k' = k
    · rw [if_pos e, e, has_put_same h.td.isMap (isKeyLit_string _)]; rfl
    · rw [if_neg e, has_put_other (fun hh => e (lit_inj hh)), h.has]
  · rw [sget_sset]
    by_cases e : k' = k
    · rw [if_pos e, e, atKey_put_same h.td.isMap (isKeyLit_string _)]
    · rw [if_neg e, atKey_put_other (fun hh => e (lit_inj hh)), h.at_]
  · rw [size_put h.td, h.has, h.sz]
    unfold sset
    cases hh : (sget L k).isSome with
    | true => simp
    | false => simp; omega
theorem Rep.get {D : DataW Unit} {L : SL} (h : Rep D L) {k s : ByteArray} (hs : D.atKey (.string k.data.toList) (.lit (.string [])) = .lit (.string s.data.toList)) : s = (sget L k).getD { data := #[] } := by
  rw [h.at_] at hs
  cases hg : sget L k with
  | none => rw [hg] at hs; simp only [DataW.lit.injEq, Lit.string.injEq] at hs; cases s with | mk a => simp only at hs; have := Array.toList_inj.1 (show #[].toList = a.toList from hs); subst this; rfl
  | some v => rw [hg] at hs; simp only [DataW.lit.injEq] at hs; exact (lit_inj hs).symm
/-! ### keys that rise -/
theorem klo_le (ks : List ByteArray) (x : ByteArray) : klo ks x ≤ ks.length := List.countP_le_length
end Go.Proofs.Ytedkhpnlhkjjgaa
