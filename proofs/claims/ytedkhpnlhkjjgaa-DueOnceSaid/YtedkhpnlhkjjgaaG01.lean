/- How slices of bytes that come in are opened. -/
import Derived.Test.YtedkhpnlhkjjgaaG00
import Derived.ChangeSlices
import Derived.Carry
import Derived.Maps.OwnSet
import Derived.Maps.OwnOps
import Derived.Maps.Views
import Derived.Deep.AppendLies
import Derived.Test.YtedkhpnlhkjjgaaProg
import Derived.Lib.Hide
namespace Go.Proofs.Ytedkhpnlhkjjgaa
open Go.ChangeShapes Go.WideShapes Go.ChangeAt Go.RowKit

theorem cellsU8 : Try.prog.cellsOf 5 = 1 := by kernel_rfl
section
variable {H : Type} {enc : TypeId × Value → H} {W : World} {base : Nat}
set_option maxRecDepth 100000 in
theorem open_bl {v : Value} {d : DataW H} {p : List MemPlace} (hv : Value.okWide Try.prog W .any base 56 v) (h : DataW.Trod enc Try.prog W 0 (fun _ => true) true 56 v d p) :
    ∃ A n c f, v = .slice A n c ∧ Sl W A n f := by
  obtain ⟨a0, n, c, rfl⟩ := okWide_slice Try.underlying56 hv
  obtain ⟨fuel, hf⟩ := h
  rcases open_ints Try.underlying56 Try.underlying5 cellsU8 hf with ⟨hcs, hx⟩ | ⟨a, len', cap', zs, hcs, _, hl, hm, hz, hx, hcell, hwz⟩
  · simp [Value.cells] at hcs
    obtain ⟨rfl, rfl, rfl⟩ := hcs
    exact ⟨none, 0, 0, fun _ => 0, rfl, fun _ => by decide, fun h => absurd h (by omega)⟩
  · simp only [Value.cells, List.cons.injEq, Value.slice.injEq, and_true] at hcs
    obtain ⟨rfl, rfl, rfl⟩ := hcs
    simp only [if_true] at hz
    have hb : ∀ i, 0 ≤ zs.getD i 0 ∧ zs.getD i 0 < 256 := fun i => by
      rcases Nat.lt_or_ge i zs.length with hi | hi
      · have h1 := hwz (zs.getD i 0) (by simp [List.getD, List.getElem?_eq_getElem hi])
        have h2 := bounds_u8 h1
        omega
      · simp only [List.getD, List.getElem?_eq_none hi, Option.getD_none]; decide
    refine ⟨some a, n, c, fun i => (zs.getD i 0).toNat, rfl, fun i => by have := hb i; omega, fun hn => ?_⟩
    have hc0 := hcell 0 (by omega)
    have hlt := World.block_lt_of_cell? W _ hc0
    obtain ⟨g, o, sp⟩ := a
    have hspot : sp = none := by simpa [Addr.add] using World.cell?_spot hc0
    subst hspot
    exact ⟨g, o, rfl, hlt, fun i hi => by
      have h1 := hcell i (by omega)
      have h2 := (hb i).1
      rw [add_plain] at h1
      rw [h1, Int.toNat_of_nonneg h2]⟩
set_option maxRecDepth 100000 in
theorem open_bl2 {v : Value} {d : DataW H} {p : List MemPlace} (hv : Value.okWide Try.prog W .any base 56 v) (h : DataW.Trod enc Try.prog W 0 (fun _ => true) true 56 v d p) :
    ∃ A n c f, v = .slice A n c ∧ Sl W A n f ∧ (A = none → n = 0 ∧ c = 0) := by
  obtain ⟨a0, n, c, rfl⟩ := okWide_slice Try.underlying56 hv
  obtain ⟨fuel, hf⟩ := h
  rcases open_ints Try.underlying56 Try.underlying5 cellsU8 hf with ⟨hcs, hx⟩ | ⟨a, len', cap', zs, hcs, _, hl, hm, hz, hx, hcell, hwz⟩
  · simp [Value.cells] at hcs
    obtain ⟨rfl, rfl, rfl⟩ := hcs
    exact ⟨none, 0, 0, fun _ => 0, rfl, ⟨fun _ => by decide, fun h => absurd h (by omega)⟩, fun _ => ⟨rfl, rfl⟩⟩
  · simp only [Value.cells, List.cons.injEq, Value.slice.injEq, and_true] at hcs
    obtain ⟨rfl, rfl, rfl⟩ := hcs
    simp only [if_true] at hz
    have hb : ∀ i, 0 ≤ zs.getD i 0 ∧ zs.getD i 0 < 256 := fun i => by
      rcases Nat.lt_or_ge i zs.length with hi | hi
      · have h1 := hwz (zs.getD i 0) (by simp [List.getD, List.getElem?_eq_getElem hi])
        have h2 := bounds_u8 h1
        omega
      · simp only [List.getD, List.getElem?_eq_none hi, Option.getD_none]; decide
    refine ⟨some a, n, c, fun i => (zs.getD i 0).toNat, rfl, ⟨fun i => by have := hb i; omega, fun hn => ?_⟩, fun h => by cases h⟩
    have hc0 := hcell 0 (by omega)
    have hlt := World.block_lt_of_cell? W _ hc0
    obtain ⟨g, o, sp⟩ := a
    have hspot : sp = none := by simpa [Addr.add] using World.cell?_spot hc0
    subst hspot
    exact ⟨g, o, rfl, hlt, fun i hi => by
      have h1 := hcell i (by omega)
      have h2 := (hb i).1
      rw [add_plain] at h1
      rw [h1, Int.toNat_of_nonneg h2]⟩
end
end Go.Proofs.Ytedkhpnlhkjjgaa

namespace Go.Proofs.Ytedkhpnlhkjjgaa
open Go.RowKit Go.Maps

def keq (a b : ByteArray) : Bool := decide (a.data.toList = b.data.toList)
theorem keq_iff {a b : ByteArray} : keq a b = true ↔ a = b := by
  unfold keq
  rw [decide_eq_true_eq]
  constructor
  · intro h
    cases a with | mk a => cases b with | mk b =>
    have := Array.toList_inj.1 h
    subst this; rfl
  · intro h; rw [h]
theorem keq_ne {a b : ByteArray} (h : a ≠ b) : keq a b = false := by
  cases e : keq a b with
  | false => rfl
  | true => exact absurd (keq_iff.1 e) h
theorem keq_self (a : ByteArray) : keq a a = true := keq_iff.2 rfl
abbrev SL := List (ByteArray × ByteArray)
def skeys (L : SL) : List ByteArray := L.map (·.1)
def sget (L : SL) (k : ByteArray) : Option ByteArray := (L.find? (fun p => keq p.1 k)).map (·.2)
def klo (ks : List ByteArray) (x : ByteArray) : Nat := ks.countP (fun y => decide (y.data.toList < x.data.toList))
def sset (L : SL) (k v : ByteArray) : SL := if (sget L k).isSome then L.map (fun p => if keq p.1 k then (k, v) else p) else L.take (klo (skeys L) k) ++ [(k, v)] ++ L.drop (klo (skeys L) k)
def sdel (L : SL) (k : ByteArray) : SL := L.filter (fun p => !(keq p.1 k))
def Rising (ks : List ByteArray) : Prop := ks.Pairwise (fun a b => a.data.toList < b.data.toList)

theorem sget_none {L : SL} {k : ByteArray} (h : (sget L k).isSome = false) : ∀ p ∈ L, (keq p.1 k) = false := by
  unfold sget at h
  rw [Option.isSome_map, Option.isSome_eq_false_iff] at h
  intro p hp
  have := List.find?_eq_none.1 (Option.isNone_iff_eq_none.1 h) p hp
  simpa using this
theorem find_map_same (k v : ByteArray) : ∀ L : SL, (sget L k).isSome = true → sget (L.map (fun p => if keq p.1 k then (k, v) else p)) k = some v
  | [], h => by simp [sget] at h
  | p :: r, h => by
    unfold sget at h ⊢
    rw [List.map_cons, List.find?_cons]
    by_cases hp : (keq p.1 k) = true
    · rw [if_pos hp]
      simp [keq_self]
    · rw [if_neg hp]
      have hp' : (keq p.1 k) = false := by simpa using hp
      rw [hp']
      rw [List.find?_cons, hp'] at h
      exact find_map_same k v r h
theorem find_map_other (k v k' : ByteArray) (hk : k' ≠ k) : ∀ L : SL, sget (L.map (fun p => if keq p.1 k then (k, v) else p)) k' = sget L k'
  | [] => rfl
  | p :: r => by
    unfold sget
    rw [List.map_cons, List.find?_cons, List.find?_cons]
    have ih := find_map_other k v k' hk r
    unfold sget at ih
    by_cases hp : (keq p.1 k) = true
    · rw [if_pos hp]
      have e : p.1 = k := keq_iff.1 hp
      have h1 : keq k k' = false := keq_ne fun h => hk h.symm
      rw [e, h1]
      exact ih
    · rw [if_neg hp]
      by_cases hq : (keq p.1 k') = true
      · rw [hq]
      · have hq' : (keq p.1 k') = false := by simpa using hq
        rw [hq']
        exact ih
theorem find_ins (k v k' : ByteArray) (A B : SL) : sget (A ++ [(k, v)] ++ B) k' = if (sget A k').isSome then sget A k' else if k = k' then some v else sget B k' := by
  unfold sget
  rw [List.find?_append, List.find?_append]
  cases hA : List.find? (fun p => keq p.1 k') A with
  | some p => simp
  | none =>
    by_cases e : k = k'
    · subst e; simp [keq_self]
    · have : keq k k' = false := keq_ne e
      simp [this, e]
theorem sget_append (A B : SL) (k' : ByteArray) : sget (A ++ B) k' = if (sget A k').isSome then sget A k' else sget B k' := by
  unfold sget
  rw [List.find?_append]
  cases hA : List.find? (fun p => keq p.1 k') A with
  | some p => simp
  | none => simp
theorem sget_of_none {L : SL} {k : ByteArray} (h : ∀ p ∈ L, (keq p.1 k) = false) : sget L k = none := by
  unfold sget
  rw [List.find?_eq_none.2 (fun p hp => by rw [h p hp]; decide)]
  rfl
/-- what was set is there; the rest is as it was -/
theorem sget_sset (L : SL) (k v k' : ByteArray) : sget (sset L k v) k' = if k' = k then some v else sget L k' := by
  unfold sset
  cases h : (sget L k).isSome with
  | true =>
    rw [if_pos rfl]
    by_cases e : k' = k
    · rw [if_pos e, e]; exact find_map_same k v L h
    · rw [if_neg e]; exact find_map_other k v k' e L
  | false =>
    rw [if_neg (by decide)]
    have hn := sget_none h
    rw [find_ins]
    by_cases e : k' = k
    · rw [if_pos e, if_pos e.symm]
      have : sget (L.take (klo (skeys L) k)) k' = none := sget_of_none (fun p hp => by rw [e]; exact hn p (List.mem_of_mem_take hp))
      rw [this]; rfl
    · have h2 := sget_append (L.take (klo (skeys L) k)) (L.drop (klo (skeys L) k)) k'
      rw [List.take_append_drop] at h2
      rw [if_neg e, h2, if_neg (fun h : k = k' => e h.symm)]
theorem sget_sdel (L : SL) (k k' : ByteArray) : sget (sdel L k) k' = if k' = k then none else sget L k' := by
  by_cases e : k' = k
  · rw [if_pos e, e]
    exact sget_of_none (fun p hp => by have := (List.mem_filter.1 hp).2; simpa using this)
  · rw [if_neg e]
    unfold sget sdel
    rw [List.find?_filter]
    congr 2
    funext p
    by_cases hp : (keq p.1 k') = true
    · have : p.1 = k' := keq_iff.1 hp
      have h1 : keq p.1 k = false := by rw [this]; exact keq_ne e
      rw [hp, h1]; rfl
    · have hp' : (keq p.1 k') = false := by simpa using hp
      rw [hp']; simp

/-! ### a map that reads as the list -/
theorem lit_inj {a b : ByteArray} (h : (Lit.string a.data.toList) = (Lit.string b.data.toList)) : a = b := by
  cases a with | mk a => cases b with | mk b =>
  simp only [Lit.string.injEq] at h
  have := Array.toList_inj.1 h
  subst this; rfl
structure Rep (D : DataW Unit) (L : SL) : Prop where
  td : Tidy D
  has : ∀ k : ByteArray, Maps.has D (.string k.data.toList) = (sget L k).isSome
  at_ : ∀ (k : ByteArray) (z : DataW Unit), D.atKey (.string k.data.toList) z = match sget L k with | some v => .lit (.string v.data.toList) | none => z
  sz : Maps.size D = L.length
theorem Rep.empty : Rep (.map []) [] := ⟨tidy_empty, fun _ => rfl, fun _ _ => rfl, rfl⟩
theorem isKeyLit_string (l : List UInt8) : WideAt.IsKeyLit (.string l) := by unfold WideAt.IsKeyLit; first | trivial | simp
theorem Rep.set {D : DataW Unit} {L : SL} (h : Rep D L) (k v : ByteArray) : Rep (D.put (.string k.data.toList) (.lit (.string v.data.toList))) (sset L k v) := by
  refine ⟨h.td.put (isKeyLit_string _) _, fun k' => ?_, fun k' z => ?_, ?_⟩
  · rw [sget_sset]
    by_cases e : k' = k
    · rw [if_pos e, e, has_put_same h.td.isMap (isKeyLit_string _)]; rfl
    · rw [if_neg e, has_put_other (fun hh => e (lit_inj hh)), h.has]
  · rw [sget_sset]
    by_cases e : k' = k
    · rw [if_pos e, e, atKey_put_same h.td.isMap (isKeyLit_string _)]
    · rw [if_neg e, atKey_put_other (fun hh => e (lit_inj hh)), h.at_]
  · rw [size_put h.td, h.has, h.sz]
    unfold sset
    cases hh : (sget L k).isSome with
    | true => simp
    | false => simp; omega
theorem Rep.get {D : DataW Unit} {L : SL} (h : Rep D L) {k s : ByteArray} (hs : D.atKey (.string k.data.toList) (.lit (.string [])) = .lit (.string s.data.toList)) : s = (sget L k).getD { data := #[] } := by
  rw [h.at_] at hs
  cases hg : sget L k with
  | none => rw [hg] at hs; simp only [DataW.lit.injEq, Lit.string.injEq] at hs; cases s with | mk a => simp only at hs; have := Array.toList_inj.1 (show #[].toList = a.toList from hs); subst this; rfl
  | some v => rw [hg] at hs; simp only [DataW.lit.injEq] at hs; exact (lit_inj hs).symm
/-! ### keys that rise -/
theorem klo_le (ks : List ByteArray) (x : ByteArray) : klo ks x ≤ ks.length := List.countP_le_length
end Go.Proofs.Ytedkhpnlhkjjgaa

namespace Go.Proofs.Ytedkhpnlhkjjgaa
open Go.RowKit

def kbyte (n i : Nat) : Nat := n / 2 ^ (8 * i) % 256
theorem kbyte_lt (n i : Nat) : kbyte n i < 256 := Nat.mod_lt _ (by decide)
theorem kbyte_run (n i : Nat) : IntKind.u8.wrap ((n : Int) / 2 ^ (8 * i)) = ((kbyte n i : Nat) : Int) := by
  unfold kbyte
  rw [IntKind.wrap_u8', Int.natCast_emod, Int.natCast_ediv, Int.natCast_pow]; rfl
/-- the eight bytes of a number, the greatest first -/
def D8 (n : Nat) : Value := .agg #[.int .u8 (kbyte n 7 : Nat), .int .u8 (kbyte n 6 : Nat), .int .u8 (kbyte n 5 : Nat), .int .u8 (kbyte n 4 : Nat), .int .u8 (kbyte n 3 : Nat), .int .u8 (kbyte n 2 : Nat), .int .u8 (kbyte n 1 : Nat), .int .u8 (kbyte n 0 : Nat)]
def DigPost (n : Nat) (w : World) (e : Ending) (w' : World) : Prop := e = .returned (D8 n) ∧ Below w.heap.size w w'
def KDigRel (n : Nat) (w : World) (i : Value) (wr : World) : Prop :=
  ∃ (k : Nat) (f : Nat → Nat), k ≤ 8 ∧ i = .int .i64 (k : Nat) ∧ (∀ j, 8 - k ≤ j → j < 8 → f j = kbyte n (7 - j)) ∧
    Arr .u8 wr w.heap.size 8 (fun _ => 0) ∧ Arr .u8 wr (w.heap.size + 1) 8 f ∧ Below w.heap.size w wr ∧ w.heap.size + 1 < wr.heap.size

set_option maxRecDepth 100000 in
set_option maxHeartbeats 1000000 in
theorem dig_walk (n : Nat) (w : World) (hn : n < 2 ^ 63) : Calls Try.prog 110 #[.int .i64 (n : Nat)] w (DigPost n w) := by
  have Hn := Lib.hid hn
  clear hn
  go_enter Try.func110, Try.ntmps110
  go_wp2
  go_loopw [5] (KDigRel n w) (fun i _ => 8 - (intOf i).toNat)
  case atStart =>
    refine ⟨0, fun _ => 0, by omega, rfl, fun j h1 h2 => by omega, ?_, ?_, ((Below.refl _ _).alloc (Nat.le_refl _) _).alloc (by simp only [World.size_alloc]; omega) _, by simp⟩
    · exact (Arr.new8 (f := fun _ => 0) rfl).alloc _
    · exact Arr.new8 (f := fun _ => 0) (by simp)
  case round =>
    obtain ⟨k, f, hk, rfl, hf, hz, hs, hbel, hsz⟩ := hrel
    have Hf := Lib.hid hf
    clear hf
    by_cases hlt : k < 8
    · have b1 := kbyte_run n k
      have f1 := hs.free (7 - k) (by omega)
      have f2 := hs.cell (7 - k) (by omega)
      have i2 : (7 : Int) - (k : Int) = ((7 - k : Nat) : Int) := by omega
      have i3 : ((7 - k : Nat) : Int) < 8 := by omega
      go_wp2
      go_roundw
      case rel =>
        refine ⟨k + 1, upd f (7 - k) (kbyte n k), by omega, by go_num, fun j h1 h2 => ?_, hz.set_far (by omega), hs.set (by omega), hbel.setCell (by simp) _, by rw [World.size_setCell]; exact hsz⟩
        by_cases hj : j = 7 - k
        · rw [hj, upd_same, show 7 - (7 - k) = k by omega]
        · rw [upd_ne _ hj]; exact Hf.out j (by omega) h2
      case measure => simp [intOf]; omega
    · obtain rfl : k = 8 := by omega
      have hs' : Arr .u8 wr (w.heap.size + 1) 8 (fun j => kbyte n (7 - j)) := hs.congr fun j hj => Hf.out j (by omega) hj
      obtain ⟨s0, s1, s2, s3, s4, s5, s6, s7⟩ := hs'.cells8
      obtain ⟨y0, y1, y2, y3, y4, y5, y6, y7⟩ := hz.frees8
      obtain ⟨z0, z1, z2, z3, z4, z5, z6, z7⟩ := hz.cells8
      go_wp2
      refine bodyPost_ret (v := D8 n) (by simp [results, Try.results110, go_sem, z0, z1, z2, z3, z4, z5, z6, z7, D8]) rfl ⟨rfl, ?_⟩
      exact below_set8 hbel (by omega)
end Go.Proofs.Ytedkhpnlhkjjgaa
