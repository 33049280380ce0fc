/- keys.Nums, walked. -/
import Derived.Test.YthloohoefjmmoaaG02
import Derived.Test.YthloohoefjmmoaaG01
import Derived.Test.YthloohoefjmmoaaG00
import Derived.Deep.AppendLies
import Derived.Maps.OwnSet
import Derived.Maps.OwnOps
import Derived.Maps.Views
namespace Go.Proofs.Ythloohoefjmmoaa
open Go.RowKit

theorem one_cell' (w : World) (x : Int) (t : TypeId) : ∀ j u, ([.int .i64 x] : List Value)[j]? = some u → (w.alloc (.cells #[.int .i64 x] t)).cell? ((⟨w.heap.size, 0, none⟩ : Addr).add j) = some u := by
  intro j u h
  match j, h with
  | 0, h => simp at h; subst h; simp [Addr.add]
theorem one_one' (x : Int) : ∀ u ∈ ([.int .i64 x] : List Value), u.oneCell' = true := fun u hu => by simp at hu; subst hu; rfl
theorem drop8 (s : ByteArray) : (s.extract 8 s.size).data.toList = s.data.toList.drop 8 := by
  have hl : s.data.toList.length = s.size := rfl
  rw [ByteArray.data_extract, Array.toList_extract, List.extract_eq_take_drop, List.take_of_length_le (by rw [List.length_drop]; omega)]
theorem infoI64 : (Try.prog.info? 3).map (fun i => (i.zero, i.size, i.bytes)) = some (some (.int .i64 0), 1, 8) := by kernel_rfl
/-- the k-th number of a text -/
def numl (l : List UInt8) : Nat → Nat
  | 0 => 0
  | k + 1 => numl l k * 256 + (l.getD k 0).toNat
theorem numv_numl (v : ByteArray) : ∀ k, numv v k = numl v.data.toList k
  | 0 => rfl
  | k + 1 => by rw [numv, numl, numv_numl v k]
def chunk (v : ByteArray) (i : Nat) : Nat := numl (v.data.toList.drop (8 * i)) 8
def i64n (f : Nat → Nat) (k : Nat) : List Value := (List.range k).map fun i => Value.int .i64 (f i : Nat)
theorem i64n_succ (f : Nat → Nat) (k : Nat) : i64n f (k + 1) = i64n f k ++ [.int .i64 (f k : Nat)] := by simp [i64n, List.range_succ]
def NumsRel (v : ByteArray) (m g : Nat) (w : World) (x y : Value) (wr : World) : Prop :=
  ∃ (k : Nat) (s : ByteArray), k ≤ m ∧ x = .string s ∧ s.data.toList = v.data.toList.drop (8 * k) ∧ s.size = 8 * (m - k) ∧ y = .slice (some ⟨g, 0, none⟩) k m ∧ (∀ i, i < k → chunk v i < 2 ^ 63) ∧
    wr.ownsRow w.heap.size 3 1 (.slice (some ⟨g, 0, none⟩) k m) k (i64n (chunk v) k) ∧ Below w.heap.size w wr ∧ w.heap.size < wr.heap.size
def NumsPost (v : ByteArray) (m : Nat) (w : World) (e : Ending) (w' : World) : Prop :=
  (((∀ i, i < m → chunk v i < 2 ^ 63) ∧ e = .returned (.tuple #[.slice (some ⟨w.heap.size, 0, none⟩) m m, .bool true]) ∧ w'.ownsRow w.heap.size 3 1 (.slice (some ⟨w.heap.size, 0, none⟩) m m) m (i64n (chunk v) m)) ∨
    ((∃ i, i < m ∧ ¬ chunk v i < 2 ^ 63) ∧ e = .returned (.tuple #[.slice none 0 0, .bool false]))) ∧ Below w.heap.size w w'
def lenOf : Value → Nat
  | .string s => s.size
  | _ => 0
set_option maxRecDepth 100000 in
theorem number_ok_c (s : ByteArray) (n : Nat) (w : World) (h : n = numv s 8 ∧ n < 2 ^ 63) (hv : 8 ≤ s.size) (hv2 : (s.size : Int) ≤ 9223372036854775807) : Calls Try.prog 62 #[.string s] w fun e w' => e = .returned (.tuple #[.int .i64 (n : Nat), .bool true]) ∧ w' = w :=
  (number_walk s w hv hv2).mono fun e w' ⟨he, hw⟩ => ⟨by rw [he, ← h.1, decide_eq_true h.2, IntWalk.i64_in _ (by have := h.2; omega)], hw⟩
theorem number_no_c (s : ByteArray) (w : World) (h : ¬ numv s 8 < 2 ^ 63) (hv : 8 ≤ s.size) (hv2 : (s.size : Int) ≤ 9223372036854775807) : Calls Try.prog 62 #[.string s] w fun e w' => (∃ x, e = .returned (.tuple #[.int .i64 x, .bool false])) ∧ w' = w :=
  (number_walk s w hv hv2).mono fun e w' ⟨he, hw⟩ => ⟨⟨IntKind.i64.wrap (numv s 8 : Nat), by rw [he, decide_eq_false h]⟩, hw⟩
set_option maxRecDepth 100000 in
set_option maxHeartbeats 1000000 in
theorem nums_walk (v : ByteArray) (m : Nat) (w : World) (hv : v.size = 8 * m) (hm : m ≤ 100) : Calls Try.prog 54 #[.string v] w (NumsPost v m w) := by
  obtain ⟨i0, hi, hz0, hz1, hz2⟩ := info_parts infoI64
  have hmI : (m : Int) ≤ 100 := by omega
  have e1 : (v.size : Int) = 8 * (m : Int) := by omega
  have e2 : Int.tmod (8 * (m : Int)) 8 = 0 := Int.mul_tmod_right _ _
  have e3 : Int.tdiv (8 * (m : Int)) 8 = m := Int.mul_tdiv_cancel_left _ (by decide)
  go_enter Try.func54, Try.ntmps54
  go_wp2_with (at_make; refine wpList_make_own _ rfl _ _ _ rfl (w.heap.size) 3 i0 (.int .i64 0) 1 Try.underlying68 hi hz0 hz1 .i64 .i64 _ m rfl rfl (by omega) (by rw [hz2]; omega) (by unfold maxLen; omega) (Nat.le_refl _) ?_; intro w1 own1 hg1)
  go_loopw [0, 4] (NumsRel v m w.heap.size w) (fun x _ _ => lenOf x)
  case atStart =>
    have hlt1 := (own1.lt w.heap.size rfl).2
    exact ⟨0, v, Nat.zero_le _, rfl, rfl, by omega, rfl, fun i h => absurd h (by omega), own1, (Below.refl _ _).grown hg1 (Nat.le_refl _) (fun j hj => by cases hj), hlt1⟩
  case round =>
    obtain ⟨k, s, hk, rfl, hs, hsz, rfl, hpos, hown, hbel, hlt0⟩ := hrel
    by_cases hlt : k < m
    · have hne : s.toList.isEmpty = false := by
        rw [ByteArray.toList_eq, hs, List.isEmpty_eq_false_iff]
        intro e
        have := congrArg List.length e
        have hl : v.data.toList.length = v.size := rfl
        rw [List.length_drop] at this
        simp at this
        omega
      obtain ⟨n, hn⟩ : ∃ n, n = numv s 8 := ⟨_, rfl⟩
      have Hn := Lib.hid hn
      have Hs := Lib.hid hs
      have Hpos := Lib.hid hpos
      clear hn hs hpos
      have hsI : (s.size : Int) ≤ 800 := by omega
      have hs8 : (8 : Int) ≤ s.size := by omega
      have cases2 : (∃ h : Hid (n < 2 ^ 63), True) ∨ (∃ h : Hid (¬ n < 2 ^ 63), True) := by
        by_cases h : n < 2 ^ 63
        · exact .inl ⟨Lib.hid h, trivial⟩
        · exact .inr ⟨Lib.hid h, trivial⟩
      rcases cases2 with ⟨hb, _⟩ | ⟨hb, _⟩
      · go_wp2_with (first
          | (go_at_call 62; refine (number_ok_c s n _ ⟨Hn.out, hb.out⟩ (by omega) (by omega)).mono ?_; rintro e w2 ⟨rfl, rfl⟩)
          | (at_builtin; refine wpList_append_fits _ rfl (.tmp 26) (.tmp 28) _ rfl w.heap.size 3 i0 1 Try.underlying68 hi hz1 w.heap.size k m (i64n (chunk v) k) rfl (hown.alloc _) ⟨w2.heap.size, 0, none⟩ 1 1 [.int .i64 (n : Nat)] rfl rfl (one_cell' _ _ _) (one_one' _) (by omega) ?_; intro w3 hown3 hg3))
        go_roundw
        case rel =>
          have hn2 : n = chunk v k := by rw [Hn.out, numv_numl, Hs.out]; rfl
          refine ⟨k + 1, s.extract 8 (8 * (m - k)), by omega, rfl, ?_, ?_, rfl, ?_, ?_, ?_, ?_⟩
          · rw [← hsz, drop8, Hs.out, List.drop_drop]; rfl
          · rw [ByteArray.size_extract]; omega
          · intro i hi'
            rcases Nat.lt_or_ge i k with h | h
            · exact Hpos.out i h
            · rw [show i = k by omega, ← hn2]; exact hb.out
          · rw [i64n_succ, ← hn2]; exact hown3
          · exact (hbel.alloc (Nat.le_of_lt hlt0) _).grown hg3 (by simp; omega) (fun j hj => by cases hj; exact Nat.le_refl _)
          · have := hg3.size; simp at this; omega
        case measure => simp [lenOf]; omega
      · go_wp2_with (go_at_call 62; refine (number_no_c s _ (by rw [← Hn.out]; exact hb.out) (by omega) (by omega)).mono ?_; rintro e w2 ⟨⟨x, rfl⟩, rfl⟩)
        refine bodyPost_ret (v := .tuple #[.slice none 0 0, .bool false]) (by simp [results, Try.results54, go_sem]) rfl ⟨.inr ⟨⟨k, hlt, ?_⟩, rfl⟩, hbel⟩
        have hn2 : n = chunk v k := by rw [Hn.out, numv_numl, Hs.out]; rfl
        rw [← hn2]; exact hb.out
    · obtain rfl : k = m := by omega
      have hne : s.toList.isEmpty = true := by
        rw [ByteArray.toList_eq, List.isEmpty_iff]
        exact List.eq_nil_of_length_eq_zero (by show s.size = 0; omega)
      have Hs := Lib.hid hs
      have Hpos := Lib.hid hpos
      clear hs hpos
      go_wp2
      refine bodyPost_ret (v := .tuple #[.slice (some ⟨w.heap.size, 0, none⟩) k k, .bool true]) (by simp [results, Try.results54, go_sem]) rfl ⟨.inl ⟨Hpos.out, rfl, hown⟩, hbel⟩
end Go.Proofs.Ythloohoefjmmoaa

namespace Go.Proofs.Ythloohoefjmmoaa
open Go.RowKit

theorem hp_lt {w : World} {p : Nat} {o : Obj} (h : w.heap[p]? = some o) : p < w.heap.size := (Array.getElem?_eq_some_iff.1 h).1
theorem hp_cell {w : World} {p i : Nat} {cs : Array Value} {t : TypeId} {fr : Nat × Nat} (h : w.heap[p]? = some (.cells cs t fr)) : w.cell? ⟨p, i, none⟩ = cs[i]? := by
  simp [World.cell?, h]
theorem hp_free {w : World} {p i : Nat} {cs : Array Value} {t : TypeId} (h : w.heap[p]? = some (.cells cs t (0, 0))) : w.frozen? ⟨p, i, none⟩ = false := by
  simp [World.frozen?, h]
/-- nil, or a store without entries -/
def SDead (w : World) (p : Value) : Prop :=
  p = .pointer none ∨ ∃ b, p = .pointer (some ⟨b, 0, none⟩) ∧ b < w.heap.size ∧ w.cell? ⟨b, 0, none⟩ = some (.map none)
theorem SDead.below {w w' : World} {p : Value} (h : SDead w p) (hb : Below w.heap.size w w') : SDead w' p := by
  rcases h with h | ⟨b, h1, h2, h3⟩
  · exact .inl h
  · exact .inr ⟨b, h1, Nat.lt_of_lt_of_le h2 hb.size, by rw [hb.cell (p := ⟨b, 0, none⟩) h2]; exact h3⟩
set_option maxRecDepth 100000 in
set_option maxHeartbeats 400000 in
theorem made_dead (p : Value) (w : World) (h : SDead w p) : Calls Try.prog 31 #[p] w fun e w' => e = .returned (.bool false) ∧ w = w' := by
  rcases h with rfl | ⟨b, rfl, h2, h3⟩
  · go_enter Try.func31, Try.ntmps31
    go_wp2
    go_ret
    exact ⟨rfl, rfl⟩
  · have hm := fun w => run_neq_map_nil (P := Try.prog) w 51 _ _ none Try.underlying51
    go_enter Try.func31, Try.ntmps31
    go_wp2
    go_ret
    exact ⟨rfl, rfl⟩
set_option maxRecDepth 100000 in
set_option maxHeartbeats 400000 in
theorem sget_dead (p : Value) (k : ByteArray) (w : World) (h : SDead w p) : Calls Try.prog 27 #[p, .string k] w fun e w' => e = .returned (.tuple #[.string { data := #[] }, .bool false]) ∧ w = w' := by
  have HM := Lib.hid (made_dead p w h)
  clear h
  go_enter Try.func27, Try.ntmps27
  go_wp2_with (go_at_call 31; refine HM.out.mono ?_; rintro e w1 ⟨rfl, rfl⟩)
  go_ret2
  exact ⟨rfl, rfl⟩
theorem nums_none (w : World) : Calls Try.prog 54 #[.string { data := #[] }] w fun e w' => e = .returned (.tuple #[.slice (some ⟨w.heap.size, 0, none⟩) 0 0, .bool true]) ∧ Below w.heap.size w w' := by
  refine (nums_walk { data := #[] } 0 w rfl (by omega)).mono ?_
  rintro e w' ⟨⟨_, he, _⟩ | ⟨⟨i, hi, _⟩, _⟩, hb⟩
  · exact ⟨he, hb⟩
  · omega
set_option maxRecDepth 100000 in
set_option maxHeartbeats 400000 in
theorem numbers_dead (p : Value) (k : ByteArray) (w : World) (h : SDead w p) : Calls Try.prog 38 #[.func (Fn.func 27) #[p] #[], .string k] w fun e w' => e = .returned (.slice (some ⟨w.heap.size, 0, none⟩) 0 0) ∧ Below w.heap.size w w' := by
  have HG := Lib.hid (sget_dead p k w h)
  have HN := Lib.hid (nums_none w)
  clear h
  go_enter Try.func38, Try.ntmps38
  go_wp2_with (first
    | (go_at_call 54; refine HN.out.mono ?_; rintro e w1 ⟨rfl, hb⟩; have HB := Lib.hid hb; clear hb)
    | (go_at_call 27; refine HG.out.mono ?_; rintro e w1 ⟨rfl, rfl⟩))
  go_ret
  exact ⟨rfl, HB.out⟩
set_option maxRecDepth 100000 in
set_option maxHeartbeats 400000 in
theorem row_dead (p : Value) (k : ByteArray) (w : World) (h : SDead w p) : Calls Try.prog 25 #[p, .string k] w fun e w' => e = .returned (.slice (some ⟨w.heap.size, 0, none⟩) 0 0) ∧ Below w.heap.size w w' := by
  have HN := Lib.hid (numbers_dead p k w h)
  clear h
  go_enter Try.func25, Try.ntmps25
  go_wp2_with (go_at_call 38; refine HN.out.mono ?_; rintro e w1 ⟨rfl, hb⟩; have HB := Lib.hid hb; clear hb)
  go_ret
  exact ⟨rfl, HB.out⟩
/-- delay's nothing -/
def dv0 : Value := .agg #[.bool false, .int .i64 0, .int .i64 0, .int .i64 0, .bool false]
def two2 (a b : Int) : Nat → Int
  | 0 => a
  | _ => b
theorem il2 (a b : Int) (w : World) (t : TypeId) (ha : a < 2 ^ 63) (hb : b < 2 ^ 63) : Il (w.alloc (.cells #[.int .i64 a, .int .i64 b] t)) (some ⟨w.heap.size, 0, none⟩) 2 (two2 a b) := by
  refine ⟨fun i => by unfold two2; split <;> assumption, fun _ => ⟨w.heap.size, 0, rfl, by simp, fun i hi => ?_⟩⟩
  rcases (by omega : i = 0 ∨ i = 1) with rfl | rfl
  · rw [World.cell?_alloc_new]; rfl
  · rw [World.cell?_alloc_new]; rfl
end Go.Proofs.Ythloohoefjmmoaa

namespace Go.Proofs.Ythloohoefjmmoaa
open Go.RowKit Go.Maps

def keq (a b : ByteArray) : Bool := decide (a.data.toList = b.data.toList)
theorem keq_iff {a b : ByteArray} : keq a b = true ↔ a = b := by
  unfold keq
  rw [decide_eq_true_eq]
  constructor
  · intro h
    cases a with | mk a => cases b with | mk b =>
    have := Array.toList_inj.1 h
    subst this; rfl
  · intro h; rw [h]
theorem keq_ne {a b : ByteArray} (h : a ≠ b) : keq a b = false := by
  cases e : keq a b with
  | false => rfl
  | true => exact absurd (keq_iff.1 e) h
theorem keq_self (a : ByteArray) : keq a a = true := keq_iff.2 rfl
abbrev SL := List (ByteArray × ByteArray)
def skeys (L : SL) : List ByteArray := L.map (·.1)
def sget (L : SL) (k : ByteArray) : Option ByteArray := (L.find? (fun p => keq p.1 k)).map (·.2)
def klo (ks : List ByteArray) (x : ByteArray) : Nat := ks.countP (fun y => decide (y.data.toList < x.data.toList))
def sset (L : SL) (k v : ByteArray) : SL := if (sget L k).isSome then L.map (fun p => if keq p.1 k then (k, v) else p) else L.take (klo (skeys L) k) ++ [(k, v)] ++ L.drop (klo (skeys L) k)
def sdel (L : SL) (k : ByteArray) : SL := L.filter (fun p => !(keq p.1 k))
def Rising (ks : List ByteArray) : Prop := ks.Pairwise (fun a b => a.data.toList < b.data.toList)

theorem sget_none {L : SL} {k : ByteArray} (h : (sget L k).isSome = false) : ∀ p ∈ L, (keq p.1 k) = false := by
  unfold sget at h
  rw [Option.isSome_map, Option.isSome_eq_false_iff] at h
  intro p hp
  have := List.find?_eq_none.1 (Option.isNone_iff_eq_none.1 h) p hp
  simpa using this
theorem find_map_same (k v : ByteArray) : ∀ L : SL, (sget L k).isSome = true → sget (L.map (fun p => if keq p.1 k then (k, v) else p)) k = some v
  | [], h => by simp [sget] at h
  | p :: r, h => by
    unfold sget at h ⊢
    rw [List.map_cons, List.find?_cons]
    by_cases hp : (keq p.1 k) = true
    · rw [if_pos hp]
      simp [keq_self]
    · rw [if_neg hp]
      have hp' : (keq p.1 k) = false := by simpa using hp
      rw [hp']
      rw [List.find?_cons, hp'] at h
      exact find_map_same k v r h
theorem find_map_other (k v k' : ByteArray) (hk : k' ≠ k) : ∀ L : SL, sget (L.map (fun p => if keq p.1 k then (k, v) else p)) k' = sget L k'
  | [] => rfl
  | p :: r => by
    unfold sget
    rw [List.map_cons, List.find?_cons, List.find?_cons]
    have ih := find_map_other k v k' hk r
    unfold sget at ih
    by_cases hp : (keq p.1 k) = true
    · rw [if_pos hp]
      have e : p.1 = k := keq_iff.1 hp
      have h1 : keq k k' = false := keq_ne fun h => hk h.symm
      rw [e, h1]
      exact ih
    · rw [if_neg hp]
      by_cases hq : (keq p.1 k') = true
      · rw [hq]
      · have hq' : (keq p.1 k') = false := by simpa using hq
        rw [hq']
        exact ih
theorem find_ins (k v k' : ByteArray) (A B : SL) : sget (A ++ [(k, v)] ++ B) k' = if (sget A k').isSome then sget A k' else if k = k' then some v else sget B k' := by
  unfold sget
  rw [List.find?_append, List.find?_append]
  cases hA : List.find? (fun p => keq p.1 k') A with
  | some p => simp
  | none =>
    by_cases e : k = k'
    · subst e; simp [keq_self]
    · have : keq k k' = false := keq_ne e
      simp [this, e]
theorem sget_append (A B : SL) (k' : ByteArray) : sget (A ++ B) k' = if (sget A k').isSome then sget A k' else sget B k' := by
  unfold sget
  rw [List.find?_append]
  cases hA : List.find? (fun p => keq p.1 k') A with
  | some p => simp
  | none => simp
theorem sget_of_none {L : SL} {k : ByteArray} (h : ∀ p ∈ L, (keq p.1 k) = false) : sget L k = none := by
  unfold sget
  rw [List.find?_eq_none.2 (fun p hp => by rw [h p hp]; decide)]
  rfl
/-- what was set is there; the rest is as it was -/
theorem sget_sset (L : SL) (k v k' : ByteArray) : sget (sset L k v) k' = if k' = k then some v else sget L k' := by
  unfold sset
  cases h : (sget L k).isSome with
  | true =>
    rw [if_pos rfl]
    by_cases e : k' = k
    · rw [if_pos e, e]; exact find_map_same k v L h
    · rw [if_neg e]; exact find_map_other k v k' e L
  | false =>
    rw [if_neg (by decide)]
    have hn := sget_none h
    rw [find_ins]
    by_cases e : k' = k
    · rw [if_pos e, if_pos e.symm]
      have : sget (L.take (klo (skeys L) k)) k' = none := sget_of_none (fun p hp => by rw [e]; exact hn p (List.mem_of_mem_take hp))
      rw [this]; rfl
    · have h2 := sget_append (L.take (klo (skeys L) k)) (L.drop (klo (skeys L) k)) k'
      rw [List.take_append_drop] at h2
      rw [if_neg e, h2, if_neg (fun h : k = k' => e h.symm)]
theorem sget_sdel (L : SL) (k k' : ByteArray) : sget (sdel L k) k' = if k' = k then none else sget L k' := by
  by_cases e : k' = k
  · rw [if_pos e, e]
    exact sget_of_none (fun p hp => by have := (List.mem_filter.1 hp).2; simpa using this)
  · rw [if_neg e]
    unfold sget sdel
    rw [List.find?_filter]
    congr 2
    funext p
    by_cases hp : (keq p.1 k') = true
    · have : p.1 = k' := keq_iff.1 hp
      have h1 : keq p.1 k = false := by rw [this]; exact keq_ne e
      rw [hp, h1]; rfl
    · have hp' : (keq p.1 k') = false := by simpa using hp
      rw [hp']; simp

/-! ### a map that reads as the list -/
theorem lit_inj {a b : ByteArray} (h : (Lit.string a.data.toList) = (Lit.string b.data.toList)) : a = b := by
  cases a with | mk a => cases b with | mk b =>
  simp only [Lit.string.injEq] at h
  have := Array.toList_inj.1 h
  subst this; rfl
structure Rep (D : DataW Unit) (L : SL) : Prop where
  td : Tidy D
  has : ∀ k : ByteArray, Maps.has D (.string k.data.toList) = (sget L k).isSome
  at_ : ∀ (k : ByteArray) (z : DataW Unit), D.atKey (.string k.data.toList) z = match sget L k with | some v => .lit (.string v.data.toList) | none => z
  sz : Maps.size D = L.length
theorem Rep.empty : Rep (.map []) [] := ⟨tidy_empty, fun _ => rfl, fun _ _ => rfl, rfl⟩
theorem isKeyLit_string (l : List UInt8) : WideAt.IsKeyLit (.string l) := by unfold WideAt.IsKeyLit; first | trivial | simp
theorem Rep.set {D : DataW Unit} {L : SL} (h : Rep D L) (k v : ByteArray) : Rep (D.put (.string k.data.toList) (.lit (.string v.data.toList))) (sset L k v) := by
  refine ⟨h.td.put (isKeyLit_string _) _, fun k' => ?_, fun k' z => ?_, ?_⟩
  · rw [sget_sset]
    by_cases e : k' = k
    · rw [if_pos e, e, has_put_same h.td.isMap (isKeyLit_string _)]; rfl
    · rw [if_neg e, has_put_other (fun hh => e (lit_inj hh)), h.has]
  · rw [sget_sset]
    by_cases e : k' = k
    · rw [if_pos e, e, atKey_put_same h.td.isMap (isKeyLit_string _)]
    · rw [if_neg e, atKey_put_other (fun hh => e (lit_inj hh)), h.at_]
  · rw [size_put h.td, h.has, h.sz]
    unfold sset
    cases hh : (sget L k).isSome with
    | true => simp
    | false => simp; omega
theorem Rep.get {D : DataW Unit} {L : SL} (h : Rep D L) {k s : ByteArray} (hs : D.atKey (.string k.data.toList) (.lit (.string [])) = .lit (.string s.data.toList)) : s = (sget L k).getD { data := #[] } := by
  rw [h.at_] at hs
  cases hg : sget L k with
  | none => rw [hg] at hs; simp only [DataW.lit.injEq, Lit.string.injEq] at hs; cases s with | mk a => simp only at hs; have := Array.toList_inj.1 (show #[].toList = a.toList from hs); subst this; rfl
  | some v => rw [hg] at hs; simp only [DataW.lit.injEq] at hs; exact (lit_inj hs).symm
/-! ### keys that rise -/
theorem klo_le (ks : List ByteArray) (x : ByteArray) : klo ks x ≤ ks.length := List.countP_le_length
end Go.Proofs.Ythloohoefjmmoaa
