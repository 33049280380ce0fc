/- keys.Key, walked. -/
import Derived.Test.YtedkhpnlhkjjgaaG01
import Derived.Test.YtedkhpnlhkjjgaaG00
import Derived.OneCell
import Derived.OwnWalk
import Derived.Laws.BytesArg
import Derived.OpenShut
import Derived.ChangeOld
import Derived.ChangeSlices
import Derived.Carry
import Derived.Deep.Slices
import Derived.ChangeSame
import Derived.Laws.IdiomArrays
import Derived.Maps.OwnSet
import Derived.Maps.OwnOps
import Derived.Maps.Views
import Derived.Deep.AppendLies
namespace Go.Proofs.Ytedkhpnlhkjjgaa
open Go.RowKit

theorem kinfoU8 : (Try.prog.info? 5).map (fun i => (i.zero, i.size, i.bytes)) = some (some (.int .u8 0), 1, 1) := by kernel_rfl
theorem kown_below {B : Nat} {e : TypeId} {k : Nat} {v : Value} {n : Nat} {xs : List Value} {w w' : World} (h : w.ownsRow B e k v n xs) (hb : Below w.heap.size w w') : w'.ownsRow B e k v n xs :=
  h.kept (row := none) ⟨hb.os, hb.tape, hb.output, hb.size, fun j hj _ => hb.block j hj⟩ (by cases hv : v.ownBlock <;> simp)
theorem wpList_make_some {P : Program} (w : World) {ops : Array Oper} {rest : List Oper} {o : Oper} {a : Act} {Q : Exit → Act → World → Prop}
    (hg : o.guard = none) (l c : Operand) (t : TypeId) (hop : o.op = Op.makeSlice t l c)
    (e : TypeId) (i : TypeInfo) (z : Value) (size : Nat) (h1 : P.underlying t = some (.slice e)) (h2 : P.info? e = some i) (h3 : i.zero = some z) (h4 : i.size = size)
    (kl kc : IntKind) (L C : Int) (n m : Nat) (hl : a.eval l = .int kl L) (hc : a.eval c = .int kc C) (hL : L = (n : Int)) (hC : C = (m : Int)) (hnm : n ≤ m) (b2 : i.bytes * m ≤ 281474976710656) (b3 : m ≤ maxLen)
    (hK : wpList P ops Q rest (a.put o.dst (.slice (some ⟨w.heap.size, 0, none⟩) n m)) (w.alloc (.cells (madeCells z.cells (m * size)) e))) :
    wpList P ops Q (o :: rest) a w := by
  subst h4
  have h63' : (m : Int) ≤ 9223372036854775807 := by
    have h := b3
    simp [maxLen] at h
    omega
  have hb' : (i.bytes : Int) * (m : Int) ≤ 281474976710656 := by
    have h : ((i.bytes * m : Nat) : Int) ≤ 281474976710656 := by omega
    rwa [Int.natCast_mul] at h
  have hr := run_make (P := P) w t e i z h1 h2 h3 kl kc n m (by omega) (by omega) hb' h63'
  simp only [Int.toNat_natCast] at hr
  refine wpList_plain hg fun K hK' => ?_
  subst hL
  subst hC
  unfold Oper.wp
  simp [execOp, hop, hl, hc, hr, Result.andThen]
  exact hK' _ _ hK
theorem own_some (w : World) (e : TypeId) {m : Nat} (hm : 1 ≤ m) (h63 : m ≤ maxLen) (z : Value) :
    (w.alloc (.cells (madeCells #[z] (m * 1)) e)).ownsRow w.heap.size e 1 (.slice (some ⟨w.heap.size, 0, none⟩) 1 m) 1 [z] :=
  ⟨rfl, .inr ⟨w.heap.size, m, _, rfl, Nat.le_refl _, heap_alloc_new w _, hm, h63, size_madeCells _ _, by
    rw [toList_madeCells_one]
    obtain ⟨k, rfl⟩ : ∃ k, m = k + 1 := ⟨m - 1, by omega⟩
    rw [Nat.mul_one, Nat.mul_one, List.replicate_succ]; rfl⟩⟩
theorem own_put (w : World) (e : TypeId) {m : Nat} (hm : 1 ≤ m) (h63 : m ≤ maxLen) (z u : Value) :
    (w.alloc (.cells ((madeCells #[z] m).setIfInBounds 0 u) e)).ownsRow w.heap.size e 1 (.slice (some ⟨w.heap.size, 0, none⟩) 1 m) 1 [u] :=
  ⟨rfl, .inr ⟨w.heap.size, m, _, rfl, Nat.le_refl _, heap_alloc_new w _, hm, h63, by rw [Array.size_setIfInBounds, size_madeCells, Nat.mul_one], by
    rw [Array.toList_setIfInBounds, toList_madeCells_one]
    obtain ⟨k, rfl⟩ : ∃ k, m = k + 1 := ⟨m - 1, by omega⟩
    rw [Nat.mul_one, List.replicate_succ]; rfl⟩⟩
theorem own_set8 {w : World} {base : Nat} {e : TypeId} {k : Nat} {v : Value} {n : Nat} {xs : List Value} {b : Nat} {x0 x1 x2 x3 x4 x5 x6 x7 : Value} (h : w.ownsRow base e k v n xs) (hb : v.ownBlock ≠ some b) :
    ((((((((w.setCell ⟨b, 0, none⟩ x0).setCell ⟨b, 1, none⟩ x1).setCell ⟨b, 2, none⟩ x2).setCell ⟨b, 3, none⟩ x3).setCell ⟨b, 4, none⟩ x4).setCell ⟨b, 5, none⟩ x5).setCell ⟨b, 6, none⟩ x6).setCell ⟨b, 7, none⟩ x7).ownsRow base e k v n xs :=
  ownsRow_setCell_other (ownsRow_setCell_other (ownsRow_setCell_other (ownsRow_setCell_other (ownsRow_setCell_other (ownsRow_setCell_other (ownsRow_setCell_other (ownsRow_setCell_other h hb _) hb _) hb _) hb _) hb _) hb _) hb _) hb _
theorem Arr.put8 {κ : IntKind} {w : World} {b : Nat} {f : Nat → Nat} (h : Arr κ w b 8 f) (x0 x1 x2 x3 x4 x5 x6 x7 : Nat) :
    Arr κ ((((((((w.setCell ⟨b, 0, none⟩ (.int κ (x0 : Nat))).setCell ⟨b, 1, none⟩ (.int κ (x1 : Nat))).setCell ⟨b, 2, none⟩ (.int κ (x2 : Nat))).setCell ⟨b, 3, none⟩ (.int κ (x3 : Nat))).setCell ⟨b, 4, none⟩ (.int κ (x4 : Nat))).setCell ⟨b, 5, none⟩ (.int κ (x5 : Nat))).setCell ⟨b, 6, none⟩ (.int κ (x6 : Nat))).setCell ⟨b, 7, none⟩ (.int κ (x7 : Nat))) b 8
      (upd (upd (upd (upd (upd (upd (upd (upd f 0 x0) 1 x1) 2 x2) 3 x3) 4 x4) 5 x5) 6 x6) 7 x7) :=
  (((((((h.set (by omega)).set (by omega)).set (by omega)).set (by omega)).set (by omega)).set (by omega)).set (by omega)).set (by omega)

/-- a slice of n ints reads as f -/
structure Il (w : World) (A : Option Addr) (n : Nat) (f : Nat → Int) : Prop where
  most : ∀ i, f i < 2 ^ 63
  at_ : 0 < n → ∃ g o, A = some ⟨g, o, none⟩ ∧ g < w.heap.size ∧ ∀ i, i < n → w.cell? ⟨g, o + i, none⟩ = some (.int .i64 (f i))
theorem Il.below {w w' : World} {A : Option Addr} {n : Nat} {f : Nat → Int} (h : Il w A n f) (hb : Below w.heap.size w w') : Il w' A n f :=
  ⟨h.most, fun hn => by
    obtain ⟨g, o, e, hg, hc⟩ := h.at_ hn
    exact ⟨g, o, e, Nat.lt_of_lt_of_le hg hb.size, fun i hi => by rw [hb.cell (p := ⟨g, o + i, none⟩) hg]; exact hc i hi⟩⟩

/-- the eight bytes of a number -/
def kb8 (n : Nat) : List Nat := [kbyte n 7, kbyte n 6, kbyte n 5, kbyte n 4, kbyte n 3, kbyte n 2, kbyte n 1, kbyte n 0]
/-- a key's bytes -/
def kbs (t : Nat) (f : Nat → Int) : Nat → List Nat
  | 0 => [t]
  | k + 1 => kbs t f k ++ kb8 (f k).toNat
theorem kbs_length (t : Nat) (f : Nat → Int) : ∀ k, (kbs t f k).length = 1 + 8 * k
  | 0 => rfl
  | k + 1 => by simp only [kbs, List.length_append, kbs_length t f k, kb8, List.length_cons, List.length_nil]; omega
def k8s (l : List Nat) : List Value := l.map fun x : Nat => Value.int .u8 (x : Int)
def ints (l : List Nat) : List Int := l.map fun x : Nat => (x : Int)
def keyStr (t : Int) (f : Nat → Int) (n : Nat) : ByteArray := if 1 ≤ t ∧ t ≤ 255 ∧ ∀ i, i < n → 0 ≤ f i then strOfNums (ints (kbs t.toNat f n)) else ⟨#[]⟩
theorem k8s_get {l : List Nat} {j : Nat} (h : j < l.length) : (k8s l)[j]? = some (.int .u8 ((ints l).getD j 0)) := by
  simp [k8s, ints, List.getD, List.getElem?_eq_getElem h]
theorem dig_c (x : Int) (w : World) (h0 : 0 ≤ x) (h1 : x < 2 ^ 63) : Calls Try.prog 110 #[.int .i64 x] w fun e w' => e = .returned (D8 x.toNat) ∧ Below w.heap.size w w' := by
  obtain ⟨n, rfl⟩ : ∃ n : Nat, x = (n : Int) := ⟨x.toNat, by omega⟩
  exact dig_walk n w (by omega)

theorem k8s_one (l : List Nat) : ∀ u ∈ k8s l, u.oneCell' = true := fun u hu => by
  simp only [k8s, List.mem_map] at hu
  obtain ⟨x, _, rfl⟩ := hu
  rfl
theorem dig_cells (w : World) (m : Nat) (t : TypeId) : ∀ j u, (k8s (kb8 m))[j]? = some u → (w.alloc (.cells #[.int .u8 (kbyte m 7 : Nat), .int .u8 (kbyte m 6 : Nat), .int .u8 (kbyte m 5 : Nat), .int .u8 (kbyte m 4 : Nat), .int .u8 (kbyte m 3 : Nat), .int .u8 (kbyte m 2 : Nat), .int .u8 (kbyte m 1 : Nat), .int .u8 (kbyte m 0 : Nat)] t)).cell? ((⟨w.heap.size, 0, none⟩ : Addr).add j) = some u := by
  intro j u h
  have hj : j < 8 := by
    rcases Nat.lt_or_ge j 8 with h' | h'
    · exact h'
    · rw [List.getElem?_eq_none (by simpa [k8s, kb8] using h')] at h; cases h
  have ha : (⟨w.heap.size, 0, none⟩ : Addr).add j = ⟨w.heap.size, j, none⟩ := by unfold Addr.add; split <;> simp_all
  rw [ha, World.cell?_alloc_new]
  rcases (by omega : j = 0 ∨ j = 1 ∨ j = 2 ∨ j = 3 ∨ j = 4 ∨ j = 5 ∨ j = 6 ∨ j = 7) with rfl | rfl | rfl | rfl | rfl | rfl | rfl | rfl <;> exact h

def KeyPost (t : Int) (f : Nat → Int) (n : Nat) (w : World) (e : Ending) (w' : World) : Prop := e = .returned (.string (keyStr t f n)) ∧ Below w.heap.size w w'
def KeyRel (t : Nat) (f : Nat → Int) (n : Nat) (w : World) (v i : Value) (wr : World) : Prop :=
  ∃ k : Nat, k ≤ n ∧ i = .int .i64 (k : Nat) ∧ v = .slice (some ⟨w.heap.size, 0, none⟩) (1 + 8 * k) (1 + 8 * n) ∧ (∀ j, j < k → 0 ≤ f j) ∧
    wr.ownsRow w.heap.size 5 1 (.slice (some ⟨w.heap.size, 0, none⟩) (1 + 8 * k) (1 + 8 * n)) (1 + 8 * k) (k8s (kbs t f k)) ∧ Below w.heap.size w wr ∧ w.heap.size < wr.heap.size

set_option maxRecDepth 100000 in
set_option maxHeartbeats 1000000 in
theorem key_walk (t : Int) (A : Option Addr) (n c : Nat) (f : Nat → Int) (w : World) (hl : Il w A n f) (hn : n ≤ 100) :
    Calls Try.prog 60 #[.int .i64 t, .slice A n c] w (KeyPost t f n w) := by
  have hnI : (n : Int) ≤ 100 := by omega
  obtain ⟨i0, hi, hz0, hz1, hz2⟩ := info_parts kinfoU8
  by_cases ht : 1 ≤ t ∧ t ≤ 255
  · obtain ⟨tn, rfl⟩ : ∃ tn : Nat, t = (tn : Int) := ⟨t.toNat, by omega⟩
    have t1 : (1 : Int) ≤ tn := ht.1
    have t2 : (tn : Int) ≤ 255 := ht.2
    have n1 : ¬ ((tn : Int) < 1) := by omega
    have n2 : ¬ ((255 : Int) < tn) := by omega
    have w8 : IntKind.u8.wrap (tn : Int) = (tn : Int) := IntWalk.u8_in _ (by omega)
    clear ht
    go_enter Try.func60, Try.ntmps60
    have O0 := own_some w 5 (m := 1 + 8 * n) (by omega) (by unfold maxLen; omega) (.int .u8 0)
    have c0 := O0.cellAt 0 (by omega)
    have f0 := O0.frozenAt 0
    have O1 := own_put w 5 (m := 1 + 8 * n) (by omega) (by unfold maxLen; omega) (.int .u8 0) (.int .u8 tn)
    simp only [List.getElem?_cons_zero, Nat.mul_one] at c0 f0
    go_wp2_with (at_make; refine wpList_make_some _ rfl _ _ _ rfl 5 i0 (.int .u8 0) 1 Try.underlying56 hi hz0 hz1 .i64 .i64 _ _ 1 (1 + 8 * n) rfl rfl (by omega) (by omega) (by omega) (by rw [hz2]; omega) (by unfold maxLen; omega) ?_)
    clear O0 c0 f0
    go_loopw [5, 26] (KeyRel tn f n w) (fun _ i _ => n - (intOf i).toNat)
    case atStart =>
      exact ⟨0, by omega, rfl, rfl, fun j h => by omega, O1, (Below.refl _ _).alloc (Nat.le_refl _) _, by simp⟩
    case round =>
      obtain ⟨k, hk, rfl, rfl, hpos, hown, hbel, hsz⟩ := hrel
      have kI : (k : Int) ≤ n := by omega
      by_cases hlt : k < n
      · obtain ⟨g, o, rfl, hg, hc⟩ := hl.at_ (by omega)
        have hm := hl.most k
        have hck : wr.cell? ⟨g, o + k, none⟩ = some (.int .i64 (f k)) := by rw [hbel.cell (p := ⟨g, o + k, none⟩) hg]; exact hc k hlt
        clear hc hl O1
        by_cases hf : f k < 0
        · go_wp2
          refine bodyPost_ret (v := .string ⟨#[]⟩) (by simp [results, Try.results60, go_sem]) rfl ⟨?_, hbel⟩
          unfold keyStr; rw [if_neg (fun h => absurd (h.2.2 k hlt) (by omega))]
        · have h0 : 0 ≤ f k := by omega
          have hdf : decide (f k < 0) = false := decide_eq_false hf
          go_wp2_with (first
            | (go_at_call 110; refine (dig_c (f k) _ h0 hm).mono ?_; rintro e w2 ⟨rfl, hb2⟩; unfold D8; have hown2 := kown_below hown hb2; have hz2 := hb2.size; have hb3 := (hbel.trans (hb2.mono (by omega))).alloc (by omega) (.cells #[.int .u8 (kbyte (f k).toNat 7 : Nat), .int .u8 (kbyte (f k).toNat 6 : Nat), .int .u8 (kbyte (f k).toNat 5 : Nat), .int .u8 (kbyte (f k).toNat 4 : Nat), .int .u8 (kbyte (f k).toNat 3 : Nat), .int .u8 (kbyte (f k).toNat 2 : Nat), .int .u8 (kbyte (f k).toNat 1 : Nat), .int .u8 (kbyte (f k).toNat 0 : Nat)] 161))
            | (at_builtin; refine wpList_append_fits _ rfl (.tmp 34) (.tmp 35) _ rfl w.heap.size 5 i0 1 Try.underlying56 hi hz1 w.heap.size (1 + 8 * k) (1 + 8 * n) (k8s (kbs tn f k)) rfl (hown2.alloc _) ⟨w2.heap.size, 0, none⟩ 8 8 (k8s (kb8 (f k).toNat)) rfl rfl (dig_cells _ _ _) (k8s_one _) (by omega) ?_; intro w3 hown3 hg3))
          go_roundw
          case rel =>
            refine ⟨k + 1, by omega, by go_num, ?_, ?_, ?_, ?_, ?_⟩
            · rw [show 1 + 8 * (k + 1) = 1 + 8 * k + 8 by omega]
            · intro j hj
              rcases Nat.lt_or_ge j k with h | h
              · exact hpos j h
              · rw [show j = k by omega]; exact h0
            · rw [show 1 + 8 * (k + 1) = 1 + 8 * k + 8 by omega, show k8s (kbs tn f (k + 1)) = k8s (kbs tn f k) ++ k8s (kb8 (f k).toNat) by simp [k8s, kbs]]
              exact hown3
            · exact hb3.grown hg3 (by simp; omega) (fun j hj => by cases hj; exact Nat.le_refl _)
            · have := hg3.size; simp at this; omega
          case measure => simp [intOf]; omega
      · obtain rfl : k = n := by omega
        have hcv := run_convert_bytes_arg (P := Try.prog) wr 56 5 Try.underlying56 Try.underlying5 w.heap.size 0 (1 + 8 * k) (1 + 8 * k) (ints (kbs tn f k)) (by simp [ints, kbs_length])
          (fun i hi => by rw [Nat.zero_add, hown.cellAt i (by omega), k8s_get (by rw [kbs_length]; exact hi)]) 9 Try.underlying9
        go_wp2
        go_ret
        exact ⟨by unfold keyStr; rw [if_pos ⟨t1, t2, hpos⟩, Int.toNat_natCast]; rfl, hbel⟩
  · go_enter Try.func60, Try.ntmps60
    go_wp2
    all_goals
      refine bodyPost_ret (v := .string ⟨#[]⟩) (by simp [results, Try.results60, go_sem]) rfl ⟨?_, Below.refl _ _⟩
      unfold keyStr; rw [if_neg (fun h => ht ⟨h.1, h.2.1⟩)]
end Go.Proofs.Ytedkhpnlhkjjgaa

namespace Go.Proofs.Ytedkhpnlhkjjgaa
open Go.ChangeShapes Go.WideShapes Go.ChangeAt Go.RowKit

theorem cells_act12 : Try.prog.cellsOf 46 = 3 := by kernel_rfl
theorem cells_act12_bool : Try.prog.cellsOf 4 = 1 := by kernel_rfl
theorem cells_act12_il : Try.prog.cellsOf 30 = 1 := by kernel_rfl
theorem list_act12 {α : Type} (l : List α) (h : l.length = 3) : ∃ b0 b1 b2, l = [b0, b1, b2] := by
  match l, h with
  | [b0, b1, b2], _ => exact ⟨b0, b1, b2, rfl⟩
/-- N rows at A, their fields -/
structure act12sAt (W : World) (A : Option Addr) (N : Nat) (x0 : Nat → Bool) (A1 : Nat → Option Addr) (k1 : Nat → Nat) (c1 : Nat → Nat) (f51 : Nat → Nat → Int) (A2 : Nat → Option Addr) (k2 : Nat → Nat) (c2 : Nat → Nat) (f52 : Nat → Nat → Int) : Prop where
  rows : RowsV W A N 3 (fun i => [.bool (x0 i), .slice (A1 i) (k1 i) (c1 i), .slice (A2 i) (k2 i) (c2 i)])
  f0 : ∀ i, i < N → (((k1 i) : Int) ≤ 9223372036854775807)
  f1 : ∀ i, i < N → (Il W (A1 i) (k1 i) (f51 i))
  f2 : ∀ i, i < N → ((A1 i) = none → (k1 i) = 0 ∧ (c1 i) = 0)
  f3 : ∀ i, i < N → (((k2 i) : Int) ≤ 9223372036854775807)
  f4 : ∀ i, i < N → (Il W (A2 i) (k2 i) (f52 i))
  f5 : ∀ i, i < N → ((A2 i) = none → (k2 i) = 0 ∧ (c2 i) = 0)
theorem act12sAt.below {W W' : World} {A : Option Addr} {N : Nat} {x0 : Nat → Bool} {A1 : Nat → Option Addr} {k1 : Nat → Nat} {c1 : Nat → Nat} {f51 : Nat → Nat → Int} {A2 : Nat → Option Addr} {k2 : Nat → Nat} {c2 : Nat → Nat} {f52 : Nat → Nat → Int} (h : act12sAt W A N x0 A1 k1 c1 f51 A2 k2 c2 f52) (hb : Below W.heap.size W W') : act12sAt W' A N x0 A1 k1 c1 f51 A2 k2 c2 f52 :=
  ⟨h.rows.below hb, fun i hi => (h.f0 i hi), fun i hi => (h.f1 i hi).below hb, fun i hi => (h.f2 i hi), fun i hi => (h.f3 i hi), fun i hi => (h.f4 i hi).below hb, fun i hi => (h.f5 i hi)⟩
section
variable {H : Type} {enc : TypeId × Value → H} {W : World} {base : Nat}
set_option maxRecDepth 100000 in
theorem open_il_act12 {b : Value} {m : Nat} {y : DataW H × List MemPlace} (hf : DataW.trod enc Try.prog W 0 (fun _ => true) true m 30 [b] = some y) :
    ∃ A n c f, b = .slice A n c ∧ (n : Int) ≤ 9223372036854775807 ∧ Il W A n f ∧ (A = none → n = 0 ∧ c = 0) := by
  rcases open_ints Try.underlying30 Try.underlying3 (show Try.prog.cellsOf 3 = 1 by kernel_rfl) hf with ⟨hcs, hx⟩ | ⟨a, n, c, zs, hcs, _, hl, hm, hz, hx, hcell, hwz⟩
  · simp only [List.cons.injEq, and_true] at hcs
    subst hcs
    exact ⟨none, 0, 0, fun _ => 0, rfl, by decide, ⟨fun _ => by show (0 : Int) < 2 ^ 63; decide, fun h => absurd h (by omega)⟩, fun _ => ⟨rfl, rfl⟩⟩
  · simp only [List.cons.injEq, and_true] at hcs
    subst hcs
    simp only [if_true] at hz
    refine ⟨some a, n, c, fun i => zs.getD i 0, rfl, ?_, ⟨fun i => ?_, fun hn => ?_⟩, fun h => by cases h⟩
    · have hh := hm
      simp [maxLen] at hh
      omega
    · rcases Nat.lt_or_ge i zs.length with hi | hi
      · have := bounds_i64 (hwz (zs.getD i 0) (by simp [List.getD, List.getElem?_eq_getElem hi]))
        show zs.getD i 0 < 2 ^ 63
        omega
      · simp only [List.getD, List.getElem?_eq_none hi, Option.getD_none]; decide
    · have hc0 := hcell 0 (by omega)
      have hlt := World.block_lt_of_cell? W _ hc0
      obtain ⟨g, o, sp⟩ := a
      have hspot : sp = none := by simpa [Addr.add] using World.cell?_spot hc0
      subst hspot
      exact ⟨g, o, rfl, hlt, fun i hi => by rw [← add_plain]; exact hcell i (by omega)⟩
set_option maxRecDepth 100000 in
theorem open_act12_row {fuel : Nat} {cs : List Value} {x : DataW H × List MemPlace} (hf : DataW.trod enc Try.prog W 0 (fun _ => true) true fuel 46 cs = some x) (hsz : cs.length = 3) :
    ∃ x0 A1 k1 c1 f51 A2 k2 c2 f52, cs = [.bool x0, .slice A1 k1 c1, .slice A2 k2 c2] ∧ ((k1 : Int) ≤ 9223372036854775807) ∧ (Il W A1 k1 f51) ∧ (A1 = none → k1 = 0 ∧ c1 = 0) ∧ ((k2 : Int) ≤ 9223372036854775807) ∧ (Il W A2 k2 f52) ∧ (A2 = none → k2 = 0 ∧ c2 = 0) := by
  obtain ⟨b0, b1, b2, rfl⟩ := list_act12 cs hsz
  obtain ⟨ys, n2, _, _, _, hyl, hf⟩ := DataW.trod_struct Try.underlying46 hf
  obtain ⟨y0, y1, y2, rfl⟩ := list_act12 ys hyl
  have f0 : DataW.trod enc Try.prog W 0 (fun _ => true) true n2 4 (([b0, b1, b2].drop 0).take (Try.prog.cellsOf 4)) = some y0 := hf 0 _ rfl
  rw [cells_act12_bool] at f0
  replace f0 : DataW.trod enc Try.prog W 0 (fun _ => true) true n2 4 [b0] = some y0 := f0
  have f1 : DataW.trod enc Try.prog W 0 (fun _ => true) true n2 30 (([b0, b1, b2].drop 1).take (Try.prog.cellsOf 30)) = some y1 := hf 1 _ rfl
  rw [cells_act12_il] at f1
  replace f1 : DataW.trod enc Try.prog W 0 (fun _ => true) true n2 30 [b1] = some y1 := f1
  have f2 : DataW.trod enc Try.prog W 0 (fun _ => true) true n2 30 (([b0, b1, b2].drop 2).take (Try.prog.cellsOf 30)) = some y2 := hf 2 _ rfl
  rw [cells_act12_il] at f2
  replace f2 : DataW.trod enc Try.prog W 0 (fun _ => true) true n2 30 [b2] = some y2 := f2
  obtain ⟨x0, e0, _⟩ := DataW.trod_bool Try.underlying4 f0
  simp at e0
  subst e0
  obtain ⟨A1, k1, c1, f51, rfl, hn1, hl1, hz1⟩ := open_il_act12 f1
  obtain ⟨A2, k2, c2, f52, rfl, hn2, hl2, hz2⟩ := open_il_act12 f2
  exact ⟨x0, A1, k1, c1, f51, A2, k2, c2, f52, rfl, hn1, hl1, hz1, hn2, hl2, hz2⟩
set_option maxRecDepth 100000 in
theorem open_act12s {v : Value} {d : DataW H} {p : List MemPlace} (hv : Value.okWide Try.prog W .any base 42 v) (h : DataW.Trod enc Try.prog W 0 (fun _ => true) true 42 v d p) :
    ∃ A N C x0 A1 k1 c1 f51 A2 k2 c2 f52, v = .slice A N C ∧ (A = none → N = 0 ∧ C = 0) ∧ N ≤ C ∧ C ≤ 9223372036854775807 ∧ act12sAt W A N x0 A1 k1 c1 f51 A2 k2 c2 f52 := by
  obtain ⟨a0, N, C, rfl⟩ := okWide_slice Try.underlying42 hv
  obtain ⟨fuel, hf⟩ := h
  rcases Go.Deep.open_slice Try.underlying42 hf with ⟨hcs, hx⟩ | ⟨a, len, cap, m, n, D, Pl, hcs, hb, hl, hm, hmm, _, hx⟩
  · simp [Value.cells] at hcs
    obtain ⟨rfl, rfl, rfl⟩ := hcs
    exact ⟨none, 0, 0, fun _ => false, fun _ => none, fun _ => 0, fun _ => 0, fun _ => fun _ => 0, fun _ => none, fun _ => 0, fun _ => 0, fun _ => fun _ => 0, rfl, fun _ => ⟨rfl, rfl⟩, Nat.le_refl _, by decide, ⟨RowsV.nil _ _ _ _, fun i h => absurd h (by omega), fun i h => absurd h (by omega), fun i h => absurd h (by omega), fun i h => absurd h (by omega), fun i h => absurd h (by omega), fun i h => absurd h (by omega)⟩⟩
  · simp only [Value.cells, List.cons.injEq, Value.slice.injEq, and_true] at hcs
    obtain ⟨rfl, rfl, rfl⟩ := hcs
    simp only [if_true] at hmm
    subst hmm
    rw [cells_act12] at hx
    obtain ⟨y, hy⟩ := Go.Deep.choose_lt (α := (Bool) × (Option Addr) × (Nat) × (Nat) × (Nat → Int) × (Option Addr) × (Nat) × (Nat) × (Nat → Int)) (n := m) (p := fun i y => W.cells? 0 (a.add (i * 3)) 3 = some [.bool y.1, .slice y.2.1 y.2.2.1 y.2.2.2.1, .slice y.2.2.2.2.2.1 y.2.2.2.2.2.2.1 y.2.2.2.2.2.2.2.1] ∧ ((y.2.2.1 : Int) ≤ 9223372036854775807) ∧ (Il W y.2.1 y.2.2.1 y.2.2.2.2.1) ∧ (y.2.1 = none → y.2.2.1 = 0 ∧ y.2.2.2.1 = 0) ∧ ((y.2.2.2.2.2.2.1 : Int) ≤ 9223372036854775807) ∧ (Il W y.2.2.2.2.2.1 y.2.2.2.2.2.2.1 y.2.2.2.2.2.2.2.2) ∧ (y.2.2.2.2.2.1 = none → y.2.2.2.2.2.2.1 = 0 ∧ y.2.2.2.2.2.2.2.1 = 0)) (fun i hi => by
      obtain ⟨cs, h1, h2⟩ := hx i hi
      obtain ⟨x0, A1, k1, c1, f51, A2, k2, c2, f52, rfl, g0, g1, g2, g3, g4, g5⟩ := open_act12_row h2 (World.cells?_some h1).2.1
      exact ⟨(x0, A1, k1, c1, f51, A2, k2, c2, f52), h1, g0, g1, g2, g3, g4, g5⟩)
    unfold maxLen at hm
    refine ⟨some a, N, m, fun i => (y i).1, fun i => (y i).2.1, fun i => (y i).2.2.1, fun i => (y i).2.2.2.1, fun i => (y i).2.2.2.2.1, fun i => (y i).2.2.2.2.2.1, fun i => (y i).2.2.2.2.2.2.1, fun i => (y i).2.2.2.2.2.2.2.1, fun i => (y i).2.2.2.2.2.2.2.2, rfl, (fun h => by cases h), hl, by omega, ⟨RowsV.of_cells (by decide) fun i hi => (hy i (by omega)).1, fun i hi => (hy i (by omega)).2.1, fun i hi => (hy i (by omega)).2.2.1, fun i hi => (hy i (by omega)).2.2.2.1, fun i hi => (hy i (by omega)).2.2.2.2.1, fun i hi => (hy i (by omega)).2.2.2.2.2.1, fun i hi => (hy i (by omega)).2.2.2.2.2.2⟩⟩
end
end Go.Proofs.Ytedkhpnlhkjjgaa

namespace Go.Proofs.Ytedkhpnlhkjjgaa
open Go.RowKit Go.Maps

def keq (a b : ByteArray) : Bool := decide (a.data.toList = b.data.toList)
theorem keq_iff {a b : ByteArray} : keq a b = true ↔ a = b := by
  unfold keq
  rw [decide_eq_true_eq]
  constructor
  · intro h
    cases a with | mk a => cases b with | mk b =>
    have := Array.toList_inj.1 h
    subst this; rfl
  · intro h; rw [h]
theorem keq_ne {a b : ByteArray} (h : a ≠ b) : keq a b = false := by
  cases e : keq a b with
  | false => rfl
  | true => exact absurd (keq_iff.1 e) h
theorem keq_self (a : ByteArray) : keq a a = true := keq_iff.2 rfl
abbrev SL := List (ByteArray × ByteArray)
def skeys (L : SL) : List ByteArray := L.map (·.1)
def sget (L : SL) (k : ByteArray) : Option ByteArray := (L.find? (fun p => keq p.1 k)).map (·.2)
def klo (ks : List ByteArray) (x : ByteArray) : Nat := ks.countP (fun y => decide (y.data.toList < x.data.toList))
def sset (L : SL) (k v : ByteArray) : SL := if (sget L k).isSome then L.map (fun p => if keq p.1 k then (k, v) else p) else L.take (klo (skeys L) k) ++ [(k, v)] ++ L.drop (klo (skeys L) k)
def sdel (L : SL) (k : ByteArray) : SL := L.filter (fun p => !(keq p.1 k))
def Rising (ks : List ByteArray) : Prop := ks.Pairwise (fun a b => a.data.toList < b.data.toList)

theorem sget_none {L : SL} {k : ByteArray} (h : (sget L k).isSome = false) : ∀ p ∈ L, (keq p.1 k) = false := by
  unfold sget at h
  rw [Option.isSome_map, Option.isSome_eq_false_iff] at h
  intro p hp
  have := List.find?_eq_none.1 (Option.isNone_iff_eq_none.1 h) p hp
  simpa using this
theorem find_map_same (k v : ByteArray) : ∀ L : SL, (sget L k).isSome = true → sget (L.map (fun p => if keq p.1 k then (k, v) else p)) k = some v
  | [], h => by simp [sget] at h
  | p :: r, h => by
    unfold sget at h ⊢
    rw [List.map_cons, List.find?_cons]
    by_cases hp : (keq p.1 k) = true
    · rw [if_pos hp]
      simp [keq_self]
    · rw [if_neg hp]
      have hp' : (keq p.1 k) = false := by simpa using hp
      rw [hp']
      rw [List.find?_cons, hp'] at h
      exact find_map_same k v r h
theorem find_map_other (k v k' : ByteArray) (hk : k' ≠ k) : ∀ L : SL, sget (L.map (fun p => if keq p.1 k then (k, v) else p)) k' = sget L k'
  | [] => rfl
  | p :: r => by
    unfold sget
    rw [List.map_cons, List.find?_cons, List.find?_cons]
    have ih := find_map_other k v k' hk r
    unfold sget at ih
    by_cases hp : (keq p.1 k) = true
    · rw [if_pos hp]
      have e : p.1 = k := keq_iff.1 hp
      have h1 : keq k k' = false := keq_ne fun h => hk h.symm
      rw [e, h1]
      exact ih
    · rw [if_neg hp]
      by_cases hq : (keq p.1 k') = true
      · rw [hq]
      · have hq' : (keq p.1 k') = false := by simpa using hq
        rw [hq']
        exact ih
theorem find_ins (k v k' : ByteArray) (A B : SL) : sget (A ++ [(k, v)] ++ B) k' = if (sget A k').isSome then sget A k' else if k = k' then some v else sget B k' := by
  unfold sget
  rw [List.find?_append, List.find?_append]
  cases hA : List.find? (fun p => keq p.1 k') A with
  | some p => simp
  | none =>
    by_cases e : k = k'
    · subst e; simp [keq_self]
    · have : keq k k' = false := keq_ne e
      simp [this, e]
theorem sget_append (A B : SL) (k' : ByteArray) : sget (A ++ B) k' = if (sget A k').isSome then sget A k' else sget B k' := by
  unfold sget
  rw [List.find?_append]
  cases hA : List.find? (fun p => keq p.1 k') A with
  | some p => simp
  | none => simp
theorem sget_of_none {L : SL} {k : ByteArray} (h : ∀ p ∈ L, (keq p.1 k) = false) : sget L k = none := by
  unfold sget
  rw [List.find?_eq_none.2 (fun p hp => by rw [h p hp]; decide)]
  rfl
/-- what was set is there; the rest is as it was -/
theorem sget_sset (L : SL) (k v k' : ByteArray) : sget (sset L k v) k' = if k' = k then some v else sget L k' := by
  unfold sset
  cases h : (sget L k).isSome with
  | true =>
    rw [if_pos rfl]
    by_cases e : k' = k
    · rw [if_pos e, e]; exact find_map_same k v L h
    · rw [if_neg e]; exact find_map_other k v k' e L
  | false =>
    rw [if_neg (by decide)]
    have hn := sget_none h
    rw [find_ins]
    by_cases e : k' = k
    · rw [if_pos e, if_pos e.symm]
      have : sget (L.take (klo (skeys L) k)) k' = none := sget_of_none (fun p hp => by rw [e]; exact hn p (List.mem_of_mem_take hp))
      rw [this]; rfl
    · have h2 := sget_append (L.take (klo (skeys L) k)) (L.drop (klo (skeys L) k)) k'
      rw [List.take_append_drop] at h2
      rw [if_neg e, h2, if_neg (fun h : k = k' => e h.symm)]
theorem sget_sdel (L : SL) (k k' : ByteArray) : sget (sdel L k) k' = if k' = k then none else sget L k' := by
  by_cases e : k' = k
  · rw [if_pos e, e]
    exact sget_of_none (fun p hp => by have := (List.mem_filter.1 hp).2; simpa using this)
  · rw [if_neg e]
    unfold sget sdel
    rw [List.find?_filter]
    congr 2
    funext p
    by_cases hp : (keq p.1 k') = true
    · have : p.1 = k' := keq_iff.1 hp
      have h1 : keq p.1 k = false := by rw [this]; exact keq_ne e
      rw [hp, h1]; rfl
    · have hp' : (keq p.1 k') = false := by simpa using hp
      rw [hp']; simp

/-! ### a map that reads as the list -/
theorem lit_inj {a b : ByteArray} (h : (Lit.string a.data.toList) = (Lit.string b.data.toList)) : a = b := by
  cases a with | mk a => cases b with | mk b =>
  simp only [Lit.string.injEq] at h
  have := Array.toList_inj.1 h
  subst this; rfl
structure Rep (D : DataW Unit) (L : SL) : Prop where
  td : Tidy D
  has : ∀ k : ByteArray, Maps.has D (.string k.data.toList) = (sget L k).isSome
  at_ : ∀ (k : ByteArray) (z : DataW Unit), D.atKey (.string k.data.toList) z = match sget L k with | some v => .lit (.string v.data.toList) | none => z
  sz : Maps.size D = L.length
theorem Rep.empty : Rep (.map []) [] := ⟨tidy_empty, fun _ => rfl, fun _ _ => rfl, rfl⟩
theorem isKeyLit_string (l : List UInt8) : WideAt.IsKeyLit (.string l) := by unfold WideAt.IsKeyLit; first | trivial | simp
theorem Rep.set {D : DataW Unit} {L : SL} (h : Rep D L) (k v : ByteArray) : Rep (D.put (.string k.data.toList) (.lit (.string v.data.toList))) (sset L k v) := by
  refine ⟨h.td.put (isKeyLit_string _) _, fun k' => ?_, fun k' z => ?_, ?_⟩
  · rw [sget_sset]
    by_cases e : k' = k
    · rw [if_pos e, e, has_put_same h.td.isMap (isKeyLit_string _)]; rfl
    · rw [if_neg e, has_put_other (fun hh => e (lit_inj hh)), h.has]
  · rw [sget_sset]
    by_cases e : k' = k
    · rw [if_pos e, e, atKey_put_same h.td.isMap (isKeyLit_string _)]
    · rw [if_neg e, atKey_put_other (fun hh => e (lit_inj hh)), h.at_]
  · rw [size_put h.td, h.has, h.sz]
    unfold sset
    cases hh : (sget L k).isSome with
    | true => simp
    | false => simp; omega
theorem Rep.get {D : DataW Unit} {L : SL} (h : Rep D L) {k s : ByteArray} (hs : D.atKey (.string k.data.toList) (.lit (.string [])) = .lit (.string s.data.toList)) : s = (sget L k).getD { data := #[] } := by
  rw [h.at_] at hs
  cases hg : sget L k with
  | none => rw [hg] at hs; simp only [DataW.lit.injEq, Lit.string.injEq] at hs; cases s with | mk a => simp only at hs; have := Array.toList_inj.1 (show #[].toList = a.toList from hs); subst this; rfl
  | some v => rw [hg] at hs; simp only [DataW.lit.injEq] at hs; exact (lit_inj hs).symm
/-! ### keys that rise -/
theorem klo_le (ks : List ByteArray) (x : ByteArray) : klo ks x ≤ ks.length := List.countP_le_length
end Go.Proofs.Ytedkhpnlhkjjgaa
