/- keys.digits and keys.Less, walked. -/
import Derived.Test.YthloohoefjmmoaaProg
import Derived.Test.YthloohoefjmmoaaG00
import Derived.Lib.Hide
import Derived.OneCell
import Derived.OwnWalk
import Derived.Laws.BytesArg
import Derived.Lib.AppendZeros
import Derived.Laws.AppendOwnNone
namespace Go.Proofs.Ythloohoefjmmoaa
open Go.RowKit

def kbyte (n i : Nat) : Nat := n / 2 ^ (8 * i) % 256
theorem kbyte_lt (n i : Nat) : kbyte n i < 256 := Nat.mod_lt _ (by decide)
theorem kbyte_run (n i : Nat) : IntKind.u8.wrap ((n : Int) / 2 ^ (8 * i)) = ((kbyte n i : Nat) : Int) := by
  unfold kbyte
  rw [IntKind.wrap_u8', Int.natCast_emod, Int.natCast_ediv, Int.natCast_pow]; rfl
/-- the eight bytes of a number, the greatest first -/
def D8 (n : Nat) : Value := .agg #[.int .u8 (kbyte n 7 : Nat), .int .u8 (kbyte n 6 : Nat), .int .u8 (kbyte n 5 : Nat), .int .u8 (kbyte n 4 : Nat), .int .u8 (kbyte n 3 : Nat), .int .u8 (kbyte n 2 : Nat), .int .u8 (kbyte n 1 : Nat), .int .u8 (kbyte n 0 : Nat)]
def DigPost (n : Nat) (w : World) (e : Ending) (w' : World) : Prop := e = .returned (D8 n) ∧ Below w.heap.size w w'
def KDigRel (n : Nat) (w : World) (i : Value) (wr : World) : Prop :=
  ∃ (k : Nat) (f : Nat → Nat), k ≤ 8 ∧ i = .int .i64 (k : Nat) ∧ (∀ j, 8 - k ≤ j → j < 8 → f j = kbyte n (7 - j)) ∧
    Arr .u8 wr w.heap.size 8 (fun _ => 0) ∧ Arr .u8 wr (w.heap.size + 1) 8 f ∧ Below w.heap.size w wr ∧ w.heap.size + 1 < wr.heap.size

set_option maxRecDepth 100000 in
set_option maxHeartbeats 1000000 in
theorem dig_walk (n : Nat) (w : World) (hn : n < 2 ^ 63) : Calls Try.prog 40 #[.int .i64 (n : Nat)] w (DigPost n w) := by
  have Hn := Lib.hid hn
  clear hn
  go_enter Try.func40, Try.ntmps40
  go_wp2
  go_loopw [5] (KDigRel n w) (fun i _ => 8 - (intOf i).toNat)
  case atStart =>
    refine ⟨0, fun _ => 0, by omega, rfl, fun j h1 h2 => by omega, ?_, ?_, ((Below.refl _ _).alloc (Nat.le_refl _) _).alloc (by simp only [World.size_alloc]; omega) _, by simp⟩
    · exact (Arr.new8 (f := fun _ => 0) rfl).alloc _
    · exact Arr.new8 (f := fun _ => 0) (by simp)
  case round =>
    obtain ⟨k, f, hk, rfl, hf, hz, hs, hbel, hsz⟩ := hrel
    have Hf := Lib.hid hf
    clear hf
    by_cases hlt : k < 8
    · have b1 := kbyte_run n k
      have f1 := hs.free (7 - k) (by omega)
      have f2 := hs.cell (7 - k) (by omega)
      have i2 : (7 : Int) - (k : Int) = ((7 - k : Nat) : Int) := by omega
      have i3 : ((7 - k : Nat) : Int) < 8 := by omega
      go_wp2
      go_roundw
      case rel =>
        refine ⟨k + 1, upd f (7 - k) (kbyte n k), by omega, by go_num, fun j h1 h2 => ?_, hz.set_far (by omega), hs.set (by omega), hbel.setCell (by simp) _, by rw [World.size_setCell]; exact hsz⟩
        by_cases hj : j = 7 - k
        · rw [hj, upd_same, show 7 - (7 - k) = k by omega]
        · rw [upd_ne _ hj]; exact Hf.out j (by omega) h2
      case measure => simp [intOf]; omega
    · obtain rfl : k = 8 := by omega
      have hs' : Arr .u8 wr (w.heap.size + 1) 8 (fun j => kbyte n (7 - j)) := hs.congr fun j hj => Hf.out j (by omega) hj
      obtain ⟨s0, s1, s2, s3, s4, s5, s6, s7⟩ := hs'.cells8
      obtain ⟨y0, y1, y2, y3, y4, y5, y6, y7⟩ := hz.frees8
      obtain ⟨z0, z1, z2, z3, z4, z5, z6, z7⟩ := hz.cells8
      go_wp2
      refine bodyPost_ret (v := D8 n) (by simp [results, Try.results40, go_sem, z0, z1, z2, z3, z4, z5, z6, z7, D8]) rfl ⟨rfl, ?_⟩
      exact below_set8 hbel (by omega)
end Go.Proofs.Ythloohoefjmmoaa

namespace Go.Proofs.Ythloohoefjmmoaa
open Go.RowKit

theorem kinfoU8 : (Try.prog.info? 5).map (fun i => (i.zero, i.size, i.bytes)) = some (some (.int .u8 0), 1, 1) := by kernel_rfl
theorem kown_below {B : Nat} {e : TypeId} {k : Nat} {v : Value} {n : Nat} {xs : List Value} {w w' : World} (h : w.ownsRow B e k v n xs) (hb : Below w.heap.size w w') : w'.ownsRow B e k v n xs :=
  h.kept (row := none) ⟨hb.os, hb.tape, hb.output, hb.size, fun j hj _ => hb.block j hj⟩ (by cases hv : v.ownBlock <;> simp)
theorem wpList_make_some {P : Program} (w : World) {ops : Array Oper} {rest : List Oper} {o : Oper} {a : Act} {Q : Exit → Act → World → Prop}
    (hg : o.guard = none) (l c : Operand) (t : TypeId) (hop : o.op = Op.makeSlice t l c)
    (e : TypeId) (i : TypeInfo) (z : Value) (size : Nat) (h1 : P.underlying t = some (.slice e)) (h2 : P.info? e = some i) (h3 : i.zero = some z) (h4 : i.size = size)
    (kl kc : IntKind) (L C : Int) (n m : Nat) (hl : a.eval l = .int kl L) (hc : a.eval c = .int kc C) (hL : L = (n : Int)) (hC : C = (m : Int)) (hnm : n ≤ m) (b2 : i.bytes * m ≤ 281474976710656) (b3 : m ≤ maxLen)
    (hK : wpList P ops Q rest (a.put o.dst (.slice (some ⟨w.heap.size, 0, none⟩) n m)) (w.alloc (.cells (madeCells z.cells (m * size)) e))) :
    wpList P ops Q (o :: rest) a w := by
  subst h4
  have h63' : (m : Int) ≤ 9223372036854775807 := by
    have h := b3
    simp [maxLen] at h
    omega
  have hb' : (i.bytes : Int) * (m : Int) ≤ 281474976710656 := by
    have h : ((i.bytes * m : Nat) : Int) ≤ 281474976710656 := by omega
    rwa [Int.natCast_mul] at h
  have hr := run_make (P := P) w t e i z h1 h2 h3 kl kc n m (by omega) (by omega) hb' h63'
  simp only [Int.toNat_natCast] at hr
  refine wpList_plain hg fun K hK' => ?_
  subst hL
  subst hC
  unfold Oper.wp
  simp [execOp, hop, hl, hc, hr, Result.andThen]
  exact hK' _ _ hK
theorem own_some (w : World) (e : TypeId) {m : Nat} (hm : 1 ≤ m) (h63 : m ≤ maxLen) (z : Value) :
    (w.alloc (.cells (madeCells #[z] (m * 1)) e)).ownsRow w.heap.size e 1 (.slice (some ⟨w.heap.size, 0, none⟩) 1 m) 1 [z] :=
  ⟨rfl, .inr ⟨w.heap.size, m, _, rfl, Nat.le_refl _, heap_alloc_new w _, hm, h63, size_madeCells _ _, by
    rw [toList_madeCells_one]
    obtain ⟨k, rfl⟩ : ∃ k, m = k + 1 := ⟨m - 1, by omega⟩
    rw [Nat.mul_one, Nat.mul_one, List.replicate_succ]; rfl⟩⟩
theorem own_put (w : World) (e : TypeId) {m : Nat} (hm : 1 ≤ m) (h63 : m ≤ maxLen) (z u : Value) :
    (w.alloc (.cells ((madeCells #[z] m).setIfInBounds 0 u) e)).ownsRow w.heap.size e 1 (.slice (some ⟨w.heap.size, 0, none⟩) 1 m) 1 [u] :=
  ⟨rfl, .inr ⟨w.heap.size, m, _, rfl, Nat.le_refl _, heap_alloc_new w _, hm, h63, by rw [Array.size_setIfInBounds, size_madeCells, Nat.mul_one], by
    rw [Array.toList_setIfInBounds, toList_madeCells_one]
    obtain ⟨k, rfl⟩ : ∃ k, m = k + 1 := ⟨m - 1, by omega⟩
    rw [Nat.mul_one, List.replicate_succ]; rfl⟩⟩
theorem own_set8 {w : World} {base : Nat} {e : TypeId} {k : Nat} {v : Value} {n : Nat} {xs : List Value} {b : Nat} {x0 x1 x2 x3 x4 x5 x6 x7 : Value} (h : w.ownsRow base e k v n xs) (hb : v.ownBlock ≠ some b) :
    ((((((((w.setCell ⟨b, 0, none⟩ x0).setCell ⟨b, 1, none⟩ x1).setCell ⟨b, 2, none⟩ x2).setCell ⟨b, 3, none⟩ x3).setCell ⟨b, 4, none⟩ x4).setCell ⟨b, 5, none⟩ x5).setCell ⟨b, 6, none⟩ x6).setCell ⟨b, 7, none⟩ x7).ownsRow base e k v n xs :=
  ownsRow_setCell_other (ownsRow_setCell_other (ownsRow_setCell_other (ownsRow_setCell_other (ownsRow_setCell_other (ownsRow_setCell_other (ownsRow_setCell_other (ownsRow_setCell_other h hb _) hb _) hb _) hb _) hb _) hb _) hb _) hb _
theorem Arr.put8 {κ : IntKind} {w : World} {b : Nat} {f : Nat → Nat} (h : Arr κ w b 8 f) (x0 x1 x2 x3 x4 x5 x6 x7 : Nat) :
    Arr κ ((((((((w.setCell ⟨b, 0, none⟩ (.int κ (x0 : Nat))).setCell ⟨b, 1, none⟩ (.int κ (x1 : Nat))).setCell ⟨b, 2, none⟩ (.int κ (x2 : Nat))).setCell ⟨b, 3, none⟩ (.int κ (x3 : Nat))).setCell ⟨b, 4, none⟩ (.int κ (x4 : Nat))).setCell ⟨b, 5, none⟩ (.int κ (x5 : Nat))).setCell ⟨b, 6, none⟩ (.int κ (x6 : Nat))).setCell ⟨b, 7, none⟩ (.int κ (x7 : Nat))) b 8
      (upd (upd (upd (upd (upd (upd (upd (upd f 0 x0) 1 x1) 2 x2) 3 x3) 4 x4) 5 x5) 6 x6) 7 x7) :=
  (((((((h.set (by omega)).set (by omega)).set (by omega)).set (by omega)).set (by omega)).set (by omega)).set (by omega)).set (by omega)

/-- a slice of n ints reads as f -/
structure Il (w : World) (A : Option Addr) (n : Nat) (f : Nat → Int) : Prop where
  most : ∀ i, f i < 2 ^ 63
  at_ : 0 < n → ∃ g o, A = some ⟨g, o, none⟩ ∧ g < w.heap.size ∧ ∀ i, i < n → w.cell? ⟨g, o + i, none⟩ = some (.int .i64 (f i))
theorem Il.below {w w' : World} {A : Option Addr} {n : Nat} {f : Nat → Int} (h : Il w A n f) (hb : Below w.heap.size w w') : Il w' A n f :=
  ⟨h.most, fun hn => by
    obtain ⟨g, o, e, hg, hc⟩ := h.at_ hn
    exact ⟨g, o, e, Nat.lt_of_lt_of_le hg hb.size, fun i hi => by rw [hb.cell (p := ⟨g, o + i, none⟩) hg]; exact hc i hi⟩⟩

/-- the eight bytes of a number -/
def kb8 (n : Nat) : List Nat := [kbyte n 7, kbyte n 6, kbyte n 5, kbyte n 4, kbyte n 3, kbyte n 2, kbyte n 1, kbyte n 0]
/-- a key's bytes -/
def kbs (t : Nat) (f : Nat → Int) : Nat → List Nat
  | 0 => [t]
  | k + 1 => kbs t f k ++ kb8 (f k).toNat
theorem kbs_length (t : Nat) (f : Nat → Int) : ∀ k, (kbs t f k).length = 1 + 8 * k
  | 0 => rfl
  | k + 1 => by simp only [kbs, List.length_append, kbs_length t f k, kb8, List.length_cons, List.length_nil]; omega
def k8s (l : List Nat) : List Value := l.map fun x : Nat => Value.int .u8 (x : Int)
def ints (l : List Nat) : List Int := l.map fun x : Nat => (x : Int)
def keyStr (t : Int) (f : Nat → Int) (n : Nat) : ByteArray := if 1 ≤ t ∧ t ≤ 255 ∧ ∀ i, i < n → 0 ≤ f i then strOfNums (ints (kbs t.toNat f n)) else ⟨#[]⟩
theorem k8s_get {l : List Nat} {j : Nat} (h : j < l.length) : (k8s l)[j]? = some (.int .u8 ((ints l).getD j 0)) := by
  simp [k8s, ints, List.getD, List.getElem?_eq_getElem h]
theorem dig_c (x : Int) (w : World) (h0 : 0 ≤ x) (h1 : x < 2 ^ 63) : Calls Try.prog 40 #[.int .i64 x] w fun e w' => e = .returned (D8 x.toNat) ∧ Below w.heap.size w w' := by
  obtain ⟨n, rfl⟩ : ∃ n : Nat, x = (n : Int) := ⟨x.toNat, by omega⟩
  exact dig_walk n w (by omega)

theorem k8s_one (l : List Nat) : ∀ u ∈ k8s l, u.oneCell' = true := fun u hu => by
  simp only [k8s, List.mem_map] at hu
  obtain ⟨x, _, rfl⟩ := hu
  rfl
theorem dig_cells (w : World) (m : Nat) (t : TypeId) : ∀ j u, (k8s (kb8 m))[j]? = some u → (w.alloc (.cells #[.int .u8 (kbyte m 7 : Nat), .int .u8 (kbyte m 6 : Nat), .int .u8 (kbyte m 5 : Nat), .int .u8 (kbyte m 4 : Nat), .int .u8 (kbyte m 3 : Nat), .int .u8 (kbyte m 2 : Nat), .int .u8 (kbyte m 1 : Nat), .int .u8 (kbyte m 0 : Nat)] t)).cell? ((⟨w.heap.size, 0, none⟩ : Addr).add j) = some u := by
  intro j u h
  have hj : j < 8 := by
    rcases Nat.lt_or_ge j 8 with h' | h'
    · exact h'
    · rw [List.getElem?_eq_none (by simpa [k8s, kb8] using h')] at h; cases h
  have ha : (⟨w.heap.size, 0, none⟩ : Addr).add j = ⟨w.heap.size, j, none⟩ := by unfold Addr.add; split <;> simp_all
  rw [ha, World.cell?_alloc_new]
  rcases (by omega : j = 0 ∨ j = 1 ∨ j = 2 ∨ j = 3 ∨ j = 4 ∨ j = 5 ∨ j = 6 ∨ j = 7) with rfl | rfl | rfl | rfl | rfl | rfl | rfl | rfl <;> exact h

def KeyPost (t : Int) (f : Nat → Int) (n : Nat) (w : World) (e : Ending) (w' : World) : Prop := e = .returned (.string (keyStr t f n)) ∧ Below w.heap.size w w'
def KeyRel (t : Nat) (f : Nat → Int) (n : Nat) (w : World) (v i : Value) (wr : World) : Prop :=
  ∃ k : Nat, k ≤ n ∧ i = .int .i64 (k : Nat) ∧ v = .slice (some ⟨w.heap.size, 0, none⟩) (1 + 8 * k) (1 + 8 * n) ∧ (∀ j, j < k → 0 ≤ f j) ∧
    wr.ownsRow w.heap.size 5 1 (.slice (some ⟨w.heap.size, 0, none⟩) (1 + 8 * k) (1 + 8 * n)) (1 + 8 * k) (k8s (kbs t f k)) ∧ Below w.heap.size w wr ∧ w.heap.size < wr.heap.size

set_option maxRecDepth 100000 in
set_option maxHeartbeats 1000000 in
theorem key_walk (t : Int) (A : Option Addr) (n c : Nat) (f : Nat → Int) (w : World) (hl : Il w A n f) (hn : n ≤ 100) :
    Calls Try.prog 26 #[.int .i64 t, .slice A n c] w (KeyPost t f n w) := by
  have hnI : (n : Int) ≤ 100 := by omega
  obtain ⟨i0, hi, hz0, hz1, hz2⟩ := info_parts kinfoU8
  by_cases ht : 1 ≤ t ∧ t ≤ 255
  · obtain ⟨tn, rfl⟩ : ∃ tn : Nat, t = (tn : Int) := ⟨t.toNat, by omega⟩
    have t1 : (1 : Int) ≤ tn := ht.1
    have t2 : (tn : Int) ≤ 255 := ht.2
    have n1 : ¬ ((tn : Int) < 1) := by omega
    have n2 : ¬ ((255 : Int) < tn) := by omega
    have w8 : IntKind.u8.wrap (tn : Int) = (tn : Int) := IntWalk.u8_in _ (by omega)
    clear ht
    go_enter Try.func26, Try.ntmps26
    have O0 := own_some w 5 (m := 1 + 8 * n) (by omega) (by unfold maxLen; omega) (.int .u8 0)
    have c0 := O0.cellAt 0 (by omega)
    have f0 := O0.frozenAt 0
    have O1 := own_put w 5 (m := 1 + 8 * n) (by omega) (by unfold maxLen; omega) (.int .u8 0) (.int .u8 tn)
    simp only [List.getElem?_cons_zero, Nat.mul_one] at c0 f0
    go_wp2_with (at_make; refine wpList_make_some _ rfl _ _ _ rfl 5 i0 (.int .u8 0) 1 Try.underlying73 hi hz0 hz1 .i64 .i64 _ _ 1 (1 + 8 * n) rfl rfl (by omega) (by omega) (by omega) (by rw [hz2]; omega) (by unfold maxLen; omega) ?_)
    clear O0 c0 f0
    go_loopw [5, 26] (KeyRel tn f n w) (fun _ i _ => n - (intOf i).toNat)
    case atStart =>
      exact ⟨0, by omega, rfl, rfl, fun j h => by omega, O1, (Below.refl _ _).alloc (Nat.le_refl _) _, by simp⟩
    case round =>
      obtain ⟨k, hk, rfl, rfl, hpos, hown, hbel, hsz⟩ := hrel
      have kI : (k : Int) ≤ n := by omega
      by_cases hlt : k < n
      · obtain ⟨g, o, rfl, hg, hc⟩ := hl.at_ (by omega)
        have hm := hl.most k
        have hck : wr.cell? ⟨g, o + k, none⟩ = some (.int .i64 (f k)) := by rw [hbel.cell (p := ⟨g, o + k, none⟩) hg]; exact hc k hlt
        clear hc hl O1
        by_cases hf : f k < 0
        · go_wp2
          refine bodyPost_ret (v := .string ⟨#[]⟩) (by simp [results, Try.results26, go_sem]) rfl ⟨?_, hbel⟩
          unfold keyStr; rw [if_neg (fun h => absurd (h.2.2 k hlt) (by omega))]
        · have h0 : 0 ≤ f k := by omega
          have hdf : decide (f k < 0) = false := decide_eq_false hf
          go_wp2_with (first
            | (go_at_call 40; refine (dig_c (f k) _ h0 hm).mono ?_; rintro e w2 ⟨rfl, hb2⟩; unfold D8; have hown2 := kown_below hown hb2; have hz2 := hb2.size; have hb3 := (hbel.trans (hb2.mono (by omega))).alloc (by omega) (.cells #[.int .u8 (kbyte (f k).toNat 7 : Nat), .int .u8 (kbyte (f k).toNat 6 : Nat), .int .u8 (kbyte (f k).toNat 5 : Nat), .int .u8 (kbyte (f k).toNat 4 : Nat), .int .u8 (kbyte (f k).toNat 3 : Nat), .int .u8 (kbyte (f k).toNat 2 : Nat), .int .u8 (kbyte (f k).toNat 1 : Nat), .int .u8 (kbyte (f k).toNat 0 : Nat)] 83))
            | (at_builtin; refine wpList_append_fits _ rfl (.tmp 34) (.tmp 35) _ rfl w.heap.size 5 i0 1 Try.underlying73 hi hz1 w.heap.size (1 + 8 * k) (1 + 8 * n) (k8s (kbs tn f k)) rfl (hown2.alloc _) ⟨w2.heap.size, 0, none⟩ 8 8 (k8s (kb8 (f k).toNat)) rfl rfl (dig_cells _ _ _) (k8s_one _) (by omega) ?_; intro w3 hown3 hg3))
          go_roundw
          case rel =>
            refine ⟨k + 1, by omega, by go_num, ?_, ?_, ?_, ?_, ?_⟩
            · rw [show 1 + 8 * (k + 1) = 1 + 8 * k + 8 by omega]
            · intro j hj
              rcases Nat.lt_or_ge j k with h | h
              · exact hpos j h
              · rw [show j = k by omega]; exact h0
            · rw [show 1 + 8 * (k + 1) = 1 + 8 * k + 8 by omega, show k8s (kbs tn f (k + 1)) = k8s (kbs tn f k) ++ k8s (kb8 (f k).toNat) by simp [k8s, kbs]]
              exact hown3
            · exact hb3.grown hg3 (by simp; omega) (fun j hj => by cases hj; exact Nat.le_refl _)
            · have := hg3.size; simp at this; omega
          case measure => simp [intOf]; omega
      · obtain rfl : k = n := by omega
        have hcv := run_convert_bytes_arg (P := Try.prog) wr 73 5 Try.underlying73 Try.underlying5 w.heap.size 0 (1 + 8 * k) (1 + 8 * k) (ints (kbs tn f k)) (by simp [ints, kbs_length])
          (fun i hi => by rw [Nat.zero_add, hown.cellAt i (by omega), k8s_get (by rw [kbs_length]; exact hi)]) 9 Try.underlying9
        go_wp2
        go_ret
        exact ⟨by unfold keyStr; rw [if_pos ⟨t1, t2, hpos⟩, Int.toNat_natCast]; rfl, hbel⟩
  · go_enter Try.func26, Try.ntmps26
    go_wp2
    all_goals
      refine bodyPost_ret (v := .string ⟨#[]⟩) (by simp [results, Try.results26, go_sem]) rfl ⟨?_, Below.refl _ _⟩
      unfold keyStr; rw [if_neg (fun h => ht ⟨h.1, h.2.1⟩)]
end Go.Proofs.Ythloohoefjmmoaa

namespace Go.Proofs.Ythloohoefjmmoaa
open Go.RowKit

def bys (f : Nat → Nat) (k : Nat) : List Value := (List.range k).map fun i => Value.int .u8 (f i : Nat)
theorem bys_succ (f : Nat → Nat) (k : Nat) : bys f (k + 1) = bys f k ++ [.int .u8 (f k : Nat)] := by simp [bys, List.range_succ]
theorem bys_get (f : Nat → Nat) {k i : Nat} (h : i < k) : (bys f k)[i]? = some (.int .u8 (f i : Nat)) := by simp [bys, h]
theorem bys_length (f : Nat → Nat) (k : Nat) : (bys f k).length = k := by simp [bys]
theorem bys_congr {f g : Nat → Nat} {k : Nat} (h : ∀ i, i < k → f i = g i) : bys f k = bys g k := by
  unfold bys
  refine List.map_congr_left fun i hi => ?_
  rw [h i (List.mem_range.1 hi)]
theorem bys_one (g : Nat → Nat) (m : Nat) : ∀ u ∈ bys g m, u.oneCell' = true := by
  intro u hu
  obtain ⟨_, _, rfl⟩ := List.mem_map.1 hu
  rfl
/-- f's first n, and behind them g's -/
def cat (f : Nat → Nat) (n : Nat) (g : Nat → Nat) (i : Nat) : Nat := if i < n then f i else g (i - n)
theorem bys_cat (f : Nat → Nat) (n : Nat) (g : Nat → Nat) : ∀ m, bys f n ++ bys g m = bys (cat f n g) (n + m)
  | 0 => by
    show bys f n ++ [] = _
    rw [List.append_nil]; exact bys_congr fun i hi => (if_pos hi).symm
  | m + 1 => by
    rw [bys_succ, ← List.append_assoc, bys_cat f n g m, ← Nat.add_assoc, bys_succ]
    congr 3
    show _ = ((if n + m < n then f (n + m) else g (n + m - n) : Nat) : Int)
    rw [if_neg (by omega), Nat.add_sub_cancel_left]
def tot (n : Nat → Nat) : Nat → Nat
  | 0 => 0
  | k + 1 => tot n k + n k
def cats (n : Nat → Nat) (f : Nat → Nat → Nat) : Nat → Nat → Nat
  | 0 => fun _ => 0
  | k + 1 => cat (cats n f k) (tot n k) (f k)
theorem tot_le {n : Nat → Nat} {M m : Nat} (h : ∀ i, i < m → n i ≤ M) : ∀ k, k ≤ m → tot n k ≤ k * M
  | 0, _ => by simp [tot]
  | k + 1, hk => by
    have := tot_le h k (by omega)
    have := h k (by omega)
    simp only [tot, Nat.add_mul]; omega
theorem Sl.news {w : World} {ad : Addr} {n : Nat} {f : Nat → Nat} (h : Sl w (some ad) n f) : ∀ j u, (bys f n)[j]? = some u → w.cell? (ad.add j) = some u := by
  intro j u hu
  have hj : j < n := by have := (List.getElem?_eq_some_iff.1 hu).1; simpa [bys] using this
  rw [bys_get f hj] at hu
  cases hu
  obtain ⟨g, o, e, _, hc⟩ := h.at_ (by omega)
  cases e
  rw [Addr.add_lit]; exact hc j hj
theorem oinfoU8 : (Try.prog.info? 5).map (fun i => (i.zero, i.size, i.bytes)) = some (some (.int .u8 0), 1, 1) := by kernel_rfl
theorem own_zero {w : World} {z : Value} {n cap : Nat} {e : TypeId} (hz : z.cells.size = 1) (hn : n ≤ cap) (hc : cap ≤ maxLen) :
    (w.drew.alloc (.cells (Builtin.zeroCells z.cells n ++ Builtin.zeroCells z.cells (cap - n)) e)).ownsRow w.heap.size e 1 (.slice (some ⟨w.heap.size, 0, none⟩) 0 cap) 0 [] := by
  refine ⟨rfl, .inr ⟨w.heap.size, cap, _, rfl, Nat.le_refl _, heap_alloc_new w.drew _, Nat.zero_le _, hc, ?_, by simp⟩⟩
  simp only [Array.size_append, size_zeroCells, hz]
  omega
/-- the bytes so far, the first i slices' -/
def CatRel (n : Nat → Nat) (f : Nat → Nat → Nat) (m : Nat) (w : World) (v i : Value) (wr : World) : Prop :=
  ∃ k : Nat, k ≤ m ∧ i = .int .i64 (k : Nat) ∧ wr.ownsRow w.heap.size 5 1 v (tot n k) (bys (cats n f k) (tot n k)) ∧ Below w.heap.size w wr
/-- the m slices that lie in the block B -/
structure Lot (w : World) (B m : Nat) (A : Nat → Option Addr) (n c : Nat → Nat) (f : Nat → Nat → Nat) : Prop where
  lt : B < w.heap.size
  cell : ∀ i, i < m → w.cell? ⟨B, i, none⟩ = some (.slice (A i) (n i) (c i))
  sl : ∀ i, i < m → Sl w (A i) (n i) (f i)
  nil : ∀ i, i < m → A i = none → n i = 0 ∧ c i = 0
  le : ∀ i, i < m → n i ≤ 2 ^ 20
theorem Lot.below {w w' : World} {B m : Nat} {A : Nat → Option Addr} {n c : Nat → Nat} {f : Nat → Nat → Nat} (h : Lot w B m A n c f) (hb : Below w.heap.size w w') : Lot w' B m A n c f :=
  ⟨Nat.lt_of_lt_of_le h.lt hb.size, fun i hi => by rw [hb.cell (p := ⟨B, i, none⟩) h.lt]; exact h.cell i hi, fun i hi => (h.sl i hi).below hb, h.nil, h.le⟩
theorem own_base {w : World} {B B' n k : Nat} {e : TypeId} {v : Value} {xs : List Value} (h : w.ownsRow B e k v n xs) (hb : B' ≤ B) : w.ownsRow B' e k v n xs :=
  ⟨h.1, h.2.elim .inl fun ⟨g, cap, cur, h1, h2, h3⟩ => .inr ⟨g, cap, cur, h1, Nat.le_trans hb h2, h3⟩⟩
theorem own_sl {w : World} {B n : Nat} {e : TypeId} {v : Value} {f : Nat → Nat} (h : w.ownsRow B e 1 v n (bys f n)) (hs : ∀ i, f i < 256) : ∃ A c, v = .slice A n c ∧ Sl w A n f ∧ (A = none → n = 0 ∧ c = 0) := by
  rcases h.2 with ⟨rfl, rfl⟩ | ⟨g, cap, cur, rfl, hb, hh, r⟩
  · exact ⟨none, 0, rfl, ⟨hs, fun h => absurd h (by omega)⟩, fun _ => ⟨rfl, rfl⟩⟩
  · refine ⟨_, cap, rfl, ⟨hs, fun hn => ⟨g, 0, rfl, (h.lt g rfl).2, fun i hi => ?_⟩⟩, fun h => by cases h⟩
    rw [Nat.zero_add, h.cellAt i (by omega), bys_get f hi]
theorem Sl.alloc {w : World} {A : Option Addr} {n : Nat} {f : Nat → Nat} (h : Sl w A n f) (o : Obj) : Sl (w.alloc o) A n f := h.below ((Below.refl _ _).alloc (Nat.le_refl _) _)
def two {α : Type} (a b : α) : Nat → α
  | 0 => a
  | _ => b
def three {α : Type} (a b c : α) : Nat → α
  | 0 => a
  | 1 => b
  | _ => c
theorem cats2 {n0 n1 : Nat} {f0 f1 : Nat → Nat} : bys (cats (two n0 n1) (two f0 f1) 2) (tot (two n0 n1) 2) = bys (cat f0 n0 f1) (n0 + n1) := by
  have e : tot (two n0 n1) 2 = n0 + n1 := by simp [tot, two]
  rw [e]
  refine bys_congr fun i _ => ?_
  simp [cats, cat, tot, two]
theorem cats3 {n0 n1 n2 : Nat} {f0 f1 f2 : Nat → Nat} : bys (cats (three n0 n1 n2) (three f0 f1 f2) 3) (tot (three n0 n1 n2) 3) = bys (cat (cat f0 n0 f1) (n0 + n1) f2) (n0 + n1 + n2) := by
  have e : tot (three n0 n1 n2) 3 = n0 + n1 + n2 := by simp [tot, three]
  rw [e]
  refine bys_congr fun i _ => ?_
  simp [cats, cat, tot, three]
end Go.Proofs.Ythloohoefjmmoaa
