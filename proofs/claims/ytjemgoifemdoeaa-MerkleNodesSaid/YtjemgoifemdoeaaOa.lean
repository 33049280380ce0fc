/- Bytes behind bytes: slices.Grow and slices.Concat of bytes, walked. -/
import Derived.Test.YtjemgoifemdoeaaProg
import Derived.Test.YtjemgoifemdoeaaKit
import Derived.Lib.Hide
import Derived.OneCell
import Derived.OwnWalk
import Derived.Lib.AppendZeros
import Derived.Laws.AppendOwnNone
namespace Go.Proofs.Ytjemgoifemdoeaa
open Go.RowKit

def bys (f : Nat → Nat) (k : Nat) : List Value := (List.range k).map fun i => Value.int .u8 (f i : Nat)
theorem bys_succ (f : Nat → Nat) (k : Nat) : bys f (k + 1) = bys f k ++ [.int .u8 (f k : Nat)] := by simp [bys, List.range_succ]
theorem bys_get (f : Nat → Nat) {k i : Nat} (h : i < k) : (bys f k)[i]? = some (.int .u8 (f i : Nat)) := by simp [bys, h]
theorem bys_length (f : Nat → Nat) (k : Nat) : (bys f k).length = k := by simp [bys]
theorem bys_congr {f g : Nat → Nat} {k : Nat} (h : ∀ i, i < k → f i = g i) : bys f k = bys g k := by
  unfold bys
  refine List.map_congr_left fun i hi => ?_
  rw [h i (List.mem_range.1 hi)]
theorem bys_one (g : Nat → Nat) (m : Nat) : ∀ u ∈ bys g m, u.oneCell' = true := by
  intro u hu
  obtain ⟨_, _, rfl⟩ := List.mem_map.1 hu
  rfl
/-- f's first n, and behind them g's -/
def cat (f : Nat → Nat) (n : Nat) (g : Nat → Nat) (i : Nat) : Nat := if i < n then f i else g (i - n)
theorem bys_cat (f : Nat → Nat) (n : Nat) (g : Nat → Nat) : ∀ m, bys f n ++ bys g m = bys (cat f n g) (n + m)
  | 0 => by
    show bys f n ++ [] = _
    rw [List.append_nil]; exact bys_congr fun i hi => (if_pos hi).symm
  | m + 1 => by
    rw [bys_succ, ← List.append_assoc, bys_cat f n g m, ← Nat.add_assoc, bys_succ]
    congr 3
    show _ = ((if n + m < n then f (n + m) else g (n + m - n) : Nat) : Int)
    rw [if_neg (by omega), Nat.add_sub_cancel_left]
def tot (n : Nat → Nat) : Nat → Nat
  | 0 => 0
  | k + 1 => tot n k + n k
def cats (n : Nat → Nat) (f : Nat → Nat → Nat) : Nat → Nat → Nat
  | 0 => fun _ => 0
  | k + 1 => cat (cats n f k) (tot n k) (f k)
theorem tot_le {n : Nat → Nat} {M m : Nat} (h : ∀ i, i < m → n i ≤ M) : ∀ k, k ≤ m → tot n k ≤ k * M
  | 0, _ => by simp [tot]
  | k + 1, hk => by
    have := tot_le h k (by omega)
    have := h k (by omega)
    simp only [tot, Nat.add_mul]; omega
theorem Sl.news {w : World} {ad : Addr} {n : Nat} {f : Nat → Nat} (h : Sl w (some ad) n f) : ∀ j u, (bys f n)[j]? = some u → w.cell? (ad.add j) = some u := by
  intro j u hu
  have hj : j < n := by have := (List.getElem?_eq_some_iff.1 hu).1; simpa [bys] using this
  rw [bys_get f hj] at hu
  cases hu
  obtain ⟨g, o, e, _, hc⟩ := h.at_ (by omega)
  cases e
  rw [Addr.add_lit]; exact hc j hj
theorem oinfoU8 : (Try.prog.info? 5).map (fun i => (i.zero, i.size, i.bytes)) = some (some (.int .u8 0), 1, 1) := by kernel_rfl
theorem own_zero {w : World} {z : Value} {n cap : Nat} {e : TypeId} (hz : z.cells.size = 1) (hn : n ≤ cap) (hc : cap ≤ maxLen) :
    (w.drew.alloc (.cells (Builtin.zeroCells z.cells n ++ Builtin.zeroCells z.cells (cap - n)) e)).ownsRow w.heap.size e 1 (.slice (some ⟨w.heap.size, 0, none⟩) 0 cap) 0 [] := by
  refine ⟨rfl, .inr ⟨w.heap.size, cap, _, rfl, Nat.le_refl _, heap_alloc_new w.drew _, Nat.zero_le _, hc, ?_, by simp⟩⟩
  simp only [Array.size_append, size_zeroCells, hz]
  omega
set_option maxRecDepth 100000 in
set_option maxHeartbeats 1000000 in
theorem grow_walk (n : Nat) (w : World) (hn : n ≤ 2 ^ 40) : Calls Try.prog 77 #[.slice none 0 0, .int .i64 (n : Nat)] w fun e w' => (∃ v, e = .returned v ∧ w'.ownsRow w.heap.size 5 1 v 0 []) ∧ Below w.heap.size w w' := by
  obtain ⟨i0, hi, hz0, hz1, hz2⟩ := info_parts oinfoU8
  have p1 : ¬ ((n : Int) < 0) := by omega
  by_cases h0 : n = 0
  · subst h0
    go_enter Try.func77, Try.ntmps77
    go_wp2
    go_ret
    exact ⟨⟨_, rfl, World.ownsRow_nil _ _ _ _⟩, Below.refl _ _⟩
  · have p2 : 0 < (n : Int) := by omega
    have hg := grownCap_ge w n 0 5
    have hm := grownCap_le_maxLen w n 0 5 (by unfold maxLen; omega)
    have hr := Lib.hid (Lib.run_append_nil_zeros (P := Try.prog) w 22 3 22 5 i0 (.int .u8 0) .i64 .i64 Try.underlying22 Try.underlying3 hi hz0 n (by omega) (by omega) (by omega) (by rw [hz2]; omega))
    have hw := Lib.hid (own_zero (w := w) (z := .int .u8 0) (n := n) (e := 5) rfl hg hm)
    generalize hcp : grownCap w n 0 5 = cp at *
    clear hcp
    go_enter Try.func77, Try.ntmps77
    go_wp2_with (at_builtin; refine Lib.wpList_append_run _ rfl _ _ _ _ rfl _ _ rfl rfl _ _ hr.out ?_)
    go_ret
    exact ⟨⟨_, rfl, hw.out⟩, ((Below.refl _ _).drew).alloc (Nat.le_refl _) _⟩

/-- the bytes so far, the first i slices' -/
def CatRel (n : Nat → Nat) (f : Nat → Nat → Nat) (m : Nat) (w : World) (v i : Value) (wr : World) : Prop :=
  ∃ k : Nat, k ≤ m ∧ i = .int .i64 (k : Nat) ∧ wr.ownsRow w.heap.size 5 1 v (tot n k) (bys (cats n f k) (tot n k)) ∧ Below w.heap.size w wr
/-- the m slices that lie in the block B -/
structure Lot (w : World) (B m : Nat) (A : Nat → Option Addr) (n c : Nat → Nat) (f : Nat → Nat → Nat) : Prop where
  lt : B < w.heap.size
  cell : ∀ i, i < m → w.cell? ⟨B, i, none⟩ = some (.slice (A i) (n i) (c i))
  sl : ∀ i, i < m → Sl w (A i) (n i) (f i)
  nil : ∀ i, i < m → A i = none → n i = 0 ∧ c i = 0
  le : ∀ i, i < m → n i ≤ 2 ^ 20
theorem Lot.below {w w' : World} {B m : Nat} {A : Nat → Option Addr} {n c : Nat → Nat} {f : Nat → Nat → Nat} (h : Lot w B m A n c f) (hb : Below w.heap.size w w') : Lot w' B m A n c f :=
  ⟨Nat.lt_of_lt_of_le h.lt hb.size, fun i hi => by rw [hb.cell (p := ⟨B, i, none⟩) h.lt]; exact h.cell i hi, fun i hi => (h.sl i hi).below hb, h.nil, h.le⟩
set_option maxRecDepth 100000 in
set_option maxHeartbeats 2000000 in
theorem concat_walk (B m : Nat) (A : Nat → Option Addr) (n c : Nat → Nat) (f : Nat → Nat → Nat) (w : World) (hm : m ≤ 8) (hl : Lot w B m A n c f) :
    Calls Try.prog 67 #[.slice (some ⟨B, 0, none⟩) m m] w fun e w' => (∃ v, e = .returned v ∧ w'.ownsRow w.heap.size 5 1 v (tot n m) (bys (cats n f m) (tot n m))) ∧ Below w.heap.size w w' := by
  obtain ⟨i0, hi, hz0, hz1, hz2⟩ := info_parts oinfoU8
  have HL := Lib.hid hl
  have HT := Lib.hid (tot_le hl.le)
  have hB := hl.lt
  have hM : (m : Int) ≤ 8 := by omega
  clear hl
  go_enter Try.func67, Try.ntmps67
  go_wp2
  go_loopw [3, 11] (fun x i wr => ∃ k : Nat, k ≤ m ∧ i = .int .i64 (k : Nat) ∧ x = .int .i64 (tot n k : Nat) ∧ w = wr) (fun _ i _ => m - (intOf i).toNat)
  case atStart => exact ⟨0, Nat.zero_le _, rfl, rfl, rfl⟩
  case round =>
    obtain ⟨k, hk, rfl, rfl, rfl⟩ := hrel
    have hT := HT.out k hk
    by_cases hlt : k < m
    · have p1 : (k : Int) < (m : Int) := by omega
      have ck := HL.out.cell k hlt
      have hle := HL.out.le k hlt
      have p2 : ¬ ((tot n k : Int) + (n k : Int) < 0) := by omega
      have e1 : (tot n k : Int) + (n k : Int) = ((tot n (k + 1) : Nat) : Int) := by simp [tot]
      have E1 := Lib.hid e1
      clear e1
      go_wp2
      exact ⟨⟨k + 1, by omega, by simp, by rw [E1.out], trivial⟩, by simp [intOf]; omega⟩
    · obtain rfl : k = m := by omega
      have p1 : ¬ (k : Int) < (k : Int) := by omega
      go_wp2_with (go_at_call 77; refine (grow_walk (tot n k) _ (by omega)).mono ?_; rintro e w1 ⟨⟨v1, rfl, hv1⟩, hb1⟩)
      go_loopw [6, 27] (CatRel n f k w) (fun _ i _ => k - (intOf i).toNat)
      case atStart => exact ⟨0, Nat.zero_le _, rfl, hv1, hb1⟩
      case round =>
        obtain ⟨j, hj, rfl, hv, hb⟩ := hrel
        have hT2 := HT.out j hj
        by_cases hlt2 : j < k
        · have p3 : (j : Int) < (k : Int) := by omega
          have L2 := HL.out.below hb
          have cj := L2.cell j hlt2
          have sj := L2.sl j hlt2
          have nj := L2.nil j hlt2
          have lj := L2.le j hlt2
          have hbs := hb.size
          clear L2
          generalize hA : A j = Aj at *
          cases Aj with
          | none =>
            obtain ⟨z1, z2⟩ := nj rfl
            rw [z1, z2] at cj
            go_wp2_with (at_builtin; refine wpList_append_own_none rfl _ _ _ rfl _ 5 i0 1 Try.underlying22 hi _ _ _ rfl hv rfl ?_)
            refine ⟨⟨j + 1, by omega, by simp, ?_, hb⟩, by simp [intOf]; omega⟩
            have e3 := bys_cat (cats n f j) (tot n j) (f j) (n j)
            have e4 : bys (f j) (n j) = [] := by rw [z1]; rfl
            rw [e4, List.append_nil] at e3
            have e2 : tot n (j + 1) = tot n j := by simp only [tot, z1]; rfl
            show wr.ownsRow _ _ _ _ _ (bys (cat (cats n f j) (tot n j) (f j)) (tot n j + n j))
            rw [← e3, e2]
            exact hv
          | some ad =>
            go_wp2_with (at_builtin; refine wpList_append_own _ rfl _ _ _ rfl w.heap.size 5 i0 (.int .u8 0) 1 1 Try.underlying22 hi hz0 hz1 hz2 rfl (by omega) _ (tot n j) _ rfl hv ad (n j) (c j) (bys (f j) (n j)) rfl (by rw [bys_length]; omega) sj.news (bys_one _ _) (by unfold maxLen; omega) (by omega) hbs ?_)
            intro v2 w2 hown hgrow _
            rw [bys_cat] at hown
            have Hown := Lib.hid hown
            have Hb := Lib.hid (hb.grown hgrow hbs (fun q hq => (hv.lt q hq).1))
            clear hown hgrow hb hv
            go_wp2
            exact ⟨⟨j + 1, by omega, by simp, Hown.out, Hb.out⟩, by simp [intOf]; omega⟩
        · obtain rfl : j = k := by omega
          have p3 : ¬ (j : Int) < (j : Int) := by omega
          go_wp2
          go_ret
          exact ⟨⟨_, rfl, hv⟩, hb⟩

theorem own_base {w : World} {B B' n k : Nat} {e : TypeId} {v : Value} {xs : List Value} (h : w.ownsRow B e k v n xs) (hb : B' ≤ B) : w.ownsRow B' e k v n xs :=
  ⟨h.1, h.2.elim .inl fun ⟨g, cap, cur, h1, h2, h3⟩ => .inr ⟨g, cap, cur, h1, Nat.le_trans hb h2, h3⟩⟩
theorem own_sl {w : World} {B n : Nat} {e : TypeId} {v : Value} {f : Nat → Nat} (h : w.ownsRow B e 1 v n (bys f n)) (hs : ∀ i, f i < 256) : ∃ A c, v = .slice A n c ∧ Sl w A n f ∧ (A = none → n = 0 ∧ c = 0) := by
  rcases h.2 with ⟨rfl, rfl⟩ | ⟨g, cap, cur, rfl, hb, hh, r⟩
  · exact ⟨none, 0, rfl, ⟨hs, fun h => absurd h (by omega)⟩, fun _ => ⟨rfl, rfl⟩⟩
  · refine ⟨_, cap, rfl, ⟨hs, fun hn => ⟨g, 0, rfl, (h.lt g rfl).2, fun i hi => ?_⟩⟩, fun h => by cases h⟩
    rw [Nat.zero_add, h.cellAt i (by omega), bys_get f hi]
theorem Sl.alloc {w : World} {A : Option Addr} {n : Nat} {f : Nat → Nat} (h : Sl w A n f) (o : Obj) : Sl (w.alloc o) A n f := h.below ((Below.refl _ _).alloc (Nat.le_refl _) _)
def two {α : Type} (a b : α) : Nat → α
  | 0 => a
  | _ => b
def three {α : Type} (a b c : α) : Nat → α
  | 0 => a
  | 1 => b
  | _ => c
theorem cats2 {n0 n1 : Nat} {f0 f1 : Nat → Nat} : bys (cats (two n0 n1) (two f0 f1) 2) (tot (two n0 n1) 2) = bys (cat f0 n0 f1) (n0 + n1) := by
  have e : tot (two n0 n1) 2 = n0 + n1 := by simp [tot, two]
  rw [e]
  refine bys_congr fun i _ => ?_
  simp [cats, cat, tot, two]
theorem cats3 {n0 n1 n2 : Nat} {f0 f1 f2 : Nat → Nat} : bys (cats (three n0 n1 n2) (three f0 f1 f2) 3) (tot (three n0 n1 n2) 3) = bys (cat (cat f0 n0 f1) (n0 + n1) f2) (n0 + n1 + n2) := by
  have e : tot (three n0 n1 n2) 3 = n0 + n1 + n2 := by simp [tot, three]
  rw [e]
  refine bys_congr fun i _ => ?_
  simp [cats, cat, tot, three]
theorem concat2_c (A0 A1 : Option Addr) (n0 n1 c0 c1 : Nat) (f0 f1 : Nat → Nat) (w1 : World) (h0 : Sl w1 A0 n0 f0) (h1 : Sl w1 A1 n1 f1) (z0 : A0 = none → n0 = 0 ∧ c0 = 0) (z1 : A1 = none → n1 = 0 ∧ c1 = 0) (l0 : n0 ≤ 2 ^ 20) (l1 : n1 ≤ 2 ^ 20) (t : TypeId) :
    Calls Try.prog 67 #[.slice (some ⟨w1.heap.size, 0, none⟩) 2 2] (w1.alloc (.cells #[.slice A0 n0 c0, .slice A1 n1 c1] t)) fun e w' => (∃ v, e = .returned v ∧ w'.ownsRow w1.heap.size 5 1 v (n0 + n1) (bys (cat f0 n0 f1) (n0 + n1))) ∧ Below w1.heap.size w1 w' := by
  have hl : Lot (w1.alloc (.cells #[.slice A0 n0 c0, .slice A1 n1 c1] t)) w1.heap.size 2 (two A0 A1) (two n0 n1) (two c0 c1) (two f0 f1) := by
    refine ⟨by simp, fun i hi => ?_, fun i hi => ?_, fun i hi => ?_, fun i hi => ?_⟩ <;> rcases (by omega : i = 0 ∨ i = 1) with rfl | rfl
    · rw [World.cell?_alloc_new]; rfl
    · rw [World.cell?_alloc_new]; rfl
    · exact h0.alloc _
    · exact h1.alloc _
    · exact z0
    · exact z1
    · exact l0
    · exact l1
  refine (concat_walk w1.heap.size 2 _ _ _ _ _ (by omega) hl).mono fun e w' ⟨⟨v, he, hv⟩, hw⟩ => ⟨⟨v, he, ?_⟩, ((Below.refl _ _).alloc (Nat.le_refl _) _).trans (hw.mono (by simp))⟩
  have h2 := (own_base (B' := w1.heap.size) hv (by simp))
  rw [cats2] at h2
  have e : tot (two n0 n1) 2 = n0 + n1 := by simp [tot, two]
  rw [e] at h2
  exact h2
theorem concat3_c (A0 A1 A2 : Option Addr) (n0 n1 n2 c0 c1 c2 : Nat) (f0 f1 f2 : Nat → Nat) (w1 : World) (h0 : Sl w1 A0 n0 f0) (h1 : Sl w1 A1 n1 f1) (h2 : Sl w1 A2 n2 f2) (z0 : A0 = none → n0 = 0 ∧ c0 = 0) (z1 : A1 = none → n1 = 0 ∧ c1 = 0) (z2 : A2 = none → n2 = 0 ∧ c2 = 0) (l0 : n0 ≤ 2 ^ 20) (l1 : n1 ≤ 2 ^ 20) (l2 : n2 ≤ 2 ^ 20) (t : TypeId) :
    Calls Try.prog 67 #[.slice (some ⟨w1.heap.size, 0, none⟩) 3 3] (w1.alloc (.cells #[.slice A0 n0 c0, .slice A1 n1 c1, .slice A2 n2 c2] t)) fun e w' => (∃ v, e = .returned v ∧ w'.ownsRow w1.heap.size 5 1 v (n0 + n1 + n2) (bys (cat (cat f0 n0 f1) (n0 + n1) f2) (n0 + n1 + n2))) ∧ Below w1.heap.size w1 w' := by
  have hl : Lot (w1.alloc (.cells #[.slice A0 n0 c0, .slice A1 n1 c1, .slice A2 n2 c2] t)) w1.heap.size 3 (three A0 A1 A2) (three n0 n1 n2) (three c0 c1 c2) (three f0 f1 f2) := by
    refine ⟨by simp, fun i hi => ?_, fun i hi => ?_, fun i hi => ?_, fun i hi => ?_⟩ <;> rcases (by omega : i = 0 ∨ i = 1 ∨ i = 2) with rfl | rfl | rfl
    · rw [World.cell?_alloc_new]; rfl
    · rw [World.cell?_alloc_new]; rfl
    · rw [World.cell?_alloc_new]; rfl
    · exact h0.alloc _
    · exact h1.alloc _
    · exact h2.alloc _
    · exact z0
    · exact z1
    · exact z2
    · exact l0
    · exact l1
    · exact l2
  refine (concat_walk w1.heap.size 3 _ _ _ _ _ (by omega) hl).mono fun e w' ⟨⟨v, he, hv⟩, hw⟩ => ⟨⟨v, he, ?_⟩, ((Below.refl _ _).alloc (Nat.le_refl _) _).trans (hw.mono (by simp))⟩
  have h2 := (own_base (B' := w1.heap.size) hv (by simp))
  rw [cats3] at h2
  have e : tot (three n0 n1 n2) 3 = n0 + n1 + n2 := by simp [tot, three]
  rw [e] at h2
  exact h2
end Go.Proofs.Ytjemgoifemdoeaa
