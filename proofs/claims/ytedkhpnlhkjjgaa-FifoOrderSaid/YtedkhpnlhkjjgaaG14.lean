/- Ints behind ints: slices.Grow and slices.Concat of ints, walked. -/
import Derived.Test.YtedkhpnlhkjjgaaProg
import Derived.Test.YtedkhpnlhkjjgaaG00
import Derived.Test.YtedkhpnlhkjjgaaG02
import Derived.Test.YtedkhpnlhkjjgaaG13
import Derived.Lib.Hide
import Derived.OneCell
import Derived.OwnWalk
import Derived.Lib.AppendZeros
import Derived.Laws.AppendOwnNone
import Derived.Lib.QuietBelow
import Derived.StillTail
import Derived.Deep.RegionHeld
namespace Go.Proofs.Ytedkhpnlhkjjgaa
open Go.RowKit

def iys (f : Nat → Int) (k : Nat) : List Value := (List.range k).map fun i => Value.int .i64 (f i)
theorem iys_succ (f : Nat → Int) (k : Nat) : iys f (k + 1) = iys f k ++ [.int .i64 (f k)] := by simp [iys, List.range_succ]
theorem iys_get (f : Nat → Int) {k i : Nat} (h : i < k) : (iys f k)[i]? = some (.int .i64 (f i)) := by simp [iys, h]
theorem iys_length (f : Nat → Int) (k : Nat) : (iys f k).length = k := by simp [iys]
theorem iys_congr {f g : Nat → Int} {k : Nat} (h : ∀ i, i < k → f i = g i) : iys f k = iys g k := by
  unfold iys
  refine List.map_congr_left fun i hi => ?_
  rw [h i (List.mem_range.1 hi)]
theorem iys_one (g : Nat → Int) (m : Nat) : ∀ u ∈ iys g m, u.oneCell' = true := by
  intro u hu
  obtain ⟨_, _, rfl⟩ := List.mem_map.1 hu
  rfl
/-- f's first n, and behind them g's -/
def icat (f : Nat → Int) (n : Nat) (g : Nat → Int) (i : Nat) : Int := if i < n then f i else g (i - n)
theorem iys_icat (f : Nat → Int) (n : Nat) (g : Nat → Int) : ∀ m, iys f n ++ iys g m = iys (icat f n g) (n + m)
  | 0 => by
    show iys f n ++ [] = _
    rw [List.append_nil]; exact iys_congr fun i hi => (if_pos hi).symm
  | m + 1 => by
    rw [iys_succ, ← List.append_assoc, iys_icat f n g m, ← Nat.add_assoc, iys_succ]
    congr 3
    show _ = (if n + m < n then f (n + m) else g (n + m - n) : Int)
    rw [if_neg (by omega), Nat.add_sub_cancel_left]
def itot (n : Nat → Nat) : Nat → Nat
  | 0 => 0
  | k + 1 => itot n k + n k
def icats (n : Nat → Nat) (f : Nat → Nat → Int) : Nat → Nat → Int
  | 0 => fun _ => 0
  | k + 1 => icat (icats n f k) (itot n k) (f k)
theorem itot_le {n : Nat → Nat} {M m : Nat} (h : ∀ i, i < m → n i ≤ M) : ∀ k, k ≤ m → itot n k ≤ k * M
  | 0, _ => by simp [itot]
  | k + 1, hk => by
    have := itot_le h k (by omega)
    have := h k (by omega)
    simp only [itot, Nat.add_mul]; omega
theorem Il.news {w : World} {ad : Addr} {n : Nat} {f : Nat → Int} (h : Il w (some ad) n f) : ∀ j u, (iys f n)[j]? = some u → w.cell? (ad.add j) = some u := by
  intro j u hu
  have hj : j < n := by have := (List.getElem?_eq_some_iff.1 hu).1; simpa [iys] using this
  rw [iys_get f hj] at hu
  cases hu
  obtain ⟨g, o, e, _, hc⟩ := h.at_ (by omega)
  cases e
  rw [Addr.add_lit]; exact hc j hj
theorem oinfoInt : (Try.prog.info? 3).map (fun i => (i.zero, i.size, i.bytes)) = some (some (.int .i64 0), 1, 8) := by kernel_rfl
theorem iown_zero {w : World} {z : Value} {n cap : Nat} {e : TypeId} (hz : z.cells.size = 1) (hn : n ≤ cap) (hc : cap ≤ maxLen) :
    (w.drew.alloc (.cells (Builtin.zeroCells z.cells n ++ Builtin.zeroCells z.cells (cap - n)) e)).ownsRow w.heap.size e 1 (.slice (some ⟨w.heap.size, 0, none⟩) 0 cap) 0 [] := by
  refine ⟨rfl, .inr ⟨w.heap.size, cap, _, rfl, Nat.le_refl _, heap_alloc_new w.drew _, Nat.zero_le _, hc, ?_, by simp⟩⟩
  simp only [Array.size_append, size_zeroCells, hz]
  omega
set_option maxRecDepth 100000 in
set_option maxHeartbeats 1000000 in
theorem igrow_walk (n : Nat) (w : World) (hn : n ≤ 2 ^ 40) : Calls Try.prog 143 #[.slice none 0 0, .int .i64 (n : Nat)] w fun e w' => (∃ v, e = .returned v ∧ w'.ownsRow w.heap.size 3 1 v 0 []) ∧ Below w.heap.size w w' := by
  obtain ⟨i0, hi, hz0, hz1, hz2⟩ := info_parts oinfoInt
  have p1 : ¬ ((n : Int) < 0) := by omega
  by_cases h0 : n = 0
  · subst h0
    go_enter Try.func143, Try.ntmps143
    go_wp2
    go_ret
    exact ⟨⟨_, rfl, World.ownsRow_nil _ _ _ _⟩, Below.refl _ _⟩
  · have p2 : 0 < (n : Int) := by omega
    have hg := grownCap_ge w n 0 3
    have hm := grownCap_le_maxLen w n 0 3 (by unfold maxLen; omega)
    have hr := Lib.hid (Lib.run_append_nil_zeros (P := Try.prog) w 30 3 30 3 i0 (.int .i64 0) .i64 .i64 Try.underlying30 Try.underlying3 hi hz0 n (by omega) (by omega) (by omega) (by rw [hz2]; omega))
    have hw := Lib.hid (iown_zero (w := w) (z := .int .i64 0) (n := n) (e := 3) rfl hg hm)
    generalize hcp : grownCap w n 0 3 = cp at *
    clear hcp
    go_enter Try.func143, Try.ntmps143
    go_wp2_with (at_builtin; refine Lib.wpList_append_run _ rfl _ _ _ _ rfl _ _ rfl rfl _ _ hr.out ?_)
    go_ret
    exact ⟨⟨_, rfl, hw.out⟩, ((Below.refl _ _).drew).alloc (Nat.le_refl _) _⟩

/-- the bytes so far, the first i slices' -/
def ICatRel (n : Nat → Nat) (f : Nat → Nat → Int) (m : Nat) (w : World) (v i : Value) (wr : World) : Prop :=
  ∃ k : Nat, k ≤ m ∧ i = .int .i64 (k : Nat) ∧ wr.ownsRow w.heap.size 3 1 v (itot n k) (iys (icats n f k) (itot n k)) ∧ Below w.heap.size w wr
/-- the m slices that lie in the block B -/
structure ILot (w : World) (B m : Nat) (A : Nat → Option Addr) (n c : Nat → Nat) (f : Nat → Nat → Int) : Prop where
  lt : B < w.heap.size
  cell : ∀ i, i < m → w.cell? ⟨B, i, none⟩ = some (.slice (A i) (n i) (c i))
  sl : ∀ i, i < m → Il w (A i) (n i) (f i)
  nil : ∀ i, i < m → A i = none → n i = 0 ∧ c i = 0
  le : ∀ i, i < m → n i ≤ 2 ^ 20
theorem ILot.below {w w' : World} {B m : Nat} {A : Nat → Option Addr} {n c : Nat → Nat} {f : Nat → Nat → Int} (h : ILot w B m A n c f) (hb : Below w.heap.size w w') : ILot w' B m A n c f :=
  ⟨Nat.lt_of_lt_of_le h.lt hb.size, fun i hi => by rw [hb.cell (p := ⟨B, i, none⟩) h.lt]; exact h.cell i hi, fun i hi => (h.sl i hi).below hb, h.nil, h.le⟩
set_option maxRecDepth 100000 in
set_option maxHeartbeats 2000000 in
theorem iconcat_walk (B m : Nat) (A : Nat → Option Addr) (n c : Nat → Nat) (f : Nat → Nat → Int) (w : World) (hm : m ≤ 8) (hl : ILot w B m A n c f) :
    Calls Try.prog 116 #[.slice (some ⟨B, 0, none⟩) m m] w fun e w' => (∃ v, e = .returned v ∧ w'.ownsRow w.heap.size 3 1 v (itot n m) (iys (icats n f m) (itot n m))) ∧ Below w.heap.size w w' := by
  obtain ⟨i0, hi, hz0, hz1, hz2⟩ := info_parts oinfoInt
  have HL := Lib.hid hl
  have HT := Lib.hid (itot_le hl.le)
  have hB := hl.lt
  have hM : (m : Int) ≤ 8 := by omega
  clear hl
  go_enter Try.func116, Try.ntmps116
  go_wp2
  go_loopw [3, 11] (fun x i wr => ∃ k : Nat, k ≤ m ∧ i = .int .i64 (k : Nat) ∧ x = .int .i64 (itot n k : Nat) ∧ w = wr) (fun _ i _ => m - (intOf i).toNat)
  case atStart => exact ⟨0, Nat.zero_le _, rfl, rfl, rfl⟩
  case round =>
    obtain ⟨k, hk, rfl, rfl, rfl⟩ := hrel
    have hT := HT.out k hk
    by_cases hlt : k < m
    · have p1 : (k : Int) < (m : Int) := by omega
      have ck := HL.out.cell k hlt
      have hle := HL.out.le k hlt
      have p2 : ¬ ((itot n k : Int) + (n k : Int) < 0) := by omega
      have e1 : (itot n k : Int) + (n k : Int) = ((itot n (k + 1) : Nat) : Int) := by simp [itot]
      have E1 := Lib.hid e1
      clear e1
      go_wp2
      exact ⟨⟨k + 1, by omega, by simp, by rw [E1.out], trivial⟩, by simp [intOf]; omega⟩
    · obtain rfl : k = m := by omega
      have p1 : ¬ (k : Int) < (k : Int) := by omega
      go_wp2_with (go_at_call 143; refine (igrow_walk (itot n k) _ (by omega)).mono ?_; rintro e w1 ⟨⟨v1, rfl, hv1⟩, hb1⟩)
      go_loopw [6, 27] (ICatRel n f k w) (fun _ i _ => k - (intOf i).toNat)
      case atStart => exact ⟨0, Nat.zero_le _, rfl, hv1, hb1⟩
      case round =>
        obtain ⟨j, hj, rfl, hv, hb⟩ := hrel
        have hT2 := HT.out j hj
        by_cases hlt2 : j < k
        · have p3 : (j : Int) < (k : Int) := by omega
          have L2 := HL.out.below hb
          have cj := L2.cell j hlt2
          have sj := L2.sl j hlt2
          have nj := L2.nil j hlt2
          have lj := L2.le j hlt2
          have hbs := hb.size
          clear L2
          generalize hA : A j = Aj at *
          cases Aj with
          | none =>
            obtain ⟨z1, z2⟩ := nj rfl
            rw [z1, z2] at cj
            go_wp2_with (at_builtin; refine wpList_append_own_none rfl _ _ _ rfl _ 3 i0 1 Try.underlying30 hi _ _ _ rfl hv rfl ?_)
            refine ⟨⟨j + 1, by omega, by simp, ?_, hb⟩, by simp [intOf]; omega⟩
            have e3 := iys_icat (icats n f j) (itot n j) (f j) (n j)
            have e4 : iys (f j) (n j) = [] := by rw [z1]; rfl
            rw [e4, List.append_nil] at e3
            have e2 : itot n (j + 1) = itot n j := by simp only [itot, z1]; rfl
            show wr.ownsRow _ _ _ _ _ (iys (icat (icats n f j) (itot n j) (f j)) (itot n j + n j))
            rw [← e3, e2]
            exact hv
          | some ad =>
            go_wp2_with (at_builtin; refine wpList_append_own _ rfl _ _ _ rfl w.heap.size 3 i0 (.int .i64 0) 1 8 Try.underlying30 hi hz0 hz1 hz2 rfl (by omega) _ (itot n j) _ rfl hv ad (n j) (c j) (iys (f j) (n j)) rfl (by rw [iys_length]; omega) sj.news (iys_one _ _) (by unfold maxLen; omega) (by omega) hbs ?_)
            intro v2 w2 hown hgrow _
            rw [iys_icat] at hown
            have Hown := Lib.hid hown
            have Hb := Lib.hid (hb.grown hgrow hbs (fun q hq => (hv.lt q hq).1))
            clear hown hgrow hb hv
            go_wp2
            exact ⟨⟨j + 1, by omega, by simp, Hown.out, Hb.out⟩, by simp [intOf]; omega⟩
        · obtain rfl : j = k := by omega
          have p3 : ¬ (j : Int) < (j : Int) := by omega
          go_wp2
          go_ret
          exact ⟨⟨_, rfl, hv⟩, hb⟩

theorem iown_base {w : World} {B B' n k : Nat} {e : TypeId} {v : Value} {xs : List Value} (h : w.ownsRow B e k v n xs) (hb : B' ≤ B) : w.ownsRow B' e k v n xs :=
  ⟨h.1, h.2.elim .inl fun ⟨g, cap, cur, h1, h2, h3⟩ => .inr ⟨g, cap, cur, h1, Nat.le_trans hb h2, h3⟩⟩
theorem own_il {w : World} {B n : Nat} {e : TypeId} {v : Value} {f : Nat → Int} (h : w.ownsRow B e 1 v n (iys f n)) (hs : ∀ i, f i < 2 ^ 63) : ∃ A c, v = .slice A n c ∧ Il w A n f ∧ (A = none → n = 0 ∧ c = 0) := by
  rcases h.2 with ⟨rfl, rfl⟩ | ⟨g, cap, cur, rfl, hb, hh, r⟩
  · exact ⟨none, 0, rfl, ⟨hs, fun h => absurd h (by omega)⟩, fun _ => ⟨rfl, rfl⟩⟩
  · refine ⟨_, cap, rfl, ⟨hs, fun hn => ⟨g, 0, rfl, (h.lt g rfl).2, fun i hi => ?_⟩⟩, fun h => by cases h⟩
    rw [Nat.zero_add, h.cellAt i (by omega), iys_get f hi]
def itwo {α : Type} (a b : α) : Nat → α
  | 0 => a
  | _ => b
theorem icats2 {n0 n1 : Nat} {f0 f1 : Nat → Int} : iys (icats (itwo n0 n1) (itwo f0 f1) 2) (itot (itwo n0 n1) 2) = iys (icat f0 n0 f1) (n0 + n1) := by
  have e : itot (itwo n0 n1) 2 = n0 + n1 := by simp [itot, itwo]
  rw [e]
  refine iys_congr fun i _ => ?_
  simp [icats, icat, itot, itwo]
theorem iconcat2_c (A0 A1 : Option Addr) (n0 n1 c0 c1 : Nat) (f0 f1 : Nat → Int) (w1 : World) (h0 : Il w1 A0 n0 f0) (h1 : Il w1 A1 n1 f1) (z0 : A0 = none → n0 = 0 ∧ c0 = 0) (z1 : A1 = none → n1 = 0 ∧ c1 = 0) (l0 : n0 ≤ 2 ^ 20) (l1 : n1 ≤ 2 ^ 20) (t : TypeId) :
    Calls Try.prog 116 #[.slice (some ⟨w1.heap.size, 0, none⟩) 2 2] (w1.alloc (.cells #[.slice A0 n0 c0, .slice A1 n1 c1] t)) fun e w' => (∃ v, e = .returned v ∧ w'.ownsRow w1.heap.size 3 1 v (n0 + n1) (iys (icat f0 n0 f1) (n0 + n1))) ∧ Below w1.heap.size w1 w' := by
  have hl : ILot (w1.alloc (.cells #[.slice A0 n0 c0, .slice A1 n1 c1] t)) w1.heap.size 2 (itwo A0 A1) (itwo n0 n1) (itwo c0 c1) (itwo f0 f1) := by
    refine ⟨by simp, fun i hi => ?_, fun i hi => ?_, fun i hi => ?_, fun i hi => ?_⟩ <;> rcases (by omega : i = 0 ∨ i = 1) with rfl | rfl
    · rw [World.cell?_alloc_new]; rfl
    · rw [World.cell?_alloc_new]; rfl
    · exact h0.below ((Below.refl _ _).alloc (Nat.le_refl _) _)
    · exact h1.below ((Below.refl _ _).alloc (Nat.le_refl _) _)
    · exact z0
    · exact z1
    · exact l0
    · exact l1
  refine (iconcat_walk w1.heap.size 2 _ _ _ _ _ (by omega) hl).mono fun e w' ⟨⟨v, he, hv⟩, hw⟩ => ⟨⟨v, he, ?_⟩, ((Below.refl _ _).alloc (Nat.le_refl _) _).trans (hw.mono (by simp))⟩
  have h2 := (iown_base (B' := w1.heap.size) hv (by simp))
  rw [icats2] at h2
  have e : itot (itwo n0 n1) 2 = n0 + n1 := by simp [itot, itwo]
  rw [e] at h2
  exact h2
end Go.Proofs.Ytedkhpnlhkjjgaa

namespace Go.Proofs.Ytedkhpnlhkjjgaa
open Go Go.Sort Go.RowKit

section
variable {P : Program} {ops : Array Oper} {md : Region.Mode} {C : World → Prop}
def headQ (P : Program) (md : Region.Mode) (ops : Array Oper) (C : World → Prop) (n : Nat) (L : Array Bool → Act → Prop) : Nat → Array Bool → Act → Prop
  | 0, d, a => L d a
  | f + 1, d, a => Region.ready md ops d ≠ [] ∧ ∀ i ∈ Region.ready md ops d, i < n ∧ qOp P ops C i (headQ P md ops C n L f (d.setIfInBounds i true)) a
theorem any_of_headQ {n g : Nat} {L : Array Bool → Act → Prop} {Q' : Exit → Act → World → Prop} (hL : ∀ d a w, C w → L d a → wpAny P md ops Q' g d a w) :
    ∀ (f : Nat) (d : Array Bool) (a : Act) (w : World), C w → headQ P md ops C n L f d a → wpAny P md ops Q' (f + g) d a w := by
  intro f
  induction f with
  | zero => intro d a w hw h; rw [Nat.zero_add]; exact hL _ _ _ hw h
  | succ f ih =>
    intro d a w hw h
    have e : f + 1 + g = (f + g) + 1 := by omega
    rw [e]
    exact ⟨fun h0 => absurd h0 h.1, fun i hi => wpOp_of_qOp hw (fun a' w' hw' h' => ih _ a' w' hw' h') (h.2 i hi).2⟩
theorem headQ_first {n i : Nat} {o : Oper} {v : Value} {L : Array Bool → Act → Prop} (ho : ops[i]? = some o) (hsel : ∀ (j : Nat) (o : Oper) cs b, ops[j]? = some o → o.op ≠ .select cs b)
    (hs : Region.sinkB md ops n = true) (hc : Region.chainB md ops n = true) (hn : n < ops.size) (hin : i < n) (hdone : ∀ d a, L d a → ∀ j ∈ Region.ready md ops d, n ≤ j) :
    ∀ (f : Nat) (d : Array Bool) (a : Act), HeadInv md ops n d →
      (∀ j oj, ops[j]? = some oj → j ≠ i → d.getD j true = false → (∀ e ∈ oj.after, Region.binds md e = true → e.on ≠ i) → o.apart ops oj = true) →
      i ∈ Region.ready md ops d → YieldsIn P ops C o v a → headQ P md ops C n L f (d.setIfInBounds i true) (a.put o.dst v) → headQ P md ops C n L (f + 1) d a := by
  intro f
  induction f with
  | zero =>
    intro d a inv _ hr hy H
    have hu := (mem_ready.1 hr).1
    refine ⟨fun h => (by rw [h] at hr; cases hr), fun j hj => ?_⟩
    have hjn : j < n := Nat.lt_of_not_le fun h => absurd hj (tail_waits hs hc hn inv _ i rfl hin hu j h)
    refine ⟨hjn, ?_⟩
    by_cases e : j = i
    · subst e; exact hy.qOp ho H
    · exact absurd (hdone _ _ H j (ready_mono hj e)) (by omega)
  | succ f ih =>
    intro d a inv hfree hr hy H
    have hu := (mem_ready.1 hr).1
    refine ⟨fun h => (by rw [h] at hr; cases hr), fun j hj => ?_⟩
    have hjn : j < n := Nat.lt_of_not_le fun h => absurd hj (tail_waits hs hc hn inv _ i rfl hin hu j h)
    refine ⟨hjn, ?_⟩
    by_cases e : j = i
    · subst e; exact hy.qOp ho H
    · obtain ⟨hju, oj, hoj, hall⟩ := mem_ready.1 hj
      have hno : ∀ x ∈ oj.after, Region.binds md x = true → x.on ≠ i := fun x hx hb heq => by
        have h1 := hall x hx hb
        rw [heq, getD_both hu] at h1
        cases h1
      have h2 := qOp_put hoj (hfree j oj hoj e hju hno) (fun cs b => hsel i o cs b ho) (fun cs b => hsel j oj cs b hoj) hy (H.2 j (ready_mono hj e)).2
      refine qOp_mono (fun a' h3 => ih (d.setIfInBounds j true) a' (inv.set hj hjn) (fun k ok hk hki hun hno' => hfree k ok hk hki ?_ hno') (ready_mono hr (Ne.symm e)) h3.1 ?_) h2
      · by_cases q : j = k
        · subst q; exact hju
        · rw [getD_set_ne true q] at hun; exact hun
      · rw [Array.setIfInBounds_comm _ _ e]
        exact h3.2
theorem headQ_lex {n g : Nat} {Lq : Act → Prop} (hsel : Region.noSelect ops = true) (hs : Region.sinkB md ops n = true) (hc : Region.chainB md ops n = true) (hn : n < ops.size) :
    ∀ (l : List Oper) (k : Nat) (d : Array Bool) (a : Act), (∀ j, j < l.length → l[j]? = ops[k + j]?) → k + l.length = n → HeadInv md ops n d →
    Region.lexHead md ops g l.length k d = true → wpQuiet P ops C Lq l a → headQ P md ops C n (fun d' a' => Region.seqB md ops g n d' = true ∧ Lq a') l.length d a := by
  intro l
  induction l with
  | nil =>
    intro k d a _ hk _ hB h
    obtain rfl : k = n := by simpa using hk
    exact ⟨by simpa [Region.lexHead] using hB, h⟩
  | cons o l ih =>
    intro k d a hl hk inv hB h
    have h0 : ops[k]? = some o := by simpa using (hl 0 (by simp)).symm
    simp only [List.length_cons, Region.lexHead, Bool.and_eq_true] at hB
    have hkn : k < n := by simp only [List.length_cons] at hk; omega
    have hr : k ∈ Region.ready md ops d := by simpa using hB.1.1
    have hq : qOp P ops C k (wpQuiet P ops C Lq l) a := by unfold qOp; simp only [h0]; exact h
    obtain ⟨v, hy, hK⟩ := yieldsIn_of_qOp h0 hq
    exact headQ_first h0 (Region.noSelect_spec hsel) hs hc hn hkn (fun d' a' hL => seqB_ready hL.1) l.length d a inv (Region.free_spec h0 hB.1.2) hr hy
      (ih (k + 1) _ _ (fun j hj => by have := hl (j + 1) (by simp; omega); simpa [Nat.add_assoc, Nat.add_comm 1 j] using this) (by simp only [List.length_cons] at hk; omega) (inv.set hr hkn) hB.2 hK)
end
/-- the head in its textual order, in every world that has only grown; then the tail -/
theorem wp_region_quiet_tail {P : Program} {id : Nat} {Q : Exit → Act → World → Prop} {a : Act} {w : World} {l : List Oper} (n : Nat) (hm : P.follows .mixedOrders = true) (hB : Region.lexTailB .any l.toArray n = true)
    (h : wpQuiet P l.toArray (fun w' => ∃ p : Regrown, w' = grow (redrawn w p.d) p.os) (fun a' => ∀ w', (∃ p : Regrown, w' = grow (redrawn w p.d) p.os) → wpList P l.toArray Q (l.drop n) a' w') (l.take n) a) : (Code.region id l.toArray true).wp P Q a w := by
  simp only [Region.lexTailB, Bool.and_eq_true, decide_eq_true_eq] at hB
  obtain ⟨⟨⟨⟨hsel, hn⟩, hs⟩, hc⟩, hlex⟩ := hB
  have hn' : n < l.length := by simpa using hn
  have htl : (l.take n).length = n := by simp; omega
  have hdl : (l.drop n).length = l.toArray.size - n := by simp
  have inv0 : HeadInv .any l.toArray n (Array.replicate l.toArray.size false) :=
    ⟨by simp, fun j oj _ hl => (by rw [getD_replicate_false] at hl; cases hl), fun t _ ht => getD_in (by simpa using ht) (getD_replicate_false _ _)⟩
  have H := headQ_lex (md := .any) (C := fun w' => ∃ p : Regrown, w' = grow (redrawn w p.d) p.os) (g := l.toArray.size - n) hsel hs hc hn (l.take n) 0 _ a (fun j hj => by
    have hj' : j < n := by rw [htl] at hj; exact hj
    simp [hj']) (by simpa using htl) inv0 (by rw [htl]; exact hlex) h
  refine wp_region_any hm ?_
  have := any_of_headQ (Q' := Q) (g := l.toArray.size - n) (fun d a' w' hw' hL => by
    have := wpAny_of_seq (md := .any) (Q' := Q) (l.drop n) n d a' w' (fun j => by simp [List.getElem?_drop]) (by rw [hdl]; exact hL.1) (hL.2 w' hw')
    rwa [hdl] at this) _ _ _ { w with drawn := w.drawn + 1 } ⟨⟨w.drawn + 1, #[]⟩, by rw [grow_empty]; rfl⟩ H
  rw [htl, show n + (l.toArray.size - n) = l.toArray.size by omega] at this
  exact this
end Go.Proofs.Ytedkhpnlhkjjgaa

namespace Go.Proofs.Ytedkhpnlhkjjgaa
open Go.RowKit Go.Maps Go.Sort

/-- a queue -/
abbrev qv (P : Option Addr) (t : Int) (A : Option Addr) (n c : Nat) : Value := .agg #[.pointer P, .int .i64 t, .slice A n c]
set_option maxRecDepth 100000 in
set_option maxHeartbeats 1000000 in
theorem qhead_is (P : Option Addr) (t : Int) (A : Option Addr) (n c : Nat) (f : Nat → Int) (K : ByteArray) (hK : keyStr t f n = K) (w : World) (hl : Il w A n f) (hn : n ≤ 20) :
    Calls Try.prog 69 #[.agg #[.pointer P, .int .i64 t, .slice A n c]] w fun e w' => e = .returned (.string K) ∧ Below w.heap.size w w' := by
  have hb0 := (Below.refl w.heap.size w).alloc (Nat.le_refl _) (.cells #[.pointer P, .int .i64 t, .slice A n c] 117)
  have HK := Lib.hid (key_is t A n c f K hK _ (hl.below hb0) (by omega))
  have HB0 := Lib.hid hb0
  clear hl hK hn hb0
  go_enter Try.func69, Try.ntmps69
  go_wp2_with (go_at_call 60; refine HK.out.mono ?_; rintro e w1 ⟨rfl, hb1⟩; have HB1 := Lib.hid (HB0.out.trans (hb1.mono HB0.out.size)); clear hb1)
  go_ret
  exact ⟨rfl, HB1.out⟩
set_option maxRecDepth 100000 in
set_option maxHeartbeats 4000000 in
theorem qat_is (P : Option Addr) (t : Int) (A : Option Addr) (n c : Nat) (f : Nat → Int) (k : Int) (K : ByteArray) (hK : keyStr t (icat f n fun _ => k) (n + 1) = K) (w : World) (hl : Il w A n f) (hz : A = none → n = 0 ∧ c = 0) (hn : n ≤ 20) (hk : k < 2 ^ 63) :
    Calls Try.prog 72 #[.agg #[.pointer P, .int .i64 t, .slice A n c], .int .i64 k] w fun e w' => e = .returned (.string K) ∧ Below w.heap.size w w' := by
  obtain ⟨W0, hW0⟩ : ∃ W0, W0 = w.alloc (.cells #[.pointer P, .int .i64 t, .slice A n c] 117) := ⟨_, rfl⟩
  have hb0 : Below w.heap.size w W0 := by rw [hW0]; exact (Below.refl _ _).alloc (Nat.le_refl _) _
  have r0 : W0.heap[w.heap.size]? = some (.cells #[.pointer P, .int .i64 t, .slice A n c] 117 (0, 0)) := by rw [hW0]; exact heap_alloc_new _ _
  have hl0 := hl.below hb0
  have HC := Lib.hid (fun (W : World) (hb : Below W0.heap.size W0 W) => iconcat2_c A (some ⟨W.heap.size, 0, none⟩) n 1 c 1 f (fun _ => k) (W.alloc (.cells #[.int .i64 k] 3)) ((hl0.below hb).below ((Below.refl _ _).alloc (Nat.le_refl _) _)) (il1 k W 3 hk) hz (fun h => by cases h) (by omega) (by omega) 30)
  have HK := Lib.hid (fun (A' : Option Addr) (c' : Nat) (W : World) (h : Il W A' (n + 1) (icat f n fun _ => k)) => key_is t A' (n + 1) c' _ K hK W h (by omega))
  have HM := Lib.hid (fun (i : Nat) => show icat f n (fun _ => k) i < 2 ^ 63 from by unfold icat; split; exact hl.most _; exact hk)
  have HW := Lib.hid hW0
  have c0 := (hp_cell (i := 0) r0).trans rfl
  have c1 := (hp_cell (i := 1) r0).trans rfl
  have c2 := (hp_cell (i := 2) r0).trans rfl
  have l0 := hp_lt r0
  have H0 := Lib.hid hb0
  clear hl hK hz hn hk hb0 hW0 hl0 r0
  go_enter Try.func72, Try.ntmps72
  go_upto_region 1 with fail
  rw [← HW.out]
  refine wp_region_held_drew (S := fun w' => Below W0.heap.size W0 w') (by kernel_rfl) ?_ (fun hHeld => ?_)
  · exact (Below.refl _ _).drew
  have HZ0 := Lib.hid (show Below W0.heap.size W0 W0.drew from (Below.refl _ _).drew)
  generalize W0.drew = wd at *
  refine wpAnyH_take (i := 0) (v := .pointer (some ⟨w.heap.size, 1, none⟩)) rfl (by kernel_rfl) (by kernel_rfl) (by kernel_rfl) (fun _ _ _ h => h) (Or.inl ⟨by kernel_rfl, ?_⟩) (by with_reducible assumption) ?_
  · intro wz hSw
    (try dsimp only at hSw)
    go_simp
  show wpAnyH _ _ _ _ _ _ _ (Act.put _ (some 5) _) _
  (try simp only [Act.put, List.setIfInBounds_toArray, List.set_cons_zero, List.set_cons_succ])
  refine wpAnyH_take (i := 1) (v := .int .i64 t) rfl (by kernel_rfl) (by kernel_rfl) (by kernel_rfl) (fun _ _ _ h => h) (Or.inl ⟨by kernel_rfl, ?_⟩) (by with_reducible assumption) ?_
  · intro wz hSw
    (try dsimp only at hSw)
    have d1 := (hSw.cell (p := ⟨w.heap.size, 1, none⟩) l0).trans c1
    go_simp
  show wpAnyH _ _ _ _ _ _ _ (Act.put _ (some 6) _) _
  (try simp only [Act.put, List.setIfInBounds_toArray, List.set_cons_zero, List.set_cons_succ])
  refine wpAnyH_take (i := 2) (v := .pointer (some ⟨w.heap.size, 2, none⟩)) rfl (by kernel_rfl) (by kernel_rfl) (by kernel_rfl) (fun _ _ _ h => h) (Or.inl ⟨by kernel_rfl, ?_⟩) (by with_reducible assumption) ?_
  · intro wz hSw
    (try dsimp only at hSw)
    go_simp
  show wpAnyH _ _ _ _ _ _ _ (Act.put _ (some 7) _) _
  (try simp only [Act.put, List.setIfInBounds_toArray, List.set_cons_zero, List.set_cons_succ])
  refine wpAnyH_take (i := 3) (v := .slice A n c) rfl (by kernel_rfl) (by kernel_rfl) (by kernel_rfl) (fun _ _ _ h => h) (Or.inl ⟨by kernel_rfl, ?_⟩) (by with_reducible assumption) ?_
  · intro wz hSw
    (try dsimp only at hSw)
    have d2 := (hSw.cell (p := ⟨w.heap.size, 2, none⟩) l0).trans c2
    go_simp
  show wpAnyH _ _ _ _ _ _ _ (Act.put _ (some 8) _) _
  (try simp only [Act.put, List.setIfInBounds_toArray, List.set_cons_zero, List.set_cons_succ])
  refine wpAnyH_take (i := 4) (v := .int .i64 k) rfl (by kernel_rfl) (by kernel_rfl) (by kernel_rfl) (fun _ _ _ h => h) (Or.inl ⟨by kernel_rfl, ?_⟩) (by with_reducible assumption) ?_
  · intro wz hSw
    (try dsimp only at hSw)
    go_simp
    (try with_reducible rfl)
  show wpAnyH _ _ _ _ _ _ _ (Act.put _ (some 9) _) _
  (try simp only [Act.put, List.setIfInBounds_toArray, List.set_cons_zero, List.set_cons_succ])
  refine wpAnyH_ready (rs := [5]) (by kernel_rfl) (by simp) ?_
  refine AllReadyH.cons rfl (fun K hK => ?_) AllReadyH.nil
  clear hHeld
  go_simp
  refine hK.out _ _ ?_ (fun hHeld => ?_)
  · exact HZ0.out.alloc HZ0.out.size _
  clear hK K
  (try simp only [Act.put, List.setIfInBounds_toArray, List.set_cons_zero, List.set_cons_succ])
  have hc := HC.out wd HZ0.out
  rw [World.size_alloc] at hc
  have HC5 := Lib.hid hc
  have HZ5 := Lib.hid (HZ0.out.alloc HZ0.out.size (.cells #[.int .i64 k] 3))
  clear hc
  refine wpAnyH_ready (rs := [6]) (by kernel_rfl) (by simp) ?_
  refine AllReadyH.cons rfl (fun K hK => ?_) AllReadyH.nil
  clear hHeld
  go_simp
  refine hK.out _ _ ?_ (fun hHeld => ?_)
  · exact HZ5.out.alloc HZ5.out.size _
  clear hK K
  (try simp only [Act.put, List.setIfInBounds_toArray, List.set_cons_zero, List.set_cons_succ])
  refine wpAnyH_ready (rs := [7]) (by kernel_rfl) (by simp) ?_
  refine AllReadyH.cons rfl (fun K hK => ?_) AllReadyH.nil
  clear hHeld
  go_simp
  go_at_call 116
  refine HC5.out.mono ?_
  rintro e z7 ⟨⟨v, rfl, hv⟩, hb⟩
  obtain ⟨A1, c1', rfl, il, _⟩ := own_il hv HM.out
  have HI := Lib.hid il
  have HZ7 := Lib.hid (HZ5.out.trans (hb.mono (Nat.le_succ_of_le HZ0.out.size)))
  clear hv il hb
  go_wp2_with fail
  refine hK.out _ _ ?_ (fun hHeld => ?_)
  · exact HZ7.out
  clear hK K
  (try simp only [Act.put, List.setIfInBounds_toArray, List.set_cons_zero, List.set_cons_succ])
  refine wpAnyH_ready (rs := [8]) (by kernel_rfl) (by simp) ?_
  refine AllReadyH.cons rfl (fun K hK => ?_) AllReadyH.nil
  clear hHeld
  go_simp
  go_at_call 60
  refine (HK.out _ _ _ HI.out).mono ?_
  rintro e z8 ⟨rfl, hb⟩
  have HZ8 := Lib.hid (HZ7.out.trans (hb.mono HZ7.out.size))
  clear hb
  go_wp2_with fail
  refine hK.out _ _ ?_ (fun hHeld => ?_)
  · exact HZ8.out
  clear hK K
  (try simp only [Act.put, List.setIfInBounds_toArray, List.set_cons_zero, List.set_cons_succ])
  refine wpAnyH_take (i := 9) (v := .string K) rfl (by kernel_rfl) (by kernel_rfl) (by kernel_rfl) (fun _ _ _ h => h) (Or.inl ⟨by kernel_rfl, ?_⟩) (by with_reducible assumption) ?_
  · intro wz hSw
    (try dsimp only at hSw)
    go_simp
  show wpAnyH _ _ _ _ _ _ _ (Act.put _ (some 4) _) _
  (try simp only [Act.put, List.setIfInBounds_toArray, List.set_cons_zero, List.set_cons_succ])
  refine wpAnyH_done (by kernel_rfl) ?_ _
  go_wp2_with fail
  go_ret
  exact ⟨rfl, H0.out.trans (HZ8.out.mono H0.out.size)⟩
end Go.Proofs.Ytedkhpnlhkjjgaa
