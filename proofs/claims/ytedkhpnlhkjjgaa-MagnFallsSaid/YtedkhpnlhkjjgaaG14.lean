/- Ints behind ints: slices.Grow and slices.Concat of ints, walked. -/
import Derived.Test.YtedkhpnlhkjjgaaProg
import Derived.Test.YtedkhpnlhkjjgaaG00
import Derived.Test.YtedkhpnlhkjjgaaG02
import Derived.Lib.Hide
import Derived.OneCell
import Derived.OwnWalk
import Derived.Lib.AppendZeros
import Derived.Laws.AppendOwnNone
import Derived.Laws.Externs
namespace Go.Proofs.Ytedkhpnlhkjjgaa
open Go.RowKit

def iys (f : Nat → Int) (k : Nat) : List Value := (List.range k).map fun i => Value.int .i64 (f i)
theorem iys_succ (f : Nat → Int) (k : Nat) : iys f (k + 1) = iys f k ++ [.int .i64 (f k)] := by simp [iys, List.range_succ]
theorem iys_get (f : Nat → Int) {k i : Nat} (h : i < k) : (iys f k)[i]? = some (.int .i64 (f i)) := by simp [iys, h]
theorem iys_length (f : Nat → Int) (k : Nat) : (iys f k).length = k := by simp [iys]
theorem iys_congr {f g : Nat → Int} {k : Nat} (h : ∀ i, i < k → f i = g i) : iys f k = iys g k := by
  unfold iys
  refine List.map_congr_left fun i hi => ?_
  rw [h i (List.mem_range.1 hi)]
theorem iys_one (g : Nat → Int) (m : Nat) : ∀ u ∈ iys g m, u.oneCell' = true := by
  intro u hu
  obtain ⟨_, _, rfl⟩ := List.mem_map.1 hu
  rfl
/-- f's first n, and behind them g's -/
def icat (f : Nat → Int) (n : Nat) (g : Nat → Int) (i : Nat) : Int := if i < n then f i else g (i - n)
theorem iys_icat (f : Nat → Int) (n : Nat) (g : Nat → Int) : ∀ m, iys f n ++ iys g m = iys (icat f n g) (n + m)
  | 0 => by
    show iys f n ++ [] = _
    rw [List.append_nil]; exact iys_congr fun i hi => (if_pos hi).symm
  | m + 1 => by
    rw [iys_succ, ← List.append_assoc, iys_icat f n g m, ← Nat.add_assoc, iys_succ]
    congr 3
    show _ = (if n + m < n then f (n + m) else g (n + m - n) : Int)
    rw [if_neg (by omega), Nat.add_sub_cancel_left]
def itot (n : Nat → Nat) : Nat → Nat
  | 0 => 0
  | k + 1 => itot n k + n k
def icats (n : Nat → Nat) (f : Nat → Nat → Int) : Nat → Nat → Int
  | 0 => fun _ => 0
  | k + 1 => icat (icats n f k) (itot n k) (f k)
theorem itot_le {n : Nat → Nat} {M m : Nat} (h : ∀ i, i < m → n i ≤ M) : ∀ k, k ≤ m → itot n k ≤ k * M
  | 0, _ => by simp [itot]
  | k + 1, hk => by
    have := itot_le h k (by omega)
    have := h k (by omega)
    simp only [itot, Nat.add_mul]; omega
theorem Il.news {w : World} {ad : Addr} {n : Nat} {f : Nat → Int} (h : Il w (some ad) n f) : ∀ j u, (iys f n)[j]? = some u → w.cell? (ad.add j) = some u := by
  intro j u hu
  have hj : j < n := by have := (List.getElem?_eq_some_iff.1 hu).1; simpa [iys] using this
  rw [iys_get f hj] at hu
  cases hu
  obtain ⟨g, o, e, _, hc⟩ := h.at_ (by omega)
  cases e
  rw [Addr.add_lit]; exact hc j hj
theorem oinfoInt : (Try.prog.info? 3).map (fun i => (i.zero, i.size, i.bytes)) = some (some (.int .i64 0), 1, 8) := by kernel_rfl
theorem iown_zero {w : World} {z : Value} {n cap : Nat} {e : TypeId} (hz : z.cells.size = 1) (hn : n ≤ cap) (hc : cap ≤ maxLen) :
    (w.drew.alloc (.cells (Builtin.zeroCells z.cells n ++ Builtin.zeroCells z.cells (cap - n)) e)).ownsRow w.heap.size e 1 (.slice (some ⟨w.heap.size, 0, none⟩) 0 cap) 0 [] := by
  refine ⟨rfl, .inr ⟨w.heap.size, cap, _, rfl, Nat.le_refl _, heap_alloc_new w.drew _, Nat.zero_le _, hc, ?_, by simp⟩⟩
  simp only [Array.size_append, size_zeroCells, hz]
  omega
set_option maxRecDepth 100000 in
set_option maxHeartbeats 1000000 in
theorem igrow_walk (n : Nat) (w : World) (hn : n ≤ 2 ^ 40) : Calls Try.prog 143 #[.slice none 0 0, .int .i64 (n : Nat)] w fun e w' => (∃ v, e = .returned v ∧ w'.ownsRow w.heap.size 3 1 v 0 []) ∧ Below w.heap.size w w' := by
  obtain ⟨i0, hi, hz0, hz1, hz2⟩ := info_parts oinfoInt
  have p1 : ¬ ((n : Int) < 0) := by omega
  by_cases h0 : n = 0
  · subst h0
    go_enter Try.func143, Try.ntmps143
    go_wp2
    go_ret
    exact ⟨⟨_, rfl, World.ownsRow_nil _ _ _ _⟩, Below.refl _ _⟩
  · have p2 : 0 < (n : Int) := by omega
    have hg := grownCap_ge w n 0 3
    have hm := grownCap_le_maxLen w n 0 3 (by unfold maxLen; omega)
    have hr := Lib.hid (Lib.run_append_nil_zeros (P := Try.prog) w 30 3 30 3 i0 (.int .i64 0) .i64 .i64 Try.underlying30 Try.underlying3 hi hz0 n (by omega) (by omega) (by omega) (by rw [hz2]; omega))
    have hw := Lib.hid (iown_zero (w := w) (z := .int .i64 0) (n := n) (e := 3) rfl hg hm)
    generalize hcp : grownCap w n 0 3 = cp at *
    clear hcp
    go_enter Try.func143, Try.ntmps143
    go_wp2_with (at_builtin; refine Lib.wpList_append_run _ rfl _ _ _ _ rfl _ _ rfl rfl _ _ hr.out ?_)
    go_ret
    exact ⟨⟨_, rfl, hw.out⟩, ((Below.refl _ _).drew).alloc (Nat.le_refl _) _⟩

/-- the bytes so far, the first i slices' -/
def ICatRel (n : Nat → Nat) (f : Nat → Nat → Int) (m : Nat) (w : World) (v i : Value) (wr : World) : Prop :=
  ∃ k : Nat, k ≤ m ∧ i = .int .i64 (k : Nat) ∧ wr.ownsRow w.heap.size 3 1 v (itot n k) (iys (icats n f k) (itot n k)) ∧ Below w.heap.size w wr
/-- the m slices that lie in the block B -/
structure ILot (w : World) (B m : Nat) (A : Nat → Option Addr) (n c : Nat → Nat) (f : Nat → Nat → Int) : Prop where
  lt : B < w.heap.size
  cell : ∀ i, i < m → w.cell? ⟨B, i, none⟩ = some (.slice (A i) (n i) (c i))
  sl : ∀ i, i < m → Il w (A i) (n i) (f i)
  nil : ∀ i, i < m → A i = none → n i = 0 ∧ c i = 0
  le : ∀ i, i < m → n i ≤ 2 ^ 20
theorem ILot.below {w w' : World} {B m : Nat} {A : Nat → Option Addr} {n c : Nat → Nat} {f : Nat → Nat → Int} (h : ILot w B m A n c f) (hb : Below w.heap.size w w') : ILot w' B m A n c f :=
  ⟨Nat.lt_of_lt_of_le h.lt hb.size, fun i hi => by rw [hb.cell (p := ⟨B, i, none⟩) h.lt]; exact h.cell i hi, fun i hi => (h.sl i hi).below hb, h.nil, h.le⟩
set_option maxRecDepth 100000 in
set_option maxHeartbeats 2000000 in
theorem iconcat_walk (B m : Nat) (A : Nat → Option Addr) (n c : Nat → Nat) (f : Nat → Nat → Int) (w : World) (hm : m ≤ 8) (hl : ILot w B m A n c f) :
    Calls Try.prog 116 #[.slice (some ⟨B, 0, none⟩) m m] w fun e w' => (∃ v, e = .returned v ∧ w'.ownsRow w.heap.size 3 1 v (itot n m) (iys (icats n f m) (itot n m))) ∧ Below w.heap.size w w' := by
  obtain ⟨i0, hi, hz0, hz1, hz2⟩ := info_parts oinfoInt
  have HL := Lib.hid hl
  have HT := Lib.hid (itot_le hl.le)
  have hB := hl.lt
  have hM : (m : Int) ≤ 8 := by omega
  clear hl
  go_enter Try.func116, Try.ntmps116
  go_wp2
  go_loopw [3, 11] (fun x i wr => ∃ k : Nat, k ≤ m ∧ i = .int .i64 (k : Nat) ∧ x = .int .i64 (itot n k : Nat) ∧ w = wr) (fun _ i _ => m - (intOf i).toNat)
  case atStart => exact ⟨0, Nat.zero_le _, rfl, rfl, rfl⟩
  case round =>
    obtain ⟨k, hk, rfl, rfl, rfl⟩ := hrel
    have hT := HT.out k hk
    by_cases hlt : k < m
    · have p1 : (k : Int) < (m : Int) := by omega
      have ck := HL.out.cell k hlt
      have hle := HL.out.le k hlt
      have p2 : ¬ ((itot n k : Int) + (n k : Int) < 0) := by omega
      have e1 : (itot n k : Int) + (n k : Int) = ((itot n (k + 1) : Nat) : Int) := by simp [itot]
      have E1 := Lib.hid e1
      clear e1
      go_wp2
      exact ⟨⟨k + 1, by omega, by simp, by rw [E1.out], trivial⟩, by simp [intOf]; omega⟩
    · obtain rfl : k = m := by omega
      have p1 : ¬ (k : Int) < (k : Int) := by omega
      go_wp2_with (go_at_call 143; refine (igrow_walk (itot n k) _ (by omega)).mono ?_; rintro e w1 ⟨⟨v1, rfl, hv1⟩, hb1⟩)
      go_loopw [6, 27] (ICatRel n f k w) (fun _ i _ => k - (intOf i).toNat)
      case atStart => exact ⟨0, Nat.zero_le _, rfl, hv1, hb1⟩
      case round =>
        obtain ⟨j, hj, rfl, hv, hb⟩ := hrel
        have hT2 := HT.out j hj
        by_cases hlt2 : j < k
        · have p3 : (j : Int) < (k : Int) := by omega
          have L2 := HL.out.below hb
          have cj := L2.cell j hlt2
          have sj := L2.sl j hlt2
          have nj := L2.nil j hlt2
          have lj := L2.le j hlt2
          have hbs := hb.size
          clear L2
          generalize hA : A j = Aj at *
          cases Aj with
          | none =>
            obtain ⟨z1, z2⟩ := nj rfl
            rw [z1, z2] at cj
            go_wp2_with (at_builtin; refine wpList_append_own_none rfl _ _ _ rfl _ 3 i0 1 Try.underlying30 hi _ _ _ rfl hv rfl ?_)
            refine ⟨⟨j + 1, by omega, by simp, ?_, hb⟩, by simp [intOf]; omega⟩
            have e3 := iys_icat (icats n f j) (itot n j) (f j) (n j)
            have e4 : iys (f j) (n j) = [] := by rw [z1]; rfl
            rw [e4, List.append_nil] at e3
            have e2 : itot n (j + 1) = itot n j := by simp only [itot, z1]; rfl
            show wr.ownsRow _ _ _ _ _ (iys (icat (icats n f j) (itot n j) (f j)) (itot n j + n j))
            rw [← e3, e2]
            exact hv
          | some ad =>
            go_wp2_with (at_builtin; refine wpList_append_own _ rfl _ _ _ rfl w.heap.size 3 i0 (.int .i64 0) 1 8 Try.underlying30 hi hz0 hz1 hz2 rfl (by omega) _ (itot n j) _ rfl hv ad (n j) (c j) (iys (f j) (n j)) rfl (by rw [iys_length]; omega) sj.news (iys_one _ _) (by unfold maxLen; omega) (by omega) hbs ?_)
            intro v2 w2 hown hgrow _
            rw [iys_icat] at hown
            have Hown := Lib.hid hown
            have Hb := Lib.hid (hb.grown hgrow hbs (fun q hq => (hv.lt q hq).1))
            clear hown hgrow hb hv
            go_wp2
            exact ⟨⟨j + 1, by omega, by simp, Hown.out, Hb.out⟩, by simp [intOf]; omega⟩
        · obtain rfl : j = k := by omega
          have p3 : ¬ (j : Int) < (j : Int) := by omega
          go_wp2
          go_ret
          exact ⟨⟨_, rfl, hv⟩, hb⟩

theorem iown_base {w : World} {B B' n k : Nat} {e : TypeId} {v : Value} {xs : List Value} (h : w.ownsRow B e k v n xs) (hb : B' ≤ B) : w.ownsRow B' e k v n xs :=
  ⟨h.1, h.2.elim .inl fun ⟨g, cap, cur, h1, h2, h3⟩ => .inr ⟨g, cap, cur, h1, Nat.le_trans hb h2, h3⟩⟩
theorem own_il {w : World} {B n : Nat} {e : TypeId} {v : Value} {f : Nat → Int} (h : w.ownsRow B e 1 v n (iys f n)) (hs : ∀ i, f i < 2 ^ 63) : ∃ A c, v = .slice A n c ∧ Il w A n f ∧ (A = none → n = 0 ∧ c = 0) := by
  rcases h.2 with ⟨rfl, rfl⟩ | ⟨g, cap, cur, rfl, hb, hh, r⟩
  · exact ⟨none, 0, rfl, ⟨hs, fun h => absurd h (by omega)⟩, fun _ => ⟨rfl, rfl⟩⟩
  · refine ⟨_, cap, rfl, ⟨hs, fun hn => ⟨g, 0, rfl, (h.lt g rfl).2, fun i hi => ?_⟩⟩, fun h => by cases h⟩
    rw [Nat.zero_add, h.cellAt i (by omega), iys_get f hi]
def itwo {α : Type} (a b : α) : Nat → α
  | 0 => a
  | _ => b
theorem icats2 {n0 n1 : Nat} {f0 f1 : Nat → Int} : iys (icats (itwo n0 n1) (itwo f0 f1) 2) (itot (itwo n0 n1) 2) = iys (icat f0 n0 f1) (n0 + n1) := by
  have e : itot (itwo n0 n1) 2 = n0 + n1 := by simp [itot, itwo]
  rw [e]
  refine iys_congr fun i _ => ?_
  simp [icats, icat, itot, itwo]
theorem iconcat2_c (A0 A1 : Option Addr) (n0 n1 c0 c1 : Nat) (f0 f1 : Nat → Int) (w1 : World) (h0 : Il w1 A0 n0 f0) (h1 : Il w1 A1 n1 f1) (z0 : A0 = none → n0 = 0 ∧ c0 = 0) (z1 : A1 = none → n1 = 0 ∧ c1 = 0) (l0 : n0 ≤ 2 ^ 20) (l1 : n1 ≤ 2 ^ 20) (t : TypeId) :
    Calls Try.prog 116 #[.slice (some ⟨w1.heap.size, 0, none⟩) 2 2] (w1.alloc (.cells #[.slice A0 n0 c0, .slice A1 n1 c1] t)) fun e w' => (∃ v, e = .returned v ∧ w'.ownsRow w1.heap.size 3 1 v (n0 + n1) (iys (icat f0 n0 f1) (n0 + n1))) ∧ Below w1.heap.size w1 w' := by
  have hl : ILot (w1.alloc (.cells #[.slice A0 n0 c0, .slice A1 n1 c1] t)) w1.heap.size 2 (itwo A0 A1) (itwo n0 n1) (itwo c0 c1) (itwo f0 f1) := by
    refine ⟨by simp, fun i hi => ?_, fun i hi => ?_, fun i hi => ?_, fun i hi => ?_⟩ <;> rcases (by omega : i = 0 ∨ i = 1) with rfl | rfl
    · rw [World.cell?_alloc_new]; rfl
    · rw [World.cell?_alloc_new]; rfl
    · exact h0.below ((Below.refl _ _).alloc (Nat.le_refl _) _)
    · exact h1.below ((Below.refl _ _).alloc (Nat.le_refl _) _)
    · exact z0
    · exact z1
    · exact l0
    · exact l1
  refine (iconcat_walk w1.heap.size 2 _ _ _ _ _ (by omega) hl).mono fun e w' ⟨⟨v, he, hv⟩, hw⟩ => ⟨⟨v, he, ?_⟩, ((Below.refl _ _).alloc (Nat.le_refl _) _).trans (hw.mono (by simp))⟩
  have h2 := (iown_base (B' := w1.heap.size) hv (by simp))
  rw [icats2] at h2
  have e : itot (itwo n0 n1) 2 = n0 + n1 := by simp [itot, itwo]
  rw [e] at h2
  exact h2
end Go.Proofs.Ytedkhpnlhkjjgaa

namespace Go.Proofs.Ytedkhpnlhkjjgaa
open Go.RowKit

def r64 (x y c : Nat) : Nat := (x + 18446744073709551616 - y - c) % 18446744073709551616
def b64 (x y c : Nat) : Nat := if x < y + c then 1 else 0
theorem run_sub64n (x y b : Nat) (hb : b ≤ 1) (w : World) :
    (callFunc 138 #[.int .u64 (x : Nat), .int .u64 (y : Nat), .int .u64 (b : Nat)]).run Try.prog w =
      .ok (.value (.tuple #[.int .u64 (r64 x y b : Nat), .int .u64 (b64 x y b : Nat)])) w := by
  rw [run_callFunc_extern (fn := Try.f138) (by kernel_rfl) (by kernel_rfl) (by kernel_rfl) (by kernel_rfl) (e := fun args => do
    let (x, y, b) ← Extern.MathBitsCarry.three "Sub64" args
    pure (Extern.MathBitsCarry.pair ((x + Extern.MathBitsCarry.m64 - y - b) % Extern.MathBitsCarry.m64) (if x < y + b then 1 else 0))) (by kernel_rfl)]
  have : b = 0 ∨ b = 1 := by omega
  rcases this with rfl | rfl <;> rfl
theorem r64_lt (x y c : Nat) : r64 x y c < 2 ^ 64 := by unfold r64; omega
theorem b64_le (x y c : Nat) : b64 x y c ≤ 1 := by unfold b64; split <;> omega
theorem rb64 (x y c : Nat) (hx : x < 2 ^ 64) (hy : y < 2 ^ 64) (hc : c ≤ 1) : r64 x y c + y + c = x + b64 x y c * 2 ^ 64 := by unfold r64 b64; split <;> omega

/-- what Sub comes to -/
def SubPost (a b : Nat) (w : World) (e : Ending) (w' : World) : Prop :=
  e = .returned (.tuple #[U (if b ≤ a then a - b else 0), .bool (decide (b ≤ a))]) ∧ Below w.heap.size w w'
theorem subPost_yes {a b : Nat} {w w' : World} {e : Ending} (h : b ≤ a) (he : e = .returned (.tuple #[U (a - b), .bool true])) (hw : Below w.heap.size w w') : SubPost a b w e w' := by
  unfold SubPost; rw [if_pos h, decide_eq_true h]; exact ⟨he, hw⟩
theorem subPost_no {a b : Nat} {w w' : World} {e : Ending} (h : ¬ b ≤ a) (he : e = .returned (.tuple #[U 0, .bool false])) (hw : Below w.heap.size w w') : SubPost a b w e w' := by
  unfold SubPost; rw [if_neg h, decide_eq_false h]; exact ⟨he, hw⟩
/-- the state at the head of Sub's loop -/
def SubRel (a b : Nat) (w : World) (c i : Value) (wr : World) : Prop :=
  ∃ (k d : Nat) (f : Nat → Nat), k ≤ 4 ∧ i = .int .i64 (k : Nat) ∧ c = .int .u64 (d : Nat) ∧ d ≤ 1 ∧ (∀ j, f j < 2 ^ 64) ∧
    val f k + val (limb b) k = val (limb a) k + d * 2 ^ (64 * k) ∧
    Arr .u64 wr w.heap.size 4 (limb a) ∧ Arr .u64 wr (w.heap.size + 1) 4 (limb b) ∧ Arr .u64 wr (w.heap.size + 1 + 1) 4 (fun _ => 0) ∧ Arr .u64 wr (w.heap.size + 1 + 1 + 1) 4 f ∧
    Below w.heap.size w wr ∧ w.heap.size + 1 + 1 + 1 < wr.heap.size

set_option maxRecDepth 100000 in
set_option maxHeartbeats 1000000 in
theorem sub_walk (a b : Nat) (w : World) (hal : a < 2 ^ 256) (hbl : b < 2 ^ 256) :
    Calls Try.prog 103 #[U a, U b] w (SubPost a b w) := by
  have hsub := run_sub64n
  unfold U
  go_enter Try.func103, Try.ntmps103
  go_wp2
  go_loopw [7, 9] (SubRel a b w) (fun _ i _ => 4 - (intOf i).toNat)
  case atStart =>
    refine ⟨0, 0, fun _ => 0, by omega, rfl, rfl, by omega, by simp, by simp [val], ?_, ?_, ?_, ?_, ?_, ?_⟩
    · exact (((Arr.new4 (f := limb a) rfl).alloc _).alloc _).alloc _
    · exact ((Arr.new4 (f := limb b) (by simp)).alloc _).alloc _
    · exact (Arr.new4 (f := fun _ => 0) (by simp)).alloc _
    · exact Arr.new4 (f := fun _ => 0) (by simp)
    · exact ((((Below.refl _ _).alloc (Nat.le_refl _) _).alloc (by simp only [World.size_alloc]; omega) _).alloc (by simp only [World.size_alloc]; omega) _).alloc (by simp only [World.size_alloc]; omega) _
    · simp
  case round =>
    obtain ⟨k, d, f, hk, rfl, rfl, hd, hf, hv, ha, hb, hz, hs, hbel, hsz⟩ := hrel
    by_cases hlt : k < 4
    · have a1 := ha.cell k hlt
      have b1 := hb.cell k hlt
      have f1 := hs.free k hlt
      have f2 := hs.cell k hlt
      go_wp2
      go_region_with (fail)
      all_goals
        go_wp2
        go_roundw
        case rel =>
          refine ⟨k + 1, b64 (limb a k) (limb b k) d, upd f k (r64 (limb a k) (limb b k) d), by omega, by go_num, rfl, b64_le _ _ _, upd_lt hf (r64_lt _ _ _), ?_, ?_, ?_, ?_, ?_, ?_, ?_⟩
          · rw [val_upd_succ, pow_succ64]
            have h1 := congrArg (· * 2 ^ (64 * k)) (rb64 (limb a k) (limb b k) d (limb_lt a k) (limb_lt b k) hd)
            simp only [val]
            simp only [Nat.add_mul, Nat.mul_assoc] at h1
            omega
          · exact ha.drew.set_far (by omega)
          · exact hb.drew.set_far (by omega)
          · exact hz.drew.set_far (by omega)
          · exact hs.drew.set hlt
          · exact (below_drewN hbel 1).setCell (by simp; omega) _
          · simp; omega
        case measure => simp [intOf]; omega
    · obtain rfl : k = 4 := by omega
      have f0 := hs.cell 0 (by omega)
      have f1 := hs.cell 1 (by omega)
      have f2 := hs.cell 2 (by omega)
      have f3 := hs.cell 3 (by omega)
      have z0 := hz.cell 0 (by omega)
      have z1 := hz.cell 1 (by omega)
      have z2 := hz.cell 2 (by omega)
      have z3 := hz.cell 3 (by omega)
      have y0 := hz.free 0 (by omega)
      have y1 := hz.free 1 (by omega)
      have y2 := hz.free 2 (by omega)
      have y3 := hz.free 3 (by omega)
      have hv4 : val f 4 + b = a + d * 2 ^ 256 := by rw [val4_limb hal, val4_limb hbl] at hv; exact hv
      have hfl := val_lt 4 (fun i _ => hf i)
      have Hv := Lib.hid hv4
      have Hfl := Lib.hid hfl
      clear hv hv4 hfl
      go_wp2
      · have hd' : (d : Int) ≠ 0 := by simpa using ‹((d : Int) != 0) = true›
        have hge : ¬ b ≤ a := by have := Hv.out; have := Hfl.out; have := Nat.mul_le_mul_right (2 ^ 256) (show 1 ≤ d by omega); omega
        refine bodyPost_ret (v := .tuple #[.agg #[.int .u64 0, .int .u64 0, .int .u64 0, .int .u64 0], .bool false]) (by simp [results, Try.results103, go_sem, z0, z1, z2, z3]) rfl (subPost_no hge (by rw [U_zero]) (below_set4 hbel (by omega)))
      · have hd' : (d : Int) = 0 := by simpa using ‹((d : Int) != 0) = false›
        have hd0 : d = 0 := by omega
        have hlt : b ≤ a := by have := Hv.out; have := Hfl.out; subst hd0; omega
        have hab : a - b = val f 4 := by have := Hv.out; subst hd0; omega
        refine bodyPost_ret (v := .tuple #[.agg #[.int .u64 (f 0 : Nat), .int .u64 (f 1 : Nat), .int .u64 (f 2 : Nat), .int .u64 (f 3 : Nat)], .bool true]) (by simp [results, Try.results103, go_sem, z0, z1, z2, z3]) rfl (subPost_yes hlt (by rw [hab, U_of hf]) (below_set4 hbel (by omega)))
end Go.Proofs.Ytedkhpnlhkjjgaa

namespace Go.Proofs.Ytedkhpnlhkjjgaa
open Go.RowKit

theorem eqU (a0 a1 a2 a3 b0 b1 b2 b3 : Int) (w : World) : (Op.equalIn 10000 29 (.agg #[.int .u64 a0, .int .u64 a1, .int .u64 a2, .int .u64 a3]) (.agg #[.int .u64 b0, .int .u64 b1, .int .u64 b2, .int .u64 b3])).run Try.prog w =
   .ok (a0 == b0 && a1 == b1 && a2 == b2 && a3 == b3) w := by
  have u3 := Try.underlying27
  have aa := Try.isAgg27
  have z3 := Try.sizeOf27
  rw [show (10000 : Nat) = 9999 + 1 from rfl, Op.equalIn]
  simp only [Sem.run_bind, run_underlying Try.underlying29, Result.andThen_ok]
  simp only [Std.Legacy.Range.forIn_eq_forIn_range', Std.Legacy.Range.size, Nat.sub_zero, Nat.add_sub_cancel, Nat.div_one, List.range'_succ, List.range'_zero, List.forIn_cons, List.forIn_nil]
  go_simp
  by_cases h1 : a0 = b0 <;> by_cases h2 : a1 = b1 <;> by_cases h3 : a2 = b2 <;> by_cases h4 : a3 = b3 <;> simp [h1, h2, h3, h4]
theorem limbs_eq {a b : Nat} (ha : a < 2 ^ 256) (hb : b < 2 ^ 256) : ((limb a 0 : Int) == (limb b 0 : Int) && (limb a 1 : Int) == (limb b 1 : Int) && (limb a 2 : Int) == (limb b 2 : Int) && (limb a 3 : Int) == (limb b 3 : Int)) = decide (a = b) := by
  by_cases h : a = b
  · subst h; simp
  · rw [decide_eq_false h]
    rw [Bool.eq_false_iff]
    intro hh
    simp only [Bool.and_eq_true, beq_iff_eq, Int.ofNat_inj] at hh
    refine h ?_
    rw [← val4_limb ha, ← val4_limb hb]
    refine val_congr 4 fun i hi => ?_
    rcases (by omega : i = 0 ∨ i = 1 ∨ i = 2 ∨ i = 3) with rfl | rfl | rfl | rfl
    · exact hh.1.1.1
    · exact hh.1.1.2
    · exact hh.1.2
    · exact hh.2
/-- the walk's own form of '==' on two numbers -/
theorem eq_run {a b : Nat} (ha : a < 2 ^ 256) (hb : b < 2 ^ 256) (w : World) :
    (Op.equalIn 10000 29 (.agg #[.int .u64 (limb a 0 : Nat), .int .u64 (limb a 1 : Nat), .int .u64 (limb a 2 : Nat), .int .u64 (limb a 3 : Nat)]) (.agg #[.int .u64 (limb b 0 : Nat), .int .u64 (limb b 1 : Nat), .int .u64 (limb b 2 : Nat), .int .u64 (limb b 3 : Nat)])).run Try.prog w = .ok (decide (a = b)) w := by
  rw [eqU, limbs_eq ha hb]
theorem eq0_run {a : Nat} (ha : a < 2 ^ 256) (w : World) :
    (Op.equalIn 10000 29 (.agg #[.int .u64 (limb a 0 : Nat), .int .u64 (limb a 1 : Nat), .int .u64 (limb a 2 : Nat), .int .u64 (limb a 3 : Nat)]) (.agg #[.int .u64 0, .int .u64 0, .int .u64 0, .int .u64 0])).run Try.prog w = .ok (decide (a = 0)) w := by
  have h := eq_run ha (show 0 < 2 ^ 256 by decide) w
  rw [← h]
  congr

def cmpU (a b : Nat) : Int := if a = b then 0 else if b ≤ a then 1 else -1
def CmpPost (a b : Nat) (w : World) (e : Ending) (w' : World) : Prop := e = .returned (.int .i64 (cmpU a b)) ∧ Below w.heap.size w w'

theorem cmpPost_mk {a b : Nat} {w w' : World} {r : Int} (h : cmpU a b = r) (hb : Below w.heap.size w w') : CmpPost a b w (.returned (.int .i64 r)) w' := ⟨by rw [h], hb⟩

set_option maxRecDepth 100000 in
set_option maxHeartbeats 1000000 in
theorem cmp_walk (a b : Nat) (w : World) (hal : a < 2 ^ 256) (hbl : b < 2 ^ 256) :
    Calls Try.prog 127 #[U a, U b] w (CmpPost a b w) := by
  have heq := fun w => eq_run hal hbl w
  unfold U
  by_cases hab : a = b
  · have hd : decide (a = b) = true := decide_eq_true hab
    have hc : cmpU a b = 0 := if_pos hab
    have Hc := Lib.hid hc
    have Hab := Lib.hid hab
    clear hab hc
    go_enter Try.func127, Try.ntmps127
    go_wp2_with fail
    go_ret
    exact cmpPost_mk Hc.out (((Below.refl _ _).alloc (Nat.le_refl _) _).alloc (by simp only [World.size_alloc]; omega) _)
  · have hd : decide (a = b) = false := decide_eq_false hab
    have Hab := Lib.hid hab
    clear hab
    go_enter Try.func127, Try.ntmps127
    by_cases hle : b ≤ a
    · have hc : cmpU a b = 1 := by unfold cmpU; rw [if_neg Hab.out, if_pos hle]
      have Hc := Lib.hid hc
      have Hle := Lib.hid hle
      clear hc hle
      go_wp2_with (go_at_call 103; refine (sub_walk a b _ hal hbl).mono ?_; rintro e w1 ⟨rfl, hb1⟩; rw [if_pos Hle.out, decide_eq_true Hle.out]; unfold U)
      go_ret
      exact cmpPost_mk Hc.out (((((Below.refl _ _).alloc (Nat.le_refl _) _).alloc (by simp only [World.size_alloc]; omega) _).trans (hb1.mono (by simp only [World.size_alloc]; omega))).alloc (by have := hb1.size; simp only [World.size_alloc] at this; omega) _)
    · have hc : cmpU a b = -1 := by unfold cmpU; rw [if_neg Hab.out, if_neg hle]
      have Hc := Lib.hid hc
      have Hle := Lib.hid hle
      clear hc hle
      go_wp2_with (go_at_call 103; refine (sub_walk a b _ hal hbl).mono ?_; rintro e w1 ⟨rfl, hb1⟩; rw [if_neg Hle.out, decide_eq_false Hle.out]; unfold U)
      go_ret
      exact cmpPost_mk Hc.out (((((Below.refl _ _).alloc (Nat.le_refl _) _).alloc (by simp only [World.size_alloc]; omega) _).trans (hb1.mono (by simp only [World.size_alloc]; omega))).alloc (by have := hb1.size; simp only [World.size_alloc] at this; omega) _)

/-- what Min comes to -/
def MinPost (a b : Nat) (w : World) (e : Ending) (w' : World) : Prop := e = .returned (U (min a b)) ∧ Below w.heap.size w w'
theorem minPost_mk {a b m : Nat} {w w' : World} (h : min a b = m) (hb : Below w.heap.size w w') : MinPost a b w (.returned (U m)) w' := ⟨by rw [h], hb⟩

/-- eight words -/
def U8 (n : Nat) : Value := .agg #[.int .u64 (limb n 0 : Nat), .int .u64 (limb n 1 : Nat), .int .u64 (limb n 2 : Nat), .int .u64 (limb n 3 : Nat), .int .u64 (limb n 4 : Nat), .int .u64 (limb n 5 : Nat), .int .u64 (limb n 6 : Nat), .int .u64 (limb n 7 : Nat)]
theorem U8_of {f : Nat → Nat} (h : ∀ i, f i < 2 ^ 64) : (.agg #[.int .u64 (f 0 : Nat), .int .u64 (f 1 : Nat), .int .u64 (f 2 : Nat), .int .u64 (f 3 : Nat), .int .u64 (f 4 : Nat), .int .u64 (f 5 : Nat), .int .u64 (f 6 : Nat), .int .u64 (f 7 : Nat)] : Value) = U8 (val f 8) := by
  unfold U8
  rw [limb_val 8 (fun i _ => h i) 0 (by omega), limb_val 8 (fun i _ => h i) 1 (by omega), limb_val 8 (fun i _ => h i) 2 (by omega), limb_val 8 (fun i _ => h i) 3 (by omega),
    limb_val 8 (fun i _ => h i) 4 (by omega), limb_val 8 (fun i _ => h i) 5 (by omega), limb_val 8 (fun i _ => h i) 6 (by omega), limb_val 8 (fun i _ => h i) 7 (by omega)]
theorem limb_mod {n i k : Nat} (h : i < k) : limb (n % 2 ^ (64 * k)) i = limb n i := by
  unfold limb
  have e : 2 ^ (64 * k) = 2 ^ (64 * i) * (2 ^ 64 * 2 ^ (64 * (k - 1 - i))) := by rw [← Nat.pow_add, ← Nat.pow_add]; congr 1; omega
  rw [e, Nat.mod_mul_right_div_self, Nat.mod_mul_right_mod]
theorem limb_div (n i k : Nat) : limb (n / 2 ^ (64 * k)) i = limb n (k + i) := by
  unfold limb; rw [Nat.div_div_eq_div_mul, ← Nat.pow_add]; congr 3; omega
theorem U_low (n : Nat) : U (n % 2 ^ 256) = .agg #[.int .u64 (limb n 0 : Nat), .int .u64 (limb n 1 : Nat), .int .u64 (limb n 2 : Nat), .int .u64 (limb n 3 : Nat)] := by
  unfold U
  rw [limb_mod (k := 4) (by omega), limb_mod (k := 4) (by omega), limb_mod (k := 4) (by omega), limb_mod (k := 4) (by omega)]
theorem U_high (n : Nat) : U (n / 2 ^ 256) = .agg #[.int .u64 (limb n 4 : Nat), .int .u64 (limb n 5 : Nat), .int .u64 (limb n 6 : Nat), .int .u64 (limb n 7 : Nat)] := by
  unfold U
  rw [limb_div n 0 4, limb_div n 1 4, limb_div n 2 4, limb_div n 3 4]

def LowPost (n : Nat) (w : World) (e : Ending) (w' : World) : Prop := e = .returned (U (n % 2 ^ 256)) ∧ Below w.heap.size w w'
def HighPost (n : Nat) (w : World) (e : Ending) (w' : World) : Prop := e = .returned (U (n / 2 ^ 256)) ∧ Below w.heap.size w w'
end Go.Proofs.Ytedkhpnlhkjjgaa
