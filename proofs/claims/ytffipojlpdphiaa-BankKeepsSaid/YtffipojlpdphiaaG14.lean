/- keys.Amount, ToAmount, walked. -/
import Derived.Test.YtffipojlpdphiaaG02
import Derived.Test.YtffipojlpdphiaaG08
import Derived.Test.YtffipojlpdphiaaG13
import Derived.Test.YtffipojlpdphiaaProg
import Derived.Test.YtffipojlpdphiaaG00
import Derived.Test.YtffipojlpdphiaaG01
import Derived.Test.YtffipojlpdphiaaG11
import Derived.Laws.IdiomStrings
import Derived.Lib.Hide
import Derived.OneCell
import Derived.OwnWalk
import Derived.Lib.AppendZeros
import Derived.Laws.AppendOwnNone
import Derived.Lib.QuietBelow
namespace Go.Proofs.Ytffipojlpdphiaa
open Go.RowKit

def amtL (a : Nat) : List Int := (List.range 32).map fun i => ((byteAt a (31 - i) : Nat) : Int)
def amtStr (a : Nat) : ByteArray := strOfNums (amtL a)
theorem amtL_get (a i : Nat) (h : i < 32) : (amtL a).getD i 0 = ((byteAt a (31 - i) : Nat) : Int) := by
  unfold amtL
  simp [List.getD, h]
set_option maxRecDepth 100000 in
set_option maxHeartbeats 1000000 in
theorem amount9_walk (a : Nat) (w : World) : Calls Try.prog 165 #[U a] w fun e w' => e = .returned (.string (amtStr a)) ∧ Below w.heap.size w w' := by
  unfold U
  go_enter Try.func165, Try.ntmps165
  go_wp2_with (go_at_call 185; refine (bytes_walk a _).mono ?_; rintro e w1 ⟨g, rfl, hg1, hg2, hA, hb1⟩; have hcv := run_convert_bytes_arg (P := Try.prog) w1 191 5 Try.underlying191 Try.underlying5 g 0 32 32 (amtL a) (by simp [amtL]) (fun i hi => by rw [Nat.zero_add, amtL_get a i hi]; exact hA.cell i hi) 9 Try.underlying9)
  go_ret
  exact ⟨rfl, ((Below.refl _ _).alloc (Nat.le_refl _) _).trans (hb1.mono (by simp))⟩
/-- a byte of a text -/
def sb (s : ByteArray) (i : Nat) : Nat := if h : i < s.data.size then (s.data[i]).toNat else 0
theorem sb_lt (s : ByteArray) (i : Nat) : sb s i < 256 := by
  unfold sb
  split
  · exact UInt8.toNat_lt _
  · decide
theorem sl_conv (s : ByteArray) (w : World) (cap L : Nat) (t : TypeId) (a b : Nat) (hL : L = w.heap.size) : Sl (w.alloc (.cells (bytesRow s cap) t (a, b))).drew (some ⟨L, 0, none⟩) s.size (sb s) := by
  subst hL
  exact ⟨sb_lt s, fun _ => ⟨w.heap.size, 0, rfl, by show w.heap.size < (w.alloc _).heap.size; rw [World.size_alloc]; omega, fun i hi => by
    have hi' : i < s.data.size := hi
    rw [Nat.zero_add]
    have h := bytesRow_at s cap i hi'
    unfold sb
    rw [dif_pos hi']
    have hh : (w.alloc (.cells (bytesRow s cap) t (a, b))).drew.heap[w.heap.size]? = some (.cells (bytesRow s cap) t (a, b)) := by
      show (w.heap.push _)[w.heap.size]? = _
      simp
    unfold World.cell?
    rw [hh]
    exact h⟩⟩
def fbv (s : ByteArray) : Nat := if s.size = 32 then bnum (sb s) 32 else 0
theorem fb_c (A : Option Addr) (c x : Nat) (ok : Bool) (s : ByteArray) (w : World) (hs : Sl w A s.size (sb s)) (hx : fbv s = x) (hok : decide (s.size = 32) = ok) : Calls Try.prog 182 #[.slice A s.size c] w fun e w' => e = .returned (.tuple #[U x, .bool ok]) ∧ Below w.heap.size w w' := by
  rw [← hx, ← hok]; exact fb_walk A s.size c (sb s) w hs
set_option maxRecDepth 100000 in
set_option maxHeartbeats 1000000 in
theorem toAmount_walk (s : ByteArray) (x : Nat) (ok : Bool) (w : World) (hx : fbv s = x) (hok : decide (s.size = 32) = ok) : Calls Try.prog 154 #[.string s] w fun e w' => e = .returned (.tuple #[U x, .bool ok]) ∧ Below w.heap.size w w' := by
  have hcv := fun w s => run_bytes_of_string (P := Try.prog) w 9 191 5 s Try.underlying9 Try.underlying191 Try.underlying5
  have Hx := Lib.hid hx
  have Hok := Lib.hid hok
  clear hx hok
  have z0 := (Arr.new4 (κ := .u64) (w := w) (t := 52) (f := fun _ => 0) (b := w.heap.size) rfl)
  have Z0 := Lib.hid z0
  clear z0
  unfold U
  go_enter Try.func154, Try.ntmps154
  go_wp2_with (go_at_call 182; refine (fb_c (some ⟨w.heap.size + 1, 0, none⟩) _ x ok s _ (sl_conv s (w.alloc (.cells #[.int .u64 0, .int .u64 0, .int .u64 0, .int .u64 0] 52)) _ _ _ _ _ (by simp)) Hx.out Hok.out).mono ?_; rintro e w1 ⟨rfl, hb1⟩; have z1 := ((Z0.out.alloc _).drew).below hb1 (by show w.heap.size < ((w.alloc _).alloc _).heap.size; simp only [World.size_alloc]; omega); obtain ⟨f0, f1, f2, f3⟩ := z1.frees4; obtain ⟨c0, c1, c2, c3⟩ := z1.cells4; unfold U)
  refine bodyPost_ret (v := .tuple #[.agg #[.int .u64 (limb x 0 : Nat), .int .u64 (limb x 1 : Nat), .int .u64 (limb x 2 : Nat), .int .u64 (limb x 3 : Nat)], .bool ok]) (by simp [results, Try.results154, go_sem, c0, c1, c2, c3]) rfl ⟨rfl, below_set4 ((below_drewN (((Below.refl _ _).alloc (Nat.le_refl _) _).alloc (by simp) _) 1).trans (hb1.mono (by show w.heap.size ≤ ((w.alloc _).alloc _).heap.size; simp only [World.size_alloc]; omega))) (Nat.le_refl _)⟩
theorem amtStr_size (a : Nat) : (amtStr a).size = 32 := by unfold amtStr; rw [strOfNums_size]; simp [amtL]
theorem bnum_bytes9 (a : Nat) : ∀ k, k ≤ 32 → bnum (fun i => byteAt a (31 - i)) k = a % 2 ^ (8 * k)
  | 0, _ => by simp [bnum, Nat.mod_one]
  | k + 1, h => by
    have e : 2 ^ (8 * (k + 1)) = 2 ^ (8 * k) * 256 := by rw [show (256 : Nat) = 2 ^ 8 from rfl, ← Nat.pow_add]; congr 1
    simp only [bnum]
    rw [bnum_bytes9 a k (by omega), show 31 - (31 - k) = k by omega, e, Nat.mod_mul, byteAt, Nat.mul_comm (a / 2 ^ (8 * k) % 256)]
theorem bnum_congr {f g : Nat → Nat} (h : ∀ j, j ≤ 31 → f j = g j) : ∀ k, bnum f k = bnum g k
  | 0 => rfl
  | k + 1 => by simp only [bnum]; rw [bnum_congr h k, h (31 - k) (by omega)]
theorem sb_amt (a i : Nat) (h : i ≤ 31) : sb (amtStr a) i = byteAt a (31 - i) := by
  have hs : i < (amtStr a).data.size := by have h2 : (amtStr a).data.size = 32 := amtStr_size a; omega
  unfold sb
  rw [dif_pos hs]
  have e : (amtStr a).data[i] = UInt8.ofNat (byteAt a (31 - i)) := by
    show ((strOfNums (amtL a)).data)[i] = _
    simp [strOfNums, amtL]
  rw [e]
  have := byteAt_lt a (31 - i)
  rw [UInt8.toNat_ofNat']
  exact Nat.mod_eq_of_lt this
theorem amt_fbv (a : Nat) (ha : a < 2 ^ 256) : fbv (amtStr a) = a := by
  unfold fbv
  rw [if_pos (amtStr_size a), bnum_congr (fun j hj => sb_amt a j hj) 32, bnum_bytes9 a 32 (by omega), Nat.mod_eq_of_lt ha]
end Go.Proofs.Ytffipojlpdphiaa

namespace Go.Proofs.Ytffipojlpdphiaa
open Go.RowKit

def iys (f : Nat → Int) (k : Nat) : List Value := (List.range k).map fun i => Value.int .i64 (f i)
theorem iys_succ (f : Nat → Int) (k : Nat) : iys f (k + 1) = iys f k ++ [.int .i64 (f k)] := by simp [iys, List.range_succ]
theorem iys_get (f : Nat → Int) {k i : Nat} (h : i < k) : (iys f k)[i]? = some (.int .i64 (f i)) := by simp [iys, h]
theorem iys_length (f : Nat → Int) (k : Nat) : (iys f k).length = k := by simp [iys]
theorem iys_congr {f g : Nat → Int} {k : Nat} (h : ∀ i, i < k → f i = g i) : iys f k = iys g k := by
  unfold iys
  refine List.map_congr_left fun i hi => ?_
  rw [h i (List.mem_range.1 hi)]
theorem iys_one (g : Nat → Int) (m : Nat) : ∀ u ∈ iys g m, u.oneCell' = true := by
  intro u hu
  obtain ⟨_, _, rfl⟩ := List.mem_map.1 hu
  rfl
/-- f's first n, and behind them g's -/
def icat (f : Nat → Int) (n : Nat) (g : Nat → Int) (i : Nat) : Int := if i < n then f i else g (i - n)
theorem iys_icat (f : Nat → Int) (n : Nat) (g : Nat → Int) : ∀ m, iys f n ++ iys g m = iys (icat f n g) (n + m)
  | 0 => by
    show iys f n ++ [] = _
    rw [List.append_nil]; exact iys_congr fun i hi => (if_pos hi).symm
  | m + 1 => by
    rw [iys_succ, ← List.append_assoc, iys_icat f n g m, ← Nat.add_assoc, iys_succ]
    congr 3
    show _ = (if n + m < n then f (n + m) else g (n + m - n) : Int)
    rw [if_neg (by omega), Nat.add_sub_cancel_left]
def itot (n : Nat → Nat) : Nat → Nat
  | 0 => 0
  | k + 1 => itot n k + n k
def icats (n : Nat → Nat) (f : Nat → Nat → Int) : Nat → Nat → Int
  | 0 => fun _ => 0
  | k + 1 => icat (icats n f k) (itot n k) (f k)
theorem itot_le {n : Nat → Nat} {M m : Nat} (h : ∀ i, i < m → n i ≤ M) : ∀ k, k ≤ m → itot n k ≤ k * M
  | 0, _ => by simp [itot]
  | k + 1, hk => by
    have := itot_le h k (by omega)
    have := h k (by omega)
    simp only [itot, Nat.add_mul]; omega
theorem Il.news {w : World} {ad : Addr} {n : Nat} {f : Nat → Int} (h : Il w (some ad) n f) : ∀ j u, (iys f n)[j]? = some u → w.cell? (ad.add j) = some u := by
  intro j u hu
  have hj : j < n := by have := (List.getElem?_eq_some_iff.1 hu).1; simpa [iys] using this
  rw [iys_get f hj] at hu
  cases hu
  obtain ⟨g, o, e, _, hc⟩ := h.at_ (by omega)
  cases e
  rw [Addr.add_lit]; exact hc j hj
theorem oinfoInt : (Try.prog.info? 3).map (fun i => (i.zero, i.size, i.bytes)) = some (some (.int .i64 0), 1, 8) := by kernel_rfl
theorem iown_zero {w : World} {z : Value} {n cap : Nat} {e : TypeId} (hz : z.cells.size = 1) (hn : n ≤ cap) (hc : cap ≤ maxLen) :
    (w.drew.alloc (.cells (Builtin.zeroCells z.cells n ++ Builtin.zeroCells z.cells (cap - n)) e)).ownsRow w.heap.size e 1 (.slice (some ⟨w.heap.size, 0, none⟩) 0 cap) 0 [] := by
  refine ⟨rfl, .inr ⟨w.heap.size, cap, _, rfl, Nat.le_refl _, heap_alloc_new w.drew _, Nat.zero_le _, hc, ?_, by simp⟩⟩
  simp only [Array.size_append, size_zeroCells, hz]
  omega
set_option maxRecDepth 100000 in
set_option maxHeartbeats 1000000 in
theorem igrow_walk (n : Nat) (w : World) (hn : n ≤ 2 ^ 40) : Calls Try.prog 193 #[.slice none 0 0, .int .i64 (n : Nat)] w fun e w' => (∃ v, e = .returned v ∧ w'.ownsRow w.heap.size 3 1 v 0 []) ∧ Below w.heap.size w w' := by
  obtain ⟨i0, hi, hz0, hz1, hz2⟩ := info_parts oinfoInt
  have p1 : ¬ ((n : Int) < 0) := by omega
  by_cases h0 : n = 0
  · subst h0
    go_enter Try.func193, Try.ntmps193
    go_wp2
    go_ret
    exact ⟨⟨_, rfl, World.ownsRow_nil _ _ _ _⟩, Below.refl _ _⟩
  · have p2 : 0 < (n : Int) := by omega
    have hg := grownCap_ge w n 0 3
    have hm := grownCap_le_maxLen w n 0 3 (by unfold maxLen; omega)
    have hr := Lib.hid (Lib.run_append_nil_zeros (P := Try.prog) w 32 3 32 3 i0 (.int .i64 0) .i64 .i64 Try.underlying32 Try.underlying3 hi hz0 n (by omega) (by omega) (by omega) (by rw [hz2]; omega))
    have hw := Lib.hid (iown_zero (w := w) (z := .int .i64 0) (n := n) (e := 3) rfl hg hm)
    generalize hcp : grownCap w n 0 3 = cp at *
    clear hcp
    go_enter Try.func193, Try.ntmps193
    go_wp2_with (at_builtin; refine Lib.wpList_append_run _ rfl _ _ _ _ rfl _ _ rfl rfl _ _ hr.out ?_)
    go_ret
    exact ⟨⟨_, rfl, hw.out⟩, ((Below.refl _ _).drew).alloc (Nat.le_refl _) _⟩

/-- the bytes so far, the first i slices' -/
def ICatRel (n : Nat → Nat) (f : Nat → Nat → Int) (m : Nat) (w : World) (v i : Value) (wr : World) : Prop :=
  ∃ k : Nat, k ≤ m ∧ i = .int .i64 (k : Nat) ∧ wr.ownsRow w.heap.size 3 1 v (itot n k) (iys (icats n f k) (itot n k)) ∧ Below w.heap.size w wr
/-- the m slices that lie in the block B -/
structure ILot (w : World) (B m : Nat) (A : Nat → Option Addr) (n c : Nat → Nat) (f : Nat → Nat → Int) : Prop where
  lt : B < w.heap.size
  cell : ∀ i, i < m → w.cell? ⟨B, i, none⟩ = some (.slice (A i) (n i) (c i))
  sl : ∀ i, i < m → Il w (A i) (n i) (f i)
  nil : ∀ i, i < m → A i = none → n i = 0 ∧ c i = 0
  le : ∀ i, i < m → n i ≤ 2 ^ 20
theorem ILot.below {w w' : World} {B m : Nat} {A : Nat → Option Addr} {n c : Nat → Nat} {f : Nat → Nat → Int} (h : ILot w B m A n c f) (hb : Below w.heap.size w w') : ILot w' B m A n c f :=
  ⟨Nat.lt_of_lt_of_le h.lt hb.size, fun i hi => by rw [hb.cell (p := ⟨B, i, none⟩) h.lt]; exact h.cell i hi, fun i hi => (h.sl i hi).below hb, h.nil, h.le⟩
set_option maxRecDepth 100000 in
set_option maxHeartbeats 2000000 in
theorem iconcat_walk (B m : Nat) (A : Nat → Option Addr) (n c : Nat → Nat) (f : Nat → Nat → Int) (w : World) (hm : m ≤ 8) (hl : ILot w B m A n c f) :
    Calls Try.prog 184 #[.slice (some ⟨B, 0, none⟩) m m] w fun e w' => (∃ v, e = .returned v ∧ w'.ownsRow w.heap.size 3 1 v (itot n m) (iys (icats n f m) (itot n m))) ∧ Below w.heap.size w w' := by
  obtain ⟨i0, hi, hz0, hz1, hz2⟩ := info_parts oinfoInt
  have HL := Lib.hid hl
  have HT := Lib.hid (itot_le hl.le)
  have hB := hl.lt
  have hM : (m : Int) ≤ 8 := by omega
  clear hl
  go_enter Try.func184, Try.ntmps184
  go_wp2
  go_loopw [3, 11] (fun x i wr => ∃ k : Nat, k ≤ m ∧ i = .int .i64 (k : Nat) ∧ x = .int .i64 (itot n k : Nat) ∧ w = wr) (fun _ i _ => m - (intOf i).toNat)
  case atStart => exact ⟨0, Nat.zero_le _, rfl, rfl, rfl⟩
  case round =>
    obtain ⟨k, hk, rfl, rfl, rfl⟩ := hrel
    have hT := HT.out k hk
    by_cases hlt : k < m
    · have p1 : (k : Int) < (m : Int) := by omega
      have ck := HL.out.cell k hlt
      have hle := HL.out.le k hlt
      have p2 : ¬ ((itot n k : Int) + (n k : Int) < 0) := by omega
      have e1 : (itot n k : Int) + (n k : Int) = ((itot n (k + 1) : Nat) : Int) := by simp [itot]
      have E1 := Lib.hid e1
      clear e1
      go_wp2
      exact ⟨⟨k + 1, by omega, by simp, by rw [E1.out], trivial⟩, by simp [intOf]; omega⟩
    · obtain rfl : k = m := by omega
      have p1 : ¬ (k : Int) < (k : Int) := by omega
      go_wp2_with (go_at_call 193; refine (igrow_walk (itot n k) _ (by omega)).mono ?_; rintro e w1 ⟨⟨v1, rfl, hv1⟩, hb1⟩)
      go_loopw [6, 27] (ICatRel n f k w) (fun _ i _ => k - (intOf i).toNat)
      case atStart => exact ⟨0, Nat.zero_le _, rfl, hv1, hb1⟩
      case round =>
        obtain ⟨j, hj, rfl, hv, hb⟩ := hrel
        have hT2 := HT.out j hj
        by_cases hlt2 : j < k
        · have p3 : (j : Int) < (k : Int) := by omega
          have L2 := HL.out.below hb
          have cj := L2.cell j hlt2
          have sj := L2.sl j hlt2
          have nj := L2.nil j hlt2
          have lj := L2.le j hlt2
          have hbs := hb.size
          clear L2
          generalize hA : A j = Aj at *
          cases Aj with
          | none =>
            obtain ⟨z1, z2⟩ := nj rfl
            rw [z1, z2] at cj
            go_wp2_with (at_builtin; refine wpList_append_own_none rfl _ _ _ rfl _ 3 i0 1 Try.underlying32 hi _ _ _ rfl hv rfl ?_)
            refine ⟨⟨j + 1, by omega, by simp, ?_, hb⟩, by simp [intOf]; omega⟩
            have e3 := iys_icat (icats n f j) (itot n j) (f j) (n j)
            have e4 : iys (f j) (n j) = [] := by rw [z1]; rfl
            rw [e4, List.append_nil] at e3
            have e2 : itot n (j + 1) = itot n j := by simp only [itot, z1]; rfl
            show wr.ownsRow _ _ _ _ _ (iys (icat (icats n f j) (itot n j) (f j)) (itot n j + n j))
            rw [← e3, e2]
            exact hv
          | some ad =>
            go_wp2_with (at_builtin; refine wpList_append_own _ rfl _ _ _ rfl w.heap.size 3 i0 (.int .i64 0) 1 8 Try.underlying32 hi hz0 hz1 hz2 rfl (by omega) _ (itot n j) _ rfl hv ad (n j) (c j) (iys (f j) (n j)) rfl (by rw [iys_length]; omega) sj.news (iys_one _ _) (by unfold maxLen; omega) (by omega) hbs ?_)
            intro v2 w2 hown hgrow _
            rw [iys_icat] at hown
            have Hown := Lib.hid hown
            have Hb := Lib.hid (hb.grown hgrow hbs (fun q hq => (hv.lt q hq).1))
            clear hown hgrow hb hv
            go_wp2
            exact ⟨⟨j + 1, by omega, by simp, Hown.out, Hb.out⟩, by simp [intOf]; omega⟩
        · obtain rfl : j = k := by omega
          have p3 : ¬ (j : Int) < (j : Int) := by omega
          go_wp2
          go_ret
          exact ⟨⟨_, rfl, hv⟩, hb⟩

theorem iown_base {w : World} {B B' n k : Nat} {e : TypeId} {v : Value} {xs : List Value} (h : w.ownsRow B e k v n xs) (hb : B' ≤ B) : w.ownsRow B' e k v n xs :=
  ⟨h.1, h.2.elim .inl fun ⟨g, cap, cur, h1, h2, h3⟩ => .inr ⟨g, cap, cur, h1, Nat.le_trans hb h2, h3⟩⟩
theorem own_il {w : World} {B n : Nat} {e : TypeId} {v : Value} {f : Nat → Int} (h : w.ownsRow B e 1 v n (iys f n)) (hs : ∀ i, f i < 2 ^ 63) : ∃ A c, v = .slice A n c ∧ Il w A n f ∧ (A = none → n = 0 ∧ c = 0) := by
  rcases h.2 with ⟨rfl, rfl⟩ | ⟨g, cap, cur, rfl, hb, hh, r⟩
  · exact ⟨none, 0, rfl, ⟨hs, fun h => absurd h (by omega)⟩, fun _ => ⟨rfl, rfl⟩⟩
  · refine ⟨_, cap, rfl, ⟨hs, fun hn => ⟨g, 0, rfl, (h.lt g rfl).2, fun i hi => ?_⟩⟩, fun h => by cases h⟩
    rw [Nat.zero_add, h.cellAt i (by omega), iys_get f hi]
def itwo {α : Type} (a b : α) : Nat → α
  | 0 => a
  | _ => b
theorem icats2 {n0 n1 : Nat} {f0 f1 : Nat → Int} : iys (icats (itwo n0 n1) (itwo f0 f1) 2) (itot (itwo n0 n1) 2) = iys (icat f0 n0 f1) (n0 + n1) := by
  have e : itot (itwo n0 n1) 2 = n0 + n1 := by simp [itot, itwo]
  rw [e]
  refine iys_congr fun i _ => ?_
  simp [icats, icat, itot, itwo]
theorem iconcat2_c (A0 A1 : Option Addr) (n0 n1 c0 c1 : Nat) (f0 f1 : Nat → Int) (w1 : World) (h0 : Il w1 A0 n0 f0) (h1 : Il w1 A1 n1 f1) (z0 : A0 = none → n0 = 0 ∧ c0 = 0) (z1 : A1 = none → n1 = 0 ∧ c1 = 0) (l0 : n0 ≤ 2 ^ 20) (l1 : n1 ≤ 2 ^ 20) (t : TypeId) :
    Calls Try.prog 184 #[.slice (some ⟨w1.heap.size, 0, none⟩) 2 2] (w1.alloc (.cells #[.slice A0 n0 c0, .slice A1 n1 c1] t)) fun e w' => (∃ v, e = .returned v ∧ w'.ownsRow w1.heap.size 3 1 v (n0 + n1) (iys (icat f0 n0 f1) (n0 + n1))) ∧ Below w1.heap.size w1 w' := by
  have hl : ILot (w1.alloc (.cells #[.slice A0 n0 c0, .slice A1 n1 c1] t)) w1.heap.size 2 (itwo A0 A1) (itwo n0 n1) (itwo c0 c1) (itwo f0 f1) := by
    refine ⟨by simp, fun i hi => ?_, fun i hi => ?_, fun i hi => ?_, fun i hi => ?_⟩ <;> rcases (by omega : i = 0 ∨ i = 1) with rfl | rfl
    · rw [World.cell?_alloc_new]; rfl
    · rw [World.cell?_alloc_new]; rfl
    · exact h0.below ((Below.refl _ _).alloc (Nat.le_refl _) _)
    · exact h1.below ((Below.refl _ _).alloc (Nat.le_refl _) _)
    · exact z0
    · exact z1
    · exact l0
    · exact l1
  refine (iconcat_walk w1.heap.size 2 _ _ _ _ _ (by omega) hl).mono fun e w' ⟨⟨v, he, hv⟩, hw⟩ => ⟨⟨v, he, ?_⟩, ((Below.refl _ _).alloc (Nat.le_refl _) _).trans (hw.mono (by simp))⟩
  have h2 := (iown_base (B' := w1.heap.size) hv (by simp))
  rw [icats2] at h2
  have e : itot (itwo n0 n1) 2 = n0 + n1 := by simp [itot, itwo]
  rw [e] at h2
  exact h2
end Go.Proofs.Ytffipojlpdphiaa

namespace Go.Proofs.Ytffipojlpdphiaa
open Go.RowKit Go.Maps Go.Sort

set_option maxRecDepth 100000 in
set_option maxHeartbeats 1000000 in
theorem point_is (t : Int) (A : Option Addr) (n c : Nat) (f : Nat → Int) (k : Int) (K : ByteArray) (hK : keyStr t (icat f n fun _ => k) (n + 1) = K) (w : World) (hl : Il w A n f) (hz : A = none → n = 0 ∧ c = 0) (hn : n ≤ 20) (hk : k < 2 ^ 63) :
    Calls Try.prog 164 #[.int .i64 t, .slice A n c, .int .i64 k] w fun e w' => e = .returned (.string K) ∧ Below w.heap.size w w' := by
  have hb0 := (Below.refl w.heap.size w).alloc (Nat.le_refl _) (.cells #[.int .i64 k] 3)
  have HB0 := Lib.hid hb0
  have hc := iconcat2_c A (some ⟨w.heap.size, 0, none⟩) n 1 c 1 f (fun _ => k) (w.alloc (.cells #[.int .i64 k] 3)) (hl.below hb0) (il1 k w 3 hk) hz (fun h => by cases h) (by omega) (by omega) 32
  rw [World.size_alloc] at hc
  have HC := Lib.hid (hc.mono fun e w' hh => (⟨hh.1, hb0.trans (hh.2.mono (by simp))⟩ : (∃ v, e = .returned v ∧ w'.ownsRow (w.heap.size + 1) 3 1 v (n + 1) (iys (icat f n fun _ => k) (n + 1))) ∧ Below w.heap.size w w'))
  have HK := Lib.hid (fun (A' : Option Addr) (c' : Nat) (W : World) (h : Il W A' (n + 1) (icat f n fun _ => k)) => key_is t A' (n + 1) c' _ K hK W h (by omega))
  have HM := Lib.hid (fun (i : Nat) => show icat f n (fun _ => k) i < 2 ^ 63 from by unfold icat; split; exact hl.most _; exact hk)
  clear hl hK hz hn hk hb0 hc HB0
  go_enter Try.func164, Try.ntmps164
  go_wp2_with (first
    | (go_at_call 72; refine (HK.out _ _ _ HI.out).mono ?_; rintro e w2 ⟨rfl, hb2⟩; have HB2 := Lib.hid (HB1.out.trans (hb2.mono HB1.out.size)); clear hb2)
    | (go_at_call 184; refine HC.out.mono ?_; rintro e w1 ⟨⟨v, rfl, hv⟩, hb1⟩; obtain ⟨A1, c1, rfl, il, _⟩ := own_il hv HM.out; have HI := Lib.hid il; have HB1 := Lib.hid hb1; clear hv il hb1))
  go_ret
  exact ⟨rfl, HB2.out⟩
set_option maxRecDepth 100000 in
set_option maxHeartbeats 1000000 in
theorem reader_walk (P : Option Addr) (t : Int) (A : Option Addr) (n c : Nat) (w : World) : Calls Try.prog 162 #[.pointer P, .int .i64 t, .slice A n c] w fun e w' =>
    e = .returned (.func (.func 183) #[] #[.pointer (some ⟨w.heap.size, 0, none⟩), .pointer (some ⟨w.heap.size + 1, 0, none⟩), .pointer (some ⟨w.heap.size + 1 + 1, 0, none⟩)]) ∧ Below w.heap.size w w' ∧
    w'.cell? ⟨w.heap.size, 0, none⟩ = some (.pointer P) ∧ w'.cell? ⟨w.heap.size + 1, 0, none⟩ = some (.int .i64 t) ∧ w'.cell? ⟨w.heap.size + 1 + 1, 0, none⟩ = some (.slice A n c) ∧ w.heap.size + 1 + 1 < w'.heap.size := by
  go_enter Try.func162, Try.ntmps162
  go_wp2
  go_ret
  refine ⟨rfl, (((Below.refl _ _).alloc (Nat.le_refl _) _).alloc (by simp) _).alloc (by simp; omega) _, ?_, ?_, ?_, by simp⟩
  · rw [World.cell?_alloc_old _ _ _ (by simp; omega), World.cell?_alloc_old _ _ _ (by simp)]
    exact (World.cell?_alloc_at _ _ _ _ rfl).trans rfl
  · rw [World.cell?_alloc_old _ _ _ (by simp)]
    exact (World.cell?_alloc_at _ _ _ _ (by simp)).trans rfl
  · exact (World.cell?_alloc_at _ _ _ _ (by simp)).trans rfl
/-- a history's place in a world: the boxes b of its reader, the store P, the id's numbers -/
structure HisAt (w : World) (b : Nat) (P : Option Addr) (t : Int) (A : Option Addr) (n c : Nat) (f : Nat → Int) : Prop where
  c0 : w.cell? ⟨b, 0, none⟩ = some (.pointer P)
  c1 : w.cell? ⟨b + 1, 0, none⟩ = some (.int .i64 t)
  c2 : w.cell? ⟨b + 1 + 1, 0, none⟩ = some (.slice A n c)
  lt : b + 1 + 1 < w.heap.size
  l : Il w A n f
  z : A = none → n = 0 ∧ c = 0
  n : n ≤ 20
theorem HisAt.below {w w' : World} {b : Nat} {P : Option Addr} {t : Int} {A : Option Addr} {n c : Nat} {f : Nat → Int} (h : HisAt w b P t A n c f) (hb : Below w.heap.size w w') : HisAt w' b P t A n c f :=
  ⟨(hb.cell (p := ⟨b, 0, none⟩) (by have := h.lt; show b < _; omega)).trans h.c0, (hb.cell (p := ⟨b + 1, 0, none⟩) (by have := h.lt; show b + 1 < _; omega)).trans h.c1, (hb.cell (p := ⟨b + 1 + 1, 0, none⟩) h.lt).trans h.c2, Nat.lt_of_lt_of_le h.lt hb.size, h.l.below hb, h.z, h.n⟩
/-- what a checkpoint tells -/
def hisV (x : Int) (a : Nat) (ok : Bool) : Value := .tuple #[.int .i64 x, U a, .bool ok]
set_option maxRecDepth 100000 in
set_option maxHeartbeats 2000000 in
/-- a checkpoint that is not there -/
theorem read_none (b : Nat) (P : Option Addr) (t : Int) (A : Option Addr) (n c : Nat) (f : Nat → Int) (k : Int) (K : ByteArray) (hK : keyStr t (icat f n fun _ => k) (n + 1) = K) (ok : Bool) (w : World) (h : HisAt w b P t A n c f) (hk : k < 2 ^ 63)
    (hG : ∀ W, Below w.heap.size w W → Calls Try.prog 28 #[.pointer P, .string K] W fun e w' => e = .returned (.tuple #[.string ⟨#[]⟩, .bool ok]) ∧ Below W.heap.size W w') :
    Calls Try.prog 183 #[.int .i64 k, .pointer (some ⟨b, 0, none⟩), .pointer (some ⟨b + 1, 0, none⟩), .pointer (some ⟨b + 1 + 1, 0, none⟩)] w fun e w' => e = .returned (hisV 0 0 false) ∧ Below w.heap.size w w' := by
  obtain ⟨W0, hW0⟩ : ∃ W0, W0 = w.alloc (.cells #[.int .u64 0, .int .u64 0, .int .u64 0, .int .u64 0] 52) := ⟨_, rfl⟩
  have hb0 : Below w.heap.size w W0 := by rw [hW0]; exact (Below.refl _ _).alloc (Nat.le_refl _) _
  have r0 : W0.heap[w.heap.size]? = some (.cells #[.int .u64 0, .int .u64 0, .int .u64 0, .int .u64 0] 52 (0, 0)) := by rw [hW0]; exact heap_alloc_new _ _
  have hA := h.below hb0
  have f0 := fun (dq : Nat) (osq : Array Obj) => cell_regrown hA.c0 dq osq
  have f1 := fun (dq : Nat) (osq : Array Obj) => cell_regrown hA.c1 dq osq
  have f2 := fun (dq : Nat) (osq : Array Obj) => cell_regrown hA.c2 dq osq
  have HP := Lib.hid (fun (dq : Nat) (osq : Array Obj) => point_is t A n c f k K hK (grow (redrawn W0 dq) osq) (hA.l.below (below_regrown W0 dq osq)) h.z h.n hk)
  have HG := Lib.hid (fun (dq : Nat) (osq : Array Obj) => hG (grow (redrawn W0 dq) osq) (hb0.trans ((below_regrown W0 dq osq).mono hb0.size)))
  have HF := Lib.hid (fun (dq : Nat) (osq : Array Obj) => And.intro (hb0.trans ((below_regrown W0 dq osq).mono hb0.size)) (((below_regrown W0 dq osq).block w.heap.size (hp_lt r0)).trans r0))
  have HW := Lib.hid hW0
  clear h hG hA hb0 r0 hK hk hW0
  unfold hisV
  rw [U_zero]
  go_enter Try.func183, Try.ntmps183
  go_wp2
  rw [← HW.out]
  refine wp_region_quiet_below (by kernel_rfl) (by kernel_rfl) ?_
  repeat (quiet_step (first
    | (go_at_call 164; with_reducible exact Calls.regrown_of (HP.out _ _))
    | (go_at_call 28; with_reducible exact Calls.regrown_of (HG.out _ _))))
  refine wpQuiet_nil ?_
  intro _ hw'
  obtain ⟨⟨dq, osq⟩, hw''⟩ := hw'
  subst hw''
  have hf := HF.out dq osq
  obtain ⟨W, hW⟩ : ∃ W, W = grow (redrawn W0 dq) osq := ⟨_, rfl⟩
  rw [← hW] at hf ⊢
  clear hW f0 f1 f2 HF HP HG
  have HB := Lib.hid hf.1
  have d0 := (hp_cell (i := 0) hf.2).trans rfl
  have d1 := (hp_cell (i := 1) hf.2).trans rfl
  have d2 := (hp_cell (i := 2) hf.2).trans rfl
  have d3 := (hp_cell (i := 3) hf.2).trans rfl
  have g0 := hp_free (i := 0) hf.2
  have g1 := hp_free (i := 1) hf.2
  have g2 := hp_free (i := 2) hf.2
  have g3 := hp_free (i := 3) hf.2
  clear hf
  go_wp2
  refine bodyPost_ret (v := .tuple #[.int .i64 0, .agg #[.int .u64 0, .int .u64 0, .int .u64 0, .int .u64 0], .bool false]) (by simp [results, Try.results183, go_sem, d0, d1, d2, d3]) rfl ⟨rfl, below_set4 HB.out (Nat.le_refl _)⟩
end Go.Proofs.Ytffipojlpdphiaa
