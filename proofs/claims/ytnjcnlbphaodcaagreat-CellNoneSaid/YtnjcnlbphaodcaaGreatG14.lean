/- keys.Amount, ToAmount, walked. -/
import Derived.Test.YtnjcnlbphaodcaaGreatG02
import Derived.Test.YtnjcnlbphaodcaaGreatG08
import Derived.Test.YtnjcnlbphaodcaaGreatG13
import Derived.Test.YtnjcnlbphaodcaaGreatProg
import Derived.Test.YtnjcnlbphaodcaaGreatG00
import Derived.Test.YtnjcnlbphaodcaaGreatG01
import Derived.Test.YtnjcnlbphaodcaaGreatG11
import Derived.Laws.IdiomStrings
import Derived.Lib.Hide
import Derived.OneCell
import Derived.OwnWalk
import Derived.Lib.AppendZeros
import Derived.Laws.AppendOwnNone
import Derived.Lib.QuietBelow
namespace Go.Proofs.YtnjcnlbphaodcaaGreat
open Go.RowKit

def amtL (a : Nat) : List Int := (List.range 32).map fun i => ((byteAt a (31 - i) : Nat) : Int)
def amtStr (a : Nat) : ByteArray := strOfNums (amtL a)
theorem amtL_get (a i : Nat) (h : i < 32) : (amtL a).getD i 0 = ((byteAt a (31 - i) : Nat) : Int) := by
  unfold amtL
  simp [List.getD, h]
set_option maxRecDepth 100000 in
set_option maxHeartbeats 1000000 in
theorem amount9_walk (a : Nat) (w : World) : Calls Tryz.prog 42 #[U a] w fun e w' => e = .returned (.string (amtStr a)) ∧ Below w.heap.size w w' := by
  unfold U
  go_enter Tryz.func42, Tryz.ntmps42
  go_wp2_with (go_at_call 63; refine (bytes_walk a _).mono ?_; rintro e w1 ⟨g, rfl, hg1, hg2, hA, hb1⟩; have hcv := run_convert_bytes_arg (P := Tryz.prog) w1 82 5 Tryz.underlying82 Tryz.underlying5 g 0 32 32 (amtL a) (by simp [amtL]) (fun i hi => by rw [Nat.zero_add, amtL_get a i hi]; exact hA.cell i hi) 9 Tryz.underlying9)
  go_ret
  exact ⟨rfl, ((Below.refl _ _).alloc (Nat.le_refl _) _).trans (hb1.mono (by simp))⟩
/-- a byte of a text -/
def sb (s : ByteArray) (i : Nat) : Nat := if h : i < s.data.size then (s.data[i]).toNat else 0
theorem sb_lt (s : ByteArray) (i : Nat) : sb s i < 256 := by
  unfold sb
  split
  · exact UInt8.toNat_lt _
  · decide
theorem sl_conv (s : ByteArray) (w : World) (cap L : Nat) (t : TypeId) (a b : Nat) (hL : L = w.heap.size) : Sl (w.alloc (.cells (bytesRow s cap) t (a, b))).drew (some ⟨L, 0, none⟩) s.size (sb s) := by
  subst hL
  exact ⟨sb_lt s, fun _ => ⟨w.heap.size, 0, rfl, by show w.heap.size < (w.alloc _).heap.size; rw [World.size_alloc]; omega, fun i hi => by
    have hi' : i < s.data.size := hi
    rw [Nat.zero_add]
    have h := bytesRow_at s cap i hi'
    unfold sb
    rw [dif_pos hi']
    have hh : (w.alloc (.cells (bytesRow s cap) t (a, b))).drew.heap[w.heap.size]? = some (.cells (bytesRow s cap) t (a, b)) := by
      show (w.heap.push _)[w.heap.size]? = _
      simp
    unfold World.cell?
    rw [hh]
    exact h⟩⟩
def fbv (s : ByteArray) : Nat := if s.size = 32 then bnum (sb s) 32 else 0
theorem fb_c (A : Option Addr) (c x : Nat) (ok : Bool) (s : ByteArray) (w : World) (hs : Sl w A s.size (sb s)) (hx : fbv s = x) (hok : decide (s.size = 32) = ok) : Calls Tryz.prog 53 #[.slice A s.size c] w fun e w' => e = .returned (.tuple #[U x, .bool ok]) ∧ Below w.heap.size w w' := by
  rw [← hx, ← hok]; exact fb_walk A s.size c (sb s) w hs
set_option maxRecDepth 100000 in
set_option maxHeartbeats 1000000 in
theorem toAmount_walk (s : ByteArray) (x : Nat) (ok : Bool) (w : World) (hx : fbv s = x) (hok : decide (s.size = 32) = ok) : Calls Tryz.prog 32 #[.string s] w fun e w' => e = .returned (.tuple #[U x, .bool ok]) ∧ Below w.heap.size w w' := by
  have hcv := fun w s => run_bytes_of_string (P := Tryz.prog) w 9 82 5 s Tryz.underlying9 Tryz.underlying82 Tryz.underlying5
  have Hx := Lib.hid hx
  have Hok := Lib.hid hok
  clear hx hok
  have z0 := (Arr.new4 (κ := .u64) (w := w) (t := 24) (f := fun _ => 0) (b := w.heap.size) rfl)
  have Z0 := Lib.hid z0
  clear z0
  unfold U
  go_enter Tryz.func32, Tryz.ntmps32
  go_wp2_with (go_at_call 53; refine (fb_c (some ⟨w.heap.size + 1, 0, none⟩) _ x ok s _ (sl_conv s (w.alloc (.cells #[.int .u64 0, .int .u64 0, .int .u64 0, .int .u64 0] 24)) _ _ _ _ _ (by simp)) Hx.out Hok.out).mono ?_; rintro e w1 ⟨rfl, hb1⟩; have z1 := ((Z0.out.alloc _).drew).below hb1 (by show w.heap.size < ((w.alloc _).alloc _).heap.size; simp only [World.size_alloc]; omega); obtain ⟨f0, f1, f2, f3⟩ := z1.frees4; obtain ⟨c0, c1, c2, c3⟩ := z1.cells4; unfold U)
  refine bodyPost_ret (v := .tuple #[.agg #[.int .u64 (limb x 0 : Nat), .int .u64 (limb x 1 : Nat), .int .u64 (limb x 2 : Nat), .int .u64 (limb x 3 : Nat)], .bool ok]) (by simp [results, Tryz.results32, go_sem, c0, c1, c2, c3]) rfl ⟨rfl, below_set4 ((below_drewN (((Below.refl _ _).alloc (Nat.le_refl _) _).alloc (by simp) _) 1).trans (hb1.mono (by show w.heap.size ≤ ((w.alloc _).alloc _).heap.size; simp only [World.size_alloc]; omega))) (Nat.le_refl _)⟩
theorem amtStr_size (a : Nat) : (amtStr a).size = 32 := by unfold amtStr; rw [strOfNums_size]; simp [amtL]
theorem bnum_bytes9 (a : Nat) : ∀ k, k ≤ 32 → bnum (fun i => byteAt a (31 - i)) k = a % 2 ^ (8 * k)
  | 0, _ => by simp [bnum, Nat.mod_one]
  | k + 1, h => by
    have e : 2 ^ (8 * (k + 1)) = 2 ^ (8 * k) * 256 := by rw [show (256 : Nat) = 2 ^ 8 from rfl, ← Nat.pow_add]; congr 1
    simp only [bnum]
    rw [bnum_bytes9 a k (by omega), show 31 - (31 - k) = k by omega, e, Nat.mod_mul, byteAt, Nat.mul_comm (a / 2 ^ (8 * k) % 256)]
theorem bnum_congr {f g : Nat → Nat} (h : ∀ j, j ≤ 31 → f j = g j) : ∀ k, bnum f k = bnum g k
  | 0 => rfl
  | k + 1 => by simp only [bnum]; rw [bnum_congr h k, h (31 - k) (by omega)]
theorem sb_amt (a i : Nat) (h : i ≤ 31) : sb (amtStr a) i = byteAt a (31 - i) := by
  have hs : i < (amtStr a).data.size := by have h2 : (amtStr a).data.size = 32 := amtStr_size a; omega
  unfold sb
  rw [dif_pos hs]
  have e : (amtStr a).data[i] = UInt8.ofNat (byteAt a (31 - i)) := by
    show ((strOfNums (amtL a)).data)[i] = _
    simp [strOfNums, amtL]
  rw [e]
  have := byteAt_lt a (31 - i)
  rw [UInt8.toNat_ofNat']
  exact Nat.mod_eq_of_lt this
theorem amt_fbv (a : Nat) (ha : a < 2 ^ 256) : fbv (amtStr a) = a := by
  unfold fbv
  rw [if_pos (amtStr_size a), bnum_congr (fun j hj => sb_amt a j hj) 32, bnum_bytes9 a 32 (by omega), Nat.mod_eq_of_lt ha]
end Go.Proofs.YtnjcnlbphaodcaaGreat

namespace Go.Proofs.YtnjcnlbphaodcaaGreat
open Go.RowKit

def iys (f : Nat → Int) (k : Nat) : List Value := (List.range k).map fun i => Value.int .i64 (f i)
theorem iys_succ (f : Nat → Int) (k : Nat) : iys f (k + 1) = iys f k ++ [.int .i64 (f k)] := by simp [iys, List.range_succ]
theorem iys_get (f : Nat → Int) {k i : Nat} (h : i < k) : (iys f k)[i]? = some (.int .i64 (f i)) := by simp [iys, h]
theorem iys_length (f : Nat → Int) (k : Nat) : (iys f k).length = k := by simp [iys]
theorem iys_congr {f g : Nat → Int} {k : Nat} (h : ∀ i, i < k → f i = g i) : iys f k = iys g k := by
  unfold iys
  refine List.map_congr_left fun i hi => ?_
  rw [h i (List.mem_range.1 hi)]
theorem iys_one (g : Nat → Int) (m : Nat) : ∀ u ∈ iys g m, u.oneCell' = true := by
  intro u hu
  obtain ⟨_, _, rfl⟩ := List.mem_map.1 hu
  rfl
/-- f's first n, and behind them g's -/
def icat (f : Nat → Int) (n : Nat) (g : Nat → Int) (i : Nat) : Int := if i < n then f i else g (i - n)
theorem iys_icat (f : Nat → Int) (n : Nat) (g : Nat → Int) : ∀ m, iys f n ++ iys g m = iys (icat f n g) (n + m)
  | 0 => by
    show iys f n ++ [] = _
    rw [List.append_nil]; exact iys_congr fun i hi => (if_pos hi).symm
  | m + 1 => by
    rw [iys_succ, ← List.append_assoc, iys_icat f n g m, ← Nat.add_assoc, iys_succ]
    congr 3
    show _ = (if n + m < n then f (n + m) else g (n + m - n) : Int)
    rw [if_neg (by omega), Nat.add_sub_cancel_left]
def itot (n : Nat → Nat) : Nat → Nat
  | 0 => 0
  | k + 1 => itot n k + n k
def icats (n : Nat → Nat) (f : Nat → Nat → Int) : Nat → Nat → Int
  | 0 => fun _ => 0
  | k + 1 => icat (icats n f k) (itot n k) (f k)
theorem itot_le {n : Nat → Nat} {M m : Nat} (h : ∀ i, i < m → n i ≤ M) : ∀ k, k ≤ m → itot n k ≤ k * M
  | 0, _ => by simp [itot]
  | k + 1, hk => by
    have := itot_le h k (by omega)
    have := h k (by omega)
    simp only [itot, Nat.add_mul]; omega
theorem Il.news {w : World} {ad : Addr} {n : Nat} {f : Nat → Int} (h : Il w (some ad) n f) : ∀ j u, (iys f n)[j]? = some u → w.cell? (ad.add j) = some u := by
  intro j u hu
  have hj : j < n := by have := (List.getElem?_eq_some_iff.1 hu).1; simpa [iys] using this
  rw [iys_get f hj] at hu
  cases hu
  obtain ⟨g, o, e, _, hc⟩ := h.at_ (by omega)
  cases e
  rw [Addr.add_lit]; exact hc j hj
theorem oinfoInt : (Tryz.prog.info? 3).map (fun i => (i.zero, i.size, i.bytes)) = some (some (.int .i64 0), 1, 8) := by kernel_rfl
theorem iown_zero {w : World} {z : Value} {n cap : Nat} {e : TypeId} (hz : z.cells.size = 1) (hn : n ≤ cap) (hc : cap ≤ maxLen) :
    (w.drew.alloc (.cells (Builtin.zeroCells z.cells n ++ Builtin.zeroCells z.cells (cap - n)) e)).ownsRow w.heap.size e 1 (.slice (some ⟨w.heap.size, 0, none⟩) 0 cap) 0 [] := by
  refine ⟨rfl, .inr ⟨w.heap.size, cap, _, rfl, Nat.le_refl _, heap_alloc_new w.drew _, Nat.zero_le _, hc, ?_, by simp⟩⟩
  simp only [Array.size_append, size_zeroCells, hz]
  omega
/-- the bytes so far, the first i slices' -/
def ICatRel (n : Nat → Nat) (f : Nat → Nat → Int) (m : Nat) (w : World) (v i : Value) (wr : World) : Prop :=
  ∃ k : Nat, k ≤ m ∧ i = .int .i64 (k : Nat) ∧ wr.ownsRow w.heap.size 3 1 v (itot n k) (iys (icats n f k) (itot n k)) ∧ Below w.heap.size w wr
/-- the m slices that lie in the block B -/
structure ILot (w : World) (B m : Nat) (A : Nat → Option Addr) (n c : Nat → Nat) (f : Nat → Nat → Int) : Prop where
  lt : B < w.heap.size
  cell : ∀ i, i < m → w.cell? ⟨B, i, none⟩ = some (.slice (A i) (n i) (c i))
  sl : ∀ i, i < m → Il w (A i) (n i) (f i)
  nil : ∀ i, i < m → A i = none → n i = 0 ∧ c i = 0
  le : ∀ i, i < m → n i ≤ 2 ^ 20
theorem ILot.below {w w' : World} {B m : Nat} {A : Nat → Option Addr} {n c : Nat → Nat} {f : Nat → Nat → Int} (h : ILot w B m A n c f) (hb : Below w.heap.size w w') : ILot w' B m A n c f :=
  ⟨Nat.lt_of_lt_of_le h.lt hb.size, fun i hi => by rw [hb.cell (p := ⟨B, i, none⟩) h.lt]; exact h.cell i hi, fun i hi => (h.sl i hi).below hb, h.nil, h.le⟩
theorem iown_base {w : World} {B B' n k : Nat} {e : TypeId} {v : Value} {xs : List Value} (h : w.ownsRow B e k v n xs) (hb : B' ≤ B) : w.ownsRow B' e k v n xs :=
  ⟨h.1, h.2.elim .inl fun ⟨g, cap, cur, h1, h2, h3⟩ => .inr ⟨g, cap, cur, h1, Nat.le_trans hb h2, h3⟩⟩
theorem own_il {w : World} {B n : Nat} {e : TypeId} {v : Value} {f : Nat → Int} (h : w.ownsRow B e 1 v n (iys f n)) (hs : ∀ i, f i < 2 ^ 63) : ∃ A c, v = .slice A n c ∧ Il w A n f ∧ (A = none → n = 0 ∧ c = 0) := by
  rcases h.2 with ⟨rfl, rfl⟩ | ⟨g, cap, cur, rfl, hb, hh, r⟩
  · exact ⟨none, 0, rfl, ⟨hs, fun h => absurd h (by omega)⟩, fun _ => ⟨rfl, rfl⟩⟩
  · refine ⟨_, cap, rfl, ⟨hs, fun hn => ⟨g, 0, rfl, (h.lt g rfl).2, fun i hi => ?_⟩⟩, fun h => by cases h⟩
    rw [Nat.zero_add, h.cellAt i (by omega), iys_get f hi]
def itwo {α : Type} (a b : α) : Nat → α
  | 0 => a
  | _ => b
theorem icats2 {n0 n1 : Nat} {f0 f1 : Nat → Int} : iys (icats (itwo n0 n1) (itwo f0 f1) 2) (itot (itwo n0 n1) 2) = iys (icat f0 n0 f1) (n0 + n1) := by
  have e : itot (itwo n0 n1) 2 = n0 + n1 := by simp [itot, itwo]
  rw [e]
  refine iys_congr fun i _ => ?_
  simp [icats, icat, itot, itwo]
end Go.Proofs.YtnjcnlbphaodcaaGreat

namespace Go.Proofs.YtnjcnlbphaodcaaGreat
open Go.RowKit Go.Maps Go.Sort

/-- a history's place in a world: the boxes b of its reader, the store P, the id's numbers -/
structure HisAt (w : World) (b : Nat) (P : Option Addr) (t : Int) (A : Option Addr) (n c : Nat) (f : Nat → Int) : Prop where
  c0 : w.cell? ⟨b, 0, none⟩ = some (.pointer P)
  c1 : w.cell? ⟨b + 1, 0, none⟩ = some (.int .i64 t)
  c2 : w.cell? ⟨b + 1 + 1, 0, none⟩ = some (.slice A n c)
  lt : b + 1 + 1 < w.heap.size
  l : Il w A n f
  z : A = none → n = 0 ∧ c = 0
  n : n ≤ 20
theorem HisAt.below {w w' : World} {b : Nat} {P : Option Addr} {t : Int} {A : Option Addr} {n c : Nat} {f : Nat → Int} (h : HisAt w b P t A n c f) (hb : Below w.heap.size w w') : HisAt w' b P t A n c f :=
  ⟨(hb.cell (p := ⟨b, 0, none⟩) (by have := h.lt; show b < _; omega)).trans h.c0, (hb.cell (p := ⟨b + 1, 0, none⟩) (by have := h.lt; show b + 1 < _; omega)).trans h.c1, (hb.cell (p := ⟨b + 1 + 1, 0, none⟩) h.lt).trans h.c2, Nat.lt_of_lt_of_le h.lt hb.size, h.l.below hb, h.z, h.n⟩
/-- what a checkpoint tells -/
def hisV (x : Int) (a : Nat) (ok : Bool) : Value := .tuple #[.int .i64 x, U a, .bool ok]
end Go.Proofs.YtnjcnlbphaodcaaGreat
