/- sha.primes, walked. -/
import Derived.Test.YtjemgoifemdoeaaHa
import Derived.Deep.DeepCutAuto
import Derived.Deep.CutBlock
import Derived.Laws.Tables
namespace Go.Proofs.Ytjemgoifemdoeaa
open Go.RowKit

/-- the values of k numbers -/
def vals (κ : IntKind) (f : Nat → Nat) (k : Nat) : List Value := (List.range k).map fun i => Value.int κ (f i : Nat)
theorem vals_length (κ : IntKind) (f : Nat → Nat) (k : Nat) : (vals κ f k).length = k := by simp [vals]
theorem vals_get (κ : IntKind) (f : Nat → Nat) {k i : Nat} (h : i < k) : (vals κ f k)[i]? = some (.int κ (f i : Nat)) := by simp [vals, h]
theorem vals_congr {κ : IntKind} {f g : Nat → Nat} {k : Nat} (h : ∀ i, i < k → f i = g i) : vals κ f k = vals κ g k := by
  unfold vals
  refine List.map_congr_left fun i hi => ?_
  rw [h i (List.mem_range.1 hi)]
theorem vals_all (κ : IntKind) (g : Nat → Nat) (n : Nat) : (vals κ g n).toArray.all (·.oneCell') = true := by
  rw [List.all_toArray, List.all_eq_true]
  intro u hu
  obtain ⟨_, _, rfl⟩ := List.mem_map.1 hu
  rfl
theorem vals_set (κ : IntKind) (g : Nat → Nat) {n j : Nat} (x : Nat) (hj : j < n) : (vals κ g n).toArray.setIfInBounds j (.int κ (x : Nat)) = (vals κ (upd g j x) n).toArray := by
  apply Array.ext'
  rw [Array.toList_setIfInBounds]
  refine List.ext_getElem? fun i => ?_
  rw [List.getElem?_set]
  by_cases h : i < n
  · by_cases hij : j = i
    · subst hij
      rw [if_pos rfl, if_pos (by simpa [vals_length] using h), vals_get _ _ h, upd_same]
    · rw [if_neg hij]
      simp only [vals_get _ _ h, upd_ne _ (fun e => hij e.symm)]
  · have h1 : ∀ g' : Nat → Nat, (vals κ g' n)[i]? = none := fun g' => List.getElem?_eq_none (by rw [vals_length]; omega)
    have hij : ¬ j = i := by omega
    simp only [h1, if_neg hij]
/-- a block known whole: its cells -/
theorem row_lt {w : World} {p : Nat} {o : Obj} (h : w.heap[p]? = some o) : p < w.heap.size := (Array.getElem?_eq_some_iff.1 h).1
theorem row_set {w : World} {p i : Nat} {cs : Array Value} {t : TypeId} {fr : Nat × Nat} {v : Value} (h : w.heap[p]? = some (.cells cs t fr)) :
    (w.setCell ⟨p, i, none⟩ v).heap[p]? = some (.cells (cs.setIfInBounds i v) t fr) := by
  simp [World.setCell, Array.getElem?_modify, h]
theorem row_far {w : World} {p q i : Nat} {v : Value} (h : p ≠ q) : (w.setCell ⟨q, i, none⟩ v).heap[p]? = w.heap[p]? := Below.heap_setCell _ _ _ _ h
theorem row_cell {w : World} {p i : Nat} {cs : Array Value} {t : TypeId} {fr : Nat × Nat} (h : w.heap[p]? = some (.cells cs t fr)) : w.cell? ⟨p, i, none⟩ = cs[i]? := by
  simp [World.cell?, h]
theorem row_free {w : World} {p i : Nat} {cs : Array Value} {t : TypeId} (h : w.heap[p]? = some (.cells cs t (0, 0))) : w.frozen? ⟨p, i, none⟩ = false := by
  simp [World.frozen?, h]
/-- all multiples of n from m on are crossed -/
def strike (n : Nat) : Nat → Nat → Nat → Nat
  | 0, _, c => c
  | f + 1, m, c => if m ≤ 311 then strike n f (m + n) (c ||| 2 ^ m) else c
/-- the sieve: what is crossed, and what was found -/
def svStep (n : Nat) (s : Nat × List Nat) : Nat × List Nat := if s.1.testBit n then s else (strike n 312 (n * n) s.1, s.2 ++ [n])
def svs : Nat → Nat × List Nat
  | 0 => (0, [])
  | j + 1 => svStep (j + 2) (svs j)
theorem svs_len (j : Nat) : (svs j).2.length ≤ (svs (j + 1)).2.length := by
  show _ ≤ (svStep _ _).2.length
  unfold svStep
  split <;> simp
theorem svs_len_le : ∀ d j, (svs j).2.length ≤ (svs (j + d)).2.length
  | 0, _ => Nat.le_refl _
  | d + 1, j => Nat.le_trans (svs_len_le d j) (svs_len (j + d))
theorem svs_end : (svs 310).2 = [2, 3, 5, 7, 11, 13, 17, 19, 23, 29, 31, 37, 41, 43, 47, 53, 59, 61, 67, 71, 73, 79, 83, 89, 97, 101, 103, 107, 109, 113, 127, 131, 137, 139, 149, 151, 157, 163, 167, 173, 179, 181, 191, 193, 197, 199, 211, 223, 227, 229, 233, 239, 241, 251, 257, 263, 269, 271, 277, 281, 283, 293, 307, 311] := by
  decide +kernel
def lz : Array Value := #[.int .u64 0, .int .u64 0, .int .u64 0, .int .u64 0, .int .u64 0, .int .u64 0, .int .u64 0, .int .u64 0, .int .u64 0, .int .u64 0, .int .u64 0, .int .u64 0, .int .u64 0, .int .u64 0, .int .u64 0, .int .u64 0, .int .u64 0, .int .u64 0, .int .u64 0, .int .u64 0, .int .u64 0, .int .u64 0, .int .u64 0, .int .u64 0, .int .u64 0, .int .u64 0, .int .u64 0, .int .u64 0, .int .u64 0, .int .u64 0, .int .u64 0, .int .u64 0, .int .u64 0, .int .u64 0, .int .u64 0, .int .u64 0, .int .u64 0, .int .u64 0, .int .u64 0, .int .u64 0, .int .u64 0, .int .u64 0, .int .u64 0, .int .u64 0, .int .u64 0, .int .u64 0, .int .u64 0, .int .u64 0, .int .u64 0, .int .u64 0, .int .u64 0, .int .u64 0, .int .u64 0, .int .u64 0, .int .u64 0, .int .u64 0, .int .u64 0, .int .u64 0, .int .u64 0, .int .u64 0, .int .u64 0, .int .u64 0, .int .u64 0, .int .u64 0]
theorem lz_vals : lz = (vals .u64 (fun _ => 0) 64).toArray := by kernel_rfl
theorem bz_rep : Try.zeroCells115 = Array.replicate 312 (.bool false) := by kernel_rfl
/-- what lies in memory while the sieve runs -/
structure PrAt (w wr : World) (c : Nat) (l : List Nat) : Prop where
  res : wr.heap[w.heap.size]? = some (.cells lz 102 (0, 0))
  lst : wr.heap[w.heap.size + 1]? = some (.cells (vals .u64 (fun i => l.getD i 0) 64).toArray 102 (0, 0))
  crs : ∀ i, i < 312 → wr.cell? ⟨w.heap.size + 2, i, none⟩ = some (.bool (c.testBit i))
  fre : ∀ i, i < 312 → wr.frozen? ⟨w.heap.size + 2, i, none⟩ = false
  bel : Below w.heap.size w wr
theorem PrAt.cross {w wr : World} {c m : Nat} {l : List Nat} (h : PrAt w wr c l) (hm : m < 312) : PrAt w (wr.setCell ⟨w.heap.size + 2, m, none⟩ (.bool true)) (c ||| 2 ^ m) l := by
  refine ⟨(row_far (by omega)).trans h.res, (row_far (by omega)).trans h.lst, fun i hi => ?_, fun i hi => by rw [World.frozen?_setCell]; exact h.fre i hi, h.bel.setCell (by show w.heap.size ≤ w.heap.size + 2; omega) _⟩
  rw [Nat.testBit_or, Nat.testBit_two_pow]
  by_cases e : m = i
  · subst e
    rw [World.cell?_setCell_same _ _ _ (h.crs m hi)]; simp
  · rw [World.cell?_setCell_other _ _ _ _ (by simp only [ne_eq, Addr.mk.injEq, true_and, and_true]; omega), h.crs i hi]
    simp [e]
theorem PrAt.put {w wr : World} {c n : Nat} {l : List Nat} (h : PrAt w wr c l) (hl : l.length < 64) : PrAt w (wr.setCell ⟨w.heap.size + 1, l.length, none⟩ (.int .u64 (n : Nat))) c (l ++ [n]) := by
  refine ⟨(row_far (by omega)).trans h.res, ?_, fun i hi => ?_, fun i hi => by rw [World.frozen?_setCell]; exact h.fre i hi, h.bel.setCell (by show w.heap.size ≤ w.heap.size + 1; omega) _⟩
  · rw [row_set h.lst, vals_set _ _ _ hl]
    congr 3
    refine vals_congr fun i _ => ?_
    unfold upd
    by_cases e : i = l.length
    · rw [if_pos e, e]; simp [List.getD]
    · rw [if_neg e]
      by_cases e2 : i < l.length
      · simp [List.getD, List.getElem?_append_left e2]
      · simp only [List.getD]
        rw [List.getElem?_eq_none (by omega), List.getElem?_eq_none (by simp; omega)]
  · rw [World.cell?_setCell_far _ _ _ _ (by show w.heap.size + 1 ≠ w.heap.size + 2; omega)]; exact h.crs i hi
def primeF (i : Nat) : Nat := (svs 310).2.getD i 0
theorem primes_start (w : World) : PrAt w (((w.alloc (.cells #[.int .u64 0, .int .u64 0, .int .u64 0, .int .u64 0, .int .u64 0, .int .u64 0, .int .u64 0, .int .u64 0, .int .u64 0, .int .u64 0, .int .u64 0, .int .u64 0, .int .u64 0, .int .u64 0, .int .u64 0, .int .u64 0, .int .u64 0, .int .u64 0, .int .u64 0, .int .u64 0, .int .u64 0, .int .u64 0, .int .u64 0, .int .u64 0, .int .u64 0, .int .u64 0, .int .u64 0, .int .u64 0, .int .u64 0, .int .u64 0, .int .u64 0, .int .u64 0, .int .u64 0, .int .u64 0, .int .u64 0, .int .u64 0, .int .u64 0, .int .u64 0, .int .u64 0, .int .u64 0, .int .u64 0, .int .u64 0, .int .u64 0, .int .u64 0, .int .u64 0, .int .u64 0, .int .u64 0, .int .u64 0, .int .u64 0, .int .u64 0, .int .u64 0, .int .u64 0, .int .u64 0, .int .u64 0, .int .u64 0, .int .u64 0, .int .u64 0, .int .u64 0, .int .u64 0, .int .u64 0, .int .u64 0, .int .u64 0, .int .u64 0, .int .u64 0] 102)).alloc (.cells #[.int .u64 0, .int .u64 0, .int .u64 0, .int .u64 0, .int .u64 0, .int .u64 0, .int .u64 0, .int .u64 0, .int .u64 0, .int .u64 0, .int .u64 0, .int .u64 0, .int .u64 0, .int .u64 0, .int .u64 0, .int .u64 0, .int .u64 0, .int .u64 0, .int .u64 0, .int .u64 0, .int .u64 0, .int .u64 0, .int .u64 0, .int .u64 0, .int .u64 0, .int .u64 0, .int .u64 0, .int .u64 0, .int .u64 0, .int .u64 0, .int .u64 0, .int .u64 0, .int .u64 0, .int .u64 0, .int .u64 0, .int .u64 0, .int .u64 0, .int .u64 0, .int .u64 0, .int .u64 0, .int .u64 0, .int .u64 0, .int .u64 0, .int .u64 0, .int .u64 0, .int .u64 0, .int .u64 0, .int .u64 0, .int .u64 0, .int .u64 0, .int .u64 0, .int .u64 0, .int .u64 0, .int .u64 0, .int .u64 0, .int .u64 0, .int .u64 0, .int .u64 0, .int .u64 0, .int .u64 0, .int .u64 0, .int .u64 0, .int .u64 0, .int .u64 0] 102)).alloc (.cells Try.zeroCells115 115)) 0 [] := by
  have e1 : w.heap.size + 1 = (w.alloc (.cells lz 102)).heap.size := by simp
  have e2 : w.heap.size + 2 = ((w.alloc (.cells lz 102)).alloc (.cells lz 102)).heap.size := by simp
  refine ⟨?_, ?_, fun i hi => ?_, fun i hi => ?_, (((Below.refl w.heap.size w).alloc (Nat.le_refl _) _).alloc (by simp) _).alloc (by simp; omega) _⟩
  · exact (heap_alloc_old _ _ (by simp; omega)).trans ((heap_alloc_old _ _ (by simp)).trans (heap_alloc_new _ _))
  · refine (heap_alloc_old _ _ (by simp)).trans ?_
    rw [e1]
    refine (heap_alloc_new _ _).trans ?_
    rw [show (vals .u64 (fun i => ([] : List Nat).getD i 0) 64).toArray = lz from lz_vals.symm ▸ rfl]; rfl
  · show World.cell? (World.alloc ((w.alloc (.cells lz 102)).alloc (.cells lz 102)) _) _ = _
    rw [e2, World.cell?_alloc_new, bz_rep, Array.getElem?_replicate, if_pos hi]; simp
  · show World.frozen? (World.alloc ((w.alloc (.cells lz 102)).alloc (.cells lz 102)) _) _ = _
    rw [e2]; simp only [World.frozen?_alloc_new]
end Go.Proofs.Ytjemgoifemdoeaa
