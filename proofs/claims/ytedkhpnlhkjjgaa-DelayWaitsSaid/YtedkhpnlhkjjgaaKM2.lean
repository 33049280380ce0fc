/- The numbers of a key's bytes are the numbers that the key was made of: lists alone. -/
import Derived.Test.YtedkhpnlhkjjgaaKM
import Derived.Test.YtedkhpnlhkjjgaaK6
namespace Go.Proofs.Ytedkhpnlhkjjgaa

theorem u8l_getD {l : List Nat} {i : Nat} (x : List UInt8) (h : i < l.length) (hb : ∀ y ∈ l, y < 256) : ((u8l l ++ x).getD i 0).toNat = l.getD i 0 := by
  have h2 : i < (u8l l).length := by rw [u8l, List.length_map]; exact h
  rw [List.getD, List.getElem?_append_left h2, u8l, List.getElem?_map, List.getElem?_eq_getElem h, List.getD, List.getElem?_eq_getElem h]
  simp only [Option.map_some, Option.getD_some]
  rw [UInt8.toNat_ofNat', Nat.mod_eq_of_lt (hb _ (List.getElem_mem h))]
theorem kb8_lt (a : Nat) : ∀ y ∈ kb8 a, y < 256 := by
  intro y hy
  simp only [kb8, List.mem_cons, List.not_mem_nil, or_false] at hy
  rcases hy with rfl | rfl | rfl | rfl | rfl | rfl | rfl | rfl <;> exact kbyte_lt _ _
theorem numl_kb8 {a : Nat} (x : List UInt8) (ha : a < 2 ^ 64) : numl (u8l (kb8 a) ++ x) 8 = a := by
  have g : ∀ i, i < 8 → ((u8l (kb8 a) ++ x).getD i 0).toNat = (kb8 a).getD i 0 := fun i hi => u8l_getD x hi (kb8_lt a)
  simp only [numl]
  rw [g 0 (by decide), g 1 (by decide), g 2 (by decide), g 3 (by decide), g 4 (by decide), g 5 (by decide), g 6 (by decide), g 7 (by decide)]
  simp only [kb8, List.getD_cons_zero, List.getD_cons_succ, kbyte]
  omega
theorem drop_tl (f : Nat → Int) : ∀ (i r d : Nat), i ≤ d → (u8l (tl f r d)).drop (8 * i) = u8l (tl f (r + i) (d - i))
  | 0, r, d, _ => by simp
  | i + 1, r, d + 1, h => by
    have hl : (u8l (kb8 (f r).toNat)).length = 8 := rfl
    have e8 : (u8l (kb8 (f r).toNat)).drop 8 = [] := List.drop_of_length_le (by omega)
    rw [tl, u8l_append, show 8 * (i + 1) = 8 + 8 * i by omega, ← List.drop_drop, List.drop_append_of_le_length (by omega), e8, List.nil_append, drop_tl f i (r + 1) d (by omega)]
    rw [show r + 1 + i = r + (i + 1) by omega, show d + 1 - (i + 1) = d - i by omega]
theorem chunk_tl {v : ByteArray} {f : Nat → Int} {n i : Nat} (hv : v.data.toList = u8l (tl f 0 n)) (hi : i < n) (hf : f i < 2 ^ 63) : chunk v i = (f i).toNat := by
  unfold chunk
  rw [hv, drop_tl f i 0 n (by omega), Nat.zero_add, show n - i = (n - i - 1) + 1 by omega, tl, u8l_append]
  exact numl_kb8 _ (by omega)
end Go.Proofs.Ytedkhpnlhkjjgaa
