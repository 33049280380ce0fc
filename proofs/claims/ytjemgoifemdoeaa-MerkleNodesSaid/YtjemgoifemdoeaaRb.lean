/- The document's sum: its padded text, a word of four bytes. No program. -/
import Derived.Test.YtjemgoifemdoeaaRa
import Derived.Test.YtjemgoifemdoeaaAP
namespace Go.Proofs.Ytjemgoifemdoeaa
open Go.RowKit

theorem own_sl2 {w : World} {B n : Nat} {v : Value} {f : Nat → Nat} (h : w.ownsRow B 5 1 v n (bys f n)) (hs : ∀ i, f i < 256) : ∃ A c, v = .slice A n c ∧ Sl w A n f ∧ n ≤ c ∧ c ≤ 9223372036854775807 := by
  obtain ⟨A, c, hv, hsl, hz⟩ := own_sl h hs
  refine ⟨A, c, hv, hsl, ?_⟩
  rcases h.2 with ⟨h1, h2⟩ | ⟨g, cap, cur, h1, _, _, hn, hm, _⟩
  · rw [hv] at h1
    injection h1 with e1 e2 e3
    omega
  · rw [hv] at h1
    injection h1 with e1 e2 e3
    unfold maxLen at hm
    omega
/-- the text, 128, noughts -/
def pz (n : Nat) (f : Nat → Nat) (i : Nat) : Nat := if i < n then f i else if i = n then 128 else 0
theorem pz_lt {n : Nat} {f : Nat → Nat} (hf : ∀ i, f i < 256) (i : Nat) : pz n f i < 256 := by
  unfold pz; split
  · exact hf _
  · split <;> decide
theorem pz_one (n : Nat) (f : Nat → Nat) : bys f n ++ bys (fun _ => 128) 1 = bys (pz n f) (n + 1) := by
  rw [bys_cat]
  refine bys_congr fun i hi => ?_
  unfold cat pz
  by_cases h : i < n
  · rw [if_pos h, if_pos h]
  · rw [if_neg h, if_neg h, if_pos (by omega)]
theorem pz_more (n : Nat) (f : Nat → Nat) (j : Nat) : bys (pz n f) (n + 1 + j) ++ bys (fun _ => 0) 1 = bys (pz n f) (n + 1 + (j + 1)) := by
  rw [bys_cat]
  refine bys_congr fun i hi => ?_
  unfold cat
  by_cases h : i < n + 1 + j
  · rw [if_pos h]
  · rw [if_neg h]; unfold pz; rw [if_neg (by omega), if_neg (by omega)]
theorem pz_pad (n : Nat) (f : Nat → Nat) {z : Nat} (hz : z = (119 - n % 64) % 64) : bys (pz n f) (n + 1 + z) = bys (padB n f) (n + 1 + z) := by
  refine bys_congr fun i hi => ?_
  unfold pz padB padLen
  by_cases h : i < n
  · rw [if_pos h, if_pos h]
  · rw [if_neg h, if_neg h]
    by_cases h1 : i = n
    · rw [if_pos h1, if_pos h1]
    · rw [if_neg h1, if_neg h1, if_pos (by omega)]
theorem pad_more (n : Nat) (f : Nat → Nat) {z j x : Nat} (hz : z = (119 - n % 64) % 64) (hj : j < 8) (hx : x = (n * 8) >>> (8 * (7 - j)) % 256) : bys (padB n f) (n + 1 + z + j) ++ bys (fun _ => x) 1 = bys (padB n f) (n + 1 + z + (j + 1)) := by
  rw [bys_cat]
  refine bys_congr fun i hi => ?_
  unfold cat
  by_cases h : i < n + 1 + z + j
  · rw [if_pos h]
  · obtain rfl : i = n + 1 + z + j := by omega
    rw [if_neg h, hx]
    show (n * 8) >>> (8 * (7 - j)) % 256 = _
    unfold padB padLen
    rw [if_neg (by omega), if_neg (by omega), if_neg (by omega)]
    congr 3; omega
/-- the first j bytes of the i-th word -/
def pw (g : Nat → Nat) (i : Nat) : Nat → Nat
  | 0 => 0
  | j + 1 => (pw g i j) <<< 8 ||| g (4 * i + j)
theorem pw_lt {g : Nat → Nat} (hg : ∀ i, g i < 256) (i : Nat) : ∀ j, j ≤ 4 → pw g i j < 2 ^ (8 * j)
  | 0, _ => Nat.two_pow_pos _
  | j + 1, h => by
    show pw g i j <<< 8 ||| g _ < _
    have h1 := pw_lt hg i j (by omega)
    refine Nat.or_lt_two_pow ?_ (Nat.lt_of_lt_of_le (hg _) ?_)
    · rw [Nat.shiftLeft_eq, show 8 * (j + 1) = 8 * j + 8 by omega, Nat.pow_add]
      have h2 : pw g i j * 256 < 2 ^ (8 * j) * 256 := by omega
      exact h2
    · show 2 ^ 8 ≤ 2 ^ (8 * (j + 1)); exact Nat.pow_le_pow_right (by decide) (by omega)
theorem pw_word (g : Nat → Nat) (i : Nat) : pw g i 4 = wordAt g i := by
  unfold wordAt
  show (((0 <<< 8 ||| g (4 * i + 0)) <<< 8 ||| g (4 * i + 1)) <<< 8 ||| g (4 * i + 2)) <<< 8 ||| g (4 * i + 3) = _
  rw [Nat.zero_shiftLeft, Nat.zero_or, Nat.shiftLeft_or_distrib, Nat.shiftLeft_or_distrib, Nat.shiftLeft_or_distrib, ← Nat.shiftLeft_add, ← Nat.shiftLeft_add, ← Nat.shiftLeft_add, Nat.add_zero]
theorem upd_upd (f : Nat → Nat) (k x y : Nat) : upd (upd f k x) k y = upd f k y := by
  funext i; unfold upd; split <;> rfl
theorem upd_self (f : Nat → Nat) (k : Nat) {x : Nat} (h : f k = x) : upd f k x = f := by
  funext i; unfold upd; split
  · rename_i e; rw [e, h]
  · rfl
/-- rows whose j first words were written -/
def putV (F G : Nat → Nat) (j : Nat) (i : Nat) : Nat := if i < j then G i else F i
theorem putV_put (F G : Nat → Nat) (j : Nat) : upd (putV F G j) j (G j) = putV F G (j + 1) := by
  funext i
  unfold upd putV
  by_cases h : i = j
  · subst h; rw [if_pos rfl, if_pos (by omega)]
  · rw [if_neg h]
    by_cases h2 : i < j
    · rw [if_pos h2, if_pos (by omega)]
    · rw [if_neg h2, if_neg (by omega)]
theorem msg_getD0 (f : Nat → Nat) {i : Nat} : (msg f i).getD i 0 = 0 := by
  rw [List.getD, List.getElem?_eq_none (by rw [msg_length]; exact Nat.le_refl _)]; rfl
theorem msg_put2 (f : Nat → Nat) {j x : Nat} (hx : x = if j < 16 then wordAt f j else nextW (msg f j) j) : upd (fun i => (msg f j).getD i 0) j x = fun i => (msg f (j + 1)).getD i 0 := msg_put f hx
theorem turn_q (x n : Nat) (k : Int) (hk : k = (n : Int)) (hx : x < 2 ^ 32) (hn : 1 ≤ n) (hn2 : n ≤ 31) (w : World) : Calls Try.prog 59 #[.int .u32 (x : Nat), .int .i64 k] w fun e w' => e = .returned (.int .u32 (rotr x n : Nat)) ∧ w' = w :=
  (turn_walk x n k w hk hx hn hn2).mono fun _ _ ⟨h, q⟩ => ⟨h, q.symm⟩
theorem turn_q2 (x : Nat) (hx : x < 2 ^ 32) (w : World) : Calls Try.prog 59 #[.int .u32 (x : Nat), .int .i64 2] w fun e w' => e = .returned (.int .u32 (rotr x 2 : Nat)) ∧ w' = w := turn_q x 2 2 rfl hx (by decide) (by decide) w
theorem turn_q13 (x : Nat) (hx : x < 2 ^ 32) (w : World) : Calls Try.prog 59 #[.int .u32 (x : Nat), .int .i64 13] w fun e w' => e = .returned (.int .u32 (rotr x 13 : Nat)) ∧ w' = w := turn_q x 13 13 rfl hx (by decide) (by decide) w
theorem turn_q22 (x : Nat) (hx : x < 2 ^ 32) (w : World) : Calls Try.prog 59 #[.int .u32 (x : Nat), .int .i64 22] w fun e w' => e = .returned (.int .u32 (rotr x 22 : Nat)) ∧ w' = w := turn_q x 22 22 rfl hx (by decide) (by decide) w
theorem turn_q6 (x : Nat) (hx : x < 2 ^ 32) (w : World) : Calls Try.prog 59 #[.int .u32 (x : Nat), .int .i64 6] w fun e w' => e = .returned (.int .u32 (rotr x 6 : Nat)) ∧ w' = w := turn_q x 6 6 rfl hx (by decide) (by decide) w
theorem turn_q11 (x : Nat) (hx : x < 2 ^ 32) (w : World) : Calls Try.prog 59 #[.int .u32 (x : Nat), .int .i64 11] w fun e w' => e = .returned (.int .u32 (rotr x 11 : Nat)) ∧ w' = w := turn_q x 11 11 rfl hx (by decide) (by decide) w
theorem turn_q25 (x : Nat) (hx : x < 2 ^ 32) (w : World) : Calls Try.prog 59 #[.int .u32 (x : Nat), .int .i64 25] w fun e w' => e = .returned (.int .u32 (rotr x 25 : Nat)) ∧ w' = w := turn_q x 25 25 rfl hx (by decide) (by decide) w
end Go.Proofs.Ytjemgoifemdoeaa
