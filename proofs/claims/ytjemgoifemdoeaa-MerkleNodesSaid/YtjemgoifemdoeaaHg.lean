/- The sum's plain functions: words of a block, rounds. No program. -/
import Derived.Test.YtjemgoifemdoeaaHf
namespace Go.Proofs.Ytjemgoifemdoeaa
open Go.RowKit

/-- the i-th word of the bytes f, from q on -/
def wordAt (f : Nat → Nat) (i : Nat) : Nat := (f (4 * i) <<< 24 ||| f (4 * i + 1) <<< 16 ||| f (4 * i + 2) <<< 8) ||| f (4 * i + 3)
def small0 (x : Nat) : Nat := (rotr x 7 ^^^ rotr x 18) ^^^ x >>> 3
def small1 (x : Nat) : Nat := (rotr x 17 ^^^ rotr x 19) ^^^ x >>> 10
def nextW (l : List Nat) (j : Nat) : Nat := (l.getD (j - 16) 0 + small0 (l.getD (j - 15) 0) + l.getD (j - 7) 0 + small1 (l.getD (j - 2) 0)) % 2 ^ 32
/-- the first j words of a block -/
def msg (f : Nat → Nat) : Nat → List Nat
  | 0 => []
  | j + 1 => msg f j ++ [if j < 16 then wordAt f j else nextW (msg f j) j]
theorem msg_length (f : Nat → Nat) : ∀ j, (msg f j).length = j
  | 0 => rfl
  | j + 1 => by show (msg f j ++ [_]).length = _; simp [msg_length f j]
theorem or_lt32 {a b : Nat} (ha : a < 2 ^ 32) (hb : b < 2 ^ 32) : a ||| b < 2 ^ 32 := Nat.or_lt_two_pow ha hb
theorem xor_lt32 {a b : Nat} (ha : a < 2 ^ 32) (hb : b < 2 ^ 32) : a ^^^ b < 2 ^ 32 := Nat.xor_lt_two_pow ha hb
theorem byte_shl {y : Nat} (hy : y < 256) {m : Nat} (hm : m ≤ 24) : y <<< m < 2 ^ 32 := by
  rw [Nat.shiftLeft_eq]
  have h1 : 2 ^ m ≤ 2 ^ 24 := Nat.pow_le_pow_right (by decide) hm
  have h2 : y * 2 ^ m ≤ 255 * 2 ^ 24 := Nat.mul_le_mul (by omega) h1
  omega
theorem wordAt_lt {f : Nat → Nat} (hf : ∀ i, f i < 256) (i : Nat) : wordAt f i < 2 ^ 32 :=
  or_lt32 (or_lt32 (or_lt32 (byte_shl (hf _) (by omega)) (byte_shl (hf _) (by omega))) (byte_shl (hf _) (by omega))) (Nat.lt_trans (hf _) (by decide))
theorem small0_lt {x : Nat} (h : x < 2 ^ 32) : small0 x < 2 ^ 32 := xor_lt32 (xor_lt32 (rotr_lt h _) (rotr_lt h _)) (shr_lt h _)
theorem small1_lt {x : Nat} (h : x < 2 ^ 32) : small1 x < 2 ^ 32 := xor_lt32 (xor_lt32 (rotr_lt h _) (rotr_lt h _)) (shr_lt h _)
theorem nextW_lt (l : List Nat) (j : Nat) : nextW l j < 2 ^ 32 := Nat.mod_lt _ (by decide)
theorem msg_get (f : Nat → Nat) {i : Nat} : ∀ {j : Nat}, i < j → (msg f j).getD i 0 = (if i < 16 then wordAt f i else nextW (msg f i) i)
  | 0, h => absurd h (by omega)
  | j + 1, h => by
    show (msg f j ++ [_]).getD i 0 = _
    rcases Nat.lt_or_eq_of_le (Nat.le_of_lt_succ h) with h1 | rfl
    · rw [← msg_get f h1]
      simp only [List.getD]
      rw [List.getElem?_append_left (by rw [msg_length]; exact h1)]
    · simp only [List.getD]
      rw [List.getElem?_append_right (by rw [msg_length]; exact Nat.le_refl _), msg_length]
      simp
theorem msg_lt {f : Nat → Nat} (hf : ∀ i, f i < 256) (j i : Nat) : (msg f j).getD i 0 < 2 ^ 32 := by
  rcases Nat.lt_or_ge i j with h | h
  · rw [msg_get f h]
    split
    · exact wordAt_lt hf i
    · exact nextW_lt _ _
  · simp only [List.getD]
    rw [List.getElem?_eq_none (by rw [msg_length]; exact h)]
    decide
theorem msg_put (f : Nat → Nat) {j x : Nat} (hx : x = if j < 16 then wordAt f j else nextW (msg f j) j) : upd (fun i => (msg f j).getD i 0) j x = fun i => (msg f (j + 1)).getD i 0 := by
  funext i
  show _ = (msg f j ++ [_]).getD i 0
  unfold upd
  by_cases e : i = j
  · subst e
    rw [if_pos rfl, hx]
    simp only [List.getD]
    rw [List.getElem?_append_right (by rw [msg_length]; exact Nat.le_refl _), msg_length]
    simp
  · rw [if_neg e]
    simp only [List.getD]
    rcases Nat.lt_or_gt_of_ne e with h | h
    · rw [List.getElem?_append_left (by rw [msg_length]; exact h)]
    · rw [List.getElem?_eq_none (by rw [msg_length]; omega), List.getElem?_eq_none (by rw [List.length_append, msg_length]; simp; omega)]
/-- the eight words of a state -/
structure St where
  a : Nat
  b : Nat
  c : Nat
  d : Nat
  e : Nat
  f : Nat
  g : Nat
  h : Nat
def St.of (v : Nat → Nat) : St := ⟨v 0, v 1, v 2, v 3, v 4, v 5, v 6, v 7⟩
def St.at (s : St) : Nat → Nat
  | 0 => s.a
  | 1 => s.b
  | 2 => s.c
  | 3 => s.d
  | 4 => s.e
  | 5 => s.f
  | 6 => s.g
  | 7 => s.h
  | _ => 0
def big0 (x : Nat) : Nat := (rotr x 2 ^^^ rotr x 13) ^^^ rotr x 22
def big1 (x : Nat) : Nat := (rotr x 6 ^^^ rotr x 11) ^^^ rotr x 25
def choice (e f g : Nat) : Nat := (e &&& f) ^^^ ((4294967295 - e) &&& g)
def major (a b c : Nat) : Nat := ((a &&& b) ^^^ (a &&& c)) ^^^ (b &&& c)
def St.t (s : St) (k w : Nat) : Nat := (s.h + big1 s.e + choice s.e s.f s.g + k + w) % 2 ^ 32
def St.turn (s : St) (k w : Nat) : St := ⟨(s.t k w + big0 s.a + major s.a s.b s.c) % 2 ^ 32, s.a, s.b, s.c, (s.d + s.t k w) % 2 ^ 32, s.e, s.f, s.g⟩
def rnds (K : Nat → Nat) (l : List Nat) (s : St) : Nat → St
  | 0 => s
  | i + 1 => (rnds K l s i).turn (K i) (l.getD i 0)
/-- a hash turned by a block -/
def mix (K f : Nat → Nat) (h : Nat → Nat) : Nat → Nat := fun i => (h i + (rnds K (msg f 64) (St.of h) 64).at i) % 2 ^ 32
theorem cubeK_is : ∀ i : Fin 64, cubeK i.val = [1116352408, 1899447441, 3049323471, 3921009573, 961987163, 1508970993, 2453635748, 2870763221, 3624381080, 310598401, 607225278, 1426881987, 1925078388, 2162078206, 2614888103, 3248222580, 3835390401, 4022224774, 264347078, 604807628, 770255983, 1249150122, 1555081692, 1996064986, 2554220882, 2821834349, 2952996808, 3210313671, 3336571891, 3584528711, 113926993, 338241895, 666307205, 773529912, 1294757372, 1396182291, 1695183700, 1986661051, 2177026350, 2456956037, 2730485921, 2820302411, 3259730800, 3345764771, 3516065817, 3600352804, 4094571909, 275423344, 430227734, 506948616, 659060556, 883997877, 958139571, 1322822218, 1537002063, 1747873779, 1955562222, 2024104815, 2227730452, 2361852424, 2428436474, 2756734187, 3204031479, 3329325298].getD i.val 0 := by decide +kernel
theorem sqH_is : ∀ i : Fin 8, sqH i.val = [1779033703, 3144134277, 1013904242, 2773480762, 1359893119, 2600822924, 528734635, 1541459225].getD i.val 0 := by decide +kernel
end Go.Proofs.Ytjemgoifemdoeaa
