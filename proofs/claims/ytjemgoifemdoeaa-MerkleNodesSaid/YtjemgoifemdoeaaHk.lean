/- The hash behind so many blocks; the text's end; a state's cells. No program. -/
import Derived.Test.YtjemgoifemdoeaaHj
namespace Go.Proofs.Ytjemgoifemdoeaa
open Go.RowKit

/-- the hash behind k blocks of g -/
def hashN (g : Nat → Nat) : Nat → Nat → Nat
  | 0 => sqH
  | k + 1 => mix cubeK (fun i => g (64 * k + i)) (hashN g k)
theorem cubeK_lt (i : Nat) : cubeK i < 2 ^ 32 := Nat.mod_lt _ (by decide)
theorem sqH_lt (i : Nat) : sqH i < 2 ^ 32 := Nat.mod_lt _ (by decide)
theorem hashN_lt (g : Nat → Nat) : ∀ k i, hashN g k i < 2 ^ 32
  | 0, i => sqH_lt i
  | _ + 1, i => mix_lt _ _ _ i
theorem wordAt_congr {f f' : Nat → Nat} (h : ∀ i, i < 64 → f i = f' i) {j : Nat} (hj : j < 16) : wordAt f j = wordAt f' j := by
  unfold wordAt
  rw [h _ (by omega), h _ (by omega), h _ (by omega), h _ (by omega)]
theorem msg_congr {f f' : Nat → Nat} (h : ∀ i, i < 64 → f i = f' i) : ∀ j, j ≤ 64 → msg f j = msg f' j
  | 0, _ => rfl
  | j + 1, hj => by
    show msg f j ++ [_] = msg f' j ++ [_]
    rw [msg_congr h j (by omega)]
    by_cases hlt : j < 16
    · rw [if_pos hlt, if_pos hlt, wordAt_congr h hlt]
    · rw [if_neg hlt, if_neg hlt]
theorem mix_congr {K f f' h : Nat → Nat} (e : ∀ i, i < 64 → f i = f' i) : mix K f h = mix K f' h := by
  funext i
  unfold mix
  rw [msg_congr e 64 (Nat.le_refl _)]
theorem hashN_congr {g g' : Nat → Nat} : ∀ k, (∀ i, i < 64 * k → g i = g' i) → hashN g k = hashN g' k
  | 0, _ => rfl
  | k + 1, h => by
    show mix _ _ _ = mix _ _ _
    rw [hashN_congr k (fun i hi => h i (by omega)), mix_congr fun i hi => h _ (by omega)]
/-- the padded text: how long, and its bytes -/
def padLen (n : Nat) : Nat := n + 9 + (119 - n % 64) % 64
def padB (n : Nat) (f : Nat → Nat) (i : Nat) : Nat :=
  if i < n then f i else if i = n then 128 else if i < padLen n - 8 then 0 else (n * 8) >>> (8 * (padLen n - 1 - i)) % 256
theorem padLen_mod (n : Nat) : padLen n % 64 = 0 := by unfold padLen; omega
/-- the sum's bytes -/
def shaF (n : Nat) (f : Nat → Nat) (i : Nat) : Nat := hashN (padB n f) (padLen n / 64) (i / 4) >>> (24 - i % 4 * 8) % 256
theorem shaF_lt (n : Nat) (f : Nat → Nat) (i : Nat) : shaF n f i < 256 := Nat.mod_lt _ (by decide)
theorem padB_congr {n : Nat} {f f' : Nat → Nat} (h : ∀ i, i < n → f i = f' i) (i : Nat) : padB n f i = padB n f' i := by
  unfold padB
  by_cases hi : i < n
  · rw [if_pos hi, if_pos hi, h i hi]
  · rw [if_neg hi, if_neg hi]
theorem shaF_congr {n : Nat} {f f' : Nat → Nat} (h : ∀ i, i < n → f i = f' i) : shaF n f = shaF n f' := by
  funext i
  unfold shaF
  rw [hashN_congr _ fun i _ => padB_congr h i]
theorem padB_lt {n : Nat} {f : Nat → Nat} (h : ∀ i, f i < 256) (i : Nat) : padB n f i < 256 := by
  unfold padB
  split
  · exact h i
  · split
    · decide
    · split
      · decide
      · exact Nat.mod_lt _ (by decide)
/-- bytes of a block, m of them from r on written anew -/
def splF (blk f : Nat → Nat) (r m i : Nat) : Nat := if r ≤ i ∧ i < r + m then f (i - r) else blk i
theorem splF_lt {blk f : Nat → Nat} (hb : ∀ i, blk i < 256) (hf : ∀ i, f i < 256) (r m i : Nat) : splF blk f r m i < 256 := by
  unfold splF; split
  · exact hf _
  · exact hb _
theorem splF_zero (blk f : Nat → Nat) (r : Nat) : splF blk f r 0 = blk := by
  funext i; unfold splF; rw [if_neg (by omega)]
theorem bys_none (f : Nat → Nat) {k i : Nat} (h : k ≤ i) : (bys f k)[i]? = none := List.getElem?_eq_none (by rw [bys_length]; exact h)
theorem bys_spl (blk f : Nat → Nat) {r m N : Nat} (h : r + m ≤ N) : (bys blk N).take r ++ bys f m ++ (bys blk N).drop (r + m) = bys (splF blk f r m) N := by
  refine List.ext_getElem? fun i => ?_
  have lt : ((bys blk N).take r).length = r := by rw [List.length_take, bys_length]; omega
  by_cases h1 : i < r
  · rw [List.append_assoc, List.getElem?_append_left (by rw [lt]; exact h1), List.getElem?_take, if_pos h1, bys_get _ (by omega), bys_get _ (by omega)]
    unfold splF; rw [if_neg (by omega)]
  · by_cases h2 : i < r + m
    · rw [List.getElem?_append_left (by rw [List.length_append, lt, bys_length]; exact h2), List.getElem?_append_right (by rw [lt]; omega), lt, bys_get _ (by omega), bys_get _ (by omega)]
      unfold splF; rw [if_pos (by omega)]
    · rw [List.getElem?_append_right (by rw [List.length_append, lt, bys_length]; omega), List.length_append, lt, bys_length, List.getElem?_drop, show r + m + (i - (r + m)) = i by omega]
      by_cases h3 : i < N
      · rw [bys_get _ h3, bys_get _ h3]
        unfold splF; rw [if_neg (by omega)]
      · rw [bys_none _ (by omega), bys_none _ (by omega)]
/-- a state's cells: what waits, and how long -/
def stC (b : Value) (h blk : Nat → Nat) (x : Value) : List Value := stCells b h (bys blk 64 ++ [x])
theorem stC_pre (b : Value) (h blk : Nat → Nat) (x : Value) : stC b h blk x = (b :: vals .u32 h 8) ++ (bys blk 64 ++ [x]) := rfl
theorem stC_pre_len (b : Value) (h : Nat → Nat) : (b :: vals .u32 h 8).length = 9 := by rw [List.length_cons, vals_length]
theorem stC_length (b : Value) (h blk : Nat → Nat) (x : Value) : (stC b h blk x).length = 74 := by
  rw [stC_pre, List.length_append, stC_pre_len, List.length_append, bys_length]; rfl
theorem stC_made (b : Value) (h blk : Nat → Nat) (x : Value) : (stC b h blk x).toArray[0]? = some b := rfl
theorem stC_word (b : Value) (h blk : Nat → Nat) (x : Value) {i : Nat} (hi : i < 8) : (stC b h blk x).toArray[1 + i]? = some (.int .u32 (h i : Nat)) := stCells_get b h _ hi
theorem stC_byte (b : Value) (h blk : Nat → Nat) (x : Value) {i : Nat} (hi : i < 64) : (stC b h blk x).toArray[9 + i]? = some (.int .u8 (blk i : Nat)) := by
  rw [List.getElem?_toArray, stC_pre, List.getElem?_append_right (by rw [stC_pre_len]; omega), stC_pre_len, show 9 + i - 9 = i by omega, List.getElem?_append_left (by rw [bys_length]; exact hi), bys_get _ hi]
theorem stC_len (b : Value) (h blk : Nat → Nat) (x : Value) : (stC b h blk x).toArray[73]? = some x := by
  rw [List.getElem?_toArray, stC_pre, List.getElem?_append_right (by rw [stC_pre_len]; omega), stC_pre_len, List.getElem?_append_right (by rw [bys_length]; omega), bys_length]; rfl
theorem stC_setLen (b : Value) (h blk : Nat → Nat) (x y : Value) : (stC b h blk x).toArray.setIfInBounds 73 y = (stC b h blk y).toArray := by
  rw [List.setIfInBounds_toArray, stC_pre, stC_pre, List.set_append_right _ _ (by rw [stC_pre_len]; omega), stC_pre_len, List.set_append_right _ _ (by rw [bys_length]; omega), bys_length]; rfl
theorem stC_spl (b : Value) (h blk f : Nat → Nat) (x : Value) {r m : Nat} (hr : r + m ≤ 64) :
    (stC b h blk x).take (9 + r) ++ bys f m ++ (stC b h blk x).drop (9 + r + m) = stC b h (splF blk f r m) x := by
  rw [stC_pre, stC_pre, show 9 + r = (b :: vals .u32 h 8).length + r by rw [stC_pre_len], List.take_length_add_append, show (b :: vals .u32 h 8).length + r + m = (b :: vals .u32 h 8).length + (r + m) by omega, List.drop_length_add_append, ← bys_spl blk f hr, List.take_append_of_le_length (by rw [bys_length]; omega), List.drop_append_of_le_length (by rw [bys_length]; omega)]
  simp only [List.append_assoc, List.cons_append]
/-- a slice cut at k -/
def cutA (A : Option Addr) (c k : Nat) : Option Addr := if c = k then A else A.map (·.add k)
theorem add_off (g o k : Nat) : (⟨g, o, none⟩ : Addr).add k = ⟨g, o + k, none⟩ := by unfold Addr.add; split <;> simp_all
theorem Sl.cut {w : World} {A : Option Addr} {n c k : Nat} {f : Nat → Nat} (h : Sl w A n f) (hn : n ≤ c) : Sl w (cutA A c k) (n - k) (fun i => f (k + i)) := by
  refine ⟨fun i => h.small _, fun hk => ?_⟩
  obtain ⟨g, o, rfl, hg, hc⟩ := h.at_ (by omega)
  unfold cutA
  rw [if_neg (by omega)]
  refine ⟨g, o + k, by rw [Option.map_some, add_off], hg, fun i hi => ?_⟩
  rw [Nat.add_assoc]
  exact hc _ (by omega)
theorem cutA_block {A : Option Addr} {c k p : Nat} (h : ∀ a, A = some a → a.block ≠ p) : ∀ a, cutA A c k = some a → a.block ≠ p := by
  intro a ha
  unfold cutA at ha
  split at ha
  · exact h a ha
  · cases A with
    | none => cases ha
    | some b =>
      cases ha
      have := h b rfl
      unfold Addr.add
      split <;> exact this
theorem Sl.only {w w' : World} {A : Option Addr} {n p : Nat} {f : Nat → Nat} (h : Sl w A n f) (hb : Only p w w') (ha : 0 < n → ∀ a, A = some a → a.block ≠ p) : Sl w' A n f := by
  refine ⟨h.small, fun hn => ?_⟩
  obtain ⟨g, o, e, hg, hc⟩ := h.at_ hn
  refine ⟨g, o, e, Nat.lt_of_lt_of_le hg hb.size, fun i hi => ?_⟩
  rw [World.cell?_of_block (w := w) (hb.row g hg (ha hn _ e))]
  exact hc i hi
theorem Arr.only {κ : IntKind} {w w' : World} {b n p : Nat} {f : Nat → Nat} (h : Arr κ w b n f) (hb : Only p w w') (hB : b < w.heap.size) (hn : b ≠ p) : Arr κ w' b n f :=
  ⟨fun i hi => by rw [World.cell?_of_block (a := ⟨b, i, none⟩) (hb.row b hB hn)]; exact h.cell i hi, fun i hi => by rw [World.frozen?_of_block (a := ⟨b, i, none⟩) (hb.row b hB hn)]; exact h.free i hi⟩
theorem cat_lt {f g : Nat → Nat} {n : Nat} (hf : ∀ i, f i < 256) (hg : ∀ i, g i < 256) (i : Nat) : cat f n g i < 256 := by
  unfold cat; split
  · exact hf _
  · exact hg _
end Go.Proofs.Ytjemgoifemdoeaa
