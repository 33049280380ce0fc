/- Keys stand as their numbers do: the lists alone, no walk. -/
import Derived.Test.YthloohoefjmmoaaG01
import Derived.Test.YthloohoefjmmoaaG03
import Derived.Test.YthloohoefjmmoaaG08
import Derived.Test.YthloohoefjmmoaaG02
namespace Go.Proofs.Ythloohoefjmmoaa
open Go.RowKit

/-- which of two rows stands below: from r on, d places -/
def lexL (f g : Nat → Int) (r : Nat) : Nat → Bool
  | 0 => false
  | d + 1 => if f r ≠ g r then decide (f r < g r) else lexL f g (r + 1) d
def u8l (l : List Nat) : List UInt8 := l.map UInt8.ofNat
theorem strOfNums_u8l (l : List Nat) : (strOfNums (ints l)).toList = u8l l := by
  rw [ByteArray.toList_eq]
  simp [strOfNums, ints, u8l, Function.comp_def]
theorem bytesLess_cons (a b : Nat) (ha : a < 256) (hb : b < 256) (x y : List UInt8) :
    Op.bytesLess (UInt8.ofNat a :: x) (UInt8.ofNat b :: y) = if a = b then Op.bytesLess x y else decide (a < b) := by
  have e1 : (UInt8.ofNat a < UInt8.ofNat b) ↔ a < b := by
    rw [UInt8.lt_iff_toNat_lt, UInt8.toNat_ofNat', UInt8.toNat_ofNat', Nat.mod_eq_of_lt ha, Nat.mod_eq_of_lt hb]
  have e2 : (UInt8.ofNat a = UInt8.ofNat b) ↔ a = b := by
    rw [← UInt8.toNat_inj, UInt8.toNat_ofNat', UInt8.toNat_ofNat', Nat.mod_eq_of_lt ha, Nat.mod_eq_of_lt hb]
  simp only [Op.bytesLess]
  by_cases h : a = b
  · subst h; simp [UInt8.lt_irrefl]
  · have h2 : (UInt8.ofNat a == UInt8.ofNat b) = false := by rw [beq_eq_false_iff_ne]; exact fun e => h (e2.1 e)
    rw [if_neg h, h2]; simp [e1]
/-- k bytes of a, the greatest first -/
def be (a : Nat) : Nat → List Nat
  | 0 => []
  | k + 1 => kbyte a k :: be a k
theorem be_less (a b : Nat) (x y : List UInt8) : ∀ k, Op.bytesLess (u8l (be a k) ++ x) (u8l (be b k) ++ y) = if a % 2 ^ (8 * k) = b % 2 ^ (8 * k) then Op.bytesLess x y else decide (a % 2 ^ (8 * k) < b % 2 ^ (8 * k))
  | 0 => by simp [be, u8l, Nat.mod_one]
  | k + 1 => by
    have ih := be_less a b x y k
    have hp : 0 < 2 ^ (8 * k) := Nat.pow_pos (by decide)
    have ma : a % 2 ^ (8 * (k + 1)) = a % 2 ^ (8 * k) + 2 ^ (8 * k) * kbyte a k := by
      rw [show 8 * (k + 1) = 8 * k + 8 by omega, Nat.pow_add, Nat.mod_mul]; rfl
    have mb : b % 2 ^ (8 * (k + 1)) = b % 2 ^ (8 * k) + 2 ^ (8 * k) * kbyte b k := by
      rw [show 8 * (k + 1) = 8 * k + 8 by omega, Nat.pow_add, Nat.mod_mul]; rfl
    have la := Nat.mod_lt a hp
    have lb := Nat.mod_lt b hp
    have ca := kbyte_lt a k
    have cb := kbyte_lt b k
    rw [ma, mb]
    show Op.bytesLess (UInt8.ofNat (kbyte a k) :: (u8l (be a k) ++ x)) (UInt8.ofNat (kbyte b k) :: (u8l (be b k) ++ y)) = _
    rw [bytesLess_cons _ _ ca cb, ih]
    generalize kbyte a k = p at *
    generalize kbyte b k = q at *
    generalize a % 2 ^ (8 * k) = u at *
    generalize b % 2 ^ (8 * k) = v at *
    generalize 2 ^ (8 * k) = z at *
    by_cases h : p = q
    · subst h
      rw [if_pos rfl]
      by_cases h2 : u = v
      · subst h2; rw [if_pos rfl, if_pos rfl]
      · rw [if_neg h2, if_neg (by omega)]
        by_cases h3 : u < v
        · rw [decide_eq_true h3, decide_eq_true (by omega)]
        · rw [decide_eq_false h3, decide_eq_false (by omega)]
    · rw [if_neg h]
      rcases Nat.lt_or_gt_of_ne h with h3 | h3
      · have := Nat.mul_le_mul_left z (show p + 1 ≤ q from h3)
        rw [Nat.mul_add] at this
        rw [if_neg (by omega), decide_eq_true h3, decide_eq_true (by omega)]
      · have := Nat.mul_le_mul_left z (show q + 1 ≤ p from h3)
        rw [Nat.mul_add] at this
        rw [if_neg (by omega), decide_eq_false (by omega), decide_eq_false (by omega)]
theorem kb8_be (a : Nat) : kb8 a = be a 8 := rfl
/-- the bytes of d numbers from r on -/
def tl (f : Nat → Int) (r : Nat) : Nat → List Nat
  | 0 => []
  | d + 1 => kb8 (f r).toNat ++ tl f (r + 1) d
theorem tl_snoc (f : Nat → Int) : ∀ (d r : Nat), tl f r (d + 1) = tl f r d ++ kb8 (f (r + d)).toNat
  | 0, r => by simp [tl]
  | d + 1, r => by
    rw [tl, tl_snoc f d (r + 1), tl, List.append_assoc, show r + 1 + d = r + (d + 1) by omega]
theorem kbs_tl (t : Nat) (f : Nat → Int) : ∀ n, kbs t f n = t :: tl f 0 n
  | 0 => rfl
  | n + 1 => by rw [kbs, kbs_tl t f n, tl_snoc, Nat.zero_add]; rfl
theorem u8l_append (a b : List Nat) : u8l (a ++ b) = u8l a ++ u8l b := by simp [u8l]
theorem tl_less {f g : Nat → Int} (mf : ∀ i, f i < 2 ^ 63) (mg : ∀ i, g i < 2 ^ 63) : ∀ (d r : Nat), (∀ i, i < r + d → 0 ≤ f i) → (∀ i, i < r + d → 0 ≤ g i) →
    Op.bytesLess (u8l (tl f r d)) (u8l (tl g r d)) = lexL f g r d
  | 0, r, _, _ => by simp [tl, u8l, Op.bytesLess, lexL]
  | d + 1, r, hf, hg => by
    have ih := tl_less mf mg d (r + 1) (fun i hi => hf i (by omega)) (fun i hi => hg i (by omega))
    have f0 := hf r (by omega)
    have g0 := hg r (by omega)
    have f1 := mf r
    have g1 := mg r
    rw [tl, tl, u8l_append, u8l_append, kb8_be, kb8_be, be_less, ih, lexL]
    rw [Nat.mod_eq_of_lt (show (f r).toNat < 2 ^ (8 * 8) by omega), Nat.mod_eq_of_lt (show (g r).toNat < 2 ^ (8 * 8) by omega)]
    by_cases h : f r = g r
    · rw [if_pos (by rw [h]), if_neg (fun e => e h)]
    · rw [if_neg (by omega), if_pos h]
      by_cases h2 : f r < g r
      · rw [decide_eq_true h2, decide_eq_true (by omega)]
      · rw [decide_eq_false h2, decide_eq_false (by omega)]
theorem key_less {t n : Nat} {f g : Nat → Int} (ht : t < 256) (hf : ∀ i, i < n → 0 ≤ f i) (hg : ∀ i, i < n → 0 ≤ g i) (mf : ∀ i, f i < 2 ^ 63) (mg : ∀ i, g i < 2 ^ 63) :
    Op.bytesLess (strOfNums (ints (kbs t f n))).toList (strOfNums (ints (kbs t g n))).toList = lexL f g 0 (n - 0) := by
  rw [strOfNums_u8l, strOfNums_u8l, kbs_tl, kbs_tl, Nat.sub_zero]
  show Op.bytesLess (UInt8.ofNat t :: u8l (tl f 0 n)) (UInt8.ofNat t :: u8l (tl g 0 n)) = _
  rw [bytesLess_cons t t ht ht, if_pos rfl]
  exact tl_less mf mg n 0 (fun i hi => hf i (by omega)) (fun i hi => hg i (by omega))
end Go.Proofs.Ythloohoefjmmoaa

namespace Go.Proofs.Ythloohoefjmmoaa

theorem u8l_getD {l : List Nat} {i : Nat} (x : List UInt8) (h : i < l.length) (hb : ∀ y ∈ l, y < 256) : ((u8l l ++ x).getD i 0).toNat = l.getD i 0 := by
  have h2 : i < (u8l l).length := by rw [u8l, List.length_map]; exact h
  rw [List.getD, List.getElem?_append_left h2, u8l, List.getElem?_map, List.getElem?_eq_getElem h, List.getD, List.getElem?_eq_getElem h]
  simp only [Option.map_some, Option.getD_some]
  rw [UInt8.toNat_ofNat', Nat.mod_eq_of_lt (hb _ (List.getElem_mem h))]
theorem kb8_lt (a : Nat) : ∀ y ∈ kb8 a, y < 256 := by
  intro y hy
  simp only [kb8, List.mem_cons, List.not_mem_nil, or_false] at hy
  rcases hy with rfl | rfl | rfl | rfl | rfl | rfl | rfl | rfl <;> exact kbyte_lt _ _
theorem numl_kb8 {a : Nat} (x : List UInt8) (ha : a < 2 ^ 64) : numl (u8l (kb8 a) ++ x) 8 = a := by
  have g : ∀ i, i < 8 → ((u8l (kb8 a) ++ x).getD i 0).toNat = (kb8 a).getD i 0 := fun i hi => u8l_getD x hi (kb8_lt a)
  simp only [numl]
  rw [g 0 (by decide), g 1 (by decide), g 2 (by decide), g 3 (by decide), g 4 (by decide), g 5 (by decide), g 6 (by decide), g 7 (by decide)]
  simp only [kb8, List.getD_cons_zero, List.getD_cons_succ, kbyte]
  omega
theorem drop_tl (f : Nat → Int) : ∀ (i r d : Nat), i ≤ d → (u8l (tl f r d)).drop (8 * i) = u8l (tl f (r + i) (d - i))
  | 0, r, d, _ => by simp
  | i + 1, r, d + 1, h => by
    have hl : (u8l (kb8 (f r).toNat)).length = 8 := rfl
    have e8 : (u8l (kb8 (f r).toNat)).drop 8 = [] := List.drop_of_length_le (by omega)
    rw [tl, u8l_append, show 8 * (i + 1) = 8 + 8 * i by omega, ← List.drop_drop, List.drop_append_of_le_length (by omega), e8, List.nil_append, drop_tl f i (r + 1) d (by omega)]
    rw [show r + 1 + i = r + (i + 1) by omega, show d + 1 - (i + 1) = d - i by omega]
theorem chunk_tl {v : ByteArray} {f : Nat → Int} {n i : Nat} (hv : v.data.toList = u8l (tl f 0 n)) (hi : i < n) (hf : f i < 2 ^ 63) : chunk v i = (f i).toNat := by
  unfold chunk
  rw [hv, drop_tl f i 0 n (by omega), Nat.zero_add, show n - i = (n - i - 1) + 1 by omega, tl, u8l_append]
  exact numl_kb8 _ (by omega)
end Go.Proofs.Ythloohoefjmmoaa

namespace Go.Proofs.Ythloohoefjmmoaa
open Go.RowKit Go.Maps

/-- behind a step of W to W' the store b has the entries L, and at most q changes -/
def LiveTo (w W W' : World) (b : Nat) (F : List Nat) (L : SL) (q : Nat) : Prop :=
  ∃ F' q' qs', SNew w W' b F' L q' qs' ∧ q' ≤ q ∧ Touch F W W' ∧ ∀ k ∈ F', k ∈ F ∨ W.heap.size ≤ k
theorem LiveTo.pre {w W W1 W' : World} {b : Nat} {F : List Nat} {L : SL} {q : Nat} (h : LiveTo w W1 W' b F L q) (h1 : Below W.heap.size W W1) : LiveTo w W W' b F L q := by
  obtain ⟨F', q', qs', hs, hq, ht, hf⟩ := h
  refine ⟨F', q', qs', hs, hq, (Touch.of_below h1).trans (fun _ hk => .inl hk) ht, fun k hk => ?_⟩
  rcases hf k hk with h | h
  · exact .inl h
  · right; have := h1.size; omega
theorem LiveTo.post {w W W1 W' : World} {b : Nat} {F : List Nat} {L : SL} {q : Nat} (h : LiveTo w W W1 b F L q) (h1 : Below W1.heap.size W1 W') : LiveTo w W W' b F L q := by
  obtain ⟨F', q', qs', hs, hq, ht, hf⟩ := h
  exact ⟨F', q', qs', hs.below h1, hq, ht.trans (F' := []) (fun _ hk => by cases hk) (Touch.of_below h1), hf⟩
theorem SNew.same {w W W' : World} {b : Nat} {F : List Nat} {L : SL} {q : Nat} {qs : List Value} (h : SNew w W b F L q qs) (hb : Below W.heap.size W W') : LiveTo w W W' b F L q :=
  ⟨F, q, qs, h.below hb, Nat.le_refl _, Touch.of_below hb, fun _ hk => .inl hk⟩
theorem SNew.sets {w W : World} {b : Nat} {F : List Nat} {L : SL} {q : Nat} {qs : List Value} (h : SNew w W b F L q qs) (k v : ByteArray) (hk : k.size ≤ maxLen) (hv : v.size ≤ maxLen) (hk0 : k ≠ ⟨#[]⟩) (hN : L.length < 1000000) (hq : q < 1000000) :
    Calls Try.prog 34 #[.pointer (some ⟨b, 0, none⟩), .string k, .string v] W fun e W' => e = .returned (.int .i64 0) ∧ LiveTo w W W' b F (setL L k v) (q + 1) := by
  by_cases hs : sget L k = some v
  · rw [show setL L k v = L by unfold setL; rw [if_pos hs]]
    refine (_root_.Go.Proofs.Ythloohoefjmmoaa.set_same b F L q qs k v W h.s hk hk0 hs).mono ?_
    rintro e W' ⟨he, F', hs, ht, hf⟩
    exact ⟨he, F', q, qs, h.set hs ht hf, by omega, ht, hf⟩
  · rw [show setL L k v = sset L k v by unfold setL; rw [if_neg hs]]
    obtain ⟨bm, vb, vk, vq, hF, hM⟩ := h.s
    refine (_root_.Go.Proofs.Ythloohoefjmmoaa.set_new b bm vb vk vq L q qs k v W hM hk hv hk0 hN hq hs).mono ?_
    rintro e W' ⟨he, F', hs, ht, hf⟩
    rw [← hF] at ht hf
    exact ⟨he, F', _, _, h.set hs ht hf, Nat.le_refl _, ht, hf⟩
set_option maxRecDepth 100000 in
set_option maxHeartbeats 1000000 in
theorem sdel_none (b : Nat) (F : List Nat) (L : SL) (q : Nat) (qs : List Value) (k : ByteArray) (w : World) (h : StP w b F L q qs) (hk : k.size ≤ maxLen) (he : sget L k = none) :
    Calls Try.prog 60 #[.pointer (some ⟨b, 0, none⟩), .string k] w fun e w' => e = .returned (.bool false) ∧ Below w.heap.size w w' := by
  have HM := Lib.hid (made_live b F L q qs w h)
  obtain ⟨bm, vb, vk, vq, rfl, hS⟩ := h
  have hl := hS.m.look k hk
  rw [he] at hl
  replace hl : (Instr.lookup 51 (.map (some bm)) (.string k) true).run Try.prog w = .ok (.tuple #[.agg #[.string ⟨#[]⟩], .bool false]) w := hl
  have c0 := (hp_cell (i := 0) hS.r).trans rfl
  clear hS hk he
  go_enter Try.func60, Try.ntmps60
  go_wp2_with (go_at_call 31; refine HM.out.mono ?_; rintro e w1 ⟨rfl, rfl⟩)
  go_ret
  exact ⟨rfl, (Below.refl _ _).alloc (Nat.le_refl _) _⟩
theorem SNew.del_none {w W : World} {b : Nat} {F : List Nat} {L : SL} {q : Nat} {qs : List Value} (h : SNew w W b F L q qs) (k : ByteArray) (hk : k.size ≤ maxLen) (he : sget L k = none) :
    Calls Try.prog 60 #[.pointer (some ⟨b, 0, none⟩), .string k] W fun e W' => e = .returned (.bool false) ∧ LiveTo w W W' b F L q := by
  refine (sdel_none b F L q qs k W h.s hk he).mono ?_
  rintro e W' ⟨he, hb⟩
  exact ⟨he, h.same hb⟩
set_option maxRecDepth 100000 in
set_option maxHeartbeats 1000000 in
theorem cput_set {w W : World} {b : Nat} {F : List Nat} {L : SL} {q : Nat} {qs : List Value} (h : SNew w W b F L q qs) (k v : ByteArray) (hk : k.size ≤ maxLen) (hv : v.size ≤ maxLen) (hk0 : k ≠ ⟨#[]⟩) (hv0 : v ≠ ⟨#[]⟩) (hN : L.length < 1000000) (hq : q < 1000000) :
    Calls Try.prog 48 #[.pointer (some ⟨b, 0, none⟩), .string k, .string v] W fun e W' => e = .returned (.tuple #[]) ∧ LiveTo w W W' b F (setL L k v) (q + 1) := by
  have HS := Lib.hid (h.sets k v hk hv hk0 hN hq)
  have hv1 := ba_nil hv0
  clear h hk hv hk0 hv0 hN hq
  go_enter Try.func48, Try.ntmps48
  go_wp2_with (go_at_call 34; refine HS.out.mono ?_; rintro e w1 ⟨rfl, h1⟩; have H1 := Lib.hid h1; clear h1)
  go_end0
  exact ⟨rfl, H1.out⟩
set_option maxRecDepth 100000 in
set_option maxHeartbeats 1000000 in
theorem cput_none {w W : World} {b : Nat} {F : List Nat} {L : SL} {q : Nat} {qs : List Value} (h : SNew w W b F L q qs) (k : ByteArray) (hk : k.size ≤ maxLen) (he : sget L k = none) :
    Calls Try.prog 48 #[.pointer (some ⟨b, 0, none⟩), .string k, .string ⟨#[]⟩] W fun e W' => e = .returned (.tuple #[]) ∧ LiveTo w W W' b F L q := by
  have HS := Lib.hid (h.del_none k hk he)
  clear h hk he
  go_enter Try.func48, Try.ntmps48
  go_wp2_with (go_at_call 60; refine HS.out.mono ?_; rintro e w1 ⟨rfl, h1⟩; have H1 := Lib.hid h1; clear h1)
  refine bodyPost_ret (v := .tuple #[]) (by simp [results, Try.results48, go_sem]) rfl ⟨rfl, H1.out⟩
theorem numStr_sizeA (x : Int) : (numStr x).size = 8 := by unfold numStr; rw [strOfNums_size]; simp [ints, kb8]
theorem numStr_ne (x : Int) : numStr x ≠ ⟨#[]⟩ := by
  intro e
  have := numStr_sizeA x
  rw [e] at this
  exact absurd this (by decide)
theorem chunk_numStr {n : Nat} (h : n < 2 ^ 63) : chunk (numStr n) 0 = n := by
  have e : (numStr n).data.toList = u8l (kb8 n) := by
    unfold numStr
    rw [Int.max_eq_left (by omega), Int.toNat_natCast, ← Lib.toList_data]
    exact strOfNums_u8l _
  unfold chunk
  rw [e, Nat.mul_zero, List.drop_zero]
  have := numl_kb8 (a := n) [] (by omega)
  rwa [List.append_nil] at this
set_option maxRecDepth 100000 in
set_option maxHeartbeats 1000000 in
theorem csetInt_set {w W : World} {b : Nat} {F : List Nat} {L : SL} {q : Nat} {qs : List Value} (h : SNew w W b F L q qs) (k : ByteArray) (n : Int) (hk : k.size ≤ maxLen) (hk0 : k ≠ ⟨#[]⟩) (h1 : 1 ≤ n) (h2 : n < 2 ^ 63) (hN : L.length < 1000000) (hq : q < 1000000) :
    Calls Try.prog 45 #[.pointer (some ⟨b, 0, none⟩), .string k, .int .i64 n] W fun e W' => e = .returned (.tuple #[]) ∧ LiveTo w W W' b F (setL L k (numStr n)) (q + 1) := by
  have HN := Lib.hid (knum_walk n W h2)
  have HS := Lib.hid (fun (W1 : World) (hb : Below W.heap.size W W1) => (cput_set (h.below hb) k (numStr n) hk (by rw [numStr_sizeA]; decide) hk0 (numStr_ne n) hN hq).mono fun e W' hp => (⟨hp.1, hp.2.pre hb⟩ : e = .returned (.tuple #[]) ∧ LiveTo w W W' b F (setL L k (numStr n)) (q + 1)))
  have p1 : ¬ n < 1 := by omega
  clear h hk hk0 h1 h2 hN hq
  go_enter Try.func45, Try.ntmps45
  go_wp2_with (first
    | (go_at_call 48; refine (HS.out w1 HB1.out).mono ?_; rintro e w2 ⟨rfl, h1⟩; have H1 := Lib.hid h1; clear h1)
    | (go_at_call 47; refine HN.out.mono ?_; rintro e w1 ⟨rfl, hb1⟩; have HB1 := Lib.hid hb1; clear hb1))
  go_end0
  exact ⟨rfl, H1.out⟩
set_option maxRecDepth 100000 in
set_option maxHeartbeats 1000000 in
theorem csetInt_none {w W : World} {b : Nat} {F : List Nat} {L : SL} {q : Nat} {qs : List Value} (h : SNew w W b F L q qs) (k : ByteArray) (n : Int) (hk : k.size ≤ maxLen) (he : sget L k = none) (h1 : n < 1) :
    Calls Try.prog 45 #[.pointer (some ⟨b, 0, none⟩), .string k, .int .i64 n] W fun e W' => e = .returned (.tuple #[]) ∧ LiveTo w W W' b F L q := by
  have HS := Lib.hid (cput_none h k hk he)
  clear h hk he
  go_enter Try.func45, Try.ntmps45
  go_wp2_with (go_at_call 48; refine HS.out.mono ?_; rintro e w2 ⟨rfl, h1⟩; have H1 := Lib.hid h1; clear h1)
  refine bodyPost_ret (v := .tuple #[]) (by simp [results, Try.results45, go_sem]) rfl ⟨rfl, H1.out⟩
theorem nums_one (n : Nat) (w : World) (hn : n < 2 ^ 63) : Calls Try.prog 54 #[.string (numStr n)] w fun e w' => e = .returned (.tuple #[.slice (some ⟨w.heap.size, 0, none⟩) 1 1, .bool true]) ∧ w'.cell? ⟨w.heap.size, 0, none⟩ = some (.int .i64 (n : Nat)) ∧ w.heap.size < w'.heap.size ∧ Below w.heap.size w w' := by
  refine (nums_walk (numStr n) 1 w (by rw [numStr_sizeA]) (by omega)).mono ?_
  rintro e w' ⟨⟨_, he, hr⟩ | ⟨⟨i, hi, hne⟩, _⟩, hb⟩
  · refine ⟨he, ?_, (hr.lt w.heap.size rfl).2, hb⟩
    have := hr.cellAt 0 (by omega)
    simpa [i64n, chunk_numStr hn] using this
  · obtain rfl : i = 0 := by omega
    rw [chunk_numStr hn] at hne
    exact absurd hn hne
set_option maxRecDepth 100000 in
set_option maxHeartbeats 1000000 in
theorem numbers_one {w W : World} {b : Nat} {F : List Nat} {L : SL} {q : Nat} {qs : List Value} (h : SNew w W b F L q qs) (k : ByteArray) (n : Nat) (hk : k.size ≤ maxLen) (he : sget L k = some (numStr n)) (hn : n < 2 ^ 63) :
    Calls Try.prog 38 #[.func (Fn.func 27) #[.pointer (some ⟨b, 0, none⟩)] #[], .string k] W fun e W' => (∃ g, e = .returned (.slice (some ⟨g, 0, none⟩) 1 1) ∧ W'.cell? ⟨g, 0, none⟩ = some (.int .i64 (n : Nat)) ∧ g < W'.heap.size) ∧ Below W.heap.size W W' := by
  have HG := Lib.hid (h.get_some k (numStr n) hk he)
  have HN := Lib.hid (fun w => nums_one n w hn)
  clear h hk he hn
  go_enter Try.func38, Try.ntmps38
  go_wp2_with (first
    | (go_at_call 54; refine (HN.out w1).mono ?_; rintro e w2 ⟨rfl, hc, hl, hb⟩; have HC := Lib.hid hc; have HL := Lib.hid hl; have HB2 := Lib.hid (HB1.out.trans (hb.mono HB1.out.size)); clear hc hl hb)
    | (go_at_call 27; refine HG.out.mono ?_; rintro e w1 ⟨rfl, _, hb1⟩; have HB1 := Lib.hid hb1; clear hb1))
  go_ret
  exact ⟨⟨_, rfl, HC.out, HL.out⟩, HB2.out⟩
set_option maxRecDepth 100000 in
set_option maxHeartbeats 1000000 in
theorem numbers_none {w W : World} {b : Nat} {F : List Nat} {L : SL} {q : Nat} {qs : List Value} (h : SNew w W b F L q qs) (k : ByteArray) (hk : k.size ≤ maxLen) (he : sget L k = none) :
    Calls Try.prog 38 #[.func (Fn.func 27) #[.pointer (some ⟨b, 0, none⟩)] #[], .string k] W fun e W' => (∃ g, e = .returned (.slice (some ⟨g, 0, none⟩) 0 0)) ∧ Below W.heap.size W W' := by
  have HG := Lib.hid (h.get_none k hk he)
  have HN := Lib.hid nums_none
  clear h hk he
  go_enter Try.func38, Try.ntmps38
  go_wp2_with (first
    | (go_at_call 54; refine (HN.out w1).mono ?_; rintro e w2 ⟨rfl, hb⟩; have HB2 := Lib.hid (HB1.out.trans (hb.mono HB1.out.size)); clear hb)
    | (go_at_call 27; refine HG.out.mono ?_; rintro e w1 ⟨rfl, _, hb1⟩; have HB1 := Lib.hid hb1; clear hb1))
  go_ret
  exact ⟨⟨_, rfl⟩, HB2.out⟩
set_option maxRecDepth 100000 in
set_option maxHeartbeats 1000000 in
theorem cint_some {w W : World} {b : Nat} {F : List Nat} {L : SL} {q : Nat} {qs : List Value} (h : SNew w W b F L q qs) (k : ByteArray) (n : Nat) (hk : k.size ≤ maxLen) (he : sget L k = some (numStr n)) (hn : n < 2 ^ 63) :
    Calls Try.prog 21 #[.pointer (some ⟨b, 0, none⟩), .string k] W fun e W' => e = .returned (.int .i64 (n : Nat)) ∧ Below W.heap.size W W' := by
  have HN := Lib.hid (numbers_one h k n hk he hn)
  clear h hk he hn
  go_enter Try.func21, Try.ntmps21
  go_wp2_with (go_at_call 38; refine HN.out.mono ?_; rintro e w1 ⟨⟨g, rfl, hc, hl⟩, hb1⟩; have HB1 := Lib.hid hb1; clear hb1)
  go_ret
  exact ⟨rfl, HB1.out⟩
set_option maxRecDepth 100000 in
set_option maxHeartbeats 1000000 in
theorem cint_none {w W : World} {b : Nat} {F : List Nat} {L : SL} {q : Nat} {qs : List Value} (h : SNew w W b F L q qs) (k : ByteArray) (hk : k.size ≤ maxLen) (he : sget L k = none) :
    Calls Try.prog 21 #[.pointer (some ⟨b, 0, none⟩), .string k] W fun e W' => e = .returned (.int .i64 0) ∧ Below W.heap.size W W' := by
  have HN := Lib.hid (numbers_none h k hk he)
  clear h hk he
  go_enter Try.func21, Try.ntmps21
  go_wp2_with (go_at_call 38; refine HN.out.mono ?_; rintro e w1 ⟨⟨g, rfl⟩, hb1⟩; have HB1 := Lib.hid hb1; clear hb1)
  go_ret
  exact ⟨rfl, HB1.out⟩
set_option maxRecDepth 100000 in
set_option maxHeartbeats 1000000 in
theorem cint_dead (p : Value) (k : ByteArray) (w : World) (h : SDead w p) : Calls Try.prog 21 #[p, .string k] w fun e w' => e = .returned (.int .i64 0) ∧ Below w.heap.size w w' := by
  have HN := Lib.hid (numbers_dead p k w h)
  clear h
  go_enter Try.func21, Try.ntmps21
  go_wp2_with (go_at_call 38; refine HN.out.mono ?_; rintro e w1 ⟨rfl, hb1⟩; have HB1 := Lib.hid hb1; clear hb1)
  go_ret
  exact ⟨rfl, HB1.out⟩
end Go.Proofs.Ythloohoefjmmoaa
