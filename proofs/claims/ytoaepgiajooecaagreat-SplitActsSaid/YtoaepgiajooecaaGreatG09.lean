/- The store: Undo of any mark, on any live store. -/
import Derived.Test.YtoaepgiajooecaaGreatG08
import Derived.Test.YtoaepgiajooecaaGreatG01
namespace Go.Proofs.YtoaepgiajooecaaGreat
open Go.RowKit Go.Maps Go.Sort

/-- what Undo of a mark does to a store -/
def UndTo (b : Nat) (F : List Nat) (L : SL) (R : List Ch) (mark : Int) (w : World) (e : Ending) (w' : World) : Prop :=
  ∃ d, d = (if 0 ≤ mark ∧ mark ≤ (R.length : Int) then R.length - mark.toNat else 0) ∧ e = .returned (.bool (decide (0 ≤ mark ∧ mark ≤ (R.length : Int)))) ∧ ∃ F', StP w' b F' (und L R d) (R.drop d).length (chs (R.drop d)) ∧ Touch F w w' ∧ ∀ k ∈ F', k ∈ F ∨ w.heap.size ≤ k
end Go.Proofs.YtoaepgiajooecaaGreat

namespace Go.Proofs.YtoaepgiajooecaaGreat
open Go.RowKit Go.Maps Go.Sort

set_option maxRecDepth 100000 in
set_option maxHeartbeats 400000 in
theorem set_dead (p : Value) (k : ByteArray) (v : ByteArray) (w : World) (h : SDead w p) : Calls Tryz.prog 88 #[p, .string k, .string v] w fun e w' => e = .returned (.int .i64 1) ∧ w = w' := by
  have HM := Lib.hid (made_dead p w h)
  clear h
  go_enter Tryz.func88, Tryz.ntmps88
  go_wp2_with (go_at_call 18; refine HM.out.mono ?_; rintro e w1 ⟨rfl, rfl⟩)
  go_ret
  exact ⟨rfl, rfl⟩

set_option maxRecDepth 100000 in
set_option maxHeartbeats 400000 in
theorem delete_dead (p : Value) (k : ByteArray) (w : World) (h : SDead w p) : Calls Tryz.prog 87 #[p, .string k] w fun e w' => e = .returned (.bool false) ∧ w = w' := by
  have HM := Lib.hid (made_dead p w h)
  clear h
  go_enter Tryz.func87, Tryz.ntmps87
  go_wp2_with (go_at_call 18; refine HM.out.mono ?_; rintro e w1 ⟨rfl, rfl⟩)
  go_ret
  exact ⟨rfl, rfl⟩

set_option maxRecDepth 100000 in
set_option maxHeartbeats 400000 in
theorem under_dead (p : Value) (k : ByteArray) (w : World) (h : SDead w p) : Calls Tryz.prog 29 #[p, .string k] w fun e w' => e = .returned (.slice none 0 0) ∧ w = w' := by
  have HM := Lib.hid (made_dead p w h)
  clear h
  go_enter Tryz.func29, Tryz.ntmps29
  go_wp2_with (go_at_call 18; refine HM.out.mono ?_; rintro e w1 ⟨rfl, rfl⟩)
  go_ret
  exact ⟨rfl, rfl⟩

set_option maxRecDepth 100000 in
set_option maxHeartbeats 400000 in
theorem all_dead (p : Value) (w : World) (h : SDead w p) : Calls Tryz.prog 11 #[p] w fun e w' => e = .returned (.slice none 0 0) ∧ w = w' := by
  have HU := Lib.hid (under_dead p { data := #[] } w h)
  clear h
  go_enter Tryz.func11, Tryz.ntmps11
  go_wp2_with (go_at_call 29; refine HU.out.mono ?_; rintro e w1 ⟨rfl, rfl⟩)
  go_ret
  exact ⟨rfl, rfl⟩
/-- a store that a call made, all of whose blocks are newer than w -/
structure SNew (w W : World) (b : Nat) (F : List Nat) (L : SL) (q : Nat) (qs : List Value) : Prop where
  s : StP W b F L q qs
  f : ∀ k ∈ F, w.heap.size ≤ k
  l : Below w.heap.size w W
theorem SNew.set {w W W' : World} {b : Nat} {F : List Nat} {L L' : SL} {q q' : Nat} {qs qs' : List Value} {F' : List Nat} (h : SNew w W b F L q qs) (hs : StP W' b F' L' q' qs') (ht : Touch F W W') (hf : ∀ k ∈ F', k ∈ F ∨ W.heap.size ≤ k) : SNew w W' b F' L' q' qs' :=
  ⟨hs, fun k hk => by
    rcases hf k hk with h1 | h1
    · exact h.f k h1
    · have := h.l.size; omega, h.l.trans (ht.below h.f h.l.size)⟩
theorem SNew.below {w W W' : World} {b : Nat} {F : List Nat} {L : SL} {q : Nat} {qs : List Value} (h : SNew w W b F L q qs) (hb : Below W.heap.size W W') : SNew w W' b F L q qs := ⟨h.s.below hb, h.f, h.l.trans (hb.mono h.l.size)⟩
theorem SNew.set_new {w W : World} {b : Nat} {F : List Nat} {L : SL} {q : Nat} {qs : List Value} (h : SNew w W b F L q qs) (k v : ByteArray) (hk : k.size ≤ maxLen) (hv : v.size ≤ maxLen) (hk0 : k ≠ ⟨#[]⟩) (hN : L.length < 1000000) (hq : q < 1000000) (hne : sget L k ≠ some v) :
    Calls Tryz.prog 88 #[.pointer (some ⟨b, 0, none⟩), .string k, .string v] W fun e W' => e = .returned (.int .i64 0) ∧ ∃ F', SNew w W' b F' (sset L k v) (q + 1) (qs ++ chg k (sget L k).isSome ((sget L k).getD ⟨#[]⟩)) ∧ Touch F W W' := by
  obtain ⟨bm, vb, vk, vq, hF, hM⟩ := h.s
  refine (_root_.Go.Proofs.YtoaepgiajooecaaGreat.set_new b bm vb vk vq L q qs k v W hM hk hv hk0 hN hq hne).mono ?_
  rintro e W' ⟨he, F', hs, ht, hf⟩
  rw [← hF] at ht hf
  exact ⟨he, F', h.set hs ht hf, ht⟩
theorem SNew.set_same {w W : World} {b : Nat} {F : List Nat} {L : SL} {q : Nat} {qs : List Value} (h : SNew w W b F L q qs) (k v : ByteArray) (hk : k.size ≤ maxLen) (hk0 : k ≠ ⟨#[]⟩) (he : sget L k = some v) :
    Calls Tryz.prog 88 #[.pointer (some ⟨b, 0, none⟩), .string k, .string v] W fun e W' => e = .returned (.int .i64 0) ∧ ∃ F', SNew w W' b F' L q qs ∧ Touch F W W' := by
  refine (_root_.Go.Proofs.YtoaepgiajooecaaGreat.set_same b F L q qs k v W h.s hk hk0 he).mono ?_
  rintro e W' ⟨he, F', hs, ht, hf⟩
  exact ⟨he, F', h.set hs ht hf, ht⟩
theorem SNew.get_some {w W : World} {b : Nat} {F : List Nat} {L : SL} {q : Nat} {qs : List Value} (h : SNew w W b F L q qs) (k v : ByteArray) (hk : k.size ≤ maxLen) (he : sget L k = some v) :
    Calls Tryz.prog 73 #[.pointer (some ⟨b, 0, none⟩), .string k] W fun e W' => e = .returned (.tuple #[.string v, .bool true]) ∧ SNew w W' b F L q qs ∧ Below W.heap.size W W' := by
  refine (sget_live b F L q qs k W h.s hk).mono ?_
  rintro e W' ⟨h1, hb⟩
  rw [he] at h1
  exact ⟨h1, h.below hb, hb⟩
theorem SNew.get_none {w W : World} {b : Nat} {F : List Nat} {L : SL} {q : Nat} {qs : List Value} (h : SNew w W b F L q qs) (k : ByteArray) (hk : k.size ≤ maxLen) (he : sget L k = none) :
    Calls Tryz.prog 73 #[.pointer (some ⟨b, 0, none⟩), .string k] W fun e W' => e = .returned (.tuple #[.string ⟨#[]⟩, .bool false]) ∧ SNew w W' b F L q qs ∧ Below W.heap.size W W' := by
  refine (sget_live b F L q qs k W h.s hk).mono ?_
  rintro e W' ⟨h1, hb⟩
  rw [he] at h1
  exact ⟨h1, h.below hb, hb⟩
theorem SNew.new (w W : World) (hb : Below w.heap.size w W) : Calls Tryz.prog 13 #[] W fun e W' => ∃ b F, e = .returned (.pointer (some ⟨b, 0, none⟩)) ∧ SNew w W' b F [] 0 [] ∧ Below W.heap.size W W' ∧ ∀ k ∈ F, W.heap.size ≤ k := by
  refine (new_walk W).mono ?_
  rintro e W' ⟨b, F, he, hs, hf, hB⟩
  exact ⟨b, F, he, ⟨hs, fun k hk => Nat.le_trans hb.size (hf k hk), hb.trans (hB.mono hb.size)⟩, hB, hf⟩
end Go.Proofs.YtoaepgiajooecaaGreat

namespace Go.Proofs.YtoaepgiajooecaaGreat
open Go.RowKit

/-- which of two rows stands below: from r on, d places -/
def lexL (f g : Nat → Int) (r : Nat) : Nat → Bool
  | 0 => false
  | d + 1 => if f r ≠ g r then decide (f r < g r) else lexL f g (r + 1) d
def u8l (l : List Nat) : List UInt8 := l.map UInt8.ofNat
theorem strOfNums_u8l (l : List Nat) : (strOfNums (ints l)).toList = u8l l := by
  rw [ByteArray.toList_eq]
  simp [strOfNums, ints, u8l, Function.comp_def]
theorem bytesLess_cons (a b : Nat) (ha : a < 256) (hb : b < 256) (x y : List UInt8) :
    Op.bytesLess (UInt8.ofNat a :: x) (UInt8.ofNat b :: y) = if a = b then Op.bytesLess x y else decide (a < b) := by
  have e1 : (UInt8.ofNat a < UInt8.ofNat b) ↔ a < b := by
    rw [UInt8.lt_iff_toNat_lt, UInt8.toNat_ofNat', UInt8.toNat_ofNat', Nat.mod_eq_of_lt ha, Nat.mod_eq_of_lt hb]
  have e2 : (UInt8.ofNat a = UInt8.ofNat b) ↔ a = b := by
    rw [← UInt8.toNat_inj, UInt8.toNat_ofNat', UInt8.toNat_ofNat', Nat.mod_eq_of_lt ha, Nat.mod_eq_of_lt hb]
  simp only [Op.bytesLess]
  by_cases h : a = b
  · subst h; simp [UInt8.lt_irrefl]
  · have h2 : (UInt8.ofNat a == UInt8.ofNat b) = false := by rw [beq_eq_false_iff_ne]; exact fun e => h (e2.1 e)
    rw [if_neg h, h2]; simp [e1]
/-- k bytes of a, the greatest first -/
def be (a : Nat) : Nat → List Nat
  | 0 => []
  | k + 1 => kbyte a k :: be a k
theorem be_less (a b : Nat) (x y : List UInt8) : ∀ k, Op.bytesLess (u8l (be a k) ++ x) (u8l (be b k) ++ y) = if a % 2 ^ (8 * k) = b % 2 ^ (8 * k) then Op.bytesLess x y else decide (a % 2 ^ (8 * k) < b % 2 ^ (8 * k))
  | 0 => by simp [be, u8l, Nat.mod_one]
  | k + 1 => by
    have ih := be_less a b x y k
    have hp : 0 < 2 ^ (8 * k) := Nat.pow_pos (by decide)
    have ma : a % 2 ^ (8 * (k + 1)) = a % 2 ^ (8 * k) + 2 ^ (8 * k) * kbyte a k := by
      rw [show 8 * (k + 1) = 8 * k + 8 by omega, Nat.pow_add, Nat.mod_mul]; rfl
    have mb : b % 2 ^ (8 * (k + 1)) = b % 2 ^ (8 * k) + 2 ^ (8 * k) * kbyte b k := by
      rw [show 8 * (k + 1) = 8 * k + 8 by omega, Nat.pow_add, Nat.mod_mul]; rfl
    have la := Nat.mod_lt a hp
    have lb := Nat.mod_lt b hp
    have ca := kbyte_lt a k
    have cb := kbyte_lt b k
    rw [ma, mb]
    show Op.bytesLess (UInt8.ofNat (kbyte a k) :: (u8l (be a k) ++ x)) (UInt8.ofNat (kbyte b k) :: (u8l (be b k) ++ y)) = _
    rw [bytesLess_cons _ _ ca cb, ih]
    generalize kbyte a k = p at *
    generalize kbyte b k = q at *
    generalize a % 2 ^ (8 * k) = u at *
    generalize b % 2 ^ (8 * k) = v at *
    generalize 2 ^ (8 * k) = z at *
    by_cases h : p = q
    · subst h
      rw [if_pos rfl]
      by_cases h2 : u = v
      · subst h2; rw [if_pos rfl, if_pos rfl]
      · rw [if_neg h2, if_neg (by omega)]
        by_cases h3 : u < v
        · rw [decide_eq_true h3, decide_eq_true (by omega)]
        · rw [decide_eq_false h3, decide_eq_false (by omega)]
    · rw [if_neg h]
      rcases Nat.lt_or_gt_of_ne h with h3 | h3
      · have := Nat.mul_le_mul_left z (show p + 1 ≤ q from h3)
        rw [Nat.mul_add] at this
        rw [if_neg (by omega), decide_eq_true h3, decide_eq_true (by omega)]
      · have := Nat.mul_le_mul_left z (show q + 1 ≤ p from h3)
        rw [Nat.mul_add] at this
        rw [if_neg (by omega), decide_eq_false (by omega), decide_eq_false (by omega)]
theorem kb8_be (a : Nat) : kb8 a = be a 8 := rfl
/-- the bytes of d numbers from r on -/
def tl (f : Nat → Int) (r : Nat) : Nat → List Nat
  | 0 => []
  | d + 1 => kb8 (f r).toNat ++ tl f (r + 1) d
theorem tl_snoc (f : Nat → Int) : ∀ (d r : Nat), tl f r (d + 1) = tl f r d ++ kb8 (f (r + d)).toNat
  | 0, r => by simp [tl]
  | d + 1, r => by
    rw [tl, tl_snoc f d (r + 1), tl, List.append_assoc, show r + 1 + d = r + (d + 1) by omega]
theorem kbs_tl (t : Nat) (f : Nat → Int) : ∀ n, kbs t f n = t :: tl f 0 n
  | 0 => rfl
  | n + 1 => by rw [kbs, kbs_tl t f n, tl_snoc, Nat.zero_add]; rfl
theorem u8l_append (a b : List Nat) : u8l (a ++ b) = u8l a ++ u8l b := by simp [u8l]
theorem tl_less {f g : Nat → Int} (mf : ∀ i, f i < 2 ^ 63) (mg : ∀ i, g i < 2 ^ 63) : ∀ (d r : Nat), (∀ i, i < r + d → 0 ≤ f i) → (∀ i, i < r + d → 0 ≤ g i) →
    Op.bytesLess (u8l (tl f r d)) (u8l (tl g r d)) = lexL f g r d
  | 0, r, _, _ => by simp [tl, u8l, Op.bytesLess, lexL]
  | d + 1, r, hf, hg => by
    have ih := tl_less mf mg d (r + 1) (fun i hi => hf i (by omega)) (fun i hi => hg i (by omega))
    have f0 := hf r (by omega)
    have g0 := hg r (by omega)
    have f1 := mf r
    have g1 := mg r
    rw [tl, tl, u8l_append, u8l_append, kb8_be, kb8_be, be_less, ih, lexL]
    rw [Nat.mod_eq_of_lt (show (f r).toNat < 2 ^ (8 * 8) by omega), Nat.mod_eq_of_lt (show (g r).toNat < 2 ^ (8 * 8) by omega)]
    by_cases h : f r = g r
    · rw [if_pos (by rw [h]), if_neg (fun e => e h)]
    · rw [if_neg (by omega), if_pos h]
      by_cases h2 : f r < g r
      · rw [decide_eq_true h2, decide_eq_true (by omega)]
      · rw [decide_eq_false h2, decide_eq_false (by omega)]
theorem key_less {t n : Nat} {f g : Nat → Int} (ht : t < 256) (hf : ∀ i, i < n → 0 ≤ f i) (hg : ∀ i, i < n → 0 ≤ g i) (mf : ∀ i, f i < 2 ^ 63) (mg : ∀ i, g i < 2 ^ 63) :
    Op.bytesLess (strOfNums (ints (kbs t f n))).toList (strOfNums (ints (kbs t g n))).toList = lexL f g 0 (n - 0) := by
  rw [strOfNums_u8l, strOfNums_u8l, kbs_tl, kbs_tl, Nat.sub_zero]
  show Op.bytesLess (UInt8.ofNat t :: u8l (tl f 0 n)) (UInt8.ofNat t :: u8l (tl g 0 n)) = _
  rw [bytesLess_cons t t ht ht, if_pos rfl]
  exact tl_less mf mg n 0 (fun i hi => hf i (by omega)) (fun i hi => hg i (by omega))
end Go.Proofs.YtoaepgiajooecaaGreat
