/- keys.Parse of a key, tallageref09.Ints, walked. -/
import Derived.Test.YtjpikgfplfgcfaaG15
import Derived.Test.YtjpikgfplfgcfaaG17
import Derived.Test.YtjpikgfplfgcfaaProg
import Derived.Test.YtjpikgfplfgcfaaG00
import Derived.Laws.Externs
import Derived.Lib.Hide
import Derived.Test.YtjpikgfplfgcfaaG13
import Derived.Test.YtjpikgfplfgcfaaG04
namespace Go.Proofs.Ytjpikgfplfgcfaa
open Go.RowKit

/-- the text of numbers, one behind the other -/
def valStr (f : Nat → Int) (n : Nat) : ByteArray := strOfNums (ints (tl f 0 n))
theorem valStr_list (f : Nat → Int) (n : Nat) : (valStr f n).data.toList = u8l (tl f 0 n) := by
  unfold valStr
  rw [strOfNums_data]
  simp [u8l, ints]
theorem tl_length (f : Nat → Int) (r : Nat) : ∀ d, (tl f r d).length = 8 * d
  | 0 => by simp [tl]
  | d + 1 => by rw [tl_snoc, List.length_append, tl_length f r d]; simp [kb8]; omega
theorem valStr_size (f : Nat → Int) (n : Nat) : (valStr f n).size = 8 * n := by unfold valStr; rw [strOfNums_size]; simp [ints, tl_length]
theorem i64n_get (f : Nat → Nat) {k i : Nat} (h : i < k) : (i64n f k)[i]? = some (.int .i64 (f i : Nat)) := by simp [i64n, h]
theorem ownN_Il {w : World} {B e : Nat} {v : Value} {n : Nat} {f : Nat → Int} {g : Nat → Nat} (hf : ∀ i, f i < 2 ^ 63) (hg : ∀ i, i < n → (g i : Int) = f i) (h : w.ownsRow B e 1 v n (i64n g n)) : ∃ A c, v = .slice A n c ∧ Il w A n f := by
  rcases h.2 with ⟨rfl, rfl⟩ | ⟨b, cap, cur, rfl, hb, hh, r⟩
  · exact ⟨none, 0, rfl, hf, fun h => absurd h (by omega)⟩
  · refine ⟨some ⟨b, 0, none⟩, cap, rfl, hf, fun _ => ⟨b, 0, rfl, lt_of_block hh, fun i hi => ?_⟩⟩
    rw [Nat.zero_add, h.cellAt i (by omega), i64n_get g hi, hg i hi]
/-- the numbers of a text that is made of numbers -/
theorem nums_yes_c (v : ByteArray) (f : Nat → Int) (n : Nat) (w : World) (hn : n ≤ 100) (hv : v.data.toList = u8l (tl f 0 n)) (hf : ∀ i, i < n → 0 ≤ f i) (hm : ∀ i, f i < 2 ^ 63) :
    Calls Try.prog 136 #[.string v] w fun e w' => (∃ A c, e = .returned (.tuple #[.slice A n c, .bool true]) ∧ Il w' A n f) ∧ Below w.heap.size w w' := by
  have hsz : v.size = 8 * n := by
    have : v.data.toList.length = 8 * n := by rw [hv]; simp [u8l, tl_length]
    rw [Array.length_toList] at this
    exact this
  have hch : ∀ i, i < n → (chunk v i : Int) = f i := fun i hi => by rw [chunk_tl hv hi (hm i)]; exact Int.toNat_of_nonneg (hf i hi)
  refine (nums_walk v n w hsz hn).mono fun e w' ⟨h, hw⟩ => ⟨?_, hw⟩
  rcases h with ⟨_, he, ho⟩ | ⟨⟨i, hi, hno⟩, _⟩
  · obtain ⟨A, c, e1, il⟩ := ownN_Il (f := f) hm hch ho
    exact ⟨A, c, by rw [he, e1], il⟩
  · exact absurd (show chunk v i < 2 ^ 63 by have := hch i hi; have := hm i; omega) hno
set_option maxRecDepth 100000 in
set_option maxHeartbeats 1000000 in
theorem ints_walk (A B : Option Addr) (n m c d : Nat) (f g : Nat → Int) (w : World) (ha : Il w A n f) (hb : Il w B m g) (hn : n ≤ 100) (h : n = m ∧ ∀ i, i < n → f i = g i) :
    Calls Try.prog 43 #[.slice A n c, .slice B m d] w fun e w' => e = .returned (.bool true) ∧ Below w.heap.size w w' := by
  obtain ⟨rfl, he⟩ := h
  have hnI : (n : Int) ≤ 100 := by omega
  have He := Lib.hid he
  clear he
  go_enter Try.func43, Try.ntmps43
  go_wp2
  go_loopw [13] (fun i wr => ∃ k : Nat, k ≤ n ∧ i = .int .i64 (k : Nat) ∧ Below w.heap.size w wr) (fun x _ => n - (intOf x).toNat)
  case atStart => exact ⟨0, by omega, rfl, Below.refl _ _⟩
  case round =>
    obtain ⟨k, hk, rfl, hbel⟩ := hrel
    have kI : (k : Int) ≤ n := by omega
    by_cases hlt : k < n
    · obtain ⟨ga, oa, rfl, hga, hxa⟩ := ha.at_ (by omega)
      obtain ⟨gb, ob, rfl, hgb, hxb⟩ := hb.at_ (by omega)
      have q1 : (k : Int) < n := by omega
      have q2 : IntKind.i64.wrap ((k : Int) + 1) = (k : Int) + 1 := IntWalk.i64_in _ (by omega)
      have hfg := He.out k hlt
      have c1 : wr.cell? ⟨ga, oa + k, none⟩ = some (.int .i64 (f k)) := by rw [hbel.cell (p := ⟨ga, oa + k, none⟩) hga]; exact hxa k hlt
      have c2 : wr.cell? ⟨gb, ob + k, none⟩ = some (.int .i64 (f k)) := by rw [hbel.cell (p := ⟨gb, ob + k, none⟩) hgb, hfg]; exact hxb k hlt
      clear ha hb hxa hxb hfg
      go_wp2
      go_region
      all_goals
        go_wp2
        go_roundw
        case rel => exact ⟨k + 1, by omega, by go_num, below_drewN hbel 1⟩
        case measure => simp [intOf]; omega
    · obtain rfl : k = n := by omega
      have q1 : ¬ (k : Int) < k := by omega
      go_wp2
      go_ret
      exact ⟨rfl, hbel⟩
set_option maxRecDepth 100000 in
set_option maxHeartbeats 1000000 in
theorem parse_text_walk (s : ByteArray) (t n : Nat) (f : Nat → Int) (w : World) (hn : n ≤ 100) (h0 : 0 < s.size) (hs0 : (s[0]'h0).toNat = t) (ht : t ≠ 0) (hv : (s.extract 1 s.size).data.toList = u8l (tl f 0 n)) (hf : ∀ i, i < n → 0 ≤ f i) (hm : ∀ i, f i < 2 ^ 63) :
    Calls Try.prog 143 #[.string s] w fun e w' => (∃ A c, e = .returned (.tuple #[.int .i64 (t : Nat), .slice A n c, .bool true]) ∧ Il w' A n f) ∧ Below w.heap.size w w' := by
  have e0 : s.toList.isEmpty = false := by
    have : s.toList.length = s.size := by rw [ByteArray.toList_eq]; simp
    cases h : s.toList with
    | nil => rw [h] at this; simp at this; omega
    | cons a l => rfl
  have b1 : ((t : Int) == 0) = false := by rw [beq_eq_false_iff_ne]; omega
  have b2 : IntKind.i64.wrap (t : Int) = (t : Int) := IntWalk.i64_in _ (by have := UInt8.toNat_lt (s[0]'h0); omega)
  have HN := Lib.hid (fun w => nums_yes_c (s.extract 1 s.size) f n w hn hv hf hm)
  clear hv hf hm ht
  go_enter Try.func143, Try.ntmps143
  go_wp2_with (go_at_call 136; refine (HN.out _).mono ?_; rintro e w1 ⟨⟨A, c, rfl, il⟩, hb1⟩)
  refine bodyPost_ret (v := .tuple #[.int .i64 (t : Nat), .slice A n c, .bool true]) (by simp [results, Try.results143, go_sem]) rfl ⟨⟨A, c, rfl, il⟩, hb1⟩
theorem keyStr_yes {t : Nat} {f : Nat → Int} {n : Nat} (h1 : 1 ≤ t) (h2 : t ≤ 255) (hf : ∀ i, i < n → 0 ≤ f i) : keyStr t f n = strOfNums (ints (t :: tl f 0 n)) := by
  unfold keyStr
  rw [if_pos ⟨by omega, by omega, hf⟩, Int.toNat_natCast, kbs_tl]
theorem parse_key_c (t : Nat) (f : Nat → Int) (n : Nat) (w : World) (h1 : 1 ≤ t) (h2 : t ≤ 255) (hn : n ≤ 100) (hf : ∀ i, i < n → 0 ≤ f i) (hm : ∀ i, f i < 2 ^ 63) :
    Calls Try.prog 143 #[.string (keyStr t f n)] w fun e w' => (∃ A c, e = .returned (.tuple #[.int .i64 (t : Nat), .slice A n c, .bool true]) ∧ Il w' A n f) ∧ Below w.heap.size w w' := by
  have hk := keyStr_yes h1 h2 hf
  have hsz : (keyStr t f n).size = 8 * n + 1 := by rw [hk, strOfNums_size]; simp [ints, tl_length]
  have hl : (keyStr t f n).data.toList = UInt8.ofNat t :: u8l (tl f 0 n) := by rw [hk, strOfNums_data]; simp [u8l, ints]
  refine parse_text_walk (keyStr t f n) t n f w hn (by omega) ?_ (by omega) ?_ hf hm
  · have e : (keyStr t f n)[0] = UInt8.ofNat t := by
      have h3 : (keyStr t f n).data.toList[0]? = some (UInt8.ofNat t) := by rw [hl]; rfl
      have h4 : (keyStr t f n).data[0]? = some (UInt8.ofNat t) := by rw [← Array.getElem?_toList]; exact h3
      have h5 := Array.getElem?_eq_some_iff.1 h4
      exact h5.2
    rw [e, UInt8.toNat_ofNat']
    exact Nat.mod_eq_of_lt (by omega)
  · have h3 : ((keyStr t f n).extract 1 (keyStr t f n).size).data.toList = (keyStr t f n).data.toList.drop 1 := by
      rw [ByteArray.data_extract, Array.toList_extract]
      simp only [List.extract_eq_take_drop]
      refine List.take_of_length_le ?_
      rw [List.length_drop, Array.length_toList]
      exact Nat.le_refl _
    rw [h3, hl]; rfl
end Go.Proofs.Ytjpikgfplfgcfaa

namespace Go.Proofs.Ytjpikgfplfgcfaa
open Go.RowKit

def s64 (x y c : Nat) : Nat := (x + y + c) % 18446744073709551616
def c64 (x y c : Nat) : Nat := (x + y + c) / 18446744073709551616
theorem s64_lt (x y c : Nat) : s64 x y c < 2 ^ 64 := by unfold s64; omega
theorem c64_le {x y c : Nat} (hx : x < 2 ^ 64) (hy : y < 2 ^ 64) (hc : c ≤ 1) : c64 x y c ≤ 1 := by unfold c64; omega
theorem sc64 (x y c : Nat) : s64 x y c + c64 x y c * 2 ^ 64 = x + y + c := by unfold s64 c64; omega

/-- what Add comes to -/
def AddPost (a b : Nat) (w : World) (e : Ending) (w' : World) : Prop :=
  e = .returned (.tuple #[U (if a + b < 2 ^ 256 then a + b else 0), .bool (decide (a + b < 2 ^ 256))]) ∧ Below w.heap.size w w'
theorem addPost_yes {a b : Nat} {w w' : World} {e : Ending} (h : a + b < 2 ^ 256) (he : e = .returned (.tuple #[U (a + b), .bool true])) (hw : Below w.heap.size w w') : AddPost a b w e w' := by
  unfold AddPost; rw [if_pos h, decide_eq_true h]; exact ⟨he, hw⟩
theorem addPost_no {a b : Nat} {w w' : World} {e : Ending} (h : ¬ a + b < 2 ^ 256) (he : e = .returned (.tuple #[U 0, .bool false])) (hw : Below w.heap.size w w') : AddPost a b w e w' := by
  unfold AddPost; rw [if_neg h, decide_eq_false h]; exact ⟨he, hw⟩
/-- the state at the head of Add's loop -/
def AddRel (a b : Nat) (w : World) (c i : Value) (wr : World) : Prop :=
  ∃ (k d : Nat) (f : Nat → Nat), k ≤ 4 ∧ i = .int .i64 (k : Nat) ∧ c = .int .u64 (d : Nat) ∧ d ≤ 1 ∧ (∀ j, f j < 2 ^ 64) ∧
    val f k + d * 2 ^ (64 * k) = val (limb a) k + val (limb b) k ∧
    Arr .u64 wr w.heap.size 4 (limb a) ∧ Arr .u64 wr (w.heap.size + 1) 4 (limb b) ∧ Arr .u64 wr (w.heap.size + 1 + 1) 4 (fun _ => 0) ∧ Arr .u64 wr (w.heap.size + 1 + 1 + 1) 4 f ∧
    Below w.heap.size w wr ∧ w.heap.size + 1 + 1 + 1 < wr.heap.size

end Go.Proofs.Ytjpikgfplfgcfaa

namespace Go.Proofs.Ytjpikgfplfgcfaa
open Go.RowKit

def mh (x y : Nat) : Nat := x * y / 18446744073709551616
def ml (x y : Nat) : Nat := x * y % 18446744073709551616
theorem ml_lt (x y : Nat) : ml x y < 2 ^ 64 := Nat.mod_lt _ (by decide)
theorem mh_le {x y : Nat} (hx : x < 2 ^ 64) (hy : y < 2 ^ 64) : mh x y + 2 ≤ 2 ^ 64 := by
  unfold mh
  have h1 : x * y ≤ (2 ^ 64 - 1) * (2 ^ 64 - 1) := Nat.mul_le_mul (by omega) (by omega)
  have h2 : x * y / 18446744073709551616 ≤ (2 ^ 64 - 1) * (2 ^ 64 - 1) / 18446744073709551616 := Nat.div_le_div_right h1
  have h3 : (2 ^ 64 - 1) * (2 ^ 64 - 1) / 18446744073709551616 = 18446744073709551614 := by decide
  omega
theorem mhl (x y : Nat) : mh x y * 2 ^ 64 + ml x y = x * y := by unfold mh ml; omega

theorem mul_step {x y d g : Nat} (hx : x < 2 ^ 64) (hy : y < 2 ^ 64) (hd : d < 2 ^ 64) (hg : g < 2 ^ 64) :
    mh x y + c64 (ml x y) d 0 + c64 g (s64 (ml x y) d 0) 0 < 2 ^ 64 ∧
    (mh x y + c64 (ml x y) d 0 + c64 g (s64 (ml x y) d 0) 0) * 2 ^ 64 + s64 g (s64 (ml x y) d 0) 0 = g + x * y + d := by
  have h1 := mhl x y
  have h2 := sc64 (ml x y) d 0
  have h3 := sc64 g (s64 (ml x y) d 0) 0
  have h4 : x * y ≤ (2 ^ 64 - 1) * (2 ^ 64 - 1) := Nat.mul_le_mul (by omega) (by omega)
  generalize s64 (ml x y) d 0 = s1 at *
  generalize s64 g s1 0 = s at *
  generalize c64 (ml x y) d 0 = c1 at *
  generalize c64 g s1 0 = c2 at *
  generalize x * y = xy at *
  omega
theorem mul_inner_math {x y d g s D v v' V0 vb P Q R M : Nat} (hv : v' + g * P = v + s * P) (h : v + d * P = V0 + x * vb * Q) (hs : D * M + s = g + x * y + d) (hP : P = R * Q) :
    v' + D * (M * P) = V0 + x * (vb + y * R) * Q := by
  have h1 := congrArg (· * P) hs
  simp only [Nat.add_mul, Nat.mul_assoc] at h1
  have e : x * (vb + y * R) * Q = x * vb * Q + x * (y * P) := by rw [hP, Nat.mul_add, Nat.add_mul, Nat.mul_assoc, Nat.mul_assoc, Nat.mul_assoc]
  rw [e, ← Nat.mul_assoc D]
  have e2 : D * M * P = D * (M * P) := Nat.mul_assoc _ _ _
  omega
theorem mul_outer_math {x d v v' V0 A b P Q : Nat} (hv : v' + 0 * P = v + d * P) (h : v + d * P = V0 + x * b * Q) (hV : V0 = A * b) : v' = (A + x * Q) * b := by
  have e : (A + x * Q) * b = A * b + x * b * Q := by rw [Nat.add_mul, Nat.mul_assoc, Nat.mul_assoc, Nat.mul_comm Q b]
  omega
theorem wrap_u64 {n : Nat} (h : n < 2 ^ 64) : IntKind.u64.wrap (n : Int) = (n : Int) := IntWalk.u64_in _ (by omega)
/-- the state at the head of Mul's outer loop -/
def MulOut (a b : Nat) (w : World) (i : Value) (wr : World) : Prop :=
  ∃ (k : Nat) (f : Nat → Nat), k ≤ 4 ∧ i = .int .i64 (k : Nat) ∧ (∀ j, f j < 2 ^ 64) ∧ (∀ j, k + 4 ≤ j → f j = 0) ∧ val f 8 = val (limb a) k * b ∧
    Arr .u64 wr w.heap.size 4 (limb a) ∧ Arr .u64 wr (w.heap.size + 1) 4 (limb b) ∧ Arr .u64 wr (w.heap.size + 1 + 1) 4 (fun _ => 0) ∧ Arr .u64 wr (w.heap.size + 1 + 1 + 1) 8 f ∧
    Below w.heap.size w wr ∧ w.heap.size + 1 + 1 + 1 < wr.heap.size
/-- the state at the head of its inner loop -/
def MulIn (a b : Nat) (w : World) (k V0 : Nat) (c i : Value) (wr : World) : Prop :=
  ∃ (j d : Nat) (f : Nat → Nat), j ≤ 4 ∧ i = .int .i64 (j : Nat) ∧ c = .int .u64 (d : Nat) ∧ d < 2 ^ 64 ∧ (∀ j, f j < 2 ^ 64) ∧ (∀ j, k + 4 ≤ j → f j = 0) ∧
    val f 8 + d * 2 ^ (64 * (k + j)) = V0 + limb a k * val (limb b) j * 2 ^ (64 * k) ∧
    Arr .u64 wr w.heap.size 4 (limb a) ∧ Arr .u64 wr (w.heap.size + 1) 4 (limb b) ∧ Arr .u64 wr (w.heap.size + 1 + 1) 4 (fun _ => 0) ∧ Arr .u64 wr (w.heap.size + 1 + 1 + 1) 8 f ∧
    Below w.heap.size w wr ∧ w.heap.size + 1 + 1 + 1 < wr.heap.size

def MulPost (a b : Nat) (w : World) (e : Ending) (w' : World) : Prop :=
  e = .returned (.tuple #[U (if a * b < 2 ^ 256 then a * b else 0), .bool (decide (a * b < 2 ^ 256))]) ∧ Below w.heap.size w w'

theorem mulPost_yes {a b : Nat} {w w' : World} {e : Ending} (h : a * b < 2 ^ 256) (he : e = .returned (.tuple #[U (a * b), .bool true])) (hw : Below w.heap.size w w') : MulPost a b w e w' := by
  unfold MulPost; rw [if_pos h, decide_eq_true h]; exact ⟨he, hw⟩
theorem mulPost_no {a b : Nat} {w w' : World} {e : Ending} (h : ¬ a * b < 2 ^ 256) (he : e = .returned (.tuple #[U 0, .bool false])) (hw : Below w.heap.size w w') : MulPost a b w e w' := by
  unfold MulPost; rw [if_neg h, decide_eq_false h]; exact ⟨he, hw⟩

end Go.Proofs.Ytjpikgfplfgcfaa
