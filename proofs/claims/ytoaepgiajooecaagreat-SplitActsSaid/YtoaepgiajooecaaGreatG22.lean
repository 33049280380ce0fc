/- tallagelaw09.lives, walked. -/
import Derived.Test.YtoaepgiajooecaaGreatG01
import Derived.Test.YtoaepgiajooecaaGreatG21
import Derived.Test.YtoaepgiajooecaaGreatProg
import Derived.Test.YtoaepgiajooecaaGreatG00
import Derived.Laws.Externs
import Derived.Lib.Hide
namespace Go.Proofs.YtoaepgiajooecaaGreat
open Go.RowKit

theorem keyStr12 : keyStr 1 (fun _ => 2) 1 = ⟨#[1, 0, 0, 0, 0, 0, 0, 0, 2]⟩ := by
  unfold keyStr
  rw [if_pos ⟨by decide, by decide, fun _ _ => by show (0 : Int) ≤ 2; decide⟩]
  decide +kernel
theorem key12_c (w : World) (g : Nat) (hg : g < w.heap.size) (hc : w.cell? ⟨g, 0, none⟩ = some (.int .i64 2)) : Calls Tryz.prog 39 #[.int .i64 1, .slice (some ⟨g, 0, none⟩) 1 1] w fun e w' => e = .returned (.string ⟨#[1, 0, 0, 0, 0, 0, 0, 0, 2]⟩) ∧ Below w.heap.size w w' := by
  have h := key_walk 1 (some ⟨g, 0, none⟩) 1 1 (fun _ => 2) w ⟨fun _ => by show (2 : Int) < 2 ^ 63; decide, fun _ => ⟨g, 0, rfl, hg, fun i hi => by rw [show i = 0 by omega]; exact hc⟩⟩ (by decide)
  exact h.mono fun e w' ⟨he, hw⟩ => ⟨by rw [he, keyStr12], hw⟩

end Go.Proofs.YtoaepgiajooecaaGreat

namespace Go.Proofs.YtoaepgiajooecaaGreat
open Go.RowKit

/-- the text of numbers, one behind the other -/
def valStr (f : Nat → Int) (n : Nat) : ByteArray := strOfNums (ints (tl f 0 n))
theorem valStr_list (f : Nat → Int) (n : Nat) : (valStr f n).data.toList = u8l (tl f 0 n) := by
  unfold valStr
  rw [strOfNums_data]
  simp [u8l, ints]
theorem tl_length (f : Nat → Int) (r : Nat) : ∀ d, (tl f r d).length = 8 * d
  | 0 => by simp [tl]
  | d + 1 => by rw [tl_snoc, List.length_append, tl_length f r d]; simp [kb8]; omega
theorem valStr_size (f : Nat → Int) (n : Nat) : (valStr f n).size = 8 * n := by unfold valStr; rw [strOfNums_size]; simp [ints, tl_length]
theorem i64n_get (f : Nat → Nat) {k i : Nat} (h : i < k) : (i64n f k)[i]? = some (.int .i64 (f i : Nat)) := by simp [i64n, h]
theorem ownN_Il {w : World} {B e : Nat} {v : Value} {n : Nat} {f : Nat → Int} {g : Nat → Nat} (hf : ∀ i, f i < 2 ^ 63) (hg : ∀ i, i < n → (g i : Int) = f i) (h : w.ownsRow B e 1 v n (i64n g n)) : ∃ A c, v = .slice A n c ∧ Il w A n f := by
  rcases h.2 with ⟨rfl, rfl⟩ | ⟨b, cap, cur, rfl, hb, hh, r⟩
  · exact ⟨none, 0, rfl, hf, fun h => absurd h (by omega)⟩
  · refine ⟨some ⟨b, 0, none⟩, cap, rfl, hf, fun _ => ⟨b, 0, rfl, lt_of_block hh, fun i hi => ?_⟩⟩
    rw [Nat.zero_add, h.cellAt i (by omega), i64n_get g hi, hg i hi]
/-- the numbers of a text that is made of numbers -/
theorem nums_yes_c (v : ByteArray) (f : Nat → Int) (n : Nat) (w : World) (hn : n ≤ 100) (hv : v.data.toList = u8l (tl f 0 n)) (hf : ∀ i, i < n → 0 ≤ f i) (hm : ∀ i, f i < 2 ^ 63) :
    Calls Tryz.prog 92 #[.string v] w fun e w' => (∃ A c, e = .returned (.tuple #[.slice A n c, .bool true]) ∧ Il w' A n f) ∧ Below w.heap.size w w' := by
  have hsz : v.size = 8 * n := by
    have : v.data.toList.length = 8 * n := by rw [hv]; simp [u8l, tl_length]
    rw [Array.length_toList] at this
    exact this
  have hch : ∀ i, i < n → (chunk v i : Int) = f i := fun i hi => by rw [chunk_tl hv hi (hm i)]; exact Int.toNat_of_nonneg (hf i hi)
  refine (nums_walk v n w hsz hn).mono fun e w' ⟨h, hw⟩ => ⟨?_, hw⟩
  rcases h with ⟨_, he, ho⟩ | ⟨⟨i, hi, hno⟩, _⟩
  · obtain ⟨A, c, e1, il⟩ := ownN_Il (f := f) hm hch ho
    exact ⟨A, c, by rw [he, e1], il⟩
  · exact absurd (show chunk v i < 2 ^ 63 by have := hch i hi; have := hm i; omega) hno
theorem keyStr_yes {t : Nat} {f : Nat → Int} {n : Nat} (h1 : 1 ≤ t) (h2 : t ≤ 255) (hf : ∀ i, i < n → 0 ≤ f i) : keyStr t f n = strOfNums (ints (t :: tl f 0 n)) := by
  unfold keyStr
  rw [if_pos ⟨by omega, by omega, hf⟩, Int.toNat_natCast, kbs_tl]
end Go.Proofs.YtoaepgiajooecaaGreat

namespace Go.Proofs.YtoaepgiajooecaaGreat
open Go.RowKit

def s64 (x y c : Nat) : Nat := (x + y + c) % 18446744073709551616
def c64 (x y c : Nat) : Nat := (x + y + c) / 18446744073709551616
theorem run_add64n (x y c : Nat) (hc : c ≤ 1) (w : World) :
    (callFunc 102 #[.int .u64 (x : Nat), .int .u64 (y : Nat), .int .u64 (c : Nat)]).run Tryz.prog w =
      .ok (.value (.tuple #[.int .u64 (s64 x y c : Nat), .int .u64 (c64 x y c : Nat)])) w := by
  rw [run_callFunc_extern (fn := Tryz.f102) (by kernel_rfl) (by kernel_rfl) (by kernel_rfl) (by kernel_rfl) (e := add64Entry) (by kernel_rfl), Go.run_add64 x y c (by omega) (by omega) (by omega) (by omega)]
  simp only [Result.andThen, s64, c64]
  congr 5 <;> omega
theorem s64_lt (x y c : Nat) : s64 x y c < 2 ^ 64 := by unfold s64; omega
theorem c64_le {x y c : Nat} (hx : x < 2 ^ 64) (hy : y < 2 ^ 64) (hc : c ≤ 1) : c64 x y c ≤ 1 := by unfold c64; omega
theorem sc64 (x y c : Nat) : s64 x y c + c64 x y c * 2 ^ 64 = x + y + c := by unfold s64 c64; omega

/-- what Add comes to -/
def AddPost (a b : Nat) (w : World) (e : Ending) (w' : World) : Prop :=
  e = .returned (.tuple #[U (if a + b < 2 ^ 256 then a + b else 0), .bool (decide (a + b < 2 ^ 256))]) ∧ Below w.heap.size w w'
theorem addPost_yes {a b : Nat} {w w' : World} {e : Ending} (h : a + b < 2 ^ 256) (he : e = .returned (.tuple #[U (a + b), .bool true])) (hw : Below w.heap.size w w') : AddPost a b w e w' := by
  unfold AddPost; rw [if_pos h, decide_eq_true h]; exact ⟨he, hw⟩
theorem addPost_no {a b : Nat} {w w' : World} {e : Ending} (h : ¬ a + b < 2 ^ 256) (he : e = .returned (.tuple #[U 0, .bool false])) (hw : Below w.heap.size w w') : AddPost a b w e w' := by
  unfold AddPost; rw [if_neg h, decide_eq_false h]; exact ⟨he, hw⟩
/-- the state at the head of Add's loop -/
def AddRel (a b : Nat) (w : World) (c i : Value) (wr : World) : Prop :=
  ∃ (k d : Nat) (f : Nat → Nat), k ≤ 4 ∧ i = .int .i64 (k : Nat) ∧ c = .int .u64 (d : Nat) ∧ d ≤ 1 ∧ (∀ j, f j < 2 ^ 64) ∧
    val f k + d * 2 ^ (64 * k) = val (limb a) k + val (limb b) k ∧
    Arr .u64 wr w.heap.size 4 (limb a) ∧ Arr .u64 wr (w.heap.size + 1) 4 (limb b) ∧ Arr .u64 wr (w.heap.size + 1 + 1) 4 (fun _ => 0) ∧ Arr .u64 wr (w.heap.size + 1 + 1 + 1) 4 f ∧
    Below w.heap.size w wr ∧ w.heap.size + 1 + 1 + 1 < wr.heap.size

end Go.Proofs.YtoaepgiajooecaaGreat
