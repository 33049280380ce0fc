/- tallagelaw09.lives, walked. -/
import Derived.Test.YtffipojlpdphiaaG01
import Derived.Test.YtffipojlpdphiaaG21
import Derived.Test.YtffipojlpdphiaaProg
import Derived.Test.YtffipojlpdphiaaG00
import Derived.Laws.Externs
import Derived.Lib.Hide
namespace Go.Proofs.Ytffipojlpdphiaa
open Go.RowKit

set_option maxRecDepth 100000 in
theorem parse9_walk (w : World) : Calls Try.prog 127 #[.string ⟨#[0, 0, 0, 0, 0, 0, 0, 0, 0]⟩] w fun e w' => e = .returned (.tuple #[.int .i64 0, .slice none 0 0, .bool false]) ∧ Below w.heap.size w w' := by
  go_enter Try.func127, Try.ntmps127
  go_wp2
  refine bodyPost_ret (v := .tuple #[.int .i64 0, .slice none 0 0, .bool false]) (by simp [results, Try.results127, go_sem]) rfl ⟨rfl, Below.refl _ _⟩
theorem keyStr12 : keyStr 1 (fun _ => 2) 1 = ⟨#[1, 0, 0, 0, 0, 0, 0, 0, 2]⟩ := by
  unfold keyStr
  rw [if_pos ⟨by decide, by decide, fun _ _ => by show (0 : Int) ≤ 2; decide⟩]
  decide +kernel
theorem key12_c (w : World) (g : Nat) (hg : g < w.heap.size) (hc : w.cell? ⟨g, 0, none⟩ = some (.int .i64 2)) : Calls Try.prog 72 #[.int .i64 1, .slice (some ⟨g, 0, none⟩) 1 1] w fun e w' => e = .returned (.string ⟨#[1, 0, 0, 0, 0, 0, 0, 0, 2]⟩) ∧ Below w.heap.size w w' := by
  have h := key_walk 1 (some ⟨g, 0, none⟩) 1 1 (fun _ => 2) w ⟨fun _ => by show (2 : Int) < 2 ^ 63; decide, fun _ => ⟨g, 0, rfl, hg, fun i hi => by rw [show i = 0 by omega]; exact hc⟩⟩ (by decide)
  exact h.mono fun e w' ⟨he, hw⟩ => ⟨by rw [he, keyStr12], hw⟩

end Go.Proofs.Ytffipojlpdphiaa

namespace Go.Proofs.Ytffipojlpdphiaa
open Go.RowKit

/-- the text of numbers, one behind the other -/
def valStr (f : Nat → Int) (n : Nat) : ByteArray := strOfNums (ints (tl f 0 n))
theorem valStr_list (f : Nat → Int) (n : Nat) : (valStr f n).data.toList = u8l (tl f 0 n) := by
  unfold valStr
  rw [strOfNums_data]
  simp [u8l, ints]
theorem tl_length (f : Nat → Int) (r : Nat) : ∀ d, (tl f r d).length = 8 * d
  | 0 => by simp [tl]
  | d + 1 => by rw [tl_snoc, List.length_append, tl_length f r d]; simp [kb8]; omega
theorem valStr_size (f : Nat → Int) (n : Nat) : (valStr f n).size = 8 * n := by unfold valStr; rw [strOfNums_size]; simp [ints, tl_length]
theorem i64n_get (f : Nat → Nat) {k i : Nat} (h : i < k) : (i64n f k)[i]? = some (.int .i64 (f i : Nat)) := by simp [i64n, h]
theorem ownN_Il {w : World} {B e : Nat} {v : Value} {n : Nat} {f : Nat → Int} {g : Nat → Nat} (hf : ∀ i, f i < 2 ^ 63) (hg : ∀ i, i < n → (g i : Int) = f i) (h : w.ownsRow B e 1 v n (i64n g n)) : ∃ A c, v = .slice A n c ∧ Il w A n f := by
  rcases h.2 with ⟨rfl, rfl⟩ | ⟨b, cap, cur, rfl, hb, hh, r⟩
  · exact ⟨none, 0, rfl, hf, fun h => absurd h (by omega)⟩
  · refine ⟨some ⟨b, 0, none⟩, cap, rfl, hf, fun _ => ⟨b, 0, rfl, lt_of_block hh, fun i hi => ?_⟩⟩
    rw [Nat.zero_add, h.cellAt i (by omega), i64n_get g hi, hg i hi]
/-- the numbers of a text that is made of numbers -/
theorem nums_yes_c (v : ByteArray) (f : Nat → Int) (n : Nat) (w : World) (hn : n ≤ 100) (hv : v.data.toList = u8l (tl f 0 n)) (hf : ∀ i, i < n → 0 ≤ f i) (hm : ∀ i, f i < 2 ^ 63) :
    Calls Try.prog 129 #[.string v] w fun e w' => (∃ A c, e = .returned (.tuple #[.slice A n c, .bool true]) ∧ Il w' A n f) ∧ Below w.heap.size w w' := by
  have hsz : v.size = 8 * n := by
    have : v.data.toList.length = 8 * n := by rw [hv]; simp [u8l, tl_length]
    rw [Array.length_toList] at this
    exact this
  have hch : ∀ i, i < n → (chunk v i : Int) = f i := fun i hi => by rw [chunk_tl hv hi (hm i)]; exact Int.toNat_of_nonneg (hf i hi)
  refine (nums_walk v n w hsz hn).mono fun e w' ⟨h, hw⟩ => ⟨?_, hw⟩
  rcases h with ⟨_, he, ho⟩ | ⟨⟨i, hi, hno⟩, _⟩
  · obtain ⟨A, c, e1, il⟩ := ownN_Il (f := f) hm hch ho
    exact ⟨A, c, by rw [he, e1], il⟩
  · exact absurd (show chunk v i < 2 ^ 63 by have := hch i hi; have := hm i; omega) hno
set_option maxRecDepth 100000 in
set_option maxHeartbeats 1000000 in
theorem ints_walk (A B : Option Addr) (n m c d : Nat) (f g : Nat → Int) (w : World) (ha : Il w A n f) (hb : Il w B m g) (hn : n ≤ 100) (h : n = m ∧ ∀ i, i < n → f i = g i) :
    Calls Try.prog 37 #[.slice A n c, .slice B m d] w fun e w' => e = .returned (.bool true) ∧ Below w.heap.size w w' := by
  obtain ⟨rfl, he⟩ := h
  have hnI : (n : Int) ≤ 100 := by omega
  have He := Lib.hid he
  clear he
  go_enter Try.func37, Try.ntmps37
  go_wp2
  go_loopw [13] (fun i wr => ∃ k : Nat, k ≤ n ∧ i = .int .i64 (k : Nat) ∧ Below w.heap.size w wr) (fun x _ => n - (intOf x).toNat)
  case atStart => exact ⟨0, by omega, rfl, Below.refl _ _⟩
  case round =>
    obtain ⟨k, hk, rfl, hbel⟩ := hrel
    have kI : (k : Int) ≤ n := by omega
    by_cases hlt : k < n
    · obtain ⟨ga, oa, rfl, hga, hxa⟩ := ha.at_ (by omega)
      obtain ⟨gb, ob, rfl, hgb, hxb⟩ := hb.at_ (by omega)
      have q1 : (k : Int) < n := by omega
      have q2 : IntKind.i64.wrap ((k : Int) + 1) = (k : Int) + 1 := IntWalk.i64_in _ (by omega)
      have hfg := He.out k hlt
      have c1 : wr.cell? ⟨ga, oa + k, none⟩ = some (.int .i64 (f k)) := by rw [hbel.cell (p := ⟨ga, oa + k, none⟩) hga]; exact hxa k hlt
      have c2 : wr.cell? ⟨gb, ob + k, none⟩ = some (.int .i64 (f k)) := by rw [hbel.cell (p := ⟨gb, ob + k, none⟩) hgb, hfg]; exact hxb k hlt
      clear ha hb hxa hxb hfg
      go_wp2
      go_region
      all_goals
        go_wp2
        go_roundw
        case rel => exact ⟨k + 1, by omega, by go_num, below_drewN hbel 1⟩
        case measure => simp [intOf]; omega
    · obtain rfl : k = n := by omega
      have q1 : ¬ (k : Int) < k := by omega
      go_wp2
      go_ret
      exact ⟨rfl, hbel⟩
set_option maxRecDepth 100000 in
set_option maxHeartbeats 1000000 in
theorem parse_text_walk (s : ByteArray) (t n : Nat) (f : Nat → Int) (w : World) (hn : n ≤ 100) (h0 : 0 < s.size) (hs0 : (s[0]'h0).toNat = t) (ht : t ≠ 0) (hv : (s.extract 1 s.size).data.toList = u8l (tl f 0 n)) (hf : ∀ i, i < n → 0 ≤ f i) (hm : ∀ i, f i < 2 ^ 63) :
    Calls Try.prog 127 #[.string s] w fun e w' => (∃ A c, e = .returned (.tuple #[.int .i64 (t : Nat), .slice A n c, .bool true]) ∧ Il w' A n f) ∧ Below w.heap.size w w' := by
  have e0 : s.toList.isEmpty = false := by
    have : s.toList.length = s.size := by rw [ByteArray.toList_eq]; simp
    cases h : s.toList with
    | nil => rw [h] at this; simp at this; omega
    | cons a l => rfl
  have b1 : ((t : Int) == 0) = false := by rw [beq_eq_false_iff_ne]; omega
  have b2 : IntKind.i64.wrap (t : Int) = (t : Int) := IntWalk.i64_in _ (by have := UInt8.toNat_lt (s[0]'h0); omega)
  have HN := Lib.hid (fun w => nums_yes_c (s.extract 1 s.size) f n w hn hv hf hm)
  clear hv hf hm ht
  go_enter Try.func127, Try.ntmps127
  go_wp2_with (go_at_call 129; refine (HN.out _).mono ?_; rintro e w1 ⟨⟨A, c, rfl, il⟩, hb1⟩)
  refine bodyPost_ret (v := .tuple #[.int .i64 (t : Nat), .slice A n c, .bool true]) (by simp [results, Try.results127, go_sem]) rfl ⟨⟨A, c, rfl, il⟩, hb1⟩
theorem keyStr_yes {t : Nat} {f : Nat → Int} {n : Nat} (h1 : 1 ≤ t) (h2 : t ≤ 255) (hf : ∀ i, i < n → 0 ≤ f i) : keyStr t f n = strOfNums (ints (t :: tl f 0 n)) := by
  unfold keyStr
  rw [if_pos ⟨by omega, by omega, hf⟩, Int.toNat_natCast, kbs_tl]
theorem parse_key_c (t : Nat) (f : Nat → Int) (n : Nat) (w : World) (h1 : 1 ≤ t) (h2 : t ≤ 255) (hn : n ≤ 100) (hf : ∀ i, i < n → 0 ≤ f i) (hm : ∀ i, f i < 2 ^ 63) :
    Calls Try.prog 127 #[.string (keyStr t f n)] w fun e w' => (∃ A c, e = .returned (.tuple #[.int .i64 (t : Nat), .slice A n c, .bool true]) ∧ Il w' A n f) ∧ Below w.heap.size w w' := by
  have hk := keyStr_yes h1 h2 hf
  have hsz : (keyStr t f n).size = 8 * n + 1 := by rw [hk, strOfNums_size]; simp [ints, tl_length]
  have hl : (keyStr t f n).data.toList = UInt8.ofNat t :: u8l (tl f 0 n) := by rw [hk, strOfNums_data]; simp [u8l, ints]
  refine parse_text_walk (keyStr t f n) t n f w hn (by omega) ?_ (by omega) ?_ hf hm
  · have e : (keyStr t f n)[0] = UInt8.ofNat t := by
      have h3 : (keyStr t f n).data.toList[0]? = some (UInt8.ofNat t) := by rw [hl]; rfl
      have h4 : (keyStr t f n).data[0]? = some (UInt8.ofNat t) := by rw [← Array.getElem?_toList]; exact h3
      have h5 := Array.getElem?_eq_some_iff.1 h4
      exact h5.2
    rw [e, UInt8.toNat_ofNat']
    exact Nat.mod_eq_of_lt (by omega)
  · have h3 : ((keyStr t f n).extract 1 (keyStr t f n).size).data.toList = (keyStr t f n).data.toList.drop 1 := by
      rw [ByteArray.data_extract, Array.toList_extract]
      simp only [List.extract_eq_take_drop]
      refine List.take_of_length_le ?_
      rw [List.length_drop, Array.length_toList]
      exact Nat.le_refl _
    rw [h3, hl]; rfl
end Go.Proofs.Ytffipojlpdphiaa

namespace Go.Proofs.Ytffipojlpdphiaa
open Go.RowKit

def s64 (x y c : Nat) : Nat := (x + y + c) % 18446744073709551616
def c64 (x y c : Nat) : Nat := (x + y + c) / 18446744073709551616
theorem run_add64n (x y c : Nat) (hc : c ≤ 1) (w : World) :
    (callFunc 155 #[.int .u64 (x : Nat), .int .u64 (y : Nat), .int .u64 (c : Nat)]).run Try.prog w =
      .ok (.value (.tuple #[.int .u64 (s64 x y c : Nat), .int .u64 (c64 x y c : Nat)])) w := by
  rw [run_callFunc_extern (fn := Try.f155) (by kernel_rfl) (by kernel_rfl) (by kernel_rfl) (by kernel_rfl) (e := add64Entry) (by kernel_rfl), Go.run_add64 x y c (by omega) (by omega) (by omega) (by omega)]
  simp only [Result.andThen, s64, c64]
  congr 5 <;> omega
theorem s64_lt (x y c : Nat) : s64 x y c < 2 ^ 64 := by unfold s64; omega
theorem c64_le {x y c : Nat} (hx : x < 2 ^ 64) (hy : y < 2 ^ 64) (hc : c ≤ 1) : c64 x y c ≤ 1 := by unfold c64; omega
theorem sc64 (x y c : Nat) : s64 x y c + c64 x y c * 2 ^ 64 = x + y + c := by unfold s64 c64; omega

/-- what Add comes to -/
def AddPost (a b : Nat) (w : World) (e : Ending) (w' : World) : Prop :=
  e = .returned (.tuple #[U (if a + b < 2 ^ 256 then a + b else 0), .bool (decide (a + b < 2 ^ 256))]) ∧ Below w.heap.size w w'
theorem addPost_yes {a b : Nat} {w w' : World} {e : Ending} (h : a + b < 2 ^ 256) (he : e = .returned (.tuple #[U (a + b), .bool true])) (hw : Below w.heap.size w w') : AddPost a b w e w' := by
  unfold AddPost; rw [if_pos h, decide_eq_true h]; exact ⟨he, hw⟩
theorem addPost_no {a b : Nat} {w w' : World} {e : Ending} (h : ¬ a + b < 2 ^ 256) (he : e = .returned (.tuple #[U 0, .bool false])) (hw : Below w.heap.size w w') : AddPost a b w e w' := by
  unfold AddPost; rw [if_neg h, decide_eq_false h]; exact ⟨he, hw⟩
/-- the state at the head of Add's loop -/
def AddRel (a b : Nat) (w : World) (c i : Value) (wr : World) : Prop :=
  ∃ (k d : Nat) (f : Nat → Nat), k ≤ 4 ∧ i = .int .i64 (k : Nat) ∧ c = .int .u64 (d : Nat) ∧ d ≤ 1 ∧ (∀ j, f j < 2 ^ 64) ∧
    val f k + d * 2 ^ (64 * k) = val (limb a) k + val (limb b) k ∧
    Arr .u64 wr w.heap.size 4 (limb a) ∧ Arr .u64 wr (w.heap.size + 1) 4 (limb b) ∧ Arr .u64 wr (w.heap.size + 1 + 1) 4 (fun _ => 0) ∧ Arr .u64 wr (w.heap.size + 1 + 1 + 1) 4 f ∧
    Below w.heap.size w wr ∧ w.heap.size + 1 + 1 + 1 < wr.heap.size

set_option maxRecDepth 100000 in
set_option maxHeartbeats 1000000 in
theorem add_walk (a b : Nat) (w : World) (hal : a < 2 ^ 256) (hbl : b < 2 ^ 256) :
    Calls Try.prog 94 #[U a, U b] w (AddPost a b w) := by
  have hadd := run_add64n
  unfold U
  go_enter Try.func94, Try.ntmps94
  go_wp2
  go_loopw [7, 9] (AddRel a b w) (fun _ i _ => 4 - (intOf i).toNat)
  case atStart =>
    refine ⟨0, 0, fun _ => 0, by omega, rfl, rfl, by omega, by simp, by simp [val], ?_, ?_, ?_, ?_, ?_, ?_⟩
    · exact (((Arr.new4 (f := limb a) rfl).alloc _).alloc _).alloc _
    · exact ((Arr.new4 (f := limb b) (by simp)).alloc _).alloc _
    · exact (Arr.new4 (f := fun _ => 0) (by simp)).alloc _
    · exact Arr.new4 (f := fun _ => 0) (by simp)
    · exact ((((Below.refl _ _).alloc (Nat.le_refl _) _).alloc (by simp only [World.size_alloc]; omega) _).alloc (by simp only [World.size_alloc]; omega) _).alloc (by simp only [World.size_alloc]; omega) _
    · simp
  case round =>
    obtain ⟨k, d, f, hk, rfl, rfl, hd, hf, hv, ha, hb, hz, hs, hbel, hsz⟩ := hrel
    by_cases hlt : k < 4
    · have a1 := ha.cell k hlt
      have b1 := hb.cell k hlt
      have f1 := hs.free k hlt
      have f2 := hs.cell k hlt
      go_wp2
      go_region_with (fail)
      all_goals
        go_wp2
        go_roundw
        case rel =>
          refine ⟨k + 1, c64 (limb a k) (limb b k) d, upd f k (s64 (limb a k) (limb b k) d), by omega, by go_num, rfl, c64_le (limb_lt a k) (limb_lt b k) hd, upd_lt hf (s64_lt _ _ _), ?_, ?_, ?_, ?_, ?_, ?_, ?_⟩
          · rw [val_upd_succ, pow_succ64]
            have h1 := congrArg (· * 2 ^ (64 * k)) (sc64 (limb a k) (limb b k) d)
            simp only [val]
            simp only [Nat.add_mul, Nat.mul_assoc] at h1
            omega
          · exact ha.drew.set_far (by omega)
          · exact hb.drew.set_far (by omega)
          · exact hz.drew.set_far (by omega)
          · exact hs.drew.set hlt
          · exact (below_drewN hbel 1).setCell (by simp; omega) _
          · simp; omega
        case measure => simp [intOf]; omega
    · obtain rfl : k = 4 := by omega
      have f0 := hs.cell 0 (by omega)
      have f1 := hs.cell 1 (by omega)
      have f2 := hs.cell 2 (by omega)
      have f3 := hs.cell 3 (by omega)
      have z0 := hz.cell 0 (by omega)
      have z1 := hz.cell 1 (by omega)
      have z2 := hz.cell 2 (by omega)
      have z3 := hz.cell 3 (by omega)
      have y0 := hz.free 0 (by omega)
      have y1 := hz.free 1 (by omega)
      have y2 := hz.free 2 (by omega)
      have y3 := hz.free 3 (by omega)
      have hv4 : val f 4 + d * 2 ^ 256 = a + b := by rw [val4_limb hal, val4_limb hbl] at hv; exact hv
      have hfl := val_lt 4 (fun i _ => hf i)
      have Hv := Lib.hid hv4
      have Hfl := Lib.hid hfl
      clear hv hv4 hfl
      go_wp2
      · have hd' : (d : Int) ≠ 0 := by simpa using ‹((d : Int) != 0) = true›
        have hge : ¬ a + b < 2 ^ 256 := by have := Hv.out; have := Nat.mul_le_mul_right (2 ^ 256) (show 1 ≤ d by omega); omega
        refine bodyPost_ret (v := .tuple #[.agg #[.int .u64 0, .int .u64 0, .int .u64 0, .int .u64 0], .bool false]) (by simp [results, Try.results94, go_sem, z0, z1, z2, z3]) rfl (addPost_no hge (by rw [U_zero]) (below_set4 hbel (by omega)))
      · have hd' : (d : Int) = 0 := by simpa using ‹((d : Int) != 0) = false›
        have hd0 : d = 0 := by omega
        have hlt : a + b < 2 ^ 256 := by have := Hv.out; have := Hfl.out; subst hd0; omega
        have hab : a + b = val f 4 := by have := Hv.out; subst hd0; omega
        refine bodyPost_ret (v := .tuple #[.agg #[.int .u64 (f 0 : Nat), .int .u64 (f 1 : Nat), .int .u64 (f 2 : Nat), .int .u64 (f 3 : Nat)], .bool true]) (by simp [results, Try.results94, go_sem, z0, z1, z2, z3]) rfl (addPost_yes hlt (by rw [hab, U_of hf]) (below_set4 hbel (by omega)))
end Go.Proofs.Ytffipojlpdphiaa
