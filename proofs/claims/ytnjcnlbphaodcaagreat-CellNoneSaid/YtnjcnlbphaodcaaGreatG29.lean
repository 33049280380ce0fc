/- keys.Parse of a key, tallageref09.Ints, walked. -/
import Derived.Test.YtnjcnlbphaodcaaGreatG14
import Derived.Test.YtnjcnlbphaodcaaGreatG28
import Derived.Test.YtnjcnlbphaodcaaGreatG18
import Derived.Laws.AppendOwn
import Derived.Deep.RegionHeld3
import Derived.Deep.AppendLies
namespace Go.Proofs.YtnjcnlbphaodcaaGreat
open Go.RowKit

/-- the text of numbers, one behind the other -/
def valStr (f : Nat → Int) (n : Nat) : ByteArray := strOfNums (ints (tl f 0 n))
theorem valStr_list (f : Nat → Int) (n : Nat) : (valStr f n).data.toList = u8l (tl f 0 n) := by
  unfold valStr
  rw [strOfNums_data]
  simp [u8l, ints]
theorem tl_length (f : Nat → Int) (r : Nat) : ∀ d, (tl f r d).length = 8 * d
  | 0 => by simp [tl]
  | d + 1 => by rw [tl_snoc, List.length_append, tl_length f r d]; simp [kb8]; omega
theorem valStr_size (f : Nat → Int) (n : Nat) : (valStr f n).size = 8 * n := by unfold valStr; rw [strOfNums_size]; simp [ints, tl_length]
theorem i64n_get (f : Nat → Nat) {k i : Nat} (h : i < k) : (i64n f k)[i]? = some (.int .i64 (f i : Nat)) := by simp [i64n, h]
theorem ownN_Il {w : World} {B e : Nat} {v : Value} {n : Nat} {f : Nat → Int} {g : Nat → Nat} (hf : ∀ i, f i < 2 ^ 63) (hg : ∀ i, i < n → (g i : Int) = f i) (h : w.ownsRow B e 1 v n (i64n g n)) : ∃ A c, v = .slice A n c ∧ Il w A n f := by
  rcases h.2 with ⟨rfl, rfl⟩ | ⟨b, cap, cur, rfl, hb, hh, r⟩
  · exact ⟨none, 0, rfl, hf, fun h => absurd h (by omega)⟩
  · refine ⟨some ⟨b, 0, none⟩, cap, rfl, hf, fun _ => ⟨b, 0, rfl, lt_of_block hh, fun i hi => ?_⟩⟩
    rw [Nat.zero_add, h.cellAt i (by omega), i64n_get g hi, hg i hi]
/-- the numbers of a text that is made of numbers -/
theorem nums_yes_c (v : ByteArray) (f : Nat → Int) (n : Nat) (w : World) (hn : n ≤ 100) (hv : v.data.toList = u8l (tl f 0 n)) (hf : ∀ i, i < n → 0 ≤ f i) (hm : ∀ i, f i < 2 ^ 63) :
    Calls Tryz.prog 51 #[.string v] w fun e w' => (∃ A c, e = .returned (.tuple #[.slice A n c, .bool true]) ∧ Il w' A n f) ∧ Below w.heap.size w w' := by
  have hsz : v.size = 8 * n := by
    have : v.data.toList.length = 8 * n := by rw [hv]; simp [u8l, tl_length]
    rw [Array.length_toList] at this
    exact this
  have hch : ∀ i, i < n → (chunk v i : Int) = f i := fun i hi => by rw [chunk_tl hv hi (hm i)]; exact Int.toNat_of_nonneg (hf i hi)
  refine (nums_walk v n w hsz hn).mono fun e w' ⟨h, hw⟩ => ⟨?_, hw⟩
  rcases h with ⟨_, he, ho⟩ | ⟨⟨i, hi, hno⟩, _⟩
  · obtain ⟨A, c, e1, il⟩ := ownN_Il (f := f) hm hch ho
    exact ⟨A, c, by rw [he, e1], il⟩
  · exact absurd (show chunk v i < 2 ^ 63 by have := hch i hi; have := hm i; omega) hno
theorem keyStr_yes {t : Nat} {f : Nat → Int} {n : Nat} (h1 : 1 ≤ t) (h2 : t ≤ 255) (hf : ∀ i, i < n → 0 ≤ f i) : keyStr t f n = strOfNums (ints (t :: tl f 0 n)) := by
  unfold keyStr
  rw [if_pos ⟨by omega, by omega, hf⟩, Int.toNat_natCast, kbs_tl]
end Go.Proofs.YtnjcnlbphaodcaaGreat

namespace Go.Proofs.YtnjcnlbphaodcaaGreat
open Go.RowKit

/-- Σ i < k, f i * 2^(32 i) -/
def nval (f : Nat → Nat) : Nat → Nat
  | 0 => 0
  | k + 1 => nval f k + f k * 2 ^ (32 * k)
theorem nval_congr {f g : Nat → Nat} : ∀ k, (∀ i, i < k → f i = g i) → nval f k = nval g k
  | 0, _ => rfl
  | k + 1, h => by simp only [nval]; rw [nval_congr k (fun i hi => h i (by omega)), h k (by omega)]
theorem pow_succ32 (k : Nat) : 2 ^ (32 * (k + 1)) = 2 ^ 32 * 2 ^ (32 * k) := by rw [← Nat.pow_add]; congr 1; omega
theorem nval_lt {f : Nat → Nat} : ∀ k, (∀ i, i < k → f i < 2 ^ 32) → nval f k < 2 ^ (32 * k)
  | 0, _ => by simp [nval]
  | k + 1, h => by
    have h1 := nval_lt k (fun i hi => h i (by omega))
    have h2 : f k + 1 ≤ 2 ^ 32 := h k (by omega)
    have h3 := Nat.mul_le_mul_right (2 ^ (32 * k)) h2
    simp only [nval]; rw [pow_succ32]; rw [Nat.add_mul] at h3; omega
theorem nval_top {f : Nat → Nat} {k : Nat} : ∀ {n : Nat}, k ≤ n → (∀ i, k ≤ i → i < n → f i = 0) → nval f n = nval f k
  | 0, hk, _ => by rw [show k = 0 by omega]
  | n + 1, hk, h => by
    rcases Nat.eq_or_lt_of_le hk with e | e
    · rw [e]
    · simp only [nval]; rw [h n (by omega) (by omega), nval_top (n := n) (by omega) (fun i h1 h2 => h i h1 (by omega))]; omega
/-- the k-th word of 32 bits -/
def w32 (n i : Nat) : Nat := n / 2 ^ (32 * i) % 2 ^ 32
theorem w32_lt (n i : Nat) : w32 n i < 2 ^ 32 := Nat.mod_lt _ (by decide)
theorem nval_w32 (n : Nat) : ∀ k, nval (w32 n) k = n % 2 ^ (32 * k)
  | 0 => by simp [nval, Nat.mod_one]
  | k + 1 => by
    simp only [nval]; rw [nval_w32 n k, w32, pow_succ32, Nat.mul_comm (2 ^ 32), Nat.mod_mul, Nat.mul_comm (n / 2 ^ (32 * k) % 2 ^ 32)]

/-- v is a slice of n words of 32 bits, f's values -/
structure Ws (w : World) (v : Value) (n : Nat) (f : Nat → Nat) : Prop where
  small : ∀ i, f i < 2 ^ 32
  at_ : (v = .slice none 0 0 ∧ n = 0) ∨ ∃ g o c, v = .slice (some ⟨g, o, none⟩) n c ∧ n ≤ c ∧ g < w.heap.size ∧ ∀ i, i < n → w.cell? ⟨g, o + i, none⟩ = some (.int .u32 (f i : Nat))
theorem Ws.below {w w' : World} {v : Value} {n : Nat} {f : Nat → Nat} (h : Ws w v n f) (hb : Below w.heap.size w w') : Ws w' v n f := by
  refine ⟨h.small, ?_⟩
  rcases h.at_ with h1 | ⟨g, o, c, e, hc, hg, hx⟩
  · exact .inl h1
  · exact .inr ⟨g, o, c, e, hc, Nat.lt_of_lt_of_le hg hb.size, fun i hi => by rw [hb.cell (p := ⟨g, o + i, none⟩) hg]; exact hx i hi⟩
theorem Ws.cut {w : World} {g o c n k : Nat} {f : Nat → Nat} (h : Ws w (.slice (some ⟨g, o, none⟩) n c) n f) (hk : k ≤ n) : Ws w (.slice (some ⟨g, o, none⟩) k c) k f := by
  refine ⟨h.small, ?_⟩
  rcases h.at_ with ⟨h1, _⟩ | ⟨g', o', c', e, hc, hg, hx⟩
  · cases h1
  · cases e
    exact .inr ⟨g, o, c, rfl, by omega, hg, fun i hi => hx i (by omega)⟩
/-- without noughts above -/
def Trimmed (n : Nat) (f : Nat → Nat) : Prop := n = 0 ∨ f (n - 1) ≠ 0
def TrimPost (w : World) (n : Nat) (f : Nat → Nat) (e : Ending) (w' : World) : Prop :=
  ∃ v k, e = .returned v ∧ k ≤ n ∧ Ws w v k f ∧ nval f k = nval f n ∧ Trimmed k f ∧ w' = w
def TrimRel (n : Nat) (f : Nat → Nat) (w : World) (x : Value) (wr : World) : Prop :=
  ∃ k : Nat, k ≤ n ∧ x = .int .i64 (k : Nat) ∧ (∀ i, k ≤ i → i < n → f i = 0) ∧ wr = w

set_option maxRecDepth 100000 in
set_option maxHeartbeats 1000000 in
theorem trim_walk (v : Value) (n : Nat) (f : Nat → Nat) (w : World) (h : Ws w v n f) (hn : n ≤ 1000) : Calls Tryz.prog 83 #[v] w (TrimPost w n f) := by
  rcases h.at_ with ⟨rfl, rfl⟩ | ⟨g, o, c, rfl, hc, hg, hx⟩
  · go_enter Tryz.func83, Tryz.ntmps83
    go_wp2
    go_loopw [3] (TrimRel 0 f w) (fun x _ => (intOf x).toNat)
    case atStart => exact ⟨0, Nat.le_refl _, rfl, fun i _ h => absurd h (by omega), rfl⟩
    case round =>
      obtain ⟨k, hk, rfl, hz, rfl⟩ := hrel
      obtain rfl : k = 0 := by omega
      go_wp2
      go_ret
      exact ⟨_, 0, rfl, Nat.le_refl _, h, rfl, .inl rfl, rfl⟩
  · go_enter Tryz.func83, Tryz.ntmps83
    go_wp2
    go_loopw [3] (TrimRel n f w) (fun x _ => (intOf x).toNat)
    case atStart => exact ⟨n, Nat.le_refl _, rfl, fun i h1 h2 => absurd h2 (by omega), rfl⟩
    case round =>
      obtain ⟨k, hk, rfl, hz, rfl⟩ := hrel
      have hkc : (k : Int) ≤ (c : Int) := by omega
      by_cases hk0 : k = 0
      · have q1 : ¬ (0 : Int) < (k : Int) := by omega
        have Hk0 := Lib.hid hk0
        have Hz := Lib.hid hz
        have Hh := Lib.hid h
        clear hk0 hz h hx
        go_wp2
        go_ret
        exact ⟨_, k, rfl, by omega, Hh.out.cut (by omega), (nval_top hk Hz.out).symm, .inl Hk0.out, rfl⟩
      · obtain ⟨m, hm⟩ : ∃ m, k = m + 1 := ⟨k - 1, by omega⟩
        have q1 : (0 : Int) < (k : Int) := by omega
        have q2 : IntKind.i64.wrap ((k : Int) - 1) = (k : Int) - 1 := IntWalk.i64_in _ (by omega)
        have q3 : ((k : Int) - 1).toNat = m := by omega
        have q4 : (0 : Int) ≤ (k : Int) - 1 := by omega
        have q5 : (k : Int) - 1 < (n : Int) := by omega
        have c1 := hx m (by omega)
        have Hm := Lib.hid hm
        have Hz := Lib.hid hz
        have Hh := Lib.hid h
        clear hm hz h hx
        by_cases h0 : f m = 0
        · have q6 : ((f m : Int) == 0) = true := by rw [h0]; rfl
          have H0 := Lib.hid h0
          clear h0
          go_wp2
          go_roundw
          case rel =>
            refine ⟨m, by have := Hm.out; omega, by congr 1; have := Hm.out; omega, fun i h1 h2 => ?_, rfl⟩
            rcases Nat.eq_or_lt_of_le h1 with e | e
            · rw [← e]; exact H0.out
            · exact Hz.out i (by have := Hm.out; omega) h2
          case measure => simp [intOf]; omega
        · have q6 : ((f m : Int) == 0) = false := by rw [beq_eq_false_iff_ne]; omega
          have H0 := Lib.hid h0
          clear h0
          go_wp2
          go_ret
          exact ⟨_, k, rfl, by omega, Hh.out.cut (by omega), (nval_top hk Hz.out).symm, .inr (by rw [Hm.out, Nat.add_sub_cancel]; exact H0.out), rfl⟩
end Go.Proofs.YtnjcnlbphaodcaaGreat

namespace Go.Proofs.YtnjcnlbphaodcaaGreat
open Go.RowKit Go.Sort

theorem infoU32 : (Tryz.prog.info? 126).map (fun i => (i.zero, i.size, i.bytes)) = some (some (.int .u32 0), 1, 4) := by kernel_rfl
theorem own_below {B : Nat} {e : TypeId} {k : Nat} {v : Value} {n : Nat} {xs : List Value} {w w' : World} (h : w.ownsRow B e k v n xs) (hb : Below w.heap.size w w') : w'.ownsRow B e k v n xs :=
  h.kept (row := none) ⟨hb.os, hb.tape, hb.output, hb.size, fun j hj _ => hb.block j hj⟩ (by cases hv : v.ownBlock <;> simp)
/-- the values of k words -/
def u32s (f : Nat → Nat) (k : Nat) : List Value := (List.range k).map fun i => Value.int .u32 (f i : Nat)
theorem u32s_succ (f : Nat → Nat) (k : Nat) : u32s f (k + 1) = u32s f k ++ [.int .u32 (f k : Nat)] := by simp [u32s, List.range_succ]
theorem u32s_get {f : Nat → Nat} {k i : Nat} (h : i < k) : (u32s f k)[i]? = some (.int .u32 (f i : Nat)) := by simp [u32s, h]
theorem u32s_congr {f g : Nat → Nat} {k : Nat} (h : ∀ i, i < k → f i = g i) : u32s f k = u32s g k := by
  unfold u32s; refine List.map_congr_left fun i hi => ?_; rw [h i (List.mem_range.1 hi)]
theorem own_Ws {w : World} {B e : Nat} {v : Value} {n : Nat} {f : Nat → Nat} (hf : ∀ i, f i < 2 ^ 32) (h : w.ownsRow B e 1 v n (u32s f n)) : Ws w v n f := by
  refine ⟨hf, ?_⟩
  rcases h.2 with ⟨rfl, rfl⟩ | ⟨g, cap, cur, rfl, hb, hg, r⟩
  · exact .inl ⟨rfl, rfl⟩
  · refine .inr ⟨g, 0, cap, rfl, ?_, lt_of_block hg, fun i hi => ?_⟩
    · exact r.1
    · rw [Nat.zero_add, h.cellAt i (by omega), u32s_get hi]
theorem own_ne {w : World} {B e k n : Nat} {v : Value} {xs : List Value} (h : w.ownsRow B e k v n xs) {b : Nat} (hb : b < B) : v.ownBlock ≠ some b := by
  rcases h.2 with ⟨rfl, rfl⟩ | ⟨g, cap, cur, rfl, hB, hg, r⟩
  · simp [Value.ownBlock]
  · simp [Value.ownBlock]; omega
/-- v is a number of at most m words, without noughts above -/
def NatV (w : World) (v : Value) (N m : Nat) : Prop := ∃ n f, n ≤ m ∧ Ws w v n f ∧ nval f n = N ∧ Trimmed n f
theorem NatV.below {w w' : World} {v : Value} {N m : Nat} (h : NatV w v N m) (hb : Below w.heap.size w w') : NatV w' v N m := by
  obtain ⟨n, f, h1, h2, h3, h4⟩ := h
  exact ⟨n, f, h1, h2.below hb, h3, h4⟩
theorem w32_lo (a k : Nat) : IntKind.u32.wrap ((limb a k : Nat) : Int) = ((w32 a (2 * k) : Nat) : Int) := by
  rw [IntKind.wrap_u32]
  unfold limb w32
  rw [show 32 * (2 * k) = 64 * k by omega]
  omega
theorem w32_hi (a k : Nat) : IntKind.u32.wrap ((limb a k : Nat) / 4294967296 : Int) = ((w32 a (2 * k + 1) : Nat) : Int) := by
  rw [IntKind.wrap_u32]
  have e : w32 a (2 * k + 1) = a / 2 ^ (64 * k) / 2 ^ 32 % 2 ^ 32 := by unfold w32; rw [Nat.div_div_eq_div_mul, ← Nat.pow_add]; congr 3; omega
  rw [e]
  unfold limb
  omega
theorem own_ge {w : World} {B e k n : Nat} {v : Value} {xs : List Value} (h : w.ownsRow B e k v n xs) : ∀ j, v.ownBlock = some j → B ≤ j := by
  intro j hj
  rcases h.2 with ⟨rfl, rfl⟩ | ⟨g, cap, cur, rfl, hB, hg, r⟩
  · simp [Value.ownBlock] at hj
  · simp [Value.ownBlock] at hj; omega
theorem Arr.grown {κ : IntKind} {w w' : World} {b n : Nat} {f : Nat → Nat} {row : Option Nat} (h : Arr κ w b n f) (hg : w.grownBy w' row) (hb : b < w.heap.size) (hne : row ≠ some b) : Arr κ w' b n f :=
  ⟨fun i hi => by rw [hg.cell_far ⟨b, i, none⟩ hb (Ne.symm hne)]; exact h.cell i hi, fun i hi => by rw [hg.frozen_far ⟨b, i, none⟩ hb (Ne.symm hne)]; exact h.free i hi⟩
def OfRel (a : Nat) (w : World) (x y : Value) (wr : World) : Prop :=
  ∃ k : Nat, k ≤ 4 ∧ y = .int .i64 (k : Nat) ∧ wr.ownsRow (w.heap.size + 1) 126 1 x (2 * k) (u32s (w32 a) (2 * k)) ∧ Arr .u64 wr w.heap.size 4 (limb a) ∧ Below w.heap.size w wr ∧ w.heap.size < wr.heap.size
def NatPost (N m : Nat) (w : World) (e : Ending) (w' : World) : Prop := (∃ v, e = .returned v ∧ NatV w' v N m) ∧ Below w.heap.size w w'

set_option maxRecDepth 100000 in
set_option maxHeartbeats 2000000 in
theorem ofn_walk (a : Nat) (w : World) (ha : a < 2 ^ 256) : Calls Tryz.prog 67 #[U a] w (NatPost a 8 w) := by
  obtain ⟨i0, hi, hz0, hz1, hz2⟩ := info_parts infoU32
  have Ha := Lib.hid ha
  clear ha
  unfold U
  go_enter Tryz.func67, Tryz.ntmps67
  go_wp2
  go_loopw [3, 4] (OfRel a w) (fun _ y _ => 4 - (intOf y).toNat)
  case atStart =>
    exact ⟨0, by omega, rfl, World.ownsRow_nil _ _ _ _, Arr.new4 (f := limb a) rfl, (Below.refl _ _).alloc (Nat.le_refl _) _, by simp⟩
  case round =>
    obtain ⟨k, hk, rfl, hown, hb, hbel, hsz⟩ := hrel
    by_cases hlt : k < 4
    · have c1 := hb.cell k hlt
      have r1 := w32_lo a k
      have r2 := w32_hi a k
      have hne := own_ne hown (show w.heap.size < w.heap.size + 1 by omega)
      go_wp2
      go_region_held3 (fun w' => w'.cell? ⟨w.heap.size, k, none⟩ = some (.int .u64 (limb a k : Nat)))
        (first
          | go_keep
          | (rw [hgrow.cell_far _ (by show w.heap.size < (wr.alloc _).heap.size; rw [World.size_alloc]; omega) (Ne.symm hne)]; exact ((hb.alloc _).drew).cell k hlt))
        ((refine step_append_lies _ (by rfl) _ _ _ (by rfl) (w.heap.size + 1) 126 i0 _ 1 4 Tryz.underlying106 hi hz0 hz1 hz2 rfl (by omega) _ (2 * k) (u32s (w32 a) (2 * k)) (by rfl) ((hown.alloc _).drew)
             ⟨wr.heap.size, 0, none⟩ 2 2 [.int .u32 (w32 a (2 * k) : Nat), .int .u32 (w32 a (2 * k + 1) : Nat)] (by rfl) (by rfl) (World.news_of_block (cs := #[.int .u32 (w32 a (2 * k) : Nat), .int .u32 (w32 a (2 * k + 1) : Nat)]) (t := 126) (fr := (0, 0)) (heap_alloc_new wr _)) (by simp [Value.oneCell'])
             (by omega) (by unfold maxLen; omega) (by omega) (by simp; omega) (wr.heap.size + 1) (by simp) ?_; intro gg cap w1 hown1 hgrow hat hlt1))
      go_wp2
      go_roundw
      case rel =>
        have hsz2 : w.heap.size < ((wr.alloc (.cells #[.int .u32 (w32 a (2 * k) : Nat), .int .u32 (w32 a (2 * k + 1) : Nat)] 126)).drew).heap.size := by
          show w.heap.size < (wr.alloc _).heap.size; rw [World.size_alloc]; omega
        refine ⟨k + 1, by omega, by go_num, ?_, ((hb.alloc _).drew).grown hgrow hsz2 hne, ?_, Nat.lt_of_lt_of_le hsz2 hgrow.size⟩
        · rw [show 2 * (k + 1) = 2 * k + 1 + 1 by omega, u32s_succ, u32s_succ, List.append_assoc]; exact hown1
        · exact (below_drewN (hbel.alloc (Nat.le_of_lt hsz) _) 1).grown hgrow (Nat.le_of_lt hsz2) (fun j hj => by have := own_ge hown j hj; omega)
      case measure => simp [intOf]; omega
    · obtain rfl : k = 4 := by omega
      have hws := own_Ws (w32_lt a) hown
      have hv : nval (w32 a) (2 * 4) = a := by rw [nval_w32]; exact Nat.mod_eq_of_lt Ha.out
      have Hws := Lib.hid hws
      have Hv := Lib.hid hv
      clear hown hb hws hv
      go_wp2_with (go_at_call 83; refine (trim_walk _ _ _ _ Hws.out (by omega)).mono ?_; rintro e w' ⟨v, n, rfl, hn, hw, hnv, htr, rfl⟩)
      go_ret
      exact ⟨⟨v, rfl, n, w32 a, hn, hw, by rw [hnv]; exact Hv.out, htr⟩, hbel⟩
end Go.Proofs.YtnjcnlbphaodcaaGreat
