/- tallagelaw09.lives, walked. -/
import Derived.Test.YtedkhpnlhkjjgaaG02
import Derived.Test.YtedkhpnlhkjjgaaG17
import Derived.Test.YtedkhpnlhkjjgaaG15
namespace Go.Proofs.Ytedkhpnlhkjjgaa
open Go.RowKit

set_option maxRecDepth 100000 in
theorem parse9_walk (w : World) : Calls Try.prog 122 #[.string ⟨#[0, 0, 0, 0, 0, 0, 0, 0, 0]⟩] w fun e w' => e = .returned (.tuple #[.int .i64 0, .slice none 0 0, .bool false]) ∧ Below w.heap.size w w' := by
  go_enter Try.func122, Try.ntmps122
  go_wp2
  refine bodyPost_ret (v := .tuple #[.int .i64 0, .slice none 0 0, .bool false]) (by simp [results, Try.results122, go_sem]) rfl ⟨rfl, Below.refl _ _⟩
theorem keyStr12 : keyStr 1 (fun _ => 2) 1 = ⟨#[1, 0, 0, 0, 0, 0, 0, 0, 2]⟩ := by
  unfold keyStr
  rw [if_pos ⟨by decide, by decide, fun _ _ => by show (0 : Int) ≤ 2; decide⟩]
  decide +kernel
theorem key12_c (w : World) (g : Nat) (hg : g < w.heap.size) (hc : w.cell? ⟨g, 0, none⟩ = some (.int .i64 2)) : Calls Try.prog 60 #[.int .i64 1, .slice (some ⟨g, 0, none⟩) 1 1] w fun e w' => e = .returned (.string ⟨#[1, 0, 0, 0, 0, 0, 0, 0, 2]⟩) ∧ Below w.heap.size w w' := by
  have h := key_walk 1 (some ⟨g, 0, none⟩) 1 1 (fun _ => 2) w ⟨fun _ => by show (2 : Int) < 2 ^ 63; decide, fun _ => ⟨g, 0, rfl, hg, fun i hi => by rw [show i = 0 by omega]; exact hc⟩⟩ (by decide)
  exact h.mono fun e w' ⟨he, hw⟩ => ⟨by rw [he, keyStr12], hw⟩

end Go.Proofs.Ytedkhpnlhkjjgaa

namespace Go.Proofs.Ytedkhpnlhkjjgaa
open Go.RowKit

/-- the text of numbers, one behind the other -/
def valStr (f : Nat → Int) (n : Nat) : ByteArray := strOfNums (ints (tl f 0 n))
theorem valStr_list (f : Nat → Int) (n : Nat) : (valStr f n).data.toList = u8l (tl f 0 n) := by
  unfold valStr
  rw [strOfNums_data]
  simp [u8l, ints]
theorem tl_length (f : Nat → Int) (r : Nat) : ∀ d, (tl f r d).length = 8 * d
  | 0 => by simp [tl]
  | d + 1 => by rw [tl_snoc, List.length_append, tl_length f r d]; simp [kb8]; omega
theorem valStr_size (f : Nat → Int) (n : Nat) : (valStr f n).size = 8 * n := by unfold valStr; rw [strOfNums_size]; simp [ints, tl_length]
theorem i64n_get (f : Nat → Nat) {k i : Nat} (h : i < k) : (i64n f k)[i]? = some (.int .i64 (f i : Nat)) := by simp [i64n, h]
theorem ownN_Il {w : World} {B e : Nat} {v : Value} {n : Nat} {f : Nat → Int} {g : Nat → Nat} (hf : ∀ i, f i < 2 ^ 63) (hg : ∀ i, i < n → (g i : Int) = f i) (h : w.ownsRow B e 1 v n (i64n g n)) : ∃ A c, v = .slice A n c ∧ Il w A n f := by
  rcases h.2 with ⟨rfl, rfl⟩ | ⟨b, cap, cur, rfl, hb, hh, r⟩
  · exact ⟨none, 0, rfl, hf, fun h => absurd h (by omega)⟩
  · refine ⟨some ⟨b, 0, none⟩, cap, rfl, hf, fun _ => ⟨b, 0, rfl, lt_of_block hh, fun i hi => ?_⟩⟩
    rw [Nat.zero_add, h.cellAt i (by omega), i64n_get g hi, hg i hi]
/-- the numbers of a text that is made of numbers -/
theorem nums_yes_c (v : ByteArray) (f : Nat → Int) (n : Nat) (w : World) (hn : n ≤ 100) (hv : v.data.toList = u8l (tl f 0 n)) (hf : ∀ i, i < n → 0 ≤ f i) (hm : ∀ i, f i < 2 ^ 63) :
    Calls Try.prog 113 #[.string v] w fun e w' => (∃ A c, e = .returned (.tuple #[.slice A n c, .bool true]) ∧ Il w' A n f) ∧ Below w.heap.size w w' := by
  have hsz : v.size = 8 * n := by
    have : v.data.toList.length = 8 * n := by rw [hv]; simp [u8l, tl_length]
    rw [Array.length_toList] at this
    exact this
  have hch : ∀ i, i < n → (chunk v i : Int) = f i := fun i hi => by rw [chunk_tl hv hi (hm i)]; exact Int.toNat_of_nonneg (hf i hi)
  refine (nums_walk v n w hsz hn).mono fun e w' ⟨h, hw⟩ => ⟨?_, hw⟩
  rcases h with ⟨_, he, ho⟩ | ⟨⟨i, hi, hno⟩, _⟩
  · obtain ⟨A, c, e1, il⟩ := ownN_Il (f := f) hm hch ho
    exact ⟨A, c, by rw [he, e1], il⟩
  · exact absurd (show chunk v i < 2 ^ 63 by have := hch i hi; have := hm i; omega) hno
set_option maxRecDepth 100000 in
set_option maxHeartbeats 1000000 in
theorem ints_walk (A B : Option Addr) (n m c d : Nat) (f g : Nat → Int) (w : World) (ha : Il w A n f) (hb : Il w B m g) (hn : n ≤ 100) (h : n = m ∧ ∀ i, i < n → f i = g i) :
    Calls Try.prog 23 #[.slice A n c, .slice B m d] w fun e w' => e = .returned (.bool true) ∧ Below w.heap.size w w' := by
  obtain ⟨rfl, he⟩ := h
  have hnI : (n : Int) ≤ 100 := by omega
  have He := Lib.hid he
  clear he
  go_enter Try.func23, Try.ntmps23
  go_wp2
  go_loopw [13] (fun i wr => ∃ k : Nat, k ≤ n ∧ i = .int .i64 (k : Nat) ∧ Below w.heap.size w wr) (fun x _ => n - (intOf x).toNat)
  case atStart => exact ⟨0, by omega, rfl, Below.refl _ _⟩
  case round =>
    obtain ⟨k, hk, rfl, hbel⟩ := hrel
    have kI : (k : Int) ≤ n := by omega
    by_cases hlt : k < n
    · obtain ⟨ga, oa, rfl, hga, hxa⟩ := ha.at_ (by omega)
      obtain ⟨gb, ob, rfl, hgb, hxb⟩ := hb.at_ (by omega)
      have q1 : (k : Int) < n := by omega
      have q2 : IntKind.i64.wrap ((k : Int) + 1) = (k : Int) + 1 := IntWalk.i64_in _ (by omega)
      have hfg := He.out k hlt
      have c1 : wr.cell? ⟨ga, oa + k, none⟩ = some (.int .i64 (f k)) := by rw [hbel.cell (p := ⟨ga, oa + k, none⟩) hga]; exact hxa k hlt
      have c2 : wr.cell? ⟨gb, ob + k, none⟩ = some (.int .i64 (f k)) := by rw [hbel.cell (p := ⟨gb, ob + k, none⟩) hgb, hfg]; exact hxb k hlt
      clear ha hb hxa hxb hfg
      go_wp2
      go_region
      all_goals
        go_wp2
        go_roundw
        case rel => exact ⟨k + 1, by omega, by go_num, below_drewN hbel 1⟩
        case measure => simp [intOf]; omega
    · obtain rfl : k = n := by omega
      have q1 : ¬ (k : Int) < k := by omega
      go_wp2
      go_ret
      exact ⟨rfl, hbel⟩
set_option maxRecDepth 100000 in
set_option maxHeartbeats 1000000 in
theorem parse_text_walk (s : ByteArray) (t n : Nat) (f : Nat → Int) (w : World) (hn : n ≤ 100) (h0 : 0 < s.size) (hs0 : (s[0]'h0).toNat = t) (ht : t ≠ 0) (hv : (s.extract 1 s.size).data.toList = u8l (tl f 0 n)) (hf : ∀ i, i < n → 0 ≤ f i) (hm : ∀ i, f i < 2 ^ 63) :
    Calls Try.prog 122 #[.string s] w fun e w' => (∃ A c, e = .returned (.tuple #[.int .i64 (t : Nat), .slice A n c, .bool true]) ∧ Il w' A n f) ∧ Below w.heap.size w w' := by
  have e0 : s.toList.isEmpty = false := by
    have : s.toList.length = s.size := by rw [ByteArray.toList_eq]; simp
    cases h : s.toList with
    | nil => rw [h] at this; simp at this; omega
    | cons a l => rfl
  have b1 : ((t : Int) == 0) = false := by rw [beq_eq_false_iff_ne]; omega
  have b2 : IntKind.i64.wrap (t : Int) = (t : Int) := IntWalk.i64_in _ (by have := UInt8.toNat_lt (s[0]'h0); omega)
  have HN := Lib.hid (fun w => nums_yes_c (s.extract 1 s.size) f n w hn hv hf hm)
  clear hv hf hm ht
  go_enter Try.func122, Try.ntmps122
  go_wp2_with (go_at_call 113; refine (HN.out _).mono ?_; rintro e w1 ⟨⟨A, c, rfl, il⟩, hb1⟩)
  refine bodyPost_ret (v := .tuple #[.int .i64 (t : Nat), .slice A n c, .bool true]) (by simp [results, Try.results122, go_sem]) rfl ⟨⟨A, c, rfl, il⟩, hb1⟩
theorem keyStr_yes {t : Nat} {f : Nat → Int} {n : Nat} (h1 : 1 ≤ t) (h2 : t ≤ 255) (hf : ∀ i, i < n → 0 ≤ f i) : keyStr t f n = strOfNums (ints (t :: tl f 0 n)) := by
  unfold keyStr
  rw [if_pos ⟨by omega, by omega, hf⟩, Int.toNat_natCast, kbs_tl]
theorem parse_key_c (t : Nat) (f : Nat → Int) (n : Nat) (w : World) (h1 : 1 ≤ t) (h2 : t ≤ 255) (hn : n ≤ 100) (hf : ∀ i, i < n → 0 ≤ f i) (hm : ∀ i, f i < 2 ^ 63) :
    Calls Try.prog 122 #[.string (keyStr t f n)] w fun e w' => (∃ A c, e = .returned (.tuple #[.int .i64 (t : Nat), .slice A n c, .bool true]) ∧ Il w' A n f) ∧ Below w.heap.size w w' := by
  have hk := keyStr_yes h1 h2 hf
  have hsz : (keyStr t f n).size = 8 * n + 1 := by rw [hk, strOfNums_size]; simp [ints, tl_length]
  have hl : (keyStr t f n).data.toList = UInt8.ofNat t :: u8l (tl f 0 n) := by rw [hk, strOfNums_data]; simp [u8l, ints]
  refine parse_text_walk (keyStr t f n) t n f w hn (by omega) ?_ (by omega) ?_ hf hm
  · have e : (keyStr t f n)[0] = UInt8.ofNat t := by
      have h3 : (keyStr t f n).data.toList[0]? = some (UInt8.ofNat t) := by rw [hl]; rfl
      have h4 : (keyStr t f n).data[0]? = some (UInt8.ofNat t) := by rw [← Array.getElem?_toList]; exact h3
      have h5 := Array.getElem?_eq_some_iff.1 h4
      exact h5.2
    rw [e, UInt8.toNat_ofNat']
    exact Nat.mod_eq_of_lt (by omega)
  · have h3 : ((keyStr t f n).extract 1 (keyStr t f n).size).data.toList = (keyStr t f n).data.toList.drop 1 := by
      rw [ByteArray.data_extract, Array.toList_extract]
      simp only [List.extract_eq_take_drop]
      refine List.take_of_length_le ?_
      rw [List.length_drop, Array.length_toList]
      exact Nat.le_refl _
    rw [h3, hl]; rfl
end Go.Proofs.Ytedkhpnlhkjjgaa

namespace Go.Proofs.Ytedkhpnlhkjjgaa
open Go.RowKit Go.Maps Go.Sort

theorem il_nilQ (w : World) : Il w none 0 (fun _ => 0) := ⟨fun _ => by decide, fun h => absurd h (by omega)⟩
/-- a call that changes the store, behind others; blocks of one's own stay -/
theorem LiveTo.seqK {w W W1 W2 : World} {b : Nat} {F : List Nat} {L1 : SL} {q1 : Nat} (hF : ∀ k, W.heap.size ≤ k → k ∉ F) (hb : Below W.heap.size W W1) (h1 : LiveTo w W1 W2 b F L1 q1) (d : Nat) {f : FuncId} {args : Array Value} {E : Ending → Prop} {L2 : SL}
    (hc : ∀ F1 qa qsa, SNew w W2 b F1 L1 qa qsa → qa ≤ q1 → Calls Try.prog f args W2 fun e W3 => E e ∧ LiveTo w W2 W3 b F1 L2 (qa + d)) :
    Calls Try.prog f args W2 fun e W3 => E e ∧ LiveTo w W W3 b F L2 (q1 + d) ∧ (∀ k, W.heap.size ≤ k → k < W1.heap.size → W3.heap[k]? = W2.heap[k]?) ∧ W2.heap.size ≤ W3.heap.size := by
  have hz := h1.grows
  obtain ⟨F1, qa, qsa, hs, hq, ht, hf⟩ := h1
  refine (hc F1 qa qsa hs hq).mono ?_
  rintro e W3 ⟨he, F2, q2, qs2, hs2, hq2, ht2, hf2⟩
  refine ⟨he, ⟨F2, q2, qs2, hs2, by omega, ?_, fun k hk => ?_⟩, fun k h1 h2 => ht2.block k (by omega) fun hm => ?_, ht2.size⟩
  · refine (Touch.of_below hb).trans (F' := F) (fun _ hk => .inl hk) (ht.trans hf ht2)
  · rcases hf2 k hk with h | h
    · rcases hf k h with h' | h'
      · exact .inl h'
      · right; have := hb.size; omega
    · right; have := hb.size; omega
  · rcases hf k hm with h | h
    · exact hF k h1 h
    · omega
/-- the ends of the queue at K -/
def endsAt (L : SL) (K : ByteArray) (x y : Int) : Prop := (x = 0 ∧ y = 0 ∧ sget L K = none) ∨ (0 ≤ x ∧ x < y ∧ y ≤ 1000000 ∧ sget L K = some (rowV (two2 x y) 2))
theorem endsAt.bounds {L : SL} {K : ByteArray} {x y : Int} (h : endsAt L K x y) : 0 ≤ x ∧ x ≤ y ∧ y ≤ 1000000 := by
  rcases h with ⟨rfl, rfl, _⟩ | ⟨h1, h2, h3, _⟩ <;> omega
theorem ends_live {w W : World} {b : Nat} {F : List Nat} {L : SL} {q : Nat} {qs : List Value} (h : SNew w W b F L q qs) (t : Int) (K0 : ByteArray) (hK : keyStr t (fun _ => 0) 0 = K0) (hk : K0.size ≤ maxLen) (x y : Int) (hE : endsAt L K0 x y) :
    Calls Try.prog 70 #[.agg #[.pointer (some ⟨b, 0, none⟩), .int .i64 t, .slice none 0 0]] W fun e w' => e = .returned (.agg #[.int .i64 x, .int .i64 y]) ∧ Below W.heap.size W w' := by
  rcases hE with ⟨rfl, rfl, hs⟩ | ⟨h1, h2, h3, hs⟩
  · exact ends_none _ t none 0 0 (fun _ => 0) K0 hK W (il_nilQ W) (by omega) fun W1 hb => crow_none (h.below hb) K0 hk hs
  · exact ends_two _ t none 0 0 (fun _ => 0) K0 hK x y h2 W (il_nilQ W) (by omega) fun W1 hb => (crow_some (h.below hb) K0 (two2 x y) 2 (by omega) (by omega) (fun i _ => by unfold two2; split <;> omega) hk hs).mono fun e w' hh => by
      obtain ⟨⟨g, he, hc, _⟩, hb'⟩ := hh
      exact ⟨⟨g, he, hc 0 (by omega), hc 1 (by omega)⟩, hb'⟩
set_option maxRecDepth 100000 in
set_option maxHeartbeats 4000000 in
theorem push_live {w W : World} {b : Nat} {F : List Nat} {L : SL} {q : Nat} {qs : List Value} (h : SNew w W b F L q qs) (t : Int) (K0 Ky : ByteArray) (x y : Int) (hK : keyStr t (fun _ => 0) 0 = K0) (hKy : keyStr t (icat (fun _ => 0) 0 fun _ => y) (0 + 1) = Ky) (hk : K0.size ≤ maxLen) (hk0 : K0 ≠ ⟨#[]⟩) (hky : Ky.size ≤ maxLen) (hky0 : Ky ≠ ⟨#[]⟩)
    (hE : endsAt L K0 x y) (most : Int) (hmo : y - x < most) (A2 : Option Addr) (m c2 : Nat) (g : Nat → Int) (hl : Il W A2 m g) (hm1 : 1 ≤ m) (hm : m ≤ 100) (hg : ∀ i, i < m → 0 ≤ g i) (hE1 : endsAt (setL L Ky (rowV g m)) K0 x y) (hN : L.length < 128) (hN1 : (setL L Ky (rowV g m)).length < 128) (hq : q + 2 < 1000000) :
    Calls Try.prog 20 #[.pointer (some ⟨b, 0, none⟩), .int .i64 t, .slice none 0 0, .int .i64 most, .slice A2 m c2] W fun e W' => e = .returned (.int .i64 0) ∧ LiveTo w W W' b F (setL (setL L Ky (rowV g m)) K0 (rowV (two2 (x + 0) (y + 1)) 2)) (q + 2) := by
  have hxy := hE.bounds
  have HM := Lib.hid (made_live b F L q qs W h.s)
  obtain ⟨W0, hW0⟩ : ∃ W0, W0 = W.alloc (.cells #[.pointer (some ⟨b, 0, none⟩), .int .i64 t, .slice none 0 0] 117) := ⟨_, rfl⟩
  have hb0 : Below W.heap.size W W0 := by rw [hW0]; exact (Below.refl _ _).alloc (Nat.le_refl _) _
  have r0 : W0.heap[W.heap.size]? = some (.cells #[.pointer (some ⟨b, 0, none⟩), .int .i64 t, .slice none 0 0] 117 (0, 0)) := by rw [hW0]; exact heap_alloc_new _ _
  have hFl : ∀ k, W.heap.size ≤ k → k ∉ F := fun k hk hm => by have := h.s.lt _ hm; omega
  have HHd := Lib.hid (fun (W1 : World) => qhead_is (some ⟨b, 0, none⟩) t none 0 0 (fun _ => 0) K0 hK W1 (il_nilQ W1) (by omega))
  have HGo := Lib.hid (fun (W1 : World) (hb : Below W.heap.size W W1) => fgood_walk A2 m c2 g W1 (hl.below hb) hm1 hm hg)
  have HEn := Lib.hid (fun (W1 : World) (hb : Below W.heap.size W W1) => ends_live (h.below hb) t K0 hK hk x y hE)
  have HAt := Lib.hid (fun (W1 : World) => qat_is (some ⟨b, 0, none⟩) t none 0 0 (fun _ => 0) y Ky hKy W1 (il_nilQ W1) (fun _ => ⟨rfl, rfl⟩) (by omega) (by omega))
  have HSR := Lib.hid (fun (W1 : World) (hb : Below W.heap.size W W1) => (csetRow_set (h.below hb) Ky A2 m c2 g (hl.below hb) hm1 hm hg hky hky0 hN (by omega)).mono fun e W' hp => (⟨hp.1, hp.2⟩ : e = .returned (.tuple #[]) ∧ LiveTo w W1 W' b F (setL L Ky (rowV g m)) (q + 1)))
  have HTu := Lib.hid (fun (W1 : World) (hl1 : LiveTo w W W1 b F (setL L Ky (rowV g m)) (q + 1)) => hl1.seq 1 (fun F1 qa qsa hs hqa => turn_live hs t none 0 0 (fun _ => 0) (il_nilQ W1) (by omega) K0 hK hk hk0 x y 0 1 (by omega) (by omega) (by omega) (by omega) (by omega) hN1 (by omega) (fun W2 hb2 => ends_live (hs.below hb2) t K0 hK hk x y hE1)))
  have H0 := Lib.hid (And.intro hb0 r0)
  have HF := Lib.hid hFl
  have HW := Lib.hid hW0
  have hkne := ba_nil hk0
  obtain ⟨l1, e1⟩ : ∃ z, z = setL L Ky (rowV g m) := ⟨_, rfl⟩
  rw [← e1] at HSR HTu ⊢
  have i1 : 0 ≤ x := hxy.1
  have i2 : x ≤ y := hxy.2.1
  have i3 : y ≤ 1000000 := hxy.2.2
  have n1 : ¬ most ≤ y - x := by omega
  have n2 : ¬ most < 1 := by omega
  have n3 : (y == 9223372036854775807) = false := by rw [beq_eq_false_iff_ne]; omega
  clear h hxy hK hKy hk hk0 hky hky0 hE hmo hl hm1 hm hg hE1 hN hN1 hq hFl hW0 hb0 r0 e1
  go_enter Try.func20, Try.ntmps20
  go_upto_region 4 with (go_at_call 27; refine HM.out.mono ?_; rintro e w1 ⟨rfl, rfl⟩)
  rw [← HW.out]
  have c0 := (hp_cell (i := 0) H0.out.2).trans rfl
  have c1 := (hp_cell (i := 1) H0.out.2).trans rfl
  have c2' := (hp_cell (i := 2) H0.out.2).trans rfl
  have l0 := hp_lt H0.out.2
  go_upto_region 7 with (first
    | (go_at_call 70; refine (HEn.out _ H3.out.1).mono ?_; rintro e w4 ⟨rfl, hb4⟩; have r4 := (hb4.block _ (hp_lt H3.out.2)).trans H3.out.2; have H4 := Lib.hid (And.intro (H3.out.1.trans (hb4.mono H3.out.1.size)) r4); clear r4 hb4)
    | (go_at_call 21; refine (HGo.out _ H2.out.1).mono ?_; rintro e w3 ⟨rfl, rfl⟩; have H3 := Lib.hid H2.out; have d0 := (hp_cell (i := 0) H3.out.2).trans rfl; have d1 := (hp_cell (i := 1) H3.out.2).trans rfl; have d2 := (hp_cell (i := 2) H3.out.2).trans rfl; have l3 := hp_lt H3.out.2)
    | (go_at_call 69; refine (HHd.out _).mono ?_; rintro e w2 ⟨rfl, hb2⟩; have r2 := (hb2.block _ (hp_lt H0.out.2)).trans H0.out.2; have H2 := Lib.hid (And.intro (H0.out.1.trans (hb2.mono H0.out.1.size)) r2); clear r2 hb2))
  obtain ⟨W5, hW5⟩ : ∃ W5, W5 = w4.alloc (.cells #[.int .i64 x, .int .i64 y] 119) := ⟨_, rfl⟩
  have hb5 : Below w4.heap.size w4 W5 := by rw [hW5]; exact (Below.refl _ _).alloc (Nat.le_refl _) _
  have r5 : W5.heap[w4.heap.size]? = some (.cells #[.int .i64 x, .int .i64 y] 119 (0, 0)) := by rw [hW5]; exact heap_alloc_new _ _
  have rq := (hb5.block _ (hp_lt H4.out.2)).trans H4.out.2
  rw [← hW5]
  clear c0 c1 c2' l0 d0 d1 d2 l3 hW5
  have H5 := Lib.hid (And.intro (H4.out.1.trans (hb5.mono H4.out.1.size)) rq)
  have c0 := (hp_cell (i := 0) rq).trans rfl
  have c1 := (hp_cell (i := 1) rq).trans rfl
  have c2' := (hp_cell (i := 2) rq).trans rfl
  have l0 := hp_lt rq
  have d0 := (hp_cell (i := 0) r5).trans rfl
  have d1 := (hp_cell (i := 1) r5).trans rfl
  have l5 := hp_lt r5
  clear rq r5 hb5
  go_wp2_with (first
    | (go_at_call 73; refine (HTu.out _ (H7.out.pre H6.out.1)).mono ?_; rintro e w8 ⟨rfl, h8⟩; have H8 := Lib.hid h8; clear h8)
    | (go_at_call 71; refine (HSR.out _ H6.out.1).mono ?_; rintro e w7 ⟨rfl, h7⟩; have H7 := Lib.hid h7; have hT7 : Touch F w6 w7 := (by obtain ⟨_, _, _, _, _, ht, _⟩ := h7; exact ht); have r7 := (hT7.block _ (hp_lt H6.out.2) (HF.out _ (Nat.le_refl _))).trans H6.out.2; have c0 := (hp_cell (i := 0) r7).trans rfl; have c1 := (hp_cell (i := 1) r7).trans rfl; have c2' := (hp_cell (i := 2) r7).trans rfl; clear h7 hT7 r7)
    | (go_at_call 72; refine (HAt.out _).mono ?_; rintro e w6 ⟨rfl, hb6⟩; have r6 := (hb6.block _ (hp_lt H5.out.2)).trans H5.out.2; have H6 := Lib.hid (And.intro (H5.out.1.trans (hb6.mono H5.out.1.size)) r6); clear r6 hb6))
  go_ret
  exact ⟨rfl, H8.out⟩
set_option maxRecDepth 100000 in
set_option maxHeartbeats 1000000 in
theorem crow_fresh {w W : World} {b : Nat} {F : List Nat} {L : SL} {q : Nat} {qs : List Value} (h : SNew w W b F L q qs) (k : ByteArray) (f : Nat → Int) (n : Nat) (hn0 : 1 ≤ n) (hn : n ≤ 100) (hf : ∀ i, i < n → 0 ≤ f i ∧ f i < 2 ^ 63) (hk : k.size ≤ maxLen) (he : sget L k = some (rowV f n)) :
    Calls Try.prog 77 #[.pointer (some ⟨b, 0, none⟩), .string k] W fun e W' => (∃ g, e = .returned (.slice (some ⟨g, 0, none⟩) n n) ∧ (∀ i, i < n → W'.cell? ⟨g, i, none⟩ = some (.int .i64 (f i))) ∧ g < W'.heap.size ∧ W.heap.size ≤ g) ∧ Below W.heap.size W W' := by
  have HG := Lib.hid (h.get_some k (rowV f n) hk he)
  have HN := Lib.hid (fun w => nums_row w hn hf)
  have HNB : Hid (Calls Try.prog 111 #[.func (Fn.func 47) #[.pointer (some ⟨b, 0, none⟩)] #[], .string k] W fun e W' => (∃ g, e = .returned (.slice (some ⟨g, 0, none⟩) n n) ∧ (∀ i, i < n → W'.cell? ⟨g, i, none⟩ = some (.int .i64 (f i))) ∧ g < W'.heap.size ∧ W.heap.size ≤ g) ∧ Below W.heap.size W W') := by
    obtain ⟨rv, hrv⟩ : ∃ x, x = rowV f n := ⟨_, rfl⟩
    rw [← hrv] at HG HN
    have HN0 := Lib.hid hn0
    clear h hk he hn hf hrv hn0
    refine Lib.hid ?_
    go_enter Try.func111, Try.ntmps111
    go_wp2_with (first
      | (go_at_call 113; refine (HN.out w1).mono ?_; rintro e w2 ⟨rfl, hc, hl, hb⟩; have HSz := Lib.hid HB1.out.size; have HC := Lib.hid hc; have HL := Lib.hid (hl HN0.out); have HB2 := Lib.hid (HB1.out.trans (hb.mono HB1.out.size)); clear hc hl hb)
      | (go_at_call 47; refine HG.out.mono ?_; rintro e w1 ⟨rfl, _, hb1⟩; have HB1 := Lib.hid hb1; clear hb1))
    go_ret
    exact ⟨⟨_, rfl, HC.out, HL.out, HSz.out⟩, HB2.out⟩
  clear h hk he hn hf HG HN hn0
  go_enter Try.func77, Try.ntmps77
  go_wp2_with (go_at_call 111; refine HNB.out.mono ?_; rintro e w1 ⟨⟨g, rfl, hc, hl, hz⟩, hb1⟩; have HC := Lib.hid hc; have HL := Lib.hid hl; have HZz := Lib.hid hz; have HB1 := Lib.hid hb1; clear hb1 hc hl hz)
  go_ret
  exact ⟨⟨g, rfl, HC.out, HL.out, HZz.out⟩, HB1.out⟩
set_option maxRecDepth 100000 in
set_option maxHeartbeats 2000000 in
theorem peek_live {w W : World} {b : Nat} {F : List Nat} {L : SL} {q : Nat} {qs : List Value} (h : SNew w W b F L q qs) (t : Int) (K0 Kx : ByteArray) (x y : Int) (hK : keyStr t (fun _ => 0) 0 = K0) (hKx : keyStr t (icat (fun _ => 0) 0 fun _ => x) (0 + 1) = Kx) (hk : K0.size ≤ maxLen) (hkx : Kx.size ≤ maxLen)
    (hE : endsAt L K0 x y) (hlt : x < y) (m : Nat) (g : Nat → Int) (hm1 : 1 ≤ m) (hm : m ≤ 100) (hg : ∀ i, i < m → 0 ≤ g i ∧ g i < 2 ^ 63) (hR : sget L Kx = some (rowV g m)) :
    Calls Try.prog 75 #[.pointer (some ⟨b, 0, none⟩), .int .i64 t, .slice none 0 0] W fun e w' => (∃ G, e = .returned (.tuple #[.slice (some ⟨G, 0, none⟩) m m, .bool true]) ∧ (∀ i, i < m → w'.cell? ⟨G, i, none⟩ = some (.int .i64 (g i))) ∧ G < w'.heap.size ∧ W.heap.size ≤ G) ∧ Below W.heap.size W w' := by
  have hxy := hE.bounds
  obtain ⟨W0, hW0⟩ : ∃ W0, W0 = W.alloc (.cells #[.pointer (some ⟨b, 0, none⟩), .int .i64 t, .slice none 0 0] 117) := ⟨_, rfl⟩
  have hb0 : Below W.heap.size W W0 := by rw [hW0]; exact (Below.refl _ _).alloc (Nat.le_refl _) _
  have r0 : W0.heap[W.heap.size]? = some (.cells #[.pointer (some ⟨b, 0, none⟩), .int .i64 t, .slice none 0 0] 117 (0, 0)) := by rw [hW0]; exact heap_alloc_new _ _
  have f0 := fun (dq : Nat) (osq : Array Obj) => cell_regrown (w := W0) (a := ⟨W.heap.size, 0, none⟩) ((hp_cell (i := 0) r0).trans rfl) dq osq
  have f1 := fun (dq : Nat) (osq : Array Obj) => cell_regrown (w := W0) (a := ⟨W.heap.size, 1, none⟩) ((hp_cell (i := 1) r0).trans rfl) dq osq
  have f2 := fun (dq : Nat) (osq : Array Obj) => cell_regrown (w := W0) (a := ⟨W.heap.size, 2, none⟩) ((hp_cell (i := 2) r0).trans rfl) dq osq
  have HEs := Lib.hid (fun (dq : Nat) (osq : Array Obj) => ends_live (h.below (hb0.trans ((below_regrown W0 dq osq).mono hb0.size))) t K0 hK hk x y hE)
  have HAt := Lib.hid (fun (dq : Nat) (osq : Array Obj) => qat_is (some ⟨b, 0, none⟩) t none 0 0 (fun _ => 0) x Kx hKx (grow (redrawn W0 dq) osq) (il_nilQ _) (fun _ => ⟨rfl, rfl⟩) (by omega) (by omega))
  have HRw := Lib.hid (fun (W1 : World) (hb : Below W.heap.size W W1) => crow_fresh (h.below hb) Kx g m hm1 hm hg hkx hR)
  have HLn := Lib.hid (fun (W1 : World) (hb : Below W.heap.size W W1) => qlen_walk (some ⟨b, 0, none⟩) t none 0 0 x y hxy.1 hxy.2.1 hxy.2.2 W1 (fun W2 hb1 => ends_live (h.below (hb.trans (hb1.mono hb.size))) t K0 hK hk x y hE))
  have H0 := Lib.hid hb0
  have HW := Lib.hid hW0
  have hix := idx20
  have n1 : ((y - x) == 0) = false := by rw [beq_eq_false_iff_ne]; omega
  have n2 : ((m : Int) == 0) = false := by rw [beq_eq_false_iff_ne]; omega
  clear h hxy hK hKx hk hkx hE hlt hm1 hm hg hR hb0 hW0 r0
  go_enter Try.func75, Try.ntmps75
  go_upto_region 2 with fail
  rw [← HW.out]
  refine wp_region_quiet_tail 6 (by kernel_rfl) (by kernel_rfl) ?_
  simp only [List.take_succ_cons, List.take_zero]
  repeat (quiet_step (first
    | (go_at_call 70; with_reducible exact Calls.regrown_of (HEs.out _ _))
    | (go_at_call 72; with_reducible exact Calls.regrown_of (HAt.out _ _))))
  refine wpQuiet_nil ?_
  intro _ hw'
  obtain ⟨⟨dq, osq⟩, hw''⟩ := hw'
  subst hw''
  have H1 := Lib.hid (H0.out.trans ((below_regrown W0 dq osq).mono H0.out.size))
  clear f0 f1 f2 HEs HAt
  simp only [List.drop_succ_cons, List.drop_zero]
  go_wp2_with (first
    | (go_at_call 68; refine (HLn.out _ H2.out).mono ?_; rintro e w3 ⟨rfl, hb3⟩; have H3 := Lib.hid (H2.out.trans (hb3.mono H2.out.size)); have HR3 := Lib.hid (And.intro (fun i (hi : i < m) => (hb3.cell (p := ⟨G, i, none⟩) HR2.out.2.1).trans (HR2.out.1 i hi)) (And.intro (Nat.lt_of_lt_of_le HR2.out.2.1 hb3.size) HR2.out.2.2)); clear hb3)
    | (go_at_call 77; refine (HRw.out _ H1.out).mono ?_; rintro e w2 ⟨⟨G, rfl, hc, hg2, hz⟩, hb2⟩; have HR2 := Lib.hid (And.intro hc (And.intro hg2 (Nat.le_trans H1.out.size hz))); have H2 := Lib.hid (H1.out.trans (hb2.mono H1.out.size)); clear hb2 hc hg2 hz))
  go_ret2
  exact ⟨⟨G, rfl, HR3.out.1, HR3.out.2.1, HR3.out.2.2⟩, H3.out⟩
set_option maxRecDepth 100000 in
set_option maxHeartbeats 4000000 in
theorem pop_live {w W : World} {b : Nat} {F : List Nat} {L : SL} {q : Nat} {qs : List Value} (h : SNew w W b F L q qs) (t : Int) (K0 Kx : ByteArray) (x y : Int) (hK : keyStr t (fun _ => 0) 0 = K0) (hKx : keyStr t (icat (fun _ => 0) 0 fun _ => x) (0 + 1) = Kx) (hk : K0.size ≤ maxLen) (hk0 : K0 ≠ ⟨#[]⟩) (hkx : Kx.size ≤ maxLen)
    (hE : endsAt L K0 x y) (hlt : x < y) (m : Nat) (g : Nat → Int) (hm1 : 1 ≤ m) (hm : m ≤ 100) (hg : ∀ i, i < m → 0 ≤ g i ∧ g i < 2 ^ 63) (hR : sget L Kx = some (rowV g m)) (hE1 : endsAt (sdel L Kx) K0 x y) (hne : x + 1 ≠ y + 0) (hN : L.length < 128) (hN1 : (sdel L Kx).length < 128) (hq : q + 2 < 1000000) :
    Calls Try.prog 22 #[.pointer (some ⟨b, 0, none⟩), .int .i64 t, .slice none 0 0] W fun e w' => (∃ G, e = .returned (.tuple #[.slice (some ⟨G, 0, none⟩) m m, .bool true]) ∧ (∀ i, i < m → w'.cell? ⟨G, i, none⟩ = some (.int .i64 (g i))) ∧ G < w'.heap.size) ∧ LiveTo w W w' b F (setL (sdel L Kx) K0 (rowV (two2 (x + 1) (y + 0)) 2)) (q + 2) := by
  have hxy := hE.bounds
  have HPk := Lib.hid (peek_live h t K0 Kx x y hK hKx hk hkx hE hlt m g hm1 hm hg hR)
  have hFl : ∀ k, W.heap.size ≤ k → k ∉ F := fun k hk hm => by have := h.s.lt _ hm; omega
  have HEn := Lib.hid (fun (W1 : World) (hb : Below W.heap.size W W1) => ends_live (h.below hb) t K0 hK hk x y hE)
  have HAt := Lib.hid (fun (W1 : World) => qat_is (some ⟨b, 0, none⟩) t none 0 0 (fun _ => 0) x Kx hKx W1 (il_nilQ W1) (fun _ => ⟨rfl, rfl⟩) (by omega) (by omega))
  have HDe := Lib.hid (fun (W1 : World) (hb : Below W.heap.size W W1) => show Calls Try.prog 76 #[.pointer (some ⟨b, 0, none⟩), .string Kx] W1 fun e W' => e = .returned (.bool true) ∧ LiveTo w W1 W' b F (sdel L Kx) (q + 1) from by
    have := (h.below hb).del Kx hkx (by omega) (by omega)
    rw [hR] at this
    exact this)
  have HTu := Lib.hid (fun (W0 W1 : World) (hb0 : Below W.heap.size W W0) (hl1 : LiveTo w W0 W1 b F (sdel L Kx) (q + 1)) => LiveTo.seqK hFl hb0 hl1 1 (fun F1 qa qsa hs hqa => turn_live hs t none 0 0 (fun _ => 0) (il_nilQ W1) (by omega) K0 hK hk hk0 x y 1 0 (by omega) (by omega) (by omega) (by omega) hne hN1 (by omega) (fun W2 hb2 => ends_live (hs.below hb2) t K0 hK hk x y hE1)))
  have HF := Lib.hid hFl
  have hix := idx20
  obtain ⟨l1, e1⟩ : ∃ z, z = sdel L Kx := ⟨_, rfl⟩
  rw [← e1] at HDe HTu ⊢
  clear h hxy hK hKx hk hk0 hkx hE hlt hm1 hm hg hR hE1 hne hN hN1 hq hFl e1
  go_enter Try.func22, Try.ntmps22
  go_upto_region 4 with (go_at_call 75; refine HPk.out.mono ?_; rintro e w2 ⟨⟨G, rfl, hc, hg2, hz⟩, hb2⟩; have H2 := Lib.hid (And.intro hb2 (And.intro hc (And.intro hg2 hz))); clear hc hg2 hz hb2)
  obtain ⟨W3, hW3⟩ : ∃ W3, W3 = w2.alloc (.cells #[.pointer (some ⟨b, 0, none⟩), .int .i64 t, .slice none 0 0] 117) := ⟨_, rfl⟩
  have hb3 : Below w2.heap.size w2 W3 := by rw [hW3]; exact (Below.refl _ _).alloc (Nat.le_refl _) _
  have r3 : W3.heap[w2.heap.size]? = some (.cells #[.pointer (some ⟨b, 0, none⟩), .int .i64 t, .slice none 0 0] 117 (0, 0)) := by rw [hW3]; exact heap_alloc_new _ _
  rw [← hW3]
  have f0 := fun (dq : Nat) (osq : Array Obj) => cell_regrown (w := W3) (a := ⟨w2.heap.size, 0, none⟩) ((hp_cell (i := 0) r3).trans rfl) dq osq
  have f1 := fun (dq : Nat) (osq : Array Obj) => cell_regrown (w := W3) (a := ⟨w2.heap.size, 1, none⟩) ((hp_cell (i := 1) r3).trans rfl) dq osq
  have f2 := fun (dq : Nat) (osq : Array Obj) => cell_regrown (w := W3) (a := ⟨w2.heap.size, 2, none⟩) ((hp_cell (i := 2) r3).trans rfl) dq osq
  have H3 := Lib.hid (And.intro (H2.out.1.trans (hb3.mono H2.out.1.size)) (And.intro r3 (And.intro (fun i (hi : i < m) => (hb3.cell (p := ⟨G, i, none⟩) H2.out.2.2.1).trans (H2.out.2.1 i hi)) (Nat.lt_of_lt_of_le H2.out.2.2.1 hb3.size))))
  have HE3 := Lib.hid (fun (dq : Nat) (osq : Array Obj) => HEn.out (grow (redrawn W3 dq) osq) (H3.out.1.trans ((below_regrown W3 dq osq).mono H3.out.1.size)))
  clear hb3 r3 hW3
  refine wp_region_quiet_tail 7 (by kernel_rfl) (by kernel_rfl) ?_
  simp only [List.take_succ_cons, List.take_zero]
  repeat (quiet_step (first
    | (go_at_call 70; with_reducible exact Calls.regrown_of (HE3.out _ _))
    | (go_at_call 72; with_reducible exact Calls.regrown_of (HAt.out _))))
  refine wpQuiet_nil ?_
  intro _ hw'
  obtain ⟨⟨dq, osq⟩, hw''⟩ := hw'
  subst hw''
  have hb4 := below_regrown W3 dq osq
  have H4 := Lib.hid (And.intro (H3.out.1.trans (hb4.mono H3.out.1.size)) (And.intro ((hb4.block _ (hp_lt H3.out.2.1)).trans H3.out.2.1) (And.intro (fun i (hi : i < m) => (hb4.cell (p := ⟨G, i, none⟩) H3.out.2.2.2).trans (H3.out.2.2.1 i hi)) (Nat.lt_of_lt_of_le H3.out.2.2.2 hb4.size))))
  obtain ⟨W4, hW4⟩ : ∃ W4, W4 = grow (redrawn W3 dq) osq := ⟨_, rfl⟩
  rw [← hW4] at H4 ⊢
  clear f0 f1 f2 HE3 hb4 hW4
  simp only [List.drop_succ_cons, List.drop_zero]
  go_wp2_with (first
    | (go_at_call 73; refine (HTu.out _ _ H4.out.1 H6.out.1).mono ?_; rintro e w8 ⟨rfl, h8⟩; have H8 := Lib.hid h8; clear h8)
    | (go_at_call 76; refine (HDe.out _ H4.out.1).mono ?_; rintro e w6 ⟨rfl, h6⟩; have hT6 : Touch F W4 w6 := (by obtain ⟨_, _, _, _, _, ht, _⟩ := h6; exact ht); have r6 := (hT6.block _ (hp_lt H4.out.2.1) (HF.out _ H2.out.1.size)).trans H4.out.2.1; have H6 := Lib.hid (And.intro h6 hT6); have c0 := (hp_cell (i := 0) r6).trans rfl; have c1 := (hp_cell (i := 1) r6).trans rfl; have c2' := (hp_cell (i := 2) r6).trans rfl; clear h6 hT6 r6))
  go_ret2
  have hGW : W.heap.size ≤ G := H2.out.2.2.2
  have hG4 : G < W4.heap.size := H4.out.2.2.2
  refine ⟨⟨G, rfl, fun i hi => ?_, ?_⟩, H8.out.1⟩
  · have e1 : w8.heap[G]? = W4.heap[G]? := (H8.out.2.1 G hGW hG4).trans (H6.out.2.block G hG4 (HF.out G hGW))
    rw [← H4.out.2.2.1 i hi]
    simp only [World.cell?, e1]
  · exact Nat.lt_of_lt_of_le hG4 (Nat.le_trans H6.out.2.size H8.out.2.2)
/-! ### the document's example -/
def K3 : ByteArray := ⟨#[3]⟩
def K30 : ByteArray := ⟨#[3, 0, 0, 0, 0, 0, 0, 0, 0]⟩
def K31 : ByteArray := ⟨#[3, 0, 0, 0, 0, 0, 0, 0, 1]⟩
theorem key3 : keyStr 3 (fun _ => 0) 0 = K3 := by decide +kernel
theorem key30 : keyStr 3 (icat (fun _ => 0) 0 fun _ => 0) (0 + 1) = K30 := by decide +kernel
theorem key31 : keyStr 3 (icat (fun _ => 0) 0 fun _ => 1) (0 + 1) = K31 := by decide +kernel
def Q0 : SL := setL [] K30 (rowV (two2 1 2) 2)
def Q1 : SL := setL Q0 K3 (rowV (two2 (0 + 0) (0 + 1)) 2)
def Q2 : SL := setL Q1 K31 (rowV (fun _ => 3) 1)
def Q3 : SL := setL Q2 K3 (rowV (two2 (0 + 0) (1 + 1)) 2)
def Q4 : SL := sdel Q3 K30
def Q5 : SL := setL Q4 K3 (rowV (two2 (0 + 1) (2 + 0)) 2)
theorem q0e : endsAt Q0 K3 0 0 := .inl ⟨rfl, rfl, by decide +kernel⟩
theorem q1e : endsAt Q1 K3 0 1 := .inr ⟨by decide, by decide, by decide, by decide +kernel⟩
theorem q2e : endsAt Q2 K3 0 1 := .inr ⟨by decide, by decide, by decide, by decide +kernel⟩
theorem q3e : endsAt Q3 K3 0 2 := .inr ⟨by decide, by decide, by decide, by decide +kernel⟩
theorem q4e : endsAt Q4 K3 0 2 := .inr ⟨by decide, by decide, by decide, by decide +kernel⟩
theorem q5e : endsAt Q5 K3 1 2 := .inr ⟨by decide, by decide, by decide, by decide +kernel⟩
theorem q3r : sget Q3 K30 = some (rowV (two2 1 2) 2) := by decide +kernel
set_option maxRecDepth 100000 in
set_option maxHeartbeats 4000000 in
theorem lives12_walk (w : World) : Calls Try.prog 19 #[] w fun e w' => e = .returned (.bool true) ∧ Below w.heap.size w w' := by
  have D1 := Lib.hid (fun (W W1 : World) (b : Nat) (F : List Nat) (g : Nat) (hl : LiveTo w W W1 b F [] 0) (hil : Il W1 (some ⟨g, 0, none⟩) 2 (two2 1 2)) => show Calls Try.prog 20 #[.pointer (some ⟨b, 0, none⟩), .int .i64 3, .slice none 0 0, .int .i64 5, .slice (some ⟨g, 0, none⟩) 2 2] W1 fun e W2 => e = .returned (.int .i64 0) ∧ LiveTo w W W2 b F Q1 (0 + 2) from hl.seq 2 (fun F1 qa qsa hs hqa => push_live hs 3 K3 K30 0 0 key3 key30 (by decide) (by decide) (by decide) (by decide) (.inl ⟨rfl, rfl, rfl⟩) 5 (by decide) _ 2 2 (two2 1 2) hil (by omega) (by omega) (fun i _ => by unfold two2; split <;> decide) q0e (by decide) (by decide +kernel) (by omega)))
  have D2 := Lib.hid (fun (W W1 : World) (b : Nat) (F : List Nat) (g : Nat) (hl : LiveTo w W W1 b F Q1 2) (hil : Il W1 (some ⟨g, 0, none⟩) 1 (fun _ => 3)) => show Calls Try.prog 20 #[.pointer (some ⟨b, 0, none⟩), .int .i64 3, .slice none 0 0, .int .i64 5, .slice (some ⟨g, 0, none⟩) 1 1] W1 fun e W2 => e = .returned (.int .i64 0) ∧ LiveTo w W W2 b F Q3 (2 + 2) from hl.seq 2 (fun F1 qa qsa hs hqa => push_live hs 3 K3 K31 0 1 key3 key31 (by decide) (by decide) (by decide) (by decide) q1e 5 (by decide) _ 1 1 (fun _ => 3) hil (by omega) (by omega) (fun i _ => by decide) q2e (by decide +kernel) (by decide +kernel) (by omega)))
  have D3 := Lib.hid (fun (W W1 : World) (b : Nat) (F : List Nat) (hl : LiveTo w W W1 b F Q3 4) => show Calls Try.prog 22 #[.pointer (some ⟨b, 0, none⟩), .int .i64 3, .slice none 0 0] W1 fun e w' => (∃ G, e = .returned (.tuple #[.slice (some ⟨G, 0, none⟩) 2 2, .bool true]) ∧ Il w' (some ⟨G, 0, none⟩) 2 (two2 1 2)) ∧ ∃ F2 q2 qs2, SNew w w' b F2 Q5 q2 qs2 from by
    obtain ⟨F1, qa, qsa, hs, hqa, _⟩ := hl
    refine (pop_live hs 3 K3 K30 0 2 key3 key30 (by decide) (by decide) (by decide) q3e (by decide) 2 (two2 1 2) (by omega) (by omega) (fun i _ => by unfold two2; split <;> decide) q3r q4e (by decide) (by decide +kernel) (by decide +kernel) (by omega)).mono ?_
    rintro e w' ⟨⟨G, he, hc, hlt⟩, F2, q2, qs2, hs2, _⟩
    exact ⟨⟨G, he, ⟨fun i => by unfold two2; split <;> decide, fun _ => ⟨G, 0, rfl, hlt, fun i hi => by rw [Nat.zero_add]; exact hc i hi⟩⟩⟩, F2, q2, qs2, hs2⟩)
  have D4 := Lib.hid (fun (W1 : World) (b : Nat) (F : List Nat) (q : Nat) (qs : List Value) (hs : SNew w W1 b F Q5 q qs) => qlen_walk (some ⟨b, 0, none⟩) 3 none 0 0 1 2 (by decide) (by decide) (by decide) W1 (fun W2 hb2 => ends_live (hs.below hb2) 3 K3 key3 (by decide) 1 2 q5e))
  obtain ⟨r1, e1⟩ : ∃ x, x = Q1 := ⟨_, rfl⟩
  obtain ⟨r3, e3⟩ : ∃ x, x = Q3 := ⟨_, rfl⟩
  obtain ⟨r5, e5⟩ : ∃ x, x = Q5 := ⟨_, rfl⟩
  rw [← e1] at D1 D2
  rw [← e3] at D2 D3
  rw [← e5] at D3 D4
  clear e1 e3 e5
  go_enter Try.func19, Try.ntmps19
  go_wp2_with (first
    | (go_at_call 68; refine (D4.out _ _ _ _ _ (h5.out)).mono ?_; rintro e w6 ⟨rfl, hb6⟩; have h6 := Lib.hid (h5.out.below hb6); clear hb6)
    | (go_at_call 23; have hi1 := i4.out.below ((Below.refl w4.heap.size w4).alloc (Nat.le_refl _) (.cells #[.int .i64 1, .int .i64 2] 3)); refine (ints_walk (some ⟨G, 0, none⟩) (some ⟨w4.heap.size, 0, none⟩) 2 2 2 2 (two2 1 2) (two2 1 2) _ hi1 (il2 1 2 w4 3 (by decide) (by decide)) (by omega) ⟨rfl, fun _ _ => rfl⟩).mono ?_; clear hi1; rintro e w5 ⟨rfl, hb5⟩; have h5 := Lib.hid ((h4.out.below ((Below.refl w4.heap.size w4).alloc (Nat.le_refl _) (.cells #[.int .i64 1, .int .i64 2] 3))).below hb5); clear hb5)
    | (go_at_call 22; refine (D3.out _ _ _ _ h3.out).mono ?_; rintro e w4 ⟨⟨G, rfl, hil⟩, F4, q4, qs4, hs4⟩; have h4 := Lib.hid hs4; have i4 := Lib.hid hil; clear hs4 hil)
    | (go_at_call 20; have g5 := h2; clear g5; refine (D2.out _ _ _ _ _ (h2.out.al (.cells #[.int .i64 3] 3)) (il1 3 w2 3 (by decide))).mono ?_; rintro e w3 ⟨rfl, hs3⟩; have h3 := Lib.hid hs3; clear hs3)
    | (go_at_call 20; refine (D1.out _ _ _ _ _ (h1.out.start.al (.cells #[.int .i64 1, .int .i64 2] 3)) (il2 1 2 w1 3 (by decide) (by decide))).mono ?_; rintro e w2 ⟨rfl, hs2⟩; have h2 := Lib.hid hs2; clear hs2)
    | (go_at_call 13; refine (SNew.new w _ (Below.refl _ _)).mono ?_; rintro e w1 ⟨b, F1, rfl, hs1, _, _⟩; have h1 := Lib.hid hs1; clear hs1))
  go_ret
  exact ⟨rfl, h6.out.l⟩
end Go.Proofs.Ytedkhpnlhkjjgaa
