/- A store with its changes: what Set and Delete add to them, plain; entries that tell the same are the same. -/
import Derived.Test.YtffipojlpdphiaaG20
import Derived.Test.YtffipojlpdphiaaG09
import Derived.Test.YtffipojlpdphiaaG01
import Derived.Test.YtffipojlpdphiaaG14
namespace Go.Proofs.Ytffipojlpdphiaa
open Go.RowKit Go.Maps Go.Sort

theorem sget_cons (p : ByteArray × ByteArray) (r : SL) (k : ByteArray) : sget (p :: r) k = if p.1 = k then some p.2 else sget r k := by
  unfold sget
  rw [List.find?_cons]
  by_cases e : p.1 = k
  · rw [if_pos e, keq_iff.2 e]; rfl
  · rw [if_neg e, show keq p.1 k = false by cases h : keq p.1 k with
      | false => rfl
      | true => exact absurd (keq_iff.1 h) e]
theorem sget_low {L : SL} {k : ByteArray} (h : ∀ p ∈ L, k.data.toList < p.1.data.toList) : sget L k = none :=
  sget_of_none fun p hp => by
    cases h2 : keq p.1 k with
    | false => rfl
    | true =>
      have h3 := h p hp
      rw [keq_iff.1 h2] at h3
      exact absurd h3 (List.lt_irrefl _)
theorem ris_cons {p : ByteArray × ByteArray} {r : SL} (h : Rising (skeys (p :: r))) : (∀ q ∈ r, p.1.data.toList < q.1.data.toList) ∧ Rising (skeys r) := by
  have h2 := List.pairwise_cons.1 (show (p.1 :: skeys r).Pairwise _ from h)
  exact ⟨fun q hq => h2.1 q.1 (List.mem_map.2 ⟨q, hq, rfl⟩), h2.2⟩
theorem ba_ext' {a b : ByteArray} (h : a.data.toList = b.data.toList) : a = b := lit_inj (congrArg Lit.string h)
theorem sl_ext : ∀ A B : SL, Rising (skeys A) → Rising (skeys B) → (∀ k, sget A k = sget B k) → A = B
  | [], [], _, _, _ => rfl
  | [], p :: r, _, _, h => by
    have := h p.1
    rw [sget_cons, if_pos rfl] at this
    cases this
  | p :: r, [], _, _, h => by
    have := h p.1
    rw [sget_cons, if_pos rfl] at this
    cases this
  | p :: r, p' :: r', hA, hB, h => by
    obtain ⟨a1, a2⟩ := ris_cons hA
    obtain ⟨b1, b2⟩ := ris_cons hB
    by_cases e : p.1 = p'.1
    · have h1 := h p.1
      rw [sget_cons, if_pos rfl, sget_cons, if_pos e.symm] at h1
      have ep : p = p' := Prod.ext e (Option.some.inj h1)
      subst ep
      rw [sl_ext r r' a2 b2 fun k => ?_]
      by_cases ek : p.1 = k
      · subst ek
        rw [sget_low a1, sget_low b1]
      · have h2 := h k
        rw [sget_cons, if_neg ek, sget_cons, if_neg ek] at h2
        exact h2
    · exfalso
      rcases (by
        by_cases h1 : p.1.data.toList < p'.1.data.toList
        · exact .inl h1
        · by_cases h2 : p'.1.data.toList < p.1.data.toList
          · exact .inr h2
          · exact absurd (ba_ext' (List.le_antisymm h2 h1)) e : p.1.data.toList < p'.1.data.toList ∨ p'.1.data.toList < p.1.data.toList) with h1 | h1
      · have h2 := h p.1
        rw [sget_cons, if_pos rfl, sget_low (L := p' :: r') fun q hq => ?_] at h2
        · cases h2
        · rcases List.mem_cons.1 hq with rfl | hq
          · exact h1
          · exact List.lt_trans h1 (b1 q hq)
      · have h2 := h p'.1
        rw [sget_cons p', if_pos rfl, sget_low (L := p :: r) fun q hq => ?_] at h2
        · cases h2
        · rcases List.mem_cons.1 hq with rfl | hq
          · exact h1
          · exact List.lt_trans h1 (a1 q hq)
theorem rising_sset {L : SL} (hr : Rising (skeys L)) (k v : ByteArray) : Rising (skeys (sset L k v)) := by
  rw [skeys_sset]
  split
  · exact hr
  · rename_i h
    refine rising_ins hr fun hm => ?_
    obtain ⟨p, hp, rfl⟩ := List.mem_map.1 hm
    have := sget_none (by simpa using h) p hp
    rw [keq_iff.2 rfl] at this
    cases this
theorem undo_sset {L : SL} (hr : Rising (skeys L)) (k v : ByteArray) : undo1 (sset L k v) (k, (sget L k).isSome, (sget L k).getD ⟨#[]⟩) = L := by
  unfold undo1
  cases hs : sget L k with
  | none =>
    refine sl_ext _ _ (rising_sdel (rising_sset hr k v)) hr fun x => ?_
    show sget (sdel (sset L k v) k) x = _
    rw [sget_sdel, sget_sset]
    by_cases e : x = k
    · rw [if_pos e, e, hs]
    · rw [if_neg e, if_neg e]
  | some o =>
    refine sl_ext _ _ (rising_sset (rising_sset hr k v) k o) hr fun x => ?_
    show sget (sset (sset L k v) k o) x = _
    rw [sget_sset, sget_sset]
    by_cases e : x = k
    · rw [if_pos e, e, hs]
    · rw [if_neg e, if_neg e]
theorem undo_sdel {L : SL} (hr : Rising (skeys L)) {k o : ByteArray} (hs : sget L k = some o) : undo1 (sdel L k) (k, true, o) = L := by
  refine sl_ext _ _ (rising_sset (rising_sdel hr) k o) hr fun x => ?_
  show sget (sset (sdel L k) k o) x = _
  rw [sget_sset, sget_sdel]
  by_cases e : x = k
  · rw [if_pos e, e, hs]
  · rw [if_neg e, if_neg e]
/-- all keys and values are of sizes that there are -/
def SzOk (L : SL) : Prop := ∀ p ∈ L, p.1.size ≤ maxLen ∧ p.2.size ≤ maxLen
theorem SzOk.get {L : SL} (h : SzOk L) {k o : ByteArray} (hs : sget L k = some o) : o.size ≤ maxLen := by
  unfold sget at hs
  obtain ⟨p, hp, rfl⟩ := Option.map_eq_some_iff.1 hs
  exact (h p (List.mem_of_find?_eq_some hp)).2
theorem SzOk.sset {L : SL} (h : SzOk L) {k v : ByteArray} (hk : k.size ≤ maxLen) (hv : v.size ≤ maxLen) : SzOk (sset L k v) := by
  intro p hp
  unfold Go.Proofs.Ytffipojlpdphiaa.sset at hp
  split at hp
  · obtain ⟨q, hq, rfl⟩ := List.mem_map.1 hp
    split
    · exact ⟨hk, hv⟩
    · exact h q hq
  · rcases List.mem_append.1 hp with hp | hp
    · rcases List.mem_append.1 hp with hp | hp
      · exact h p (List.mem_of_mem_take hp)
      · rw [List.mem_singleton.1 hp]; exact ⟨hk, hv⟩
    · exact h p (List.mem_of_mem_drop hp)
theorem SzOk.sdel {L : SL} (h : SzOk L) (k : ByteArray) : SzOk (sdel L k) := fun p hp => h p (List.mem_filter.1 hp).1
end Go.Proofs.Ytffipojlpdphiaa

namespace Go.Proofs.Ytffipojlpdphiaa
open Go.RowKit

set_option maxRecDepth 100000 in
theorem parse9_walk (w : World) : Calls Try.prog 127 #[.string ⟨#[0, 0, 0, 0, 0, 0, 0, 0, 0]⟩] w fun e w' => e = .returned (.tuple #[.int .i64 0, .slice none 0 0, .bool false]) ∧ Below w.heap.size w w' := by
  go_enter Try.func127, Try.ntmps127
  go_wp2
  refine bodyPost_ret (v := .tuple #[.int .i64 0, .slice none 0 0, .bool false]) (by simp [results, Try.results127, go_sem]) rfl ⟨rfl, Below.refl _ _⟩
theorem keyStr12 : keyStr 1 (fun _ => 2) 1 = ⟨#[1, 0, 0, 0, 0, 0, 0, 0, 2]⟩ := by
  unfold keyStr
  rw [if_pos ⟨by decide, by decide, fun _ _ => by show (0 : Int) ≤ 2; decide⟩]
  decide +kernel
theorem key12_c (w : World) (g : Nat) (hg : g < w.heap.size) (hc : w.cell? ⟨g, 0, none⟩ = some (.int .i64 2)) : Calls Try.prog 72 #[.int .i64 1, .slice (some ⟨g, 0, none⟩) 1 1] w fun e w' => e = .returned (.string ⟨#[1, 0, 0, 0, 0, 0, 0, 0, 2]⟩) ∧ Below w.heap.size w w' := by
  have h := key_walk 1 (some ⟨g, 0, none⟩) 1 1 (fun _ => 2) w ⟨fun _ => by show (2 : Int) < 2 ^ 63; decide, fun _ => ⟨g, 0, rfl, hg, fun i hi => by rw [show i = 0 by omega]; exact hc⟩⟩ (by decide)
  exact h.mono fun e w' ⟨he, hw⟩ => ⟨by rw [he, keyStr12], hw⟩

end Go.Proofs.Ytffipojlpdphiaa

namespace Go.Proofs.Ytffipojlpdphiaa
open Go.RowKit

/-- the text of numbers, one behind the other -/
def valStr (f : Nat → Int) (n : Nat) : ByteArray := strOfNums (ints (tl f 0 n))
theorem valStr_list (f : Nat → Int) (n : Nat) : (valStr f n).data.toList = u8l (tl f 0 n) := by
  unfold valStr
  rw [strOfNums_data]
  simp [u8l, ints]
theorem tl_length (f : Nat → Int) (r : Nat) : ∀ d, (tl f r d).length = 8 * d
  | 0 => by simp [tl]
  | d + 1 => by rw [tl_snoc, List.length_append, tl_length f r d]; simp [kb8]; omega
theorem valStr_size (f : Nat → Int) (n : Nat) : (valStr f n).size = 8 * n := by unfold valStr; rw [strOfNums_size]; simp [ints, tl_length]
theorem i64n_get (f : Nat → Nat) {k i : Nat} (h : i < k) : (i64n f k)[i]? = some (.int .i64 (f i : Nat)) := by simp [i64n, h]
theorem ownN_Il {w : World} {B e : Nat} {v : Value} {n : Nat} {f : Nat → Int} {g : Nat → Nat} (hf : ∀ i, f i < 2 ^ 63) (hg : ∀ i, i < n → (g i : Int) = f i) (h : w.ownsRow B e 1 v n (i64n g n)) : ∃ A c, v = .slice A n c ∧ Il w A n f := by
  rcases h.2 with ⟨rfl, rfl⟩ | ⟨b, cap, cur, rfl, hb, hh, r⟩
  · exact ⟨none, 0, rfl, hf, fun h => absurd h (by omega)⟩
  · refine ⟨some ⟨b, 0, none⟩, cap, rfl, hf, fun _ => ⟨b, 0, rfl, lt_of_block hh, fun i hi => ?_⟩⟩
    rw [Nat.zero_add, h.cellAt i (by omega), i64n_get g hi, hg i hi]
/-- the numbers of a text that is made of numbers -/
theorem nums_yes_c (v : ByteArray) (f : Nat → Int) (n : Nat) (w : World) (hn : n ≤ 100) (hv : v.data.toList = u8l (tl f 0 n)) (hf : ∀ i, i < n → 0 ≤ f i) (hm : ∀ i, f i < 2 ^ 63) :
    Calls Try.prog 129 #[.string v] w fun e w' => (∃ A c, e = .returned (.tuple #[.slice A n c, .bool true]) ∧ Il w' A n f) ∧ Below w.heap.size w w' := by
  have hsz : v.size = 8 * n := by
    have : v.data.toList.length = 8 * n := by rw [hv]; simp [u8l, tl_length]
    rw [Array.length_toList] at this
    exact this
  have hch : ∀ i, i < n → (chunk v i : Int) = f i := fun i hi => by rw [chunk_tl hv hi (hm i)]; exact Int.toNat_of_nonneg (hf i hi)
  refine (nums_walk v n w hsz hn).mono fun e w' ⟨h, hw⟩ => ⟨?_, hw⟩
  rcases h with ⟨_, he, ho⟩ | ⟨⟨i, hi, hno⟩, _⟩
  · obtain ⟨A, c, e1, il⟩ := ownN_Il (f := f) hm hch ho
    exact ⟨A, c, by rw [he, e1], il⟩
  · exact absurd (show chunk v i < 2 ^ 63 by have := hch i hi; have := hm i; omega) hno
set_option maxRecDepth 100000 in
set_option maxHeartbeats 1000000 in
theorem ints_walk (A B : Option Addr) (n m c d : Nat) (f g : Nat → Int) (w : World) (ha : Il w A n f) (hb : Il w B m g) (hn : n ≤ 100) (h : n = m ∧ ∀ i, i < n → f i = g i) :
    Calls Try.prog 37 #[.slice A n c, .slice B m d] w fun e w' => e = .returned (.bool true) ∧ Below w.heap.size w w' := by
  obtain ⟨rfl, he⟩ := h
  have hnI : (n : Int) ≤ 100 := by omega
  have He := Lib.hid he
  clear he
  go_enter Try.func37, Try.ntmps37
  go_wp2
  go_loopw [13] (fun i wr => ∃ k : Nat, k ≤ n ∧ i = .int .i64 (k : Nat) ∧ Below w.heap.size w wr) (fun x _ => n - (intOf x).toNat)
  case atStart => exact ⟨0, by omega, rfl, Below.refl _ _⟩
  case round =>
    obtain ⟨k, hk, rfl, hbel⟩ := hrel
    have kI : (k : Int) ≤ n := by omega
    by_cases hlt : k < n
    · obtain ⟨ga, oa, rfl, hga, hxa⟩ := ha.at_ (by omega)
      obtain ⟨gb, ob, rfl, hgb, hxb⟩ := hb.at_ (by omega)
      have q1 : (k : Int) < n := by omega
      have q2 : IntKind.i64.wrap ((k : Int) + 1) = (k : Int) + 1 := IntWalk.i64_in _ (by omega)
      have hfg := He.out k hlt
      have c1 : wr.cell? ⟨ga, oa + k, none⟩ = some (.int .i64 (f k)) := by rw [hbel.cell (p := ⟨ga, oa + k, none⟩) hga]; exact hxa k hlt
      have c2 : wr.cell? ⟨gb, ob + k, none⟩ = some (.int .i64 (f k)) := by rw [hbel.cell (p := ⟨gb, ob + k, none⟩) hgb, hfg]; exact hxb k hlt
      clear ha hb hxa hxb hfg
      go_wp2
      go_region
      all_goals
        go_wp2
        go_roundw
        case rel => exact ⟨k + 1, by omega, by go_num, below_drewN hbel 1⟩
        case measure => simp [intOf]; omega
    · obtain rfl : k = n := by omega
      have q1 : ¬ (k : Int) < k := by omega
      go_wp2
      go_ret
      exact ⟨rfl, hbel⟩
set_option maxRecDepth 100000 in
set_option maxHeartbeats 1000000 in
theorem parse_text_walk (s : ByteArray) (t n : Nat) (f : Nat → Int) (w : World) (hn : n ≤ 100) (h0 : 0 < s.size) (hs0 : (s[0]'h0).toNat = t) (ht : t ≠ 0) (hv : (s.extract 1 s.size).data.toList = u8l (tl f 0 n)) (hf : ∀ i, i < n → 0 ≤ f i) (hm : ∀ i, f i < 2 ^ 63) :
    Calls Try.prog 127 #[.string s] w fun e w' => (∃ A c, e = .returned (.tuple #[.int .i64 (t : Nat), .slice A n c, .bool true]) ∧ Il w' A n f) ∧ Below w.heap.size w w' := by
  have e0 : s.toList.isEmpty = false := by
    have : s.toList.length = s.size := by rw [ByteArray.toList_eq]; simp
    cases h : s.toList with
    | nil => rw [h] at this; simp at this; omega
    | cons a l => rfl
  have b1 : ((t : Int) == 0) = false := by rw [beq_eq_false_iff_ne]; omega
  have b2 : IntKind.i64.wrap (t : Int) = (t : Int) := IntWalk.i64_in _ (by have := UInt8.toNat_lt (s[0]'h0); omega)
  have HN := Lib.hid (fun w => nums_yes_c (s.extract 1 s.size) f n w hn hv hf hm)
  clear hv hf hm ht
  go_enter Try.func127, Try.ntmps127
  go_wp2_with (go_at_call 129; refine (HN.out _).mono ?_; rintro e w1 ⟨⟨A, c, rfl, il⟩, hb1⟩)
  refine bodyPost_ret (v := .tuple #[.int .i64 (t : Nat), .slice A n c, .bool true]) (by simp [results, Try.results127, go_sem]) rfl ⟨⟨A, c, rfl, il⟩, hb1⟩
theorem keyStr_yes {t : Nat} {f : Nat → Int} {n : Nat} (h1 : 1 ≤ t) (h2 : t ≤ 255) (hf : ∀ i, i < n → 0 ≤ f i) : keyStr t f n = strOfNums (ints (t :: tl f 0 n)) := by
  unfold keyStr
  rw [if_pos ⟨by omega, by omega, hf⟩, Int.toNat_natCast, kbs_tl]
theorem parse_key_c (t : Nat) (f : Nat → Int) (n : Nat) (w : World) (h1 : 1 ≤ t) (h2 : t ≤ 255) (hn : n ≤ 100) (hf : ∀ i, i < n → 0 ≤ f i) (hm : ∀ i, f i < 2 ^ 63) :
    Calls Try.prog 127 #[.string (keyStr t f n)] w fun e w' => (∃ A c, e = .returned (.tuple #[.int .i64 (t : Nat), .slice A n c, .bool true]) ∧ Il w' A n f) ∧ Below w.heap.size w w' := by
  have hk := keyStr_yes h1 h2 hf
  have hsz : (keyStr t f n).size = 8 * n + 1 := by rw [hk, strOfNums_size]; simp [ints, tl_length]
  have hl : (keyStr t f n).data.toList = UInt8.ofNat t :: u8l (tl f 0 n) := by rw [hk, strOfNums_data]; simp [u8l, ints]
  refine parse_text_walk (keyStr t f n) t n f w hn (by omega) ?_ (by omega) ?_ hf hm
  · have e : (keyStr t f n)[0] = UInt8.ofNat t := by
      have h3 : (keyStr t f n).data.toList[0]? = some (UInt8.ofNat t) := by rw [hl]; rfl
      have h4 : (keyStr t f n).data[0]? = some (UInt8.ofNat t) := by rw [← Array.getElem?_toList]; exact h3
      have h5 := Array.getElem?_eq_some_iff.1 h4
      exact h5.2
    rw [e, UInt8.toNat_ofNat']
    exact Nat.mod_eq_of_lt (by omega)
  · have h3 : ((keyStr t f n).extract 1 (keyStr t f n).size).data.toList = (keyStr t f n).data.toList.drop 1 := by
      rw [ByteArray.data_extract, Array.toList_extract]
      simp only [List.extract_eq_take_drop]
      refine List.take_of_length_le ?_
      rw [List.length_drop, Array.length_toList]
      exact Nat.le_refl _
    rw [h3, hl]; rfl
end Go.Proofs.Ytffipojlpdphiaa
