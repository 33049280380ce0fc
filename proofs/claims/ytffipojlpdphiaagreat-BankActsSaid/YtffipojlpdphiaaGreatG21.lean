/- A store with its changes: what Set and Delete add to them, plain; entries that tell the same are the same. -/
import Derived.Test.YtffipojlpdphiaaGreatG20
import Derived.Test.YtffipojlpdphiaaGreatG09
import Derived.Test.YtffipojlpdphiaaGreatG01
import Derived.Test.YtffipojlpdphiaaGreatG14
namespace Go.Proofs.YtffipojlpdphiaaGreat
open Go.RowKit Go.Maps Go.Sort

theorem sget_cons (p : ByteArray × ByteArray) (r : SL) (k : ByteArray) : sget (p :: r) k = if p.1 = k then some p.2 else sget r k := by
  unfold sget
  rw [List.find?_cons]
  by_cases e : p.1 = k
  · rw [if_pos e, keq_iff.2 e]; rfl
  · rw [if_neg e, show keq p.1 k = false by cases h : keq p.1 k with
      | false => rfl
      | true => exact absurd (keq_iff.1 h) e]
theorem sget_low {L : SL} {k : ByteArray} (h : ∀ p ∈ L, k.data.toList < p.1.data.toList) : sget L k = none :=
  sget_of_none fun p hp => by
    cases h2 : keq p.1 k with
    | false => rfl
    | true =>
      have h3 := h p hp
      rw [keq_iff.1 h2] at h3
      exact absurd h3 (List.lt_irrefl _)
theorem ris_cons {p : ByteArray × ByteArray} {r : SL} (h : Rising (skeys (p :: r))) : (∀ q ∈ r, p.1.data.toList < q.1.data.toList) ∧ Rising (skeys r) := by
  have h2 := List.pairwise_cons.1 (show (p.1 :: skeys r).Pairwise _ from h)
  exact ⟨fun q hq => h2.1 q.1 (List.mem_map.2 ⟨q, hq, rfl⟩), h2.2⟩
theorem ba_ext' {a b : ByteArray} (h : a.data.toList = b.data.toList) : a = b := lit_inj (congrArg Lit.string h)
theorem sl_ext : ∀ A B : SL, Rising (skeys A) → Rising (skeys B) → (∀ k, sget A k = sget B k) → A = B
  | [], [], _, _, _ => rfl
  | [], p :: r, _, _, h => by
    have := h p.1
    rw [sget_cons, if_pos rfl] at this
    cases this
  | p :: r, [], _, _, h => by
    have := h p.1
    rw [sget_cons, if_pos rfl] at this
    cases this
  | p :: r, p' :: r', hA, hB, h => by
    obtain ⟨a1, a2⟩ := ris_cons hA
    obtain ⟨b1, b2⟩ := ris_cons hB
    by_cases e : p.1 = p'.1
    · have h1 := h p.1
      rw [sget_cons, if_pos rfl, sget_cons, if_pos e.symm] at h1
      have ep : p = p' := Prod.ext e (Option.some.inj h1)
      subst ep
      rw [sl_ext r r' a2 b2 fun k => ?_]
      by_cases ek : p.1 = k
      · subst ek
        rw [sget_low a1, sget_low b1]
      · have h2 := h k
        rw [sget_cons, if_neg ek, sget_cons, if_neg ek] at h2
        exact h2
    · exfalso
      rcases (by
        by_cases h1 : p.1.data.toList < p'.1.data.toList
        · exact .inl h1
        · by_cases h2 : p'.1.data.toList < p.1.data.toList
          · exact .inr h2
          · exact absurd (ba_ext' (List.le_antisymm h2 h1)) e : p.1.data.toList < p'.1.data.toList ∨ p'.1.data.toList < p.1.data.toList) with h1 | h1
      · have h2 := h p.1
        rw [sget_cons, if_pos rfl, sget_low (L := p' :: r') fun q hq => ?_] at h2
        · cases h2
        · rcases List.mem_cons.1 hq with rfl | hq
          · exact h1
          · exact List.lt_trans h1 (b1 q hq)
      · have h2 := h p'.1
        rw [sget_cons p', if_pos rfl, sget_low (L := p :: r) fun q hq => ?_] at h2
        · cases h2
        · rcases List.mem_cons.1 hq with rfl | hq
          · exact h1
          · exact List.lt_trans h1 (a1 q hq)
theorem rising_sset {L : SL} (hr : Rising (skeys L)) (k v : ByteArray) : Rising (skeys (sset L k v)) := by
  rw [skeys_sset]
  split
  · exact hr
  · rename_i h
    refine rising_ins hr fun hm => ?_
    obtain ⟨p, hp, rfl⟩ := List.mem_map.1 hm
    have := sget_none (by simpa using h) p hp
    rw [keq_iff.2 rfl] at this
    cases this
theorem undo_sset {L : SL} (hr : Rising (skeys L)) (k v : ByteArray) : undo1 (sset L k v) (k, (sget L k).isSome, (sget L k).getD ⟨#[]⟩) = L := by
  unfold undo1
  cases hs : sget L k with
  | none =>
    refine sl_ext _ _ (rising_sdel (rising_sset hr k v)) hr fun x => ?_
    show sget (sdel (sset L k v) k) x = _
    rw [sget_sdel, sget_sset]
    by_cases e : x = k
    · rw [if_pos e, e, hs]
    · rw [if_neg e, if_neg e]
  | some o =>
    refine sl_ext _ _ (rising_sset (rising_sset hr k v) k o) hr fun x => ?_
    show sget (sset (sset L k v) k o) x = _
    rw [sget_sset, sget_sset]
    by_cases e : x = k
    · rw [if_pos e, e, hs]
    · rw [if_neg e, if_neg e]
theorem undo_sdel {L : SL} (hr : Rising (skeys L)) {k o : ByteArray} (hs : sget L k = some o) : undo1 (sdel L k) (k, true, o) = L := by
  refine sl_ext _ _ (rising_sset (rising_sdel hr) k o) hr fun x => ?_
  show sget (sset (sdel L k) k o) x = _
  rw [sget_sset, sget_sdel]
  by_cases e : x = k
  · rw [if_pos e, e, hs]
  · rw [if_neg e, if_neg e]
/-- all keys and values are of sizes that there are -/
def SzOk (L : SL) : Prop := ∀ p ∈ L, p.1.size ≤ maxLen ∧ p.2.size ≤ maxLen
theorem SzOk.get {L : SL} (h : SzOk L) {k o : ByteArray} (hs : sget L k = some o) : o.size ≤ maxLen := by
  unfold sget at hs
  obtain ⟨p, hp, rfl⟩ := Option.map_eq_some_iff.1 hs
  exact (h p (List.mem_of_find?_eq_some hp)).2
theorem SzOk.sset {L : SL} (h : SzOk L) {k v : ByteArray} (hk : k.size ≤ maxLen) (hv : v.size ≤ maxLen) : SzOk (sset L k v) := by
  intro p hp
  unfold Go.Proofs.YtffipojlpdphiaaGreat.sset at hp
  split at hp
  · obtain ⟨q, hq, rfl⟩ := List.mem_map.1 hp
    split
    · exact ⟨hk, hv⟩
    · exact h q hq
  · rcases List.mem_append.1 hp with hp | hp
    · rcases List.mem_append.1 hp with hp | hp
      · exact h p (List.mem_of_mem_take hp)
      · rw [List.mem_singleton.1 hp]; exact ⟨hk, hv⟩
    · exact h p (List.mem_of_mem_drop hp)
theorem SzOk.sdel {L : SL} (h : SzOk L) (k : ByteArray) : SzOk (sdel L k) := fun p hp => h p (List.mem_filter.1 hp).1
end Go.Proofs.YtffipojlpdphiaaGreat

namespace Go.Proofs.YtffipojlpdphiaaGreat
open Go.RowKit

theorem keyStr12 : keyStr 1 (fun _ => 2) 1 = ⟨#[1, 0, 0, 0, 0, 0, 0, 0, 2]⟩ := by
  unfold keyStr
  rw [if_pos ⟨by decide, by decide, fun _ _ => by show (0 : Int) ≤ 2; decide⟩]
  decide +kernel
theorem key12_c (w : World) (g : Nat) (hg : g < w.heap.size) (hc : w.cell? ⟨g, 0, none⟩ = some (.int .i64 2)) : Calls Tryz.prog 27 #[.int .i64 1, .slice (some ⟨g, 0, none⟩) 1 1] w fun e w' => e = .returned (.string ⟨#[1, 0, 0, 0, 0, 0, 0, 0, 2]⟩) ∧ Below w.heap.size w w' := by
  have h := key_walk 1 (some ⟨g, 0, none⟩) 1 1 (fun _ => 2) w ⟨fun _ => by show (2 : Int) < 2 ^ 63; decide, fun _ => ⟨g, 0, rfl, hg, fun i hi => by rw [show i = 0 by omega]; exact hc⟩⟩ (by decide)
  exact h.mono fun e w' ⟨he, hw⟩ => ⟨by rw [he, keyStr12], hw⟩

end Go.Proofs.YtffipojlpdphiaaGreat

namespace Go.Proofs.YtffipojlpdphiaaGreat
open Go.RowKit

/-- the text of numbers, one behind the other -/
def valStr (f : Nat → Int) (n : Nat) : ByteArray := strOfNums (ints (tl f 0 n))
theorem valStr_list (f : Nat → Int) (n : Nat) : (valStr f n).data.toList = u8l (tl f 0 n) := by
  unfold valStr
  rw [strOfNums_data]
  simp [u8l, ints]
theorem tl_length (f : Nat → Int) (r : Nat) : ∀ d, (tl f r d).length = 8 * d
  | 0 => by simp [tl]
  | d + 1 => by rw [tl_snoc, List.length_append, tl_length f r d]; simp [kb8]; omega
theorem valStr_size (f : Nat → Int) (n : Nat) : (valStr f n).size = 8 * n := by unfold valStr; rw [strOfNums_size]; simp [ints, tl_length]
theorem i64n_get (f : Nat → Nat) {k i : Nat} (h : i < k) : (i64n f k)[i]? = some (.int .i64 (f i : Nat)) := by simp [i64n, h]
theorem ownN_Il {w : World} {B e : Nat} {v : Value} {n : Nat} {f : Nat → Int} {g : Nat → Nat} (hf : ∀ i, f i < 2 ^ 63) (hg : ∀ i, i < n → (g i : Int) = f i) (h : w.ownsRow B e 1 v n (i64n g n)) : ∃ A c, v = .slice A n c ∧ Il w A n f := by
  rcases h.2 with ⟨rfl, rfl⟩ | ⟨b, cap, cur, rfl, hb, hh, r⟩
  · exact ⟨none, 0, rfl, hf, fun h => absurd h (by omega)⟩
  · refine ⟨some ⟨b, 0, none⟩, cap, rfl, hf, fun _ => ⟨b, 0, rfl, lt_of_block hh, fun i hi => ?_⟩⟩
    rw [Nat.zero_add, h.cellAt i (by omega), i64n_get g hi, hg i hi]
theorem keyStr_yes {t : Nat} {f : Nat → Int} {n : Nat} (h1 : 1 ≤ t) (h2 : t ≤ 255) (hf : ∀ i, i < n → 0 ≤ f i) : keyStr t f n = strOfNums (ints (t :: tl f 0 n)) := by
  unfold keyStr
  rw [if_pos ⟨by omega, by omega, hf⟩, Int.toNat_natCast, kbs_tl]
end Go.Proofs.YtffipojlpdphiaaGreat
