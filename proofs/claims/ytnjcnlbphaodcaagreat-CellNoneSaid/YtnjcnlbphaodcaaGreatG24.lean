/- A store with its changes: what Set and Delete add to them, plain; entries that tell the same are the same. -/
import Derived.Test.YtnjcnlbphaodcaaGreatG23
import Derived.Test.YtnjcnlbphaodcaaGreatG09
namespace Go.Proofs.YtnjcnlbphaodcaaGreat
open Go.RowKit Go.Maps Go.Sort

theorem sget_cons (p : ByteArray × ByteArray) (r : SL) (k : ByteArray) : sget (p :: r) k = if p.1 = k then some p.2 else sget r k := by
  unfold sget
  rw [List.find?_cons]
  by_cases e : p.1 = k
  · rw [if_pos e, keq_iff.2 e]; rfl
  · rw [if_neg e, show keq p.1 k = false by cases h : keq p.1 k with
      | false => rfl
      | true => exact absurd (keq_iff.1 h) e]
theorem sget_low {L : SL} {k : ByteArray} (h : ∀ p ∈ L, k.data.toList < p.1.data.toList) : sget L k = none :=
  sget_of_none fun p hp => by
    cases h2 : keq p.1 k with
    | false => rfl
    | true =>
      have h3 := h p hp
      rw [keq_iff.1 h2] at h3
      exact absurd h3 (List.lt_irrefl _)
theorem ris_cons {p : ByteArray × ByteArray} {r : SL} (h : Rising (skeys (p :: r))) : (∀ q ∈ r, p.1.data.toList < q.1.data.toList) ∧ Rising (skeys r) := by
  have h2 := List.pairwise_cons.1 (show (p.1 :: skeys r).Pairwise _ from h)
  exact ⟨fun q hq => h2.1 q.1 (List.mem_map.2 ⟨q, hq, rfl⟩), h2.2⟩
theorem ba_ext' {a b : ByteArray} (h : a.data.toList = b.data.toList) : a = b := lit_inj (congrArg Lit.string h)
theorem sl_ext : ∀ A B : SL, Rising (skeys A) → Rising (skeys B) → (∀ k, sget A k = sget B k) → A = B
  | [], [], _, _, _ => rfl
  | [], p :: r, _, _, h => by
    have := h p.1
    rw [sget_cons, if_pos rfl] at this
    cases this
  | p :: r, [], _, _, h => by
    have := h p.1
    rw [sget_cons, if_pos rfl] at this
    cases this
  | p :: r, p' :: r', hA, hB, h => by
    obtain ⟨a1, a2⟩ := ris_cons hA
    obtain ⟨b1, b2⟩ := ris_cons hB
    by_cases e : p.1 = p'.1
    · have h1 := h p.1
      rw [sget_cons, if_pos rfl, sget_cons, if_pos e.symm] at h1
      have ep : p = p' := Prod.ext e (Option.some.inj h1)
      subst ep
      rw [sl_ext r r' a2 b2 fun k => ?_]
      by_cases ek : p.1 = k
      · subst ek
        rw [sget_low a1, sget_low b1]
      · have h2 := h k
        rw [sget_cons, if_neg ek, sget_cons, if_neg ek] at h2
        exact h2
    · exfalso
      rcases (by
        by_cases h1 : p.1.data.toList < p'.1.data.toList
        · exact .inl h1
        · by_cases h2 : p'.1.data.toList < p.1.data.toList
          · exact .inr h2
          · exact absurd (ba_ext' (List.le_antisymm h2 h1)) e : p.1.data.toList < p'.1.data.toList ∨ p'.1.data.toList < p.1.data.toList) with h1 | h1
      · have h2 := h p.1
        rw [sget_cons, if_pos rfl, sget_low (L := p' :: r') fun q hq => ?_] at h2
        · cases h2
        · rcases List.mem_cons.1 hq with rfl | hq
          · exact h1
          · exact List.lt_trans h1 (b1 q hq)
      · have h2 := h p'.1
        rw [sget_cons p', if_pos rfl, sget_low (L := p :: r) fun q hq => ?_] at h2
        · cases h2
        · rcases List.mem_cons.1 hq with rfl | hq
          · exact h1
          · exact List.lt_trans h1 (a1 q hq)
theorem rising_sset {L : SL} (hr : Rising (skeys L)) (k v : ByteArray) : Rising (skeys (sset L k v)) := by
  rw [skeys_sset]
  split
  · exact hr
  · rename_i h
    refine rising_ins hr fun hm => ?_
    obtain ⟨p, hp, rfl⟩ := List.mem_map.1 hm
    have := sget_none (by simpa using h) p hp
    rw [keq_iff.2 rfl] at this
    cases this
theorem undo_sset {L : SL} (hr : Rising (skeys L)) (k v : ByteArray) : undo1 (sset L k v) (k, (sget L k).isSome, (sget L k).getD ⟨#[]⟩) = L := by
  unfold undo1
  cases hs : sget L k with
  | none =>
    refine sl_ext _ _ (rising_sdel (rising_sset hr k v)) hr fun x => ?_
    show sget (sdel (sset L k v) k) x = _
    rw [sget_sdel, sget_sset]
    by_cases e : x = k
    · rw [if_pos e, e, hs]
    · rw [if_neg e, if_neg e]
  | some o =>
    refine sl_ext _ _ (rising_sset (rising_sset hr k v) k o) hr fun x => ?_
    show sget (sset (sset L k v) k o) x = _
    rw [sget_sset, sget_sset]
    by_cases e : x = k
    · rw [if_pos e, e, hs]
    · rw [if_neg e, if_neg e]
theorem undo_sdel {L : SL} (hr : Rising (skeys L)) {k o : ByteArray} (hs : sget L k = some o) : undo1 (sdel L k) (k, true, o) = L := by
  refine sl_ext _ _ (rising_sset (rising_sdel hr) k o) hr fun x => ?_
  show sget (sset (sdel L k) k o) x = _
  rw [sget_sset, sget_sdel]
  by_cases e : x = k
  · rw [if_pos e, e, hs]
  · rw [if_neg e, if_neg e]
/-- all keys and values are of sizes that there are -/
def SzOk (L : SL) : Prop := ∀ p ∈ L, p.1.size ≤ maxLen ∧ p.2.size ≤ maxLen
theorem SzOk.get {L : SL} (h : SzOk L) {k o : ByteArray} (hs : sget L k = some o) : o.size ≤ maxLen := by
  unfold sget at hs
  obtain ⟨p, hp, rfl⟩ := Option.map_eq_some_iff.1 hs
  exact (h p (List.mem_of_find?_eq_some hp)).2
theorem SzOk.sset {L : SL} (h : SzOk L) {k v : ByteArray} (hk : k.size ≤ maxLen) (hv : v.size ≤ maxLen) : SzOk (sset L k v) := by
  intro p hp
  unfold Go.Proofs.YtnjcnlbphaodcaaGreat.sset at hp
  split at hp
  · obtain ⟨q, hq, rfl⟩ := List.mem_map.1 hp
    split
    · exact ⟨hk, hv⟩
    · exact h q hq
  · rcases List.mem_append.1 hp with hp | hp
    · rcases List.mem_append.1 hp with hp | hp
      · exact h p (List.mem_of_mem_take hp)
      · rw [List.mem_singleton.1 hp]; exact ⟨hk, hv⟩
    · exact h p (List.mem_of_mem_drop hp)
theorem SzOk.sdel {L : SL} (h : SzOk L) (k : ByteArray) : SzOk (sdel L k) := fun p hp => h p (List.mem_filter.1 hp).1
end Go.Proofs.YtnjcnlbphaodcaaGreat

namespace Go.Proofs.YtnjcnlbphaodcaaGreat
open Go.RowKit Go.Maps Go.Sort

/-- a store that is the law's own, its entries and its changes (the newest first) -/
structure SH (w W : World) (b : Nat) (F : List Nat) (L : SL) (R : List Ch) : Prop where
  s : SNew w W b F L R.length (chs R)
  o : HOk L R
  z : SzOk L
/-- what a call leaves of it -/
def SHTo (w W W' : World) (b : Nat) (F : List Nat) (L : SL) (R : List Ch) : Prop := ∃ F', SH w W' b F' L R ∧ Touch F W W' ∧ ∀ k ∈ F', k ∈ F ∨ W.heap.size ≤ k
theorem SH.so {w W : World} {b : Nat} {F : List Nat} {L : SL} {R : List Ch} (h : SH w W b F L R) : Rising (skeys L) := by
  obtain ⟨bm, vb, vk, vq, _, hM⟩ := h.s.s
  exact hM.so
theorem SH.below {w W W' : World} {b : Nat} {F : List Nat} {L : SL} {R : List Ch} (h : SH w W b F L R) (hb : Below W.heap.size W W') : SH w W' b F L R := ⟨h.s.below hb, h.o, h.z⟩
theorem SH.stay {w W W' : World} {b : Nat} {F : List Nat} {L : SL} {R : List Ch} (h : SH w W b F L R) (hb : Below W.heap.size W W') : SHTo w W W' b F L R := ⟨F, h.below hb, Touch.of_below hb, fun _ hk => .inl hk⟩
/-- the changes behind Set and Delete -/
def setR (L : SL) (R : List Ch) (k v : ByteArray) : List Ch := if k = ⟨#[]⟩ then R else if sget L k = some v then R else (k, (sget L k).isSome, (sget L k).getD ⟨#[]⟩) :: R
def delR (L : SL) (R : List Ch) (k : ByteArray) : List Ch := if (sget L k).isSome = true then (k, true, (sget L k).getD ⟨#[]⟩) :: R else R
theorem SH.set {w W : World} {b : Nat} {F : List Nat} {L : SL} {R : List Ch} (h : SH w W b F L R) (k v : ByteArray) (hk : k.size ≤ maxLen) (hv : v.size ≤ maxLen) (hN : L.length + 1 < 1000000) (hq : R.length < 1000000) :
    Calls Tryz.prog 60 #[.pointer (some ⟨b, 0, none⟩), .string k, .string v] W fun e W' => e = .returned (.int .i64 (if k = ⟨#[]⟩ then 2 else 0)) ∧ SHTo w W W' b F (setE L k v) (setR L R k v) := by
  unfold setE setR
  by_cases hk0 : k = ⟨#[]⟩
  · simp only [if_pos hk0]
    subst hk0
    refine (set_empty b F L _ _ v W h.s.s).mono ?_
    rintro e W' ⟨rfl, rfl⟩
    exact ⟨rfl, h.stay (Below.refl _ _)⟩
  · simp only [if_neg hk0]
    by_cases hs : sget L k = some v
    · rw [if_pos hs]
      have e0 : setL L k v = L := by unfold setL; rw [if_pos hs]
      rw [e0]
      refine (set_same b F L _ _ k v W h.s.s hk hk0 hs).mono ?_
      rintro e W' ⟨he, F', hs', ht, hf⟩
      exact ⟨he, F', ⟨h.s.set hs' ht hf, h.o, h.z⟩, ht, hf⟩
    · rw [if_neg hs]
      have e0 : setL L k v = sset L k v := by unfold setL; rw [if_neg hs]
      have hln := setL_len L k v
      rw [e0] at hln ⊢
      obtain ⟨bm, vb, vk, vq, hF, hM⟩ := h.s.s
      refine (set_new b bm vb vk vq L _ _ k v W hM hk hv hk0 (by omega) hq hs).mono ?_
      rintro e W' ⟨he, F', hs', ht, hf⟩
      rw [← hF] at ht hf
      rw [← chs_cons (k, (sget L k).isSome, (sget L k).getD ⟨#[]⟩) R] at hs'
      refine ⟨he, F', ⟨h.s.set hs' ht hf, ⟨⟨hk, ?_, by omega, fun _ => ?_⟩, ?_⟩, h.z.sset hk hv⟩, ht, hf⟩
      · cases hg : sget L k with
        | none => exact Nat.zero_le _
        | some o => exact h.z.get hg
      · rw [sget_sset, if_pos rfl]; rfl
      · rw [undo_sset h.so k v]; exact h.o
theorem SH.del {w W : World} {b : Nat} {F : List Nat} {L : SL} {R : List Ch} (h : SH w W b F L R) (k : ByteArray) (hk : k.size ≤ maxLen) (hN : L.length < 1000000) (hq : R.length < 1000000) :
    Calls Tryz.prog 59 #[.pointer (some ⟨b, 0, none⟩), .string k] W fun e W' => e = .returned (.bool (sget L k).isSome) ∧ SHTo w W W' b F (sdel L k) (delR L R k) := by
  unfold delR
  cases hs : sget L k with
  | none =>
    have e0 : sdel L k = L := by
      unfold sdel
      rw [List.filter_eq_self]
      intro p hp
      simp [sget_none (by rw [hs]; rfl) p hp]
    rw [e0]
    refine (sdel_none b F L _ _ k W h.s.s hk hs).mono ?_
    rintro e W' ⟨he, hb⟩
    exact ⟨he, h.stay hb⟩
  | some old =>
    obtain ⟨bm, vb, vk, vq, hF, hM⟩ := h.s.s
    refine (del_live b bm vb vk vq L _ _ k old W hM hk (by omega) hq hs).mono ?_
    rintro e W' ⟨he, F', hs', ht, hf⟩
    rw [← hF] at ht hf
    rw [← chs_cons (k, true, old) R] at hs'
    have hln : (sdel L k).length ≤ L.length := List.length_filter_le _ _
    refine ⟨he, F', ⟨h.s.set hs' ht hf, ⟨⟨hk, h.z.get hs, by omega, fun e => by cases e⟩, ?_⟩, h.z.sdel k⟩, ht, hf⟩
    rw [show ((some old).getD (⟨#[]⟩ : ByteArray)) = old from rfl, undo_sdel h.so hs]
    exact h.o
theorem SzOk.und : ∀ (R : List Ch) (d : Nat) {L : SL}, SzOk L → HOk L R → SzOk (und L R d)
  | _, 0, _, h, _ => h
  | [], d + 1, _, h, _ => by simpa [Go.Proofs.YtnjcnlbphaodcaaGreat.und] using h
  | c :: R, d + 1, L, h, ho => by
    have h1 : SzOk (undo1 L c) := by
      unfold undo1
      split
      · exact h.sset ho.1.1 ho.1.2.1
      · exact h.sdel _
    have := SzOk.und R d h1 ho.2
    simpa [Go.Proofs.YtnjcnlbphaodcaaGreat.und] using this
/-- how many changes Undo takes back -/
def undD (R : List Ch) (mark : Int) : Nat := if 0 ≤ mark ∧ mark ≤ (R.length : Int) then R.length - mark.toNat else 0
end Go.Proofs.YtnjcnlbphaodcaaGreat

namespace Go.Proofs.YtnjcnlbphaodcaaGreat
open Go.RowKit Go.Maps Go.Sort

end Go.Proofs.YtnjcnlbphaodcaaGreat
