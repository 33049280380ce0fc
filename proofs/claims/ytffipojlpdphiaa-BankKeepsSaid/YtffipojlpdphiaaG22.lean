/- The document's store (tallageref08), read: place and Get. -/
import Derived.Test.YtffipojlpdphiaaG06
import Derived.Test.YtffipojlpdphiaaG21
namespace Go.Proofs.Ytffipojlpdphiaa
open Go.RowKit Go.Maps Go.Sort

/-- the document's store at m has the entries L -/
def DL (w : World) (m : Nat) (L : SL) : Prop :=
  ∃ A c, w.cell? ⟨m, 0, none⟩ = some (.slice A L.length c) ∧ m < w.heap.size ∧ (0 < L.length → ∃ g, A = some ⟨g, 0, none⟩ ∧ g < w.heap.size ∧ ∀ i (h : i < L.length), w.cell? ⟨g, i * 2, none⟩ = some (.string L[i].1) ∧ w.cell? ⟨g, i * 2 + 1, none⟩ = some (.string L[i].2))
theorem DL.below {w w' : World} {m : Nat} {L : SL} (h : DL w m L) (hb : Below w.heap.size w w') : DL w' m L := by
  obtain ⟨A, c, h1, h2, h3⟩ := h
  refine ⟨A, c, (hb.cell (p := ⟨m, 0, none⟩) h2).trans h1, Nat.lt_of_lt_of_le h2 hb.size, fun hn => ?_⟩
  obtain ⟨g, e, hg, hc⟩ := h3 hn
  exact ⟨g, e, Nat.lt_of_lt_of_le hg hb.size, fun i hi => ⟨(hb.cell (p := ⟨g, i * 2, none⟩) hg).trans (hc i hi).1, (hb.cell (p := ⟨g, i * 2 + 1, none⟩) hg).trans (hc i hi).2⟩⟩
theorem klo_at {x : ByteArray} : ∀ (ks : List ByteArray) (i : Nat), Rising ks → i ≤ ks.length → (∀ j (h : j < ks.length), j < i → ks[j].data.toList < x.data.toList) → (∀ h : i < ks.length, ¬ ks[i].data.toList < x.data.toList) → klo ks x = i
  | [], i, _, hi, _, _ => by simp at hi; subst hi; rfl
  | a :: r, 0, hr, _, _, h2 => by
    have ha := h2 (by simp)
    simp only [List.getElem_cons_zero] at ha
    unfold klo
    rw [List.countP_eq_zero]
    intro y hy hd
    rcases List.mem_cons.1 hy with rfl | hy
    · exact ha (of_decide_eq_true hd)
    · exact ha (List.lt_trans ((List.pairwise_cons.1 hr).1 y hy) (of_decide_eq_true hd))
  | a :: r, i + 1, hr, hi, h1, h2 => by
    have ha := h1 0 (by simp) (by omega)
    simp only [List.getElem_cons_zero] at ha
    have ih := klo_at (x := x) r i (List.pairwise_cons.1 hr).2 (by simpa using hi) (fun j hj hji => h1 (j + 1) (Nat.succ_lt_succ hj) (by omega)) (fun h => h2 (Nat.succ_lt_succ h))
    unfold klo at ih ⊢
    rw [List.countP_cons_of_pos (by simpa using ha), ih]
set_option maxRecDepth 100000 in
set_option maxHeartbeats 2000000 in
theorem rplace_walk (m : Nat) (L : SL) (x : ByteArray) (w : World) (h : DL w m L) (hr : Rising (skeys L)) (hn : L.length ≤ 1000000) :
    Calls Try.prog 156 #[.pointer (some ⟨m, 0, none⟩), .string x] w fun e w' => e = .returned (.int .i64 (klo (skeys L) x : Nat)) ∧ w = w' := by
  obtain ⟨A, c, c0, hm, hcs⟩ := h
  obtain ⟨n, hnL⟩ : ∃ n, n = L.length := ⟨_, rfl⟩
  have hkl : (skeys L).length = L.length := by unfold skeys; simp
  have hkey : ∀ j (hj : j < L.length), (skeys L)[j]'(by omega) = L[j].1 := fun j hj => by unfold skeys; simp
  obtain ⟨K, hK⟩ : ∃ K, K = klo (skeys L) x := ⟨_, rfl⟩
  rw [← hK]
  have HK := Lib.hid hK
  have HR := Lib.hid hr
  have HKL := Lib.hid hkl
  have HKY : Hid (∀ j (hj : j < L.length) (h' : j < (skeys L).length), (skeys L)[j] = L[j].1) := Lib.hid fun j hj _ => hkey j hj
  have HCS := Lib.hid hcs
  have HNL := Lib.hid hnL
  rw [← hnL] at c0
  have hnI : (n : Int) ≤ 1000000 := by omega
  clear hK hr hcs hn hnL hkey
  clear hkl
  go_enter Try.func156, Try.ntmps156
  go_wp2
  go_loopw [5] (fun i wr => ∃ j : Nat, j ≤ n ∧ i = .int .i64 (j : Nat) ∧ w = wr ∧ ∀ j' (h : j' < L.length), j' < j → L[j'].1.data.toList < x.data.toList) (fun i _ => n - (intOf i).toNat)
  case atStart => exact ⟨0, by omega, rfl, rfl, fun j' _ h => absurd h (by omega)⟩
  case round =>
    obtain ⟨j, hj, rfl, rfl, hall⟩ := hrel
    have HA := Lib.hid hall
    clear hall
    have hjI : (j : Int) ≤ (n : Int) := by omega
    by_cases hlt : j < n
    · have p1 : (j : Int) < (n : Int) := by omega
      obtain ⟨g, rfl, hg, hc⟩ := HCS.out (by have := HNL.out; omega)
      have hjL : j < L.length := by have := HNL.out; omega
      have ck := (hc j hjL).1
      obtain ⟨y, hy⟩ : ∃ y, y = L[j].1 := ⟨_, rfl⟩
      rw [← hy] at ck
      have HY := Lib.hid hy
      clear hc hy
      by_cases hyx : y.data.toList < x.data.toList
      · have p2 : Op.bytesLess y.toList x.toList = true := by rw [bytesLess_eq, Lib.toList_data, Lib.toList_data]; exact decide_eq_true hyx
        go_wp2
        refine ⟨⟨j + 1, by omega, by simp, by trivial, fun j' hj' hlt' => ?_⟩, by simp [intOf]; omega⟩
        by_cases e : j' = j
        · subst e; rw [← HY.out]; exact hyx
        · exact HA.out j' hj' (by omega)
      · have e0 : K = j := by
          rw [HK.out]
          refine klo_at (skeys L) j HR.out (by rw [HKL.out]; omega) (fun j' h' hlt' => ?_) (fun h' => ?_)
          · rw [HKY.out j' (by rw [← HKL.out]; exact h') h']; exact HA.out j' _ hlt'
          · rw [HKY.out j hjL h', ← HY.out]; exact hyx
        subst e0
        have p2 : Op.bytesLess y.toList x.toList = false := by rw [bytesLess_eq, Lib.toList_data, Lib.toList_data]; exact decide_eq_false hyx
        go_wp2
        go_ret
        exact ⟨rfl, rfl⟩
    · have p1 : ¬ (j : Int) < (n : Int) := by omega
      have e0 : K = j := by
        rw [HK.out]
        refine klo_at (skeys L) j HR.out (by rw [HKL.out, ← HNL.out]; omega) (fun j' h' hlt' => ?_) (fun h' => ?_)
        · rw [HKY.out j' (by rw [← HKL.out]; exact h') h']; exact HA.out j' _ hlt'
        · rw [HKL.out, ← HNL.out] at h'; omega
      subst e0
      go_wp2
      go_ret
      exact ⟨rfl, rfl⟩
theorem rsget_at (k : ByteArray) : ∀ L : SL, Rising (skeys L) → sget L k = (L[klo (skeys L) k]?).bind fun p => if p.1 = k then some p.2 else none
  | [], _ => rfl
  | (a, va) :: r, hr => by
    have har : ∀ y ∈ skeys r, a.data.toList < y.data.toList := (List.pairwise_cons.1 hr).1
    by_cases ha : a.data.toList < k.data.toList
    · have hne : a ≠ k := fun e => by rw [e] at ha; exact absurd ha (List.lt_irrefl _)
      have hs : klo (skeys ((a, va) :: r)) k = klo (skeys r) k + 1 := by
        show (a :: skeys r).countP _ = _
        rw [List.countP_cons_of_pos (by simpa using ha)]
        rfl
      have h0 : sget ((a, va) :: r) k = sget r k := by
        unfold sget
        rw [List.find?_cons_of_neg (by simp [keq_ne hne])]
      rw [hs, h0, rsget_at k r (List.pairwise_cons.1 hr).2]
      rfl
    · have hz : klo (skeys ((a, va) :: r)) k = 0 := by
        unfold klo
        rw [List.countP_eq_zero]
        intro y hy hd
        have hd := of_decide_eq_true hd
        rcases List.mem_cons.1 (show y ∈ a :: skeys r from hy) with rfl | hy
        · exact ha hd
        · exact ha (List.lt_trans (har y hy) hd)
      rw [hz]
      show _ = if a = k then some va else none
      by_cases e : a = k
      · rw [if_pos e]
        unfold sget
        rw [List.find?_cons_of_pos (by simp [e, keq_self])]
        rfl
      · rw [if_neg e]
        refine sget_of_none fun p hp => ?_
        rcases List.mem_cons.1 hp with rfl | hp
        · exact keq_ne e
        · refine keq_ne fun e2 => ha ?_
          have := har p.1 (List.mem_map.2 ⟨p, hp, rfl⟩)
          rwa [e2] at this
set_option maxRecDepth 100000 in
set_option maxHeartbeats 2000000 in
theorem rget_walk (m : Nat) (L : SL) (x : ByteArray) (w : World) (h : DL w m L) (hr : Rising (skeys L)) (hn : L.length ≤ 1000000) :
    Calls Try.prog 97 #[.pointer (some ⟨m, 0, none⟩), .string x] w fun e w' => e = .returned (.tuple #[.string ((sget L x).getD ⟨#[]⟩), .bool (sget L x).isSome]) ∧ w = w' := by
  have HP := Lib.hid (rplace_walk m L x w h hr hn)
  have hg := rsget_at x L hr
  obtain ⟨A, c, c0, hm, hcs⟩ := h
  obtain ⟨n, hnL⟩ : ∃ n, n = L.length := ⟨_, rfl⟩
  obtain ⟨K, hK⟩ : ∃ K, K = klo (skeys L) x := ⟨_, rfl⟩
  obtain ⟨S, hS⟩ : ∃ S, S = sget L x := ⟨_, rfl⟩
  rw [← hK] at HP hg
  rw [← hS] at hg ⊢
  rw [← hnL] at c0
  have hnI : (n : Int) ≤ 1000000 := by omega
  by_cases hlt : K < n
  · have p1 : (K : Int) < (n : Int) := by omega
    obtain ⟨g, rfl, hgl, hc⟩ := hcs (by omega)
    obtain ⟨k1, k2⟩ := hc K (by omega)
    rw [List.getElem?_eq_getElem (by omega)] at hg
    obtain ⟨a, ha⟩ : ∃ a, a = (L[K]'(by omega)).1 := ⟨_, rfl⟩
    obtain ⟨v, hv⟩ : ∃ v, v = (L[K]'(by omega)).2 := ⟨_, rfl⟩
    rw [← ha] at k1
    rw [← hv] at k2
    simp only [Option.bind_some] at hg
    rw [← ha, ← hv] at hg
    clear hc hcs hr hn hS hnL hK ha hv
    by_cases e : a = x
    · have p2 : (a.toList == x.toList) = true := by rw [e]; exact beq_self_eq_true _
      rw [if_pos e] at hg
      subst hg
      clear e
      go_enter Try.func97, Try.ntmps97
      go_wp2_with (go_at_call 156; refine HP.out.mono ?_; rintro e w1 ⟨rfl, rfl⟩)
      go_ret2
      exact ⟨rfl, rfl⟩
    · have p2 : (a.toList == x.toList) = false := by
        rw [beq_eq_false_iff_ne, Lib.toList_data, Lib.toList_data]
        exact fun h => e (lit_inj (congrArg Lit.string h))
      rw [if_neg e] at hg
      subst hg
      clear e
      go_enter Try.func97, Try.ntmps97
      go_wp2_with (go_at_call 156; refine HP.out.mono ?_; rintro e w1 ⟨rfl, rfl⟩)
      go_ret2
      exact ⟨rfl, rfl⟩
  · have p1 : ¬ (K : Int) < (n : Int) := by omega
    rw [List.getElem?_eq_none (by omega)] at hg
    have hg0 : S = none := hg
    subst hg0
    clear hg hcs hr hn hS hnL hK
    go_enter Try.func97, Try.ntmps97
    go_wp2_with (go_at_call 156; refine HP.out.mono ?_; rintro e w1 ⟨rfl, rfl⟩)
    go_ret2
    exact ⟨rfl, rfl⟩
end Go.Proofs.Ytffipojlpdphiaa

namespace Go.Proofs.Ytffipojlpdphiaa
open Go.RowKit Go.Maps Go.Sort

/-- the document's store at m: no entries, no changes -/
def DE (w : World) (m : Nat) : Prop := w.cell? ⟨m, 0, none⟩ = some (.slice none 0 0) ∧ w.cell? ⟨m, 1, none⟩ = some (.slice none 0 0) ∧ m < w.heap.size
theorem DE.below {w w' : World} {m : Nat} (h : DE w m) (hb : Below w.heap.size w w') : DE w' m :=
  ⟨(hb.cell (p := ⟨m, 0, none⟩) h.2.2).trans h.1, (hb.cell (p := ⟨m, 1, none⟩) h.2.2).trans h.2.1, Nat.lt_of_lt_of_le h.2.2 hb.size⟩
theorem DE.dl {w : World} {m : Nat} (h : DE w m) : DL w m [] := ⟨none, 0, h.1, h.2.2, fun hn => absurd hn (Nat.lt_irrefl _)⟩
set_option maxRecDepth 100000 in
set_option maxHeartbeats 4000000 in
theorem rdel_none (m : Nat) (k : ByteArray) (w : World) (h : DE w m) : Calls Try.prog 67 #[.pointer (some ⟨m, 0, none⟩), .string k] w fun e w' => e = .returned (.bool false) ∧ w = w' := by
  have HG := Lib.hid (rget_walk m [] k w h.dl List.Pairwise.nil (Nat.zero_le _))
  clear h
  go_enter Try.func67, Try.ntmps67
  go_wp2_with (go_at_call 97; refine HG.out.mono ?_; rintro e w1 ⟨he, rfl⟩; obtain rfl : e = .returned (.tuple #[.string ⟨#[]⟩, .bool false]) := he)
  go_ret
  exact ⟨rfl, rfl⟩
set_option maxRecDepth 100000 in
set_option maxHeartbeats 4000000 in
theorem runder_none (m : Nat) (x : ByteArray) (w : World) (h : DE w m) : Calls Try.prog 106 #[.pointer (some ⟨m, 0, none⟩), .string x] w fun e w' => e = .returned (.slice none 0 0) ∧ w = w' := by
  have c0 := h.1
  clear h
  go_enter Try.func106, Try.ntmps106
  go_wp2
  go_loopw [5, 13] (fun v i wr => v = .slice none 0 0 ∧ i = .int .i64 0 ∧ w = wr) (fun _ i _ => 0)
  case atStart => exact ⟨rfl, rfl, rfl⟩
  case round =>
    obtain ⟨rfl, rfl, rfl⟩ := hrel
    go_wp2
    go_ret
    exact ⟨rfl, rfl⟩
end Go.Proofs.Ytffipojlpdphiaa

namespace Go.Proofs.Ytffipojlpdphiaa
open Go.RowKit Go.Maps Go.Sort

/-- a store that is the law's own, its entries and its changes (the newest first) -/
structure SH (w W : World) (b : Nat) (F : List Nat) (L : SL) (R : List Ch) : Prop where
  s : SNew w W b F L R.length (chs R)
  o : HOk L R
  z : SzOk L
/-- what a call leaves of it -/
def SHTo (w W W' : World) (b : Nat) (F : List Nat) (L : SL) (R : List Ch) : Prop := ∃ F', SH w W' b F' L R ∧ Touch F W W' ∧ ∀ k ∈ F', k ∈ F ∨ W.heap.size ≤ k
theorem SH.so {w W : World} {b : Nat} {F : List Nat} {L : SL} {R : List Ch} (h : SH w W b F L R) : Rising (skeys L) := by
  obtain ⟨bm, vb, vk, vq, _, hM⟩ := h.s.s
  exact hM.so
theorem SH.below {w W W' : World} {b : Nat} {F : List Nat} {L : SL} {R : List Ch} (h : SH w W b F L R) (hb : Below W.heap.size W W') : SH w W' b F L R := ⟨h.s.below hb, h.o, h.z⟩
theorem SH.stay {w W W' : World} {b : Nat} {F : List Nat} {L : SL} {R : List Ch} (h : SH w W b F L R) (hb : Below W.heap.size W W') : SHTo w W W' b F L R := ⟨F, h.below hb, Touch.of_below hb, fun _ hk => .inl hk⟩
/-- the changes behind Set and Delete -/
def setR (L : SL) (R : List Ch) (k v : ByteArray) : List Ch := if k = ⟨#[]⟩ then R else if sget L k = some v then R else (k, (sget L k).isSome, (sget L k).getD ⟨#[]⟩) :: R
def delR (L : SL) (R : List Ch) (k : ByteArray) : List Ch := if (sget L k).isSome = true then (k, true, (sget L k).getD ⟨#[]⟩) :: R else R
theorem SH.set {w W : World} {b : Nat} {F : List Nat} {L : SL} {R : List Ch} (h : SH w W b F L R) (k v : ByteArray) (hk : k.size ≤ maxLen) (hv : v.size ≤ maxLen) (hN : L.length + 1 < 1000000) (hq : R.length < 1000000) :
    Calls Try.prog 163 #[.pointer (some ⟨b, 0, none⟩), .string k, .string v] W fun e W' => e = .returned (.int .i64 (if k = ⟨#[]⟩ then 2 else 0)) ∧ SHTo w W W' b F (setE L k v) (setR L R k v) := by
  unfold setE setR
  by_cases hk0 : k = ⟨#[]⟩
  · simp only [if_pos hk0]
    subst hk0
    refine (set_empty b F L _ _ v W h.s.s).mono ?_
    rintro e W' ⟨rfl, rfl⟩
    exact ⟨rfl, h.stay (Below.refl _ _)⟩
  · simp only [if_neg hk0]
    by_cases hs : sget L k = some v
    · rw [if_pos hs]
      have e0 : setL L k v = L := by unfold setL; rw [if_pos hs]
      rw [e0]
      refine (set_same b F L _ _ k v W h.s.s hk hk0 hs).mono ?_
      rintro e W' ⟨he, F', hs', ht, hf⟩
      exact ⟨he, F', ⟨h.s.set hs' ht hf, h.o, h.z⟩, ht, hf⟩
    · rw [if_neg hs]
      have e0 : setL L k v = sset L k v := by unfold setL; rw [if_neg hs]
      have hln := setL_len L k v
      rw [e0] at hln ⊢
      obtain ⟨bm, vb, vk, vq, hF, hM⟩ := h.s.s
      refine (set_new b bm vb vk vq L _ _ k v W hM hk hv hk0 (by omega) hq hs).mono ?_
      rintro e W' ⟨he, F', hs', ht, hf⟩
      rw [← hF] at ht hf
      rw [← chs_cons (k, (sget L k).isSome, (sget L k).getD ⟨#[]⟩) R] at hs'
      refine ⟨he, F', ⟨h.s.set hs' ht hf, ⟨⟨hk, ?_, by omega, fun _ => ?_⟩, ?_⟩, h.z.sset hk hv⟩, ht, hf⟩
      · cases hg : sget L k with
        | none => exact Nat.zero_le _
        | some o => exact h.z.get hg
      · rw [sget_sset, if_pos rfl]; rfl
      · rw [undo_sset h.so k v]; exact h.o
theorem SH.del {w W : World} {b : Nat} {F : List Nat} {L : SL} {R : List Ch} (h : SH w W b F L R) (k : ByteArray) (hk : k.size ≤ maxLen) (hN : L.length < 1000000) (hq : R.length < 1000000) :
    Calls Try.prog 64 #[.pointer (some ⟨b, 0, none⟩), .string k] W fun e W' => e = .returned (.bool (sget L k).isSome) ∧ SHTo w W W' b F (sdel L k) (delR L R k) := by
  unfold delR
  cases hs : sget L k with
  | none =>
    have e0 : sdel L k = L := by
      unfold sdel
      rw [List.filter_eq_self]
      intro p hp
      simp [sget_none (by rw [hs]; rfl) p hp]
    rw [e0]
    refine (sdel_none b F L _ _ k W h.s.s hk hs).mono ?_
    rintro e W' ⟨he, hb⟩
    exact ⟨he, h.stay hb⟩
  | some old =>
    obtain ⟨bm, vb, vk, vq, hF, hM⟩ := h.s.s
    refine (del_live b bm vb vk vq L _ _ k old W hM hk (by omega) hq hs).mono ?_
    rintro e W' ⟨he, F', hs', ht, hf⟩
    rw [← hF] at ht hf
    rw [← chs_cons (k, true, old) R] at hs'
    have hln : (sdel L k).length ≤ L.length := List.length_filter_le _ _
    refine ⟨he, F', ⟨h.s.set hs' ht hf, ⟨⟨hk, h.z.get hs, by omega, fun e => by cases e⟩, ?_⟩, h.z.sdel k⟩, ht, hf⟩
    rw [show ((some old).getD (⟨#[]⟩ : ByteArray)) = old from rfl, undo_sdel h.so hs]
    exact h.o
theorem SzOk.und : ∀ (R : List Ch) (d : Nat) {L : SL}, SzOk L → HOk L R → SzOk (und L R d)
  | _, 0, _, h, _ => h
  | [], d + 1, _, h, _ => by simpa [Go.Proofs.Ytffipojlpdphiaa.und] using h
  | c :: R, d + 1, L, h, ho => by
    have h1 : SzOk (undo1 L c) := by
      unfold undo1
      split
      · exact h.sset ho.1.1 ho.1.2.1
      · exact h.sdel _
    have := SzOk.und R d h1 ho.2
    simpa [Go.Proofs.Ytffipojlpdphiaa.und] using this
/-- how many changes Undo takes back -/
def undD (R : List Ch) (mark : Int) : Nat := if 0 ≤ mark ∧ mark ≤ (R.length : Int) then R.length - mark.toNat else 0
theorem SH.undo {w W : World} {b : Nat} {F : List Nat} {L : SL} {R : List Ch} (h : SH w W b F L R) (mark : Int) (hmk : -9223372036854775808 ≤ mark ∧ mark < 2 ^ 63) (hq : R.length < 1000000) :
    Calls Try.prog 86 #[.pointer (some ⟨b, 0, none⟩), .int .i64 mark] W fun e W' => e = .returned (.bool (decide (0 ≤ mark ∧ mark ≤ (R.length : Int)))) ∧ SHTo w W W' b F (und L R (undD R mark)) (R.drop (undD R mark)) := by
  refine (undo_any b F L R mark W h.s.s h.o hq hmk).mono ?_
  rintro e W' ⟨d, hd, he, F', hs, ht, hf⟩
  rw [show undD R mark = d from hd.symm]
  exact ⟨he, F', ⟨h.s.set hs ht hf, h.o.drop d, SzOk.und R d h.z h.o⟩, ht, hf⟩
end Go.Proofs.Ytffipojlpdphiaa
