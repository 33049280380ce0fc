/- The store: taking a key away, plain (the list, the map's datum, the map's block). -/
import Derived.Test.YtoaepgiajooecaaGreatG05
namespace Go.Proofs.YtoaepgiajooecaaGreat
open Go.RowKit Go.Maps

/-- a key that is there stands in its place, and taking it away takes just that place -/
theorem sdel_parts (k : ByteArray) : ∀ L : SL, Rising (skeys L) → (sget L k).isSome = true → klo (skeys L) k < L.length ∧ (skeys L)[klo (skeys L) k]? = some k ∧ sdel L k = L.take (klo (skeys L) k) ++ L.drop (klo (skeys L) k + 1)
  | [], _, h => by simp [sget] at h
  | (a, va) :: r, hr, h => by
    have hrr : Rising (skeys r) := (List.pairwise_cons.1 hr).2
    have har : ∀ y ∈ skeys r, a.data.toList < y.data.toList := (List.pairwise_cons.1 hr).1
    by_cases e : a = k
    · subst e
      have hz : klo (skeys ((a, va) :: r)) a = 0 := by
        unfold klo
        rw [List.countP_eq_zero]
        intro y hy hd
        have hd := of_decide_eq_true hd
        rcases List.mem_cons.1 (show y ∈ a :: skeys r from hy) with rfl | hy
        · exact absurd hd (List.lt_irrefl _)
        · exact List.lt_asymm hd (har y hy)
      rw [hz]
      refine ⟨by simp, rfl, ?_⟩
      unfold sdel
      rw [List.filter_cons_of_neg (by simp [keq_self])]
      simp only [List.take_zero, Nat.zero_add, List.drop_succ_cons, List.drop_zero, List.nil_append]
      rw [List.filter_eq_self]
      intro p hp
      have hl := har p.1 (List.mem_map.2 ⟨p, hp, rfl⟩)
      have hne : p.1 ≠ a := fun e => by rw [e] at hl; exact absurd hl (List.lt_irrefl _)
      simp [keq_ne hne]
    · have hk : (sget r k).isSome = true := by
        unfold sget at h ⊢
        rwa [List.find?_cons_of_neg (by simp [keq_ne e])] at h
      obtain ⟨h1, h2, h3⟩ := sdel_parts k r hrr hk
      have hak : a.data.toList < k.data.toList := har k (List.mem_of_getElem? h2)
      have hs : klo (skeys ((a, va) :: r)) k = klo (skeys r) k + 1 := by
        show (a :: skeys r).countP _ = _
        rw [List.countP_cons_of_pos (by simpa using hak)]
        rfl
      rw [hs]
      refine ⟨by simpa using h1, h2, ?_⟩
      unfold sdel at h3 ⊢
      rw [List.filter_cons_of_pos (by simp [keq_ne e]), h3]
      rfl
theorem skeys_sdel {k : ByteArray} {L : SL} (hr : Rising (skeys L)) (h : (sget L k).isSome = true) : skeys (sdel L k) = (skeys L).take (klo (skeys L) k) ++ (skeys L).drop (klo (skeys L) k + 1) := by
  rw [(sdel_parts k L hr h).2.2]
  simp [skeys, List.map_take, List.map_drop]
theorem length_sdel {k : ByteArray} {L : SL} (hr : Rising (skeys L)) (h : (sget L k).isSome = true) : (sdel L k).length + 1 = L.length := by
  obtain ⟨h1, _, h3⟩ := sdel_parts k L hr h
  rw [h3, List.length_append, List.length_take, List.length_drop]
  omega
theorem rising_sdel {k : ByteArray} {L : SL} (hr : Rising (skeys L)) : Rising (skeys (sdel L k)) := by
  unfold skeys sdel
  exact List.Pairwise.sublist (List.filter_sublist.map _) hr
theorem Rep.del {D : DataW Unit} {L : SL} (h : Rep D L) (hr : Rising (skeys L)) (k : ByteArray) : Rep (D.del (.string k.data.toList)) (sdel L k) := by
  refine ⟨h.td.del _, fun k' => ?_, fun k' z => ?_, ?_⟩
  · rw [sget_sdel]
    by_cases e : k' = k
    · rw [if_pos e, e, has_del_same]; rfl
    · rw [if_neg e, has_del_other (fun hh => e (lit_inj hh)), h.has]
  · rw [sget_sdel]
    by_cases e : k' = k
    · rw [if_pos e, e, atKey_del_same]
    · rw [if_neg e, atKey_del_other (fun hh => e (lit_inj hh)), h.at_]
  · have hs := size_del h.td (k := .string k.data.toList)
    rw [h.has, h.sz] at hs
    cases hh : (sget L k).isSome with
    | true =>
      have := length_sdel hr hh
      rw [hh, if_pos rfl] at hs
      omega
    | false =>
      rw [hh] at hs
      have he : sdel L k = L := by
        unfold sdel
        rw [List.filter_eq_self]
        intro p hp
        simp [sget_none hh p hp]
      rw [he]
      simpa using hs
/-- 'delete(m, k)' -/
theorem MapAt.del {w : World} {bm : Nat} {L : SL} (h : MapAt w bm L) (hr : Rising (skeys L)) (k : ByteArray) (hk : k.size ≤ maxLen) (ty : TypeId) :
    ∃ w', (Builtin.delete_ #[73, 9] ty #[.map (some bm), .string k]).run Tryz.prog w = .ok (.tuple #[]) w' ∧ MapAt w' bm (sdel L k) ∧ Touch [bm] w w' := by
  obtain ⟨D, ho, hR⟩ := h
  obtain ⟨w', hrun, ho', hg⟩ := ho.drop skeyed Tryz.underlying73 (keyOf_s hk) ty
  have hR' := hR.del hr k
  refine ⟨w', hrun, ⟨_, by rw [← hR'.sz]; exact ownsMap_size ho', hR'⟩, ?_⟩
  exact Touch.grown hg.grown fun k hk => by cases hk; simp
end Go.Proofs.YtoaepgiajooecaaGreat

namespace Go.Proofs.YtoaepgiajooecaaGreat
open Go.RowKit Go.Maps Go.Sort

/-- the document's store at m has the entries L -/
def DL (w : World) (m : Nat) (L : SL) : Prop :=
  ∃ A c, w.cell? ⟨m, 0, none⟩ = some (.slice A L.length c) ∧ m < w.heap.size ∧ (0 < L.length → ∃ g, A = some ⟨g, 0, none⟩ ∧ g < w.heap.size ∧ ∀ i (h : i < L.length), w.cell? ⟨g, i * 2, none⟩ = some (.string L[i].1) ∧ w.cell? ⟨g, i * 2 + 1, none⟩ = some (.string L[i].2))
theorem DL.below {w w' : World} {m : Nat} {L : SL} (h : DL w m L) (hb : Below w.heap.size w w') : DL w' m L := by
  obtain ⟨A, c, h1, h2, h3⟩ := h
  refine ⟨A, c, (hb.cell (p := ⟨m, 0, none⟩) h2).trans h1, Nat.lt_of_lt_of_le h2 hb.size, fun hn => ?_⟩
  obtain ⟨g, e, hg, hc⟩ := h3 hn
  exact ⟨g, e, Nat.lt_of_lt_of_le hg hb.size, fun i hi => ⟨(hb.cell (p := ⟨g, i * 2, none⟩) hg).trans (hc i hi).1, (hb.cell (p := ⟨g, i * 2 + 1, none⟩) hg).trans (hc i hi).2⟩⟩
theorem klo_at {x : ByteArray} : ∀ (ks : List ByteArray) (i : Nat), Rising ks → i ≤ ks.length → (∀ j (h : j < ks.length), j < i → ks[j].data.toList < x.data.toList) → (∀ h : i < ks.length, ¬ ks[i].data.toList < x.data.toList) → klo ks x = i
  | [], i, _, hi, _, _ => by simp at hi; subst hi; rfl
  | a :: r, 0, hr, _, _, h2 => by
    have ha := h2 (by simp)
    simp only [List.getElem_cons_zero] at ha
    unfold klo
    rw [List.countP_eq_zero]
    intro y hy hd
    rcases List.mem_cons.1 hy with rfl | hy
    · exact ha (of_decide_eq_true hd)
    · exact ha (List.lt_trans ((List.pairwise_cons.1 hr).1 y hy) (of_decide_eq_true hd))
  | a :: r, i + 1, hr, hi, h1, h2 => by
    have ha := h1 0 (by simp) (by omega)
    simp only [List.getElem_cons_zero] at ha
    have ih := klo_at (x := x) r i (List.pairwise_cons.1 hr).2 (by simpa using hi) (fun j hj hji => h1 (j + 1) (Nat.succ_lt_succ hj) (by omega)) (fun h => h2 (Nat.succ_lt_succ h))
    unfold klo at ih ⊢
    rw [List.countP_cons_of_pos (by simpa using ha), ih]
set_option maxRecDepth 100000 in
set_option maxHeartbeats 2000000 in
theorem rplace_walk (m : Nat) (L : SL) (x : ByteArray) (w : World) (h : DL w m L) (hr : Rising (skeys L)) (hn : L.length ≤ 1000000) :
    Calls Tryz.prog 93 #[.pointer (some ⟨m, 0, none⟩), .string x] w fun e w' => e = .returned (.int .i64 (klo (skeys L) x : Nat)) ∧ w = w' := by
  obtain ⟨A, c, c0, hm, hcs⟩ := h
  obtain ⟨n, hnL⟩ : ∃ n, n = L.length := ⟨_, rfl⟩
  have hkl : (skeys L).length = L.length := by unfold skeys; simp
  have hkey : ∀ j (hj : j < L.length), (skeys L)[j]'(by omega) = L[j].1 := fun j hj => by unfold skeys; simp
  obtain ⟨K, hK⟩ : ∃ K, K = klo (skeys L) x := ⟨_, rfl⟩
  rw [← hK]
  have HK := Lib.hid hK
  have HR := Lib.hid hr
  have HKL := Lib.hid hkl
  have HKY : Hid (∀ j (hj : j < L.length) (h' : j < (skeys L).length), (skeys L)[j] = L[j].1) := Lib.hid fun j hj _ => hkey j hj
  have HCS := Lib.hid hcs
  have HNL := Lib.hid hnL
  rw [← hnL] at c0
  have hnI : (n : Int) ≤ 1000000 := by omega
  clear hK hr hcs hn hnL hkey
  clear hkl
  go_enter Tryz.func93, Tryz.ntmps93
  go_wp2
  go_loopw [5] (fun i wr => ∃ j : Nat, j ≤ n ∧ i = .int .i64 (j : Nat) ∧ w = wr ∧ ∀ j' (h : j' < L.length), j' < j → L[j'].1.data.toList < x.data.toList) (fun i _ => n - (intOf i).toNat)
  case atStart => exact ⟨0, by omega, rfl, rfl, fun j' _ h => absurd h (by omega)⟩
  case round =>
    obtain ⟨j, hj, rfl, rfl, hall⟩ := hrel
    have HA := Lib.hid hall
    clear hall
    have hjI : (j : Int) ≤ (n : Int) := by omega
    by_cases hlt : j < n
    · have p1 : (j : Int) < (n : Int) := by omega
      obtain ⟨g, rfl, hg, hc⟩ := HCS.out (by have := HNL.out; omega)
      have hjL : j < L.length := by have := HNL.out; omega
      have ck := (hc j hjL).1
      obtain ⟨y, hy⟩ : ∃ y, y = L[j].1 := ⟨_, rfl⟩
      rw [← hy] at ck
      have HY := Lib.hid hy
      clear hc hy
      by_cases hyx : y.data.toList < x.data.toList
      · have p2 : Op.bytesLess y.toList x.toList = true := by rw [bytesLess_eq, Lib.toList_data, Lib.toList_data]; exact decide_eq_true hyx
        go_wp2
        refine ⟨⟨j + 1, by omega, by simp, by trivial, fun j' hj' hlt' => ?_⟩, by simp [intOf]; omega⟩
        by_cases e : j' = j
        · subst e; rw [← HY.out]; exact hyx
        · exact HA.out j' hj' (by omega)
      · have e0 : K = j := by
          rw [HK.out]
          refine klo_at (skeys L) j HR.out (by rw [HKL.out]; omega) (fun j' h' hlt' => ?_) (fun h' => ?_)
          · rw [HKY.out j' (by rw [← HKL.out]; exact h') h']; exact HA.out j' _ hlt'
          · rw [HKY.out j hjL h', ← HY.out]; exact hyx
        subst e0
        have p2 : Op.bytesLess y.toList x.toList = false := by rw [bytesLess_eq, Lib.toList_data, Lib.toList_data]; exact decide_eq_false hyx
        go_wp2
        go_ret
        exact ⟨rfl, rfl⟩
    · have p1 : ¬ (j : Int) < (n : Int) := by omega
      have e0 : K = j := by
        rw [HK.out]
        refine klo_at (skeys L) j HR.out (by rw [HKL.out, ← HNL.out]; omega) (fun j' h' hlt' => ?_) (fun h' => ?_)
        · rw [HKY.out j' (by rw [← HKL.out]; exact h') h']; exact HA.out j' _ hlt'
        · rw [HKL.out, ← HNL.out] at h'; omega
      subst e0
      go_wp2
      go_ret
      exact ⟨rfl, rfl⟩
theorem rsget_at (k : ByteArray) : ∀ L : SL, Rising (skeys L) → sget L k = (L[klo (skeys L) k]?).bind fun p => if p.1 = k then some p.2 else none
  | [], _ => rfl
  | (a, va) :: r, hr => by
    have har : ∀ y ∈ skeys r, a.data.toList < y.data.toList := (List.pairwise_cons.1 hr).1
    by_cases ha : a.data.toList < k.data.toList
    · have hne : a ≠ k := fun e => by rw [e] at ha; exact absurd ha (List.lt_irrefl _)
      have hs : klo (skeys ((a, va) :: r)) k = klo (skeys r) k + 1 := by
        show (a :: skeys r).countP _ = _
        rw [List.countP_cons_of_pos (by simpa using ha)]
        rfl
      have h0 : sget ((a, va) :: r) k = sget r k := by
        unfold sget
        rw [List.find?_cons_of_neg (by simp [keq_ne hne])]
      rw [hs, h0, rsget_at k r (List.pairwise_cons.1 hr).2]
      rfl
    · have hz : klo (skeys ((a, va) :: r)) k = 0 := by
        unfold klo
        rw [List.countP_eq_zero]
        intro y hy hd
        have hd := of_decide_eq_true hd
        rcases List.mem_cons.1 (show y ∈ a :: skeys r from hy) with rfl | hy
        · exact ha hd
        · exact ha (List.lt_trans (har y hy) hd)
      rw [hz]
      show _ = if a = k then some va else none
      by_cases e : a = k
      · rw [if_pos e]
        unfold sget
        rw [List.find?_cons_of_pos (by simp [e, keq_self])]
        rfl
      · rw [if_neg e]
        refine sget_of_none fun p hp => ?_
        rcases List.mem_cons.1 hp with rfl | hp
        · exact keq_ne e
        · refine keq_ne fun e2 => ha ?_
          have := har p.1 (List.mem_map.2 ⟨p, hp, rfl⟩)
          rwa [e2] at this
set_option maxRecDepth 100000 in
set_option maxHeartbeats 2000000 in
theorem rget_walk (m : Nat) (L : SL) (x : ByteArray) (w : World) (h : DL w m L) (hr : Rising (skeys L)) (hn : L.length ≤ 1000000) :
    Calls Tryz.prog 74 #[.pointer (some ⟨m, 0, none⟩), .string x] w fun e w' => e = .returned (.tuple #[.string ((sget L x).getD ⟨#[]⟩), .bool (sget L x).isSome]) ∧ w = w' := by
  have HP := Lib.hid (rplace_walk m L x w h hr hn)
  have hg := rsget_at x L hr
  obtain ⟨A, c, c0, hm, hcs⟩ := h
  obtain ⟨n, hnL⟩ : ∃ n, n = L.length := ⟨_, rfl⟩
  obtain ⟨K, hK⟩ : ∃ K, K = klo (skeys L) x := ⟨_, rfl⟩
  obtain ⟨S, hS⟩ : ∃ S, S = sget L x := ⟨_, rfl⟩
  rw [← hK] at HP hg
  rw [← hS] at hg ⊢
  rw [← hnL] at c0
  have hnI : (n : Int) ≤ 1000000 := by omega
  by_cases hlt : K < n
  · have p1 : (K : Int) < (n : Int) := by omega
    obtain ⟨g, rfl, hgl, hc⟩ := hcs (by omega)
    obtain ⟨k1, k2⟩ := hc K (by omega)
    rw [List.getElem?_eq_getElem (by omega)] at hg
    obtain ⟨a, ha⟩ : ∃ a, a = (L[K]'(by omega)).1 := ⟨_, rfl⟩
    obtain ⟨v, hv⟩ : ∃ v, v = (L[K]'(by omega)).2 := ⟨_, rfl⟩
    rw [← ha] at k1
    rw [← hv] at k2
    simp only [Option.bind_some] at hg
    rw [← ha, ← hv] at hg
    clear hc hcs hr hn hS hnL hK ha hv
    by_cases e : a = x
    · have p2 : (a.toList == x.toList) = true := by rw [e]; exact beq_self_eq_true _
      rw [if_pos e] at hg
      subst hg
      clear e
      go_enter Tryz.func74, Tryz.ntmps74
      go_wp2_with (go_at_call 93; refine HP.out.mono ?_; rintro e w1 ⟨rfl, rfl⟩)
      go_ret2
      exact ⟨rfl, rfl⟩
    · have p2 : (a.toList == x.toList) = false := by
        rw [beq_eq_false_iff_ne, Lib.toList_data, Lib.toList_data]
        exact fun h => e (lit_inj (congrArg Lit.string h))
      rw [if_neg e] at hg
      subst hg
      clear e
      go_enter Tryz.func74, Tryz.ntmps74
      go_wp2_with (go_at_call 93; refine HP.out.mono ?_; rintro e w1 ⟨rfl, rfl⟩)
      go_ret2
      exact ⟨rfl, rfl⟩
  · have p1 : ¬ (K : Int) < (n : Int) := by omega
    rw [List.getElem?_eq_none (by omega)] at hg
    have hg0 : S = none := hg
    subst hg0
    clear hg hcs hr hn hS hnL hK
    go_enter Tryz.func74, Tryz.ntmps74
    go_wp2_with (go_at_call 93; refine HP.out.mono ?_; rintro e w1 ⟨rfl, rfl⟩)
    go_ret2
    exact ⟨rfl, rfl⟩
end Go.Proofs.YtoaepgiajooecaaGreat

namespace Go.Proofs.YtoaepgiajooecaaGreat
open Go.RowKit Go.Maps Go.Sort

/-- the document's store at m: no entries, no changes -/
def DE (w : World) (m : Nat) : Prop := w.cell? ⟨m, 0, none⟩ = some (.slice none 0 0) ∧ w.cell? ⟨m, 1, none⟩ = some (.slice none 0 0) ∧ m < w.heap.size
theorem DE.below {w w' : World} {m : Nat} (h : DE w m) (hb : Below w.heap.size w w') : DE w' m :=
  ⟨(hb.cell (p := ⟨m, 0, none⟩) h.2.2).trans h.1, (hb.cell (p := ⟨m, 1, none⟩) h.2.2).trans h.2.1, Nat.lt_of_lt_of_le h.2.2 hb.size⟩
theorem DE.dl {w : World} {m : Nat} (h : DE w m) : DL w m [] := ⟨none, 0, h.1, h.2.2, fun hn => absurd hn (Nat.lt_irrefl _)⟩
set_option maxRecDepth 100000 in
set_option maxHeartbeats 4000000 in
theorem rdel_none (m : Nat) (k : ByteArray) (w : World) (h : DE w m) : Calls Tryz.prog 67 #[.pointer (some ⟨m, 0, none⟩), .string k] w fun e w' => e = .returned (.bool false) ∧ w = w' := by
  have HG := Lib.hid (rget_walk m [] k w h.dl List.Pairwise.nil (Nat.zero_le _))
  clear h
  go_enter Tryz.func67, Tryz.ntmps67
  go_wp2_with (go_at_call 74; refine HG.out.mono ?_; rintro e w1 ⟨he, rfl⟩; obtain rfl : e = .returned (.tuple #[.string ⟨#[]⟩, .bool false]) := he)
  go_ret
  exact ⟨rfl, rfl⟩
end Go.Proofs.YtoaepgiajooecaaGreat
