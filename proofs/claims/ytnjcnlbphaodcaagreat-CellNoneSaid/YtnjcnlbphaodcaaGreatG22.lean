/- The document's store (tallageref08), read: place and Get. -/
import Derived.Test.YtnjcnlbphaodcaaGreatG06
import Derived.Test.YtnjcnlbphaodcaaGreatG07
namespace Go.Proofs.YtnjcnlbphaodcaaGreat
open Go.RowKit Go.Maps Go.Sort

/-- the document's store at m has the entries L -/
def DL (w : World) (m : Nat) (L : SL) : Prop :=
  ∃ A c, w.cell? ⟨m, 0, none⟩ = some (.slice A L.length c) ∧ m < w.heap.size ∧ (0 < L.length → ∃ g, A = some ⟨g, 0, none⟩ ∧ g < w.heap.size ∧ ∀ i (h : i < L.length), w.cell? ⟨g, i * 2, none⟩ = some (.string L[i].1) ∧ w.cell? ⟨g, i * 2 + 1, none⟩ = some (.string L[i].2))
theorem DL.below {w w' : World} {m : Nat} {L : SL} (h : DL w m L) (hb : Below w.heap.size w w') : DL w' m L := by
  obtain ⟨A, c, h1, h2, h3⟩ := h
  refine ⟨A, c, (hb.cell (p := ⟨m, 0, none⟩) h2).trans h1, Nat.lt_of_lt_of_le h2 hb.size, fun hn => ?_⟩
  obtain ⟨g, e, hg, hc⟩ := h3 hn
  exact ⟨g, e, Nat.lt_of_lt_of_le hg hb.size, fun i hi => ⟨(hb.cell (p := ⟨g, i * 2, none⟩) hg).trans (hc i hi).1, (hb.cell (p := ⟨g, i * 2 + 1, none⟩) hg).trans (hc i hi).2⟩⟩
theorem klo_at {x : ByteArray} : ∀ (ks : List ByteArray) (i : Nat), Rising ks → i ≤ ks.length → (∀ j (h : j < ks.length), j < i → ks[j].data.toList < x.data.toList) → (∀ h : i < ks.length, ¬ ks[i].data.toList < x.data.toList) → klo ks x = i
  | [], i, _, hi, _, _ => by simp at hi; subst hi; rfl
  | a :: r, 0, hr, _, _, h2 => by
    have ha := h2 (by simp)
    simp only [List.getElem_cons_zero] at ha
    unfold klo
    rw [List.countP_eq_zero]
    intro y hy hd
    rcases List.mem_cons.1 hy with rfl | hy
    · exact ha (of_decide_eq_true hd)
    · exact ha (List.lt_trans ((List.pairwise_cons.1 hr).1 y hy) (of_decide_eq_true hd))
  | a :: r, i + 1, hr, hi, h1, h2 => by
    have ha := h1 0 (by simp) (by omega)
    simp only [List.getElem_cons_zero] at ha
    have ih := klo_at (x := x) r i (List.pairwise_cons.1 hr).2 (by simpa using hi) (fun j hj hji => h1 (j + 1) (Nat.succ_lt_succ hj) (by omega)) (fun h => h2 (Nat.succ_lt_succ h))
    unfold klo at ih ⊢
    rw [List.countP_cons_of_pos (by simpa using ha), ih]
set_option maxRecDepth 100000 in
set_option maxHeartbeats 2000000 in
theorem rplace_walk (m : Nat) (L : SL) (x : ByteArray) (w : World) (h : DL w m L) (hr : Rising (skeys L)) (hn : L.length ≤ 1000000) :
    Calls Tryz.prog 81 #[.pointer (some ⟨m, 0, none⟩), .string x] w fun e w' => e = .returned (.int .i64 (klo (skeys L) x : Nat)) ∧ w = w' := by
  obtain ⟨A, c, c0, hm, hcs⟩ := h
  obtain ⟨n, hnL⟩ : ∃ n, n = L.length := ⟨_, rfl⟩
  have hkl : (skeys L).length = L.length := by unfold skeys; simp
  have hkey : ∀ j (hj : j < L.length), (skeys L)[j]'(by omega) = L[j].1 := fun j hj => by unfold skeys; simp
  obtain ⟨K, hK⟩ : ∃ K, K = klo (skeys L) x := ⟨_, rfl⟩
  rw [← hK]
  have HK := Lib.hid hK
  have HR := Lib.hid hr
  have HKL := Lib.hid hkl
  have HKY : Hid (∀ j (hj : j < L.length) (h' : j < (skeys L).length), (skeys L)[j] = L[j].1) := Lib.hid fun j hj _ => hkey j hj
  have HCS := Lib.hid hcs
  have HNL := Lib.hid hnL
  rw [← hnL] at c0
  have hnI : (n : Int) ≤ 1000000 := by omega
  clear hK hr hcs hn hnL hkey
  clear hkl
  go_enter Tryz.func81, Tryz.ntmps81
  go_wp2
  go_loopw [5] (fun i wr => ∃ j : Nat, j ≤ n ∧ i = .int .i64 (j : Nat) ∧ w = wr ∧ ∀ j' (h : j' < L.length), j' < j → L[j'].1.data.toList < x.data.toList) (fun i _ => n - (intOf i).toNat)
  case atStart => exact ⟨0, by omega, rfl, rfl, fun j' _ h => absurd h (by omega)⟩
  case round =>
    obtain ⟨j, hj, rfl, rfl, hall⟩ := hrel
    have HA := Lib.hid hall
    clear hall
    have hjI : (j : Int) ≤ (n : Int) := by omega
    by_cases hlt : j < n
    · have p1 : (j : Int) < (n : Int) := by omega
      obtain ⟨g, rfl, hg, hc⟩ := HCS.out (by have := HNL.out; omega)
      have hjL : j < L.length := by have := HNL.out; omega
      have ck := (hc j hjL).1
      obtain ⟨y, hy⟩ : ∃ y, y = L[j].1 := ⟨_, rfl⟩
      rw [← hy] at ck
      have HY := Lib.hid hy
      clear hc hy
      by_cases hyx : y.data.toList < x.data.toList
      · have p2 : Op.bytesLess y.toList x.toList = true := by rw [bytesLess_eq, Lib.toList_data, Lib.toList_data]; exact decide_eq_true hyx
        go_wp2
        refine ⟨⟨j + 1, by omega, by simp, by trivial, fun j' hj' hlt' => ?_⟩, by simp [intOf]; omega⟩
        by_cases e : j' = j
        · subst e; rw [← HY.out]; exact hyx
        · exact HA.out j' hj' (by omega)
      · have e0 : K = j := by
          rw [HK.out]
          refine klo_at (skeys L) j HR.out (by rw [HKL.out]; omega) (fun j' h' hlt' => ?_) (fun h' => ?_)
          · rw [HKY.out j' (by rw [← HKL.out]; exact h') h']; exact HA.out j' _ hlt'
          · rw [HKY.out j hjL h', ← HY.out]; exact hyx
        subst e0
        have p2 : Op.bytesLess y.toList x.toList = false := by rw [bytesLess_eq, Lib.toList_data, Lib.toList_data]; exact decide_eq_false hyx
        go_wp2
        go_ret
        exact ⟨rfl, rfl⟩
    · have p1 : ¬ (j : Int) < (n : Int) := by omega
      have e0 : K = j := by
        rw [HK.out]
        refine klo_at (skeys L) j HR.out (by rw [HKL.out, ← HNL.out]; omega) (fun j' h' hlt' => ?_) (fun h' => ?_)
        · rw [HKY.out j' (by rw [← HKL.out]; exact h') h']; exact HA.out j' _ hlt'
        · rw [HKL.out, ← HNL.out] at h'; omega
      subst e0
      go_wp2
      go_ret
      exact ⟨rfl, rfl⟩
theorem rsget_at (k : ByteArray) : ∀ L : SL, Rising (skeys L) → sget L k = (L[klo (skeys L) k]?).bind fun p => if p.1 = k then some p.2 else none
  | [], _ => rfl
  | (a, va) :: r, hr => by
    have har : ∀ y ∈ skeys r, a.data.toList < y.data.toList := (List.pairwise_cons.1 hr).1
    by_cases ha : a.data.toList < k.data.toList
    · have hne : a ≠ k := fun e => by rw [e] at ha; exact absurd ha (List.lt_irrefl _)
      have hs : klo (skeys ((a, va) :: r)) k = klo (skeys r) k + 1 := by
        show (a :: skeys r).countP _ = _
        rw [List.countP_cons_of_pos (by simpa using ha)]
        rfl
      have h0 : sget ((a, va) :: r) k = sget r k := by
        unfold sget
        rw [List.find?_cons_of_neg (by simp [keq_ne hne])]
      rw [hs, h0, rsget_at k r (List.pairwise_cons.1 hr).2]
      rfl
    · have hz : klo (skeys ((a, va) :: r)) k = 0 := by
        unfold klo
        rw [List.countP_eq_zero]
        intro y hy hd
        have hd := of_decide_eq_true hd
        rcases List.mem_cons.1 (show y ∈ a :: skeys r from hy) with rfl | hy
        · exact ha hd
        · exact ha (List.lt_trans (har y hy) hd)
      rw [hz]
      show _ = if a = k then some va else none
      by_cases e : a = k
      · rw [if_pos e]
        unfold sget
        rw [List.find?_cons_of_pos (by simp [e, keq_self])]
        rfl
      · rw [if_neg e]
        refine sget_of_none fun p hp => ?_
        rcases List.mem_cons.1 hp with rfl | hp
        · exact keq_ne e
        · refine keq_ne fun e2 => ha ?_
          have := har p.1 (List.mem_map.2 ⟨p, hp, rfl⟩)
          rwa [e2] at this
set_option maxRecDepth 100000 in
set_option maxHeartbeats 2000000 in
theorem rget_walk (m : Nat) (L : SL) (x : ByteArray) (w : World) (h : DL w m L) (hr : Rising (skeys L)) (hn : L.length ≤ 1000000) :
    Calls Tryz.prog 61 #[.pointer (some ⟨m, 0, none⟩), .string x] w fun e w' => e = .returned (.tuple #[.string ((sget L x).getD ⟨#[]⟩), .bool (sget L x).isSome]) ∧ w = w' := by
  have HP := Lib.hid (rplace_walk m L x w h hr hn)
  have hg := rsget_at x L hr
  obtain ⟨A, c, c0, hm, hcs⟩ := h
  obtain ⟨n, hnL⟩ : ∃ n, n = L.length := ⟨_, rfl⟩
  obtain ⟨K, hK⟩ : ∃ K, K = klo (skeys L) x := ⟨_, rfl⟩
  obtain ⟨S, hS⟩ : ∃ S, S = sget L x := ⟨_, rfl⟩
  rw [← hK] at HP hg
  rw [← hS] at hg ⊢
  rw [← hnL] at c0
  have hnI : (n : Int) ≤ 1000000 := by omega
  by_cases hlt : K < n
  · have p1 : (K : Int) < (n : Int) := by omega
    obtain ⟨g, rfl, hgl, hc⟩ := hcs (by omega)
    obtain ⟨k1, k2⟩ := hc K (by omega)
    rw [List.getElem?_eq_getElem (by omega)] at hg
    obtain ⟨a, ha⟩ : ∃ a, a = (L[K]'(by omega)).1 := ⟨_, rfl⟩
    obtain ⟨v, hv⟩ : ∃ v, v = (L[K]'(by omega)).2 := ⟨_, rfl⟩
    rw [← ha] at k1
    rw [← hv] at k2
    simp only [Option.bind_some] at hg
    rw [← ha, ← hv] at hg
    clear hc hcs hr hn hS hnL hK ha hv
    by_cases e : a = x
    · have p2 : (a.toList == x.toList) = true := by rw [e]; exact beq_self_eq_true _
      rw [if_pos e] at hg
      subst hg
      clear e
      go_enter Tryz.func61, Tryz.ntmps61
      go_wp2_with (go_at_call 81; refine HP.out.mono ?_; rintro e w1 ⟨rfl, rfl⟩)
      go_ret2
      exact ⟨rfl, rfl⟩
    · have p2 : (a.toList == x.toList) = false := by
        rw [beq_eq_false_iff_ne, Lib.toList_data, Lib.toList_data]
        exact fun h => e (lit_inj (congrArg Lit.string h))
      rw [if_neg e] at hg
      subst hg
      clear e
      go_enter Tryz.func61, Tryz.ntmps61
      go_wp2_with (go_at_call 81; refine HP.out.mono ?_; rintro e w1 ⟨rfl, rfl⟩)
      go_ret2
      exact ⟨rfl, rfl⟩
  · have p1 : ¬ (K : Int) < (n : Int) := by omega
    rw [List.getElem?_eq_none (by omega)] at hg
    have hg0 : S = none := hg
    subst hg0
    clear hg hcs hr hn hS hnL hK
    go_enter Tryz.func61, Tryz.ntmps61
    go_wp2_with (go_at_call 81; refine HP.out.mono ?_; rintro e w1 ⟨rfl, rfl⟩)
    go_ret2
    exact ⟨rfl, rfl⟩
end Go.Proofs.YtnjcnlbphaodcaaGreat

namespace Go.Proofs.YtnjcnlbphaodcaaGreat
open Go.RowKit Go.Maps Go.Sort

/-- the document's store at m: no entries, no changes -/
def DE (w : World) (m : Nat) : Prop := w.cell? ⟨m, 0, none⟩ = some (.slice none 0 0) ∧ w.cell? ⟨m, 1, none⟩ = some (.slice none 0 0) ∧ m < w.heap.size
theorem DE.below {w w' : World} {m : Nat} (h : DE w m) (hb : Below w.heap.size w w') : DE w' m :=
  ⟨(hb.cell (p := ⟨m, 0, none⟩) h.2.2).trans h.1, (hb.cell (p := ⟨m, 1, none⟩) h.2.2).trans h.2.1, Nat.lt_of_lt_of_le h.2.2 hb.size⟩
theorem DE.dl {w : World} {m : Nat} (h : DE w m) : DL w m [] := ⟨none, 0, h.1, h.2.2, fun hn => absurd hn (Nat.lt_irrefl _)⟩
set_option maxRecDepth 100000 in
set_option maxHeartbeats 4000000 in
theorem rdel_none (m : Nat) (k : ByteArray) (w : World) (h : DE w m) : Calls Tryz.prog 38 #[.pointer (some ⟨m, 0, none⟩), .string k] w fun e w' => e = .returned (.bool false) ∧ w = w' := by
  have HG := Lib.hid (rget_walk m [] k w h.dl List.Pairwise.nil (Nat.zero_le _))
  clear h
  go_enter Tryz.func38, Tryz.ntmps38
  go_wp2_with (go_at_call 61; refine HG.out.mono ?_; rintro e w1 ⟨he, rfl⟩; obtain rfl : e = .returned (.tuple #[.string ⟨#[]⟩, .bool false]) := he)
  go_ret
  exact ⟨rfl, rfl⟩
end Go.Proofs.YtnjcnlbphaodcaaGreat

namespace Go.Proofs.YtnjcnlbphaodcaaGreat
open Go.RowKit Go.Maps Go.Sort

/-- a change: its key, whether it was there, what was -/
abbrev Ch := ByteArray × Bool × ByteArray
def undo1 (L : SL) (c : Ch) : SL := if c.2.1 = true then sset L c.1 c.2.2 else sdel L c.1
/-- the changes' cells; the newest is the list's first -/
def chs (R : List Ch) : List Value := R.reverse.flatMap fun c => chg c.1 c.2.1 c.2.2
theorem chs_cons (c : Ch) (R : List Ch) : chs (c :: R) = chs R ++ chg c.1 c.2.1 c.2.2 := by simp [chs]
theorem chs_app (R S : List Ch) : chs (R ++ S) = chs S ++ chs R := by simp [chs]
theorem chs_len : ∀ R : List Ch, (chs R).length = R.length * 3
  | [] => rfl
  | c :: R => by rw [chs_cons, List.length_append, chs_len R, List.length_cons, show (chg c.1 c.2.1 c.2.2).length = 3 from rfl]; omega
theorem chs_drop (R : List Ch) (d : Nat) : chs R = chs (R.drop d) ++ chs (R.take d) := by rw [← chs_app, List.take_append_drop]
theorem chs_at {R : List Ch} {j : Nat} (h : j < R.length) {i : Nat} (hi : i + j + 1 = R.length) : (chs R)[i * 3]? = some (.string R[j].1) ∧ (chs R)[i * 3 + 1]? = some (.bool R[j].2.1) ∧ (chs R)[i * 3 + 2]? = some (.string R[j].2.2) := by
  have e : chs R = (chs (R.drop (j + 1)) ++ chg R[j].1 R[j].2.1 R[j].2.2) ++ chs (R.take j) := by
    rw [chs_drop R j, List.drop_eq_getElem_cons h, chs_cons]
  have hl : (chs (R.drop (j + 1))).length = i * 3 := by rw [chs_len, List.length_drop]; omega
  have h3 : (chg R[j].1 R[j].2.1 R[j].2.2).length = 3 := rfl
  rw [e]
  refine ⟨?_, ?_, ?_⟩
  · rw [List.getElem?_append_left (by rw [List.length_append]; omega), List.getElem?_append_right (by omega), hl, Nat.sub_self]; rfl
  · rw [List.getElem?_append_left (by rw [List.length_append]; omega), List.getElem?_append_right (by omega), hl, Nat.add_sub_cancel_left]; rfl
  · rw [List.getElem?_append_left (by rw [List.length_append]; omega), List.getElem?_append_right (by omega), hl, Nat.add_sub_cancel_left]; rfl
/-- the changes fit the entries -/
def HOk : SL → List Ch → Prop
  | _, [] => True
  | L, c :: r => (c.1.size ≤ maxLen ∧ c.2.2.size ≤ maxLen ∧ L.length < 1000000 ∧ (c.2.1 = false → (sget L c.1).isSome = true)) ∧ HOk (undo1 L c) r
def und (L : SL) (R : List Ch) (d : Nat) : SL := (R.take d).foldl undo1 L
theorem und_zero (L : SL) (R : List Ch) : und L R 0 = L := rfl
theorem und_succ (L : SL) {R : List Ch} {d : Nat} (h : d < R.length) : und L R (d + 1) = undo1 (und L R d) R[d] := by
  unfold und
  rw [List.take_succ_eq_append_getElem h, List.foldl_append]
  rfl
theorem HOk.drop : ∀ {L : SL} {R : List Ch} (d : Nat), HOk L R → HOk (und L R d) (R.drop d)
  | _, _, 0, h => h
  | _, [], d + 1, _ => by simp [HOk]
  | L, c :: R, d + 1, h => by
    have := HOk.drop d h.2
    simpa [und] using this
theorem HOk.at_ {L : SL} {R : List Ch} {d : Nat} (h : HOk L R) (hd : d < R.length) : R[d].1.size ≤ maxLen ∧ R[d].2.2.size ≤ maxLen ∧ (und L R d).length < 1000000 ∧ (R[d].2.1 = false → (sget (und L R d) R[d].1).isSome = true) := by
  have := h.drop d
  rw [List.drop_eq_getElem_cons hd] at this
  exact this.1
/-- the changes' row gets shorter by d -/
theorem und_done_n {W : World} {b bm g cap m d : Nat} {vb : Value} {vk : List Seg} {L : SL} {qs three zs : List Value} (h : StM W b bm vb vk (.slice (some ⟨g, 0, none⟩) (m + d) cap) L (m + d) (qs ++ three)) (hq : qs.length = m * 3) (hz : zs.length = d * 3) :
    StM ((W.setCells g (m * 3) zs).setCell ⟨b, 2, none⟩ (.slice (some ⟨g, 0, none⟩) m cap)) b bm vb vk (.slice (some ⟨g, 0, none⟩) m cap) L m qs ∧ Touch (fpr b bm vb vk (.slice (some ⟨g, 0, none⟩) (m + d) cap) L) W ((W.setCells g (m * 3) zs).setCell ⟨b, 2, none⟩ (.slice (some ⟨g, 0, none⟩) m cap)) := by
  obtain ⟨g1, g2⟩ := h.vq_kfp g rfl
  have hb : b ∈ kfp b vb vk := mem_kfp.2 (.inl rfl)
  obtain ⟨cur, hg, hn, hc, hs, ht, hl⟩ := ownsRow_open h.kq
  have t1 := touch_setCells (F := [g]) g (by simp) zs (m * 3) W
  have hfar : ∀ k, k < W.heap.size → k ≠ g → (W.setCells g (m * 3) zs).heap[k]? = W.heap[k]? := fun k hk hne => t1.block k hk (by simp; exact hne)
  have hfar2 : ∀ k, k < W.heap.size → k ≠ g → k ≠ b → ((W.setCells g (m * 3) zs).setCell ⟨b, 2, none⟩ (.slice (some ⟨g, 0, none⟩) m cap)).heap[k]? = W.heap[k]? := fun k hk hne hne2 => (Below.heap_setCell _ _ _ _ hne2).trans (hfar k hk hne)
  have hgk : ∀ k, k ∈ kfp b vb vk → k ≠ g := fun k hk e => g2 (e ▸ hk)
  have h0 := h.keys
  refine ⟨⟨⟨?_, ownsRow_same h0.kb fun k hk => hfar2 k (ownsRow_blk h0.kb k hk) (hgk k (mem_kfp.2 (.inr (.inl hk)))) (h0.ba_b hk), ⟨fun s hm => (h0.kk.at_ s hm).same (hfar2 _ (h0.kk.at_ s hm).lt (hgk _ (mem_kfp.2 (.inr (.inr ⟨s, hm, rfl⟩)))) (h0.seg_b hm)), h0.kk.ne, h0.kk.ap⟩, h0.fl, h0.so⟩, h.m.same (hfar2 bm h.m.lt (fun e => g1 e.symm) (fun e => h.bm_kfp (e ▸ hb))), ?_⟩, ?_⟩
  · rw [heap_setCell_row ((hfar b (hp_lt h.r) (hgk b hb)).trans h.r)]
    rfl
  · have hm3 : m * 3 + d * 3 ≤ cap * 3 := by omega
    refine ownsRow_shut (cur := putA cur (m * 3) zs) ?_ (by omega) hc (by rw [putA_size, hs]) ?_ hq
    · rw [Below.heap_setCell _ _ _ _ (show g ≠ b from fun e => hgk b hb e.symm)]
      exact heap_setCells_row _ _ hg
    · rw [putA_list _ _ _ (by rw [hz, hs]; omega), List.append_assoc, List.take_append_of_le_length (by rw [List.length_take]; simp; rw [hs]; omega), List.take_take, Nat.min_self]
      have := congrArg (List.take (m * 3)) ht
      rw [List.take_take, Nat.min_eq_left (by omega), List.take_left' hq] at this
      exact this
  · exact (t1.mono (fun k hk => by rw [List.mem_singleton.1 hk]; exact (fpr_kfp _ _ _ _ _ _ _).2 (.inr (.inr rfl)))).trans (fun _ hk => .inl hk) (Touch.setCell _ _ _ ((fpr_kfp _ _ _ _ _ _ _).2 (.inr (.inl hb))))
/-- the cells of n changes of nothing -/
def zch (n : Nat) : List Value := (Builtin.zeroCells (Value.agg #[.string { data := #[] }, .bool false, .string { data := #[] }]).cells n).toList
theorem zch_len (n : Nat) : (zch n).length = n * 3 := by
  unfold zch Builtin.zeroCells
  rw [Array.length_toList, Array.size_map, Array.size_range]
  have : (Value.agg #[.string { data := #[] }, .bool false, .string { data := #[] }]).cells.size = 3 := by kernel_rfl
  rw [this]
theorem zch_one (n : Nat) : ∀ u ∈ zch n, u.oneCell' = true := fun u hu => by
  unfold zch Builtin.zeroCells at hu
  have e : (Value.agg #[.string { data := #[] }, .bool false, .string { data := #[] }]).cells = #[.string { data := #[] }, .bool false, .string { data := #[] }] := by kernel_rfl
  rw [e] at hu
  simp only [Array.toList_map, List.mem_map] at hu
  obtain ⟨i, _, rfl⟩ := hu
  have h3 : i % 3 < 3 := Nat.mod_lt _ (by decide)
  show (#[Value.string { data := #[] }, .bool false, .string { data := #[] }][i % 3]!).oneCell' = true
  rcases (by omega : i % 3 = 0 ∨ i % 3 = 1 ∨ i % 3 = 2) with h | h | h <;> rw [h] <;> rfl
theorem clear_n (w : World) (ty : TypeId) (g o n c : Nat) (hc : ∀ j, j < n * 3 → (w.cell? ⟨g, o + j, none⟩).isSome = true) (hf : ∀ j, w.frozen? ⟨g, o + j, none⟩ = false) :
    (Builtin.clear_ #[33] ty #[.slice (some ⟨g, o, none⟩) n c]).run Tryz.prog w = .ok (.tuple #[]) (w.setCells g o (zch n)) := by
  cases n with
  | zero =>
    have hz : zch 0 = [] := List.eq_nil_of_length_eq_zero (zch_len 0)
    rw [hz]
    simp [Builtin.clear_, run_underlying Tryz.underlying33]
    rfl
  | succ n =>
    have hst := run_storeCells_cells (P := Tryz.prog) g o (zch (n + 1)) 0 w (by rw [zch_len]; simpa using hc) (fun j _ => by rw [Nat.add_zero]; exact hf j) (zch_one _)
    unfold zch at hst ⊢
    simp only [Nat.add_zero] at hst
    simp [Builtin.clear_, run_underlying Tryz.underlying33, hst]
end Go.Proofs.YtnjcnlbphaodcaaGreat
