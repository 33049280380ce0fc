/- The store: drop of the only key, and Delete of it, walked. -/
import Derived.Test.YtedkhpnlhkjjgaaG09
namespace Go.Proofs.Ytedkhpnlhkjjgaa
open Go.RowKit Go.Maps Go.Sort

set_option maxRecDepth 100000 in
set_option maxHeartbeats 4000000 in
theorem drop_one (b bm : Nat) (vb vk vq : Value) (L : SL) (q : Nat) (qs : List Value) (k : ByteArray) (w : World) (h : StM w b bm vb vk vq L q qs) (hk : k.size ≤ maxLen) (hin : (sget L k).isSome = true) (h2 : L.length = 1) :
    Calls Try.prog 121 #[.pointer (some ⟨b, 0, none⟩), .string k] w (PutPost b bm vb vk vq L (sdel L k) q qs w) := by
  have hL0 : L ≠ [] := fun e => by rw [e] at h2; simp at h2
  have hN : L.length ≤ 1000000 := by omega
  obtain ⟨ba, bc, rfl⟩ : ∃ ba bc, vb = .slice (some ⟨ba, 0, none⟩) 1 bc := by
    have := h.kb.2
    rw [if_neg hL0] at this
    rcases this with ⟨_, h0⟩ | ⟨g, cap, cur, hv, _⟩
    · cases h0
    · exact ⟨g, cap, hv⟩
  obtain ⟨bk, kc, rfl⟩ : ∃ bk kc, vk = .slice (some ⟨bk, 0, none⟩) L.length kc := by
    rcases (h.kk hL0).2 with ⟨_, h0⟩ | ⟨g, cap, cur, hv, _⟩
    · rw [h0] at h2; omega
    · exact ⟨g, cap, hv⟩
  have hkl : (skeys L).length = L.length := by unfold skeys; simp
  obtain ⟨p1, p2, p3⟩ := sdel_parts k L h.so hin
  obtain ⟨w1, hdel, hm1, t1⟩ := h.m.del h.so k hk 0
  have hnd := h.nd
  unfold fpr at hnd
  rw [if_neg hL0] at hnd
  simp only [Value.ownBlock, Option.toList_some, List.cons_append, List.nil_append, List.nodup_cons, List.mem_cons, not_or] at hnd
  obtain ⟨⟨n1, n2, n3, n4⟩, ⟨n5, n6, n7⟩, ⟨n8, n9⟩, n10, n11⟩ := hnd
  have lb := hp_lt h.r
  have la : ba < w.heap.size := ownsRow_blk h.kb ba rfl
  have lk : bk < w.heap.size := ownsRow_blk (h.kk hL0) bk rfl
  have hr1 : w1.heap[b]? = some (.cells #[.map (some bm), .slice (some ⟨ba, 0, none⟩) 1 bc, vq] 107 (0, 0)) := (t1.block b lb (by simpa using n1)).trans h.r
  obtain ⟨cur, hc, c1, c2, c3, c4, c5⟩ := ownsRow_open (by have := h.kb; rw [if_neg hL0, if_neg hL0] at this; exact this)
  have hc1 : w1.heap[ba]? = some (.cells cur 193 (0, 0)) := (t1.block ba la (by simpa using fun e => n5 e.symm)).trans hc
  have ha1 : w1.cell? ⟨ba, 0, none⟩ = some (.slice (some ⟨bk, 0, none⟩) L.length kc) := by
    rw [hp_cell hc1]
    have : cur.toList[0]? = some (.slice (some ⟨bk, 0, none⟩) L.length kc) := by
      have e := congrArg (fun l => l[0]?) c4
      simpa using e
    simpa using this
  have kk1 : w1.ownsRow 0 9 1 (.slice (some ⟨bk, 0, none⟩) L.length kc) L.length ((skeys L).map Value.string) := ownsRow_same (h.kk hL0) fun g hg => by cases hg; exact t1.block bk lk (by simpa using fun e => n6 e.symm)
  have hkc : ∀ i (hi : i < (skeys L).length), w1.cell? ⟨bk, i, none⟩ = some (.string (skeys L)[i]) := fun i hi => by
    rw [kk1.cellAt i (by omega), List.getElem?_map, List.getElem?_eq_getElem hi]; rfl
  have HP := Lib.hid (place_some b bm ba bc bk kc (skeys L) vq k w1 (by omega) (by omega) h.so hr1 (by rw [hkl]; exact ha1) hkc)
  rw [hkl, if_neg (by omega)] at HP
  have c0 := (hp_cell (i := 0) h.r).trans rfl
  obtain ⟨j, hj⟩ : ∃ j, j = klo (skeys L) k := ⟨_, rfl⟩
  obtain ⟨n, hn⟩ : ∃ n, n = L.length := ⟨_, rfl⟩
  have hjn : j < n := by rw [hj, hn]; exact p1
  have HR1 := Lib.hid hr1
  have HC1 := Lib.hid hc1
  have HA1 := Lib.hid ha1
  have HK1 := Lib.hid kk1
  have HX := Lib.hid (And.intro lb (And.intro n2 (And.intro n3 (And.intro n8 (And.intro hj hn)))))
  have HN := Lib.hid hN
  have HKL := Lib.hid hkl
  have hfin := Lib.hid (fun (w2 w3 : World) (b2 : Below w1.heap.size w1 w2) (t3 : Touch [bk] w2 w3) (w5 : World) (cur' : Array Value) (ht5 : w5.heap[ba]? = some (.cells cur' 193 (0, 0))) (hs5 : cur'.size = cur.size) (t5 : Touch [ba] w3 w5) => drop_done1 (k := k) h hin h2 hm1 t1 b2 t3 hc ht5 hs5 t5)
  have hjI : (j : Int) < (n : Int) := by omega
  have hnI : (n : Int) ≤ 1000000 := by omega
  have hw1 : IntKind.i64.wrap ((j : Int) + 1) = (j : Int) + 1 := IntWalk.i64_in _ (by omega)
  rw [← hj] at HP
  rw [← hn] at HA1 HK1 hfin ⊢
  have HJN := Lib.hid hjn
  have hn1 : n = 1 := by rw [hn]; exact h2
  have hj0 : j = 0 := by omega
  have HCUR := Lib.hid (And.intro c1 (And.intro c2 (And.intro c3 c5)))
  subst hn1
  subst hj0
  clear hjI hnI hw1
  clear h hk hN hin h2 hL0 hkl p1 p2 p3 hm1 t1 n1 n2 n3 n4 n5 n6 n7 n8 n9 n10 n11 lb la lk hr1 hc c1 c2 c3 c4 c5 hc1 ha1 kk1 hkc hj hn
  go_enter Try.func121, Try.ntmps121
  go_upto_region 2 with (go_at_call 145; refine HP.out.mono ?_; rintro e w2 ⟨rfl, hb2⟩)
  obtain ⟨lb, n2, n3, n8, hj, hn⟩ := HX.out
  have r2 := (hb2.block b (hp_lt HR1.out)).trans HR1.out
  have rc2 := (hb2.block ba (hp_lt HC1.out)).trans HC1.out
  have c1 := (hp_cell (i := 1) r2).trans rfl
  have c2 : w2.cell? ⟨ba, 0, none⟩ = some (.slice (some ⟨bk, 0, none⟩) 1 kc) := (hb2.cell (p := ⟨ba, 0, none⟩) (hp_lt HC1.out)).trans HA1.out
  have k2 : w2.drew.ownsRow 0 9 1 (.slice (some ⟨bk, 0, none⟩) (skeys L).length kc) (skeys L).length ((skeys L).map Value.string) := by
    rw [HKL.out, ← hn]
    exact ownsRow_same HK1.out fun g hg => by cases hg; exact hb2.block bk (ownsRow_blk HK1.out bk rfl)
  have hd := del_own bk kc 0 (skeys L) w2.drew k2 (by rw [HKL.out, ← hn]; exact HJN.out)
  rw [HKL.out, ← hn] at hd
  have HD := Lib.hid (show Calls Try.prog 146 #[.slice (some ⟨bk, 0, none⟩) 1 kc, .int .i64 0, .int .i64 1] w2.drew fun e w' => e = .returned (.slice (some ⟨bk, 0, none⟩) 0 kc) ∧ Touch [bk] w2.drew w' from hd.mono fun e w' hh => ⟨hh.1, hh.2.2⟩)
  have hbk : ∀ w3 : World, Touch [bk] w2.drew w3 → w3.heap[b]? = some (.cells #[.map (some bm), .slice (some ⟨ba, 0, none⟩) 1 bc, vq] 107 (0, 0)) ∧ w3.heap[ba]? = some (.cells cur 193 (0, 0)) := fun w3 ht => ⟨(ht.block b (hp_lt r2) (by simpa using n3)).trans r2, (ht.block ba (hp_lt rc2) (by simpa using n8)).trans rc2⟩
  have hca : ∀ w3 : World, Touch [bk] w2.drew w3 → w3.cell? ⟨ba, 0, none⟩ = some (.slice (some ⟨bk, 0, none⟩) 1 kc) := fun w3 ht => by
    rw [hp_cell (hbk w3 ht).2, ← hp_cell rc2]; exact c2
  have HBK := Lib.hid hbk
  have HCA := Lib.hid hca
  have HFI := Lib.hid (fun (w3 : World) (ht : Touch [bk] w2.drew w3) => hfin.out w2 w3 hb2 ⟨ht.os, ht.tape, ht.output, ht.size, ht.block⟩)
  have g2 := hp_free (i := 0) rc2
  have HNE := Lib.hid n2
  have hcur3 : cur[0]? = some (.slice (some ⟨bk, 0, none⟩) 1 kc) := by have := hp_cell (i := 0) rc2; rw [c2] at this; exact this.symm
  have HCU := Lib.hid hcur3
  have HB0 := Lib.hid r2
  have HBA := Lib.hid rc2
  obtain ⟨cc1, cc2, cc3, _⟩ := HCUR.out
  have HDR := Lib.hid (fun (w4 : World) (cu : Array Value) (hg : w4.heap[ba]? = some (.cells cu 193 (0, 0))) (hc : cu[0]? = some (.slice (some ⟨bk, 0, none⟩) 0 kc)) => del_rows ba bc bk kc cu w4 hg hc cc1 cc2)
  clear hcur3 hd hbk hca k2 r2 rc2 hfin HP HR1 HC1 HA1 HK1 HX hb2 hj hn lb n2 n3 n8 hdel c0
  go_region_with (go_at_call 146; refine HD.out.mono ?_; rintro e w3 ⟨rfl, ht3⟩; have d1 := (hp_cell (i := 1) (HBK.out w3 ht3).1).trans rfl; have d2 := HCA.out w3 ht3; have f2 := hp_free (i := 0) (HBK.out w3 ht3).2; have HT3 := Lib.hid ht3; have e1 : ¬ b = ba := HNE.out; clear ht3)
  all_goals
    have h4 := heap_setCell_row (o := 0) (HBK.out w3 HT3.out).2 (.slice (some ⟨bk, 0, none⟩) 0 kc)
    have hc4 : (cur.setIfInBounds 0 (.slice (some ⟨bk, 0, none⟩) 0 kc))[0]? = some (.slice (some ⟨bk, 0, none⟩) 0 kc) := by
      have : 0 < cur.size := by rw [cc3]; omega
      simp [this]
    have hb4 : (w3.setCell ⟨ba, 0, none⟩ (.slice (some ⟨bk, 0, none⟩) 0 kc)).heap[b]? = _ := (Below.heap_setCell _ _ _ _ (show b ≠ ba from HNE.out)).trans (HBK.out w3 HT3.out).1
    have HDE := Lib.hid (HDR.out _ _ h4 hc4)
    have g4 := (hp_cell (i := 1) hb4).trans rfl
    have g5 := (hp_cell (i := 0) h4).trans hc4
    have HB4 := Lib.hid hb4
    clear h4 hc4 hb4
    go_wp2_with (go_at_call 147; refine HDE.out.mono ?_; rintro e w5 ⟨rfl, cur', ht5, hs5, t5⟩; have hb5 := (t5.block b (hp_lt HB4.out) (by simpa using HNE.out)).trans HB4.out; have e5 := (hp_cell (i := 1) hb5).trans rfl; have f5 := hp_free (i := 1) hb5; have HFF := Lib.hid (HFI.out w3 HT3.out w5 cur' ht5 (hs5.trans (by simp)) ((Touch.setCell w3 ⟨ba, 0, none⟩ _ (by simp)).trans (fun _ hk => .inl hk) t5)); clear ht5 hs5 t5 hb5)
    go_end0
    exact HFF.out
end Go.Proofs.Ytedkhpnlhkjjgaa

namespace Go.Proofs.Ytedkhpnlhkjjgaa
open Go.RowKit Go.Maps Go.Sort

theorem drop_live (b bm : Nat) (vb vk vq : Value) (L : SL) (q : Nat) (qs : List Value) (k : ByteArray) (w : World) (h : StM w b bm vb vk vq L q qs) (hk : k.size ≤ maxLen) (hN : L.length ≤ 1000000) (hin : (sget L k).isSome = true) :
    Calls Try.prog 121 #[.pointer (some ⟨b, 0, none⟩), .string k] w (PutPost b bm vb vk vq L (sdel L k) q qs w) := by
  have h1 := length_sdel h.so hin
  by_cases h2 : 2 ≤ L.length
  · exact drop_some b bm vb vk vq L q qs k w h hk hN hin h2
  · exact drop_one b bm vb vk vq L q qs k w h hk hin (by omega)
set_option maxRecDepth 100000 in
set_option maxHeartbeats 4000000 in
theorem del_live (b bm : Nat) (vb vk vq : Value) (L : SL) (q : Nat) (qs : List Value) (k old : ByteArray) (w : World) (h : StM w b bm vb vk vq L q qs) (hk : k.size ≤ maxLen) (hN : L.length ≤ 1000000) (hq : q < 1000000) (hin : sget L k = some old) :
    Calls Try.prog 76 #[.pointer (some ⟨b, 0, none⟩), .string k] w fun e w' => e = .returned (.bool true) ∧ ∃ F', StP w' b F' (sdel L k) (q + 1) (qs ++ chg k true old) ∧ Touch (fpr b bm vb vk vq L) w w' ∧ ∀ k ∈ F', k ∈ fpr b bm vb vk vq L ∨ w.heap.size ≤ k := by
  have hl := h.m.look k hk
  rw [hin] at hl
  replace hl : (Instr.lookup 103 (.map (some bm)) (.string k) true).run Try.prog w = .ok (.tuple #[.agg #[.string old], .bool true]) w := hl
  have c0 := (hp_cell (i := 0) h.r).trans rfl
  have lb := hp_lt h.r
  have HM := Lib.hid (made_live b _ L q qs w ⟨bm, vb, vk, vq, rfl, h⟩)
  obtain ⟨W, hW⟩ : ∃ W, W = w.alloc (.cells #[.string old] 148) := ⟨_, rfl⟩
  have hbW : Below w.heap.size w W := by rw [hW]; exact (Below.refl w.heap.size w).alloc (Nat.le_refl _) _
  have hSW := h.below hbW
  have hr7 : W.heap[w.heap.size]? = some (.cells #[.string old] 148 (0, 0)) := by rw [hW]; exact heap_alloc_new _ _
  obtain ⟨i0, hi, hz0, hz1, hz2⟩ := info_parts infoChange
  have Hh := Lib.hid (And.intro hq (And.intro hbW hSW))
  have HW := Lib.hid hW
  have d2 := (hp_cell (i := 2) hSW.r).trans rfl
  have d7 := (hp_cell (i := 0) hr7).trans rfl
  have lbW := hp_lt hSW.r
  have lwW := hp_lt hr7
  have HO := Lib.hid (fun (o : Obj) => show (W.drew.alloc o).ownsRow 0 166 3 vq q qs from ownsRow_same hSW.kq fun g hg => heap_alloc_old W.drew o (ownsRow_blk hSW.kq g hg))
  have HP := Lib.hid (fun (w' : World) (bm : Nat) (vb vk vq : Value) (q : Nat) (qs : List Value) (h' : StM w' b bm vb vk vq L q qs) => drop_live b bm vb vk vq L q qs k w' h' hk hN (by rw [hin]; rfl))
  clear h hk hN hq hin hW hbW hSW hr7
  go_enter Try.func76, Try.ntmps76
  go_upto_region 5 with (go_at_call 27; refine HM.out.mono ?_; rintro e w1 ⟨rfl, rfl⟩)
  rw [← HW.out]
  go_region_law (refine step_append_lies _ rfl (.tmp 24) (.tmp 29) 105 rfl 0 166 i0 _ 3 40 Try.underlying105 hi hz0 hz1 hz2 rfl (by decide) vq q qs (by simp [Act.eval]) (HO.out _) ⟨W.heap.size, 0, none⟩ 1 1 (chg k true old) (by simp [Act.eval]) rfl (chg_news W k old true) chg_one (by decide) (by have := Hh.out.1; unfold maxLen; omega) (by have := Hh.out.1; omega) (Nat.zero_le _) _ rfl ?_; intro g cap w5 hown hgrow hat hlt; have hr5 := chg_r Hh.out.2.2 hgrow; have e2 := (hp_cell (i := 2) hr5).trans rfl; have f2 := hp_free (i := 2) hr5; have HC := Lib.hid (chg_done Hh.out.2.2 hown hgrow (by simpa using hat)); clear hown hgrow hat hlt hr5)
  all_goals go_wp2_with (go_at_call 121; refine (HP.out _ bm vb vk _ (q + 1) _ HC.out.1).mono ?_; rintro e w6 ⟨rfl, vb', vk', hM, ht, hF⟩; have HM6 := Lib.hid (set_done Hh.out.2.1 HC.out.2.1 HC.out.2.2 hM ht hF); clear hM ht hF)
  all_goals go_ret
  all_goals exact ⟨rfl, HM6.out.2⟩
/-- Delete of any key -/
theorem SNew.del {w W : World} {b : Nat} {F : List Nat} {L : SL} {q : Nat} {qs : List Value} (h : SNew w W b F L q qs) (k : ByteArray) (hk : k.size ≤ maxLen) (hN : L.length ≤ 1000000) (hq : q < 1000000) :
    Calls Try.prog 76 #[.pointer (some ⟨b, 0, none⟩), .string k] W fun e W' => e = .returned (.bool (sget L k).isSome) ∧ LiveTo w W W' b F (sdel L k) (q + 1) := by
  cases hs : sget L k with
  | none =>
    have e0 : sdel L k = L := by
      unfold sdel
      rw [List.filter_eq_self]
      intro p hp
      simp [sget_none (by rw [hs]; rfl) p hp]
    rw [e0]
    refine (h.del_none k hk hs).mono ?_
    rintro e W' ⟨he, F', q', qs', h1, h2, h3⟩
    exact ⟨he, F', q', qs', h1, by omega, h3⟩
  | some old =>
    obtain ⟨bm, vb, vk, vq, hF, hM⟩ := h.s
    refine (_root_.Go.Proofs.Ytedkhpnlhkjjgaa.del_live b bm vb vk vq L q qs k old W hM hk hN hq hs).mono ?_
    rintro e W' ⟨he, F', h1, ht, hf⟩
    rw [← hF] at ht hf
    exact ⟨he, F', _, _, h.set h1 ht hf, Nat.le_refl _, ht, hf⟩
end Go.Proofs.Ytedkhpnlhkjjgaa

namespace Go.Proofs.Ytedkhpnlhkjjgaa
open Go.RowKit Go.Maps

/-- what put leaves: an empty value is not there -/
def putV (L : SL) (k v : ByteArray) : SL := if v = ⟨#[]⟩ then sdel L k else setL L k v
set_option maxRecDepth 100000 in
set_option maxHeartbeats 1000000 in
theorem cput_del {w W : World} {b : Nat} {F : List Nat} {L : SL} {q : Nat} {qs : List Value} (h : SNew w W b F L q qs) (k : ByteArray) (hk : k.size ≤ maxLen) (hN : L.length ≤ 1000000) (hq : q < 1000000) :
    Calls Try.prog 119 #[.pointer (some ⟨b, 0, none⟩), .string k, .string ⟨#[]⟩] W fun e W' => e = .returned (.tuple #[]) ∧ LiveTo w W W' b F (sdel L k) (q + 1) := by
  have HS := Lib.hid (h.del k hk hN hq)
  clear h hk hN hq
  go_enter Try.func119, Try.ntmps119
  go_wp2_with (go_at_call 76; refine HS.out.mono ?_; rintro e w1 ⟨rfl, h1⟩; have H1 := Lib.hid h1; clear h1)
  refine bodyPost_ret (v := .tuple #[]) (by simp [results, Try.results119, go_sem]) rfl ⟨rfl, H1.out⟩
theorem cput_any {w W : World} {b : Nat} {F : List Nat} {L : SL} {q : Nat} {qs : List Value} (h : SNew w W b F L q qs) (k v : ByteArray) (hk : k.size ≤ maxLen) (hv : v.size ≤ maxLen) (hk0 : k ≠ ⟨#[]⟩) (hN : L.length < 128) (hq : q < 1000000) :
    Calls Try.prog 119 #[.pointer (some ⟨b, 0, none⟩), .string k, .string v] W fun e W' => e = .returned (.tuple #[]) ∧ LiveTo w W W' b F (putV L k v) (q + 1) := by
  unfold putV
  by_cases hv0 : v = ⟨#[]⟩
  · rw [if_pos hv0, hv0]
    exact cput_del h k hk (by omega) hq
  · rw [if_neg hv0]
    exact cput_set h k v hk hv hk0 hv0 hN hq
set_option maxRecDepth 100000 in
set_option maxHeartbeats 1000000 in
theorem csetInt_del {w W : World} {b : Nat} {F : List Nat} {L : SL} {q : Nat} {qs : List Value} (h : SNew w W b F L q qs) (k : ByteArray) (n : Int) (hk : k.size ≤ maxLen) (h1 : n < 1) (hN : L.length ≤ 1000000) (hq : q < 1000000) :
    Calls Try.prog 82 #[.pointer (some ⟨b, 0, none⟩), .string k, .int .i64 n] W fun e W' => e = .returned (.tuple #[]) ∧ LiveTo w W W' b F (sdel L k) (q + 1) := by
  have HS := Lib.hid (cput_del h k hk hN hq)
  clear h hk hN hq
  go_enter Try.func82, Try.ntmps82
  go_wp2_with (go_at_call 119; refine HS.out.mono ?_; rintro e w2 ⟨rfl, h1⟩; have H1 := Lib.hid h1; clear h1)
  refine bodyPost_ret (v := .tuple #[]) (by simp [results, Try.results82, go_sem]) rfl ⟨rfl, H1.out⟩
theorem csetInt_any {w W : World} {b : Nat} {F : List Nat} {L : SL} {q : Nat} {qs : List Value} (h : SNew w W b F L q qs) (k : ByteArray) (n : Int) (hk : k.size ≤ maxLen) (hk0 : k ≠ ⟨#[]⟩) (h2 : n < 2 ^ 63) (hN : L.length < 128) (hq : q < 1000000) :
    Calls Try.prog 82 #[.pointer (some ⟨b, 0, none⟩), .string k, .int .i64 n] W fun e W' => e = .returned (.tuple #[]) ∧ LiveTo w W W' b F (if n < 1 then sdel L k else setL L k (numStr n)) (q + 1) := by
  by_cases h1 : n < 1
  · rw [if_pos h1]
    exact csetInt_del h k n hk h1 (by omega) hq
  · rw [if_neg h1]
    exact csetInt_set h k n hk hk0 (by omega) h2 hN hq
end Go.Proofs.Ytedkhpnlhkjjgaa
