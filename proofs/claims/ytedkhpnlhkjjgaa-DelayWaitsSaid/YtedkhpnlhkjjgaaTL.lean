/- The store: drop of a key where others stay, and Delete of it, walked. -/
import Derived.Test.YtedkhpnlhkjjgaaTK
import Derived.Test.YtedkhpnlhkjjgaaTA
import Derived.Deep.RegionWith
namespace Go.Proofs.Ytedkhpnlhkjjgaa
open Go.RowKit Go.Maps Go.Sort

set_option maxRecDepth 100000 in
set_option maxHeartbeats 4000000 in
theorem drop_some (b bm : Nat) (vb vk vq : Value) (L : SL) (q : Nat) (qs : List Value) (k : ByteArray) (w : World) (h : StM w b bm vb vk vq L q qs) (hk : k.size ≤ maxLen) (hN : L.length ≤ 1000000) (hin : (sget L k).isSome = true) (h2 : 2 ≤ L.length) :
    Calls Try.prog 121 #[.pointer (some ⟨b, 0, none⟩), .string k] w (PutPost b bm vb vk vq L (sdel L k) q qs w) := by
  have hL0 : L ≠ [] := fun e => by rw [e] at h2; simp at h2
  obtain ⟨ba, bc, rfl⟩ : ∃ ba bc, vb = .slice (some ⟨ba, 0, none⟩) 1 bc := by
    have := h.kb.2
    rw [if_neg hL0] at this
    rcases this with ⟨_, h0⟩ | ⟨g, cap, cur, hv, _⟩
    · cases h0
    · exact ⟨g, cap, hv⟩
  obtain ⟨bk, kc, rfl⟩ : ∃ bk kc, vk = .slice (some ⟨bk, 0, none⟩) L.length kc := by
    rcases (h.kk hL0).2 with ⟨_, h0⟩ | ⟨g, cap, cur, hv, _⟩
    · rw [h0] at h2; omega
    · exact ⟨g, cap, hv⟩
  have hkl : (skeys L).length = L.length := by unfold skeys; simp
  obtain ⟨p1, p2, p3⟩ := sdel_parts k L h.so hin
  obtain ⟨w1, hdel, hm1, t1⟩ := h.m.del h.so k hk 0
  have hnd := h.nd
  unfold fpr at hnd
  rw [if_neg hL0] at hnd
  simp only [Value.ownBlock, Option.toList_some, List.cons_append, List.nil_append, List.nodup_cons, List.mem_cons, not_or] at hnd
  obtain ⟨⟨n1, n2, n3, n4⟩, ⟨n5, n6, n7⟩, ⟨n8, n9⟩, n10, n11⟩ := hnd
  have lb := hp_lt h.r
  have la : ba < w.heap.size := ownsRow_blk h.kb ba rfl
  have lk : bk < w.heap.size := ownsRow_blk (h.kk hL0) bk rfl
  have hr1 : w1.heap[b]? = some (.cells #[.map (some bm), .slice (some ⟨ba, 0, none⟩) 1 bc, vq] 107 (0, 0)) := (t1.block b lb (by simpa using n1)).trans h.r
  obtain ⟨cur, hc, c1, c2, c3, c4, c5⟩ := ownsRow_open (by have := h.kb; rw [if_neg hL0, if_neg hL0] at this; exact this)
  have hc1 : w1.heap[ba]? = some (.cells cur 193 (0, 0)) := (t1.block ba la (by simpa using fun e => n5 e.symm)).trans hc
  have ha1 : w1.cell? ⟨ba, 0, none⟩ = some (.slice (some ⟨bk, 0, none⟩) L.length kc) := by
    rw [hp_cell hc1]
    have : cur.toList[0]? = some (.slice (some ⟨bk, 0, none⟩) L.length kc) := by
      have e := congrArg (fun l => l[0]?) c4
      simpa using e
    simpa using this
  have kk1 : w1.ownsRow 0 9 1 (.slice (some ⟨bk, 0, none⟩) L.length kc) L.length ((skeys L).map Value.string) := ownsRow_same (h.kk hL0) fun g hg => by cases hg; exact t1.block bk lk (by simpa using fun e => n6 e.symm)
  have hkc : ∀ i (hi : i < (skeys L).length), w1.cell? ⟨bk, i, none⟩ = some (.string (skeys L)[i]) := fun i hi => by
    rw [kk1.cellAt i (by omega), List.getElem?_map, List.getElem?_eq_getElem hi]; rfl
  have HP := Lib.hid (place_some b bm ba bc bk kc (skeys L) vq k w1 (by omega) (by omega) h.so hr1 (by rw [hkl]; exact ha1) hkc)
  rw [hkl, if_neg (by omega)] at HP
  have c0 := (hp_cell (i := 0) h.r).trans rfl
  obtain ⟨j, hj⟩ : ∃ j, j = klo (skeys L) k := ⟨_, rfl⟩
  obtain ⟨n, hn⟩ : ∃ n, n = L.length := ⟨_, rfl⟩
  have hjn : j < n := by rw [hj, hn]; exact p1
  have HR1 := Lib.hid hr1
  have HC1 := Lib.hid hc1
  have HA1 := Lib.hid ha1
  have HK1 := Lib.hid kk1
  have HX := Lib.hid (And.intro lb (And.intro n2 (And.intro n3 (And.intro n8 (And.intro hj hn)))))
  have HN := Lib.hid hN
  have HKL := Lib.hid hkl
  have hfin := Lib.hid (fun (w2 w3 : World) (b2 : Below w1.heap.size w1 w2) (t3 : Touch [bk] w2 w3) (hown : w3.ownsRow 0 9 1 (.slice (some ⟨bk, 0, none⟩) (L.length - 1) kc) (L.length - 1) (((skeys L).take (klo (skeys L) k) ++ (skeys L).drop (klo (skeys L) k + 1)).map Value.string)) => drop_done (k := k) h hin h2 hm1 t1 b2 t3 hown)
  have hjI : (j : Int) < (n : Int) := by omega
  have hnI : (n : Int) ≤ 1000000 := by omega
  have hw1 : IntKind.i64.wrap ((j : Int) + 1) = (j : Int) + 1 := IntWalk.i64_in _ (by omega)
  have hn2 : ¬ (n : Int) - 1 = 0 := by omega
  rw [← hj] at HP hfin
  rw [← hn] at HA1 HK1 hfin ⊢
  have HJN := Lib.hid hjn
  clear h hk hN hin h2 hL0 hkl p1 p2 p3 hm1 t1 n1 n2 n3 n4 n5 n6 n7 n8 n9 n10 n11 lb la lk hr1 hc c1 c2 c3 c4 c5 hc1 ha1 kk1 hkc hj hn
  go_enter Try.func121, Try.ntmps121
  go_upto_region 2 with (go_at_call 145; refine HP.out.mono ?_; rintro e w2 ⟨rfl, hb2⟩)
  obtain ⟨lb, n2, n3, n8, hj, hn⟩ := HX.out
  have r2 := (hb2.block b (hp_lt HR1.out)).trans HR1.out
  have rc2 := (hb2.block ba (hp_lt HC1.out)).trans HC1.out
  have c1 := (hp_cell (i := 1) r2).trans rfl
  have c2 : w2.cell? ⟨ba, 0, none⟩ = some (.slice (some ⟨bk, 0, none⟩) n kc) := (hb2.cell (p := ⟨ba, 0, none⟩) (hp_lt HC1.out)).trans HA1.out
  have k2 : w2.drew.ownsRow 0 9 1 (.slice (some ⟨bk, 0, none⟩) (skeys L).length kc) (skeys L).length ((skeys L).map Value.string) := by
    rw [HKL.out, ← hn]
    exact ownsRow_same HK1.out fun g hg => by cases hg; exact hb2.block bk (ownsRow_blk HK1.out bk rfl)
  have hd := del_own bk kc j (skeys L) w2.drew k2 (by rw [HKL.out, ← hn]; exact HJN.out)
  rw [HKL.out, ← hn, show ((j + 1 : Nat) : Int) = (j : Int) + 1 by omega] at hd
  have HD := Lib.hid hd
  have hbk : ∀ w3 : World, Touch [bk] w2.drew w3 → w3.heap[b]? = some (.cells #[.map (some bm), .slice (some ⟨ba, 0, none⟩) 1 bc, vq] 107 (0, 0)) ∧ w3.heap[ba]? = some (.cells cur 193 (0, 0)) := fun w3 ht => ⟨(ht.block b (hp_lt r2) (by simpa using n3)).trans r2, (ht.block ba (hp_lt rc2) (by simpa using n8)).trans rc2⟩
  have hca : ∀ w3 : World, Touch [bk] w2.drew w3 → w3.cell? ⟨ba, 0, none⟩ = some (.slice (some ⟨bk, 0, none⟩) n kc) := fun w3 ht => by
    rw [hp_cell (hbk w3 ht).2, ← hp_cell rc2]; exact c2
  have HBK := Lib.hid hbk
  have HCA := Lib.hid hca
  have HFI := Lib.hid (fun (w3 : World) (ht : Touch [bk] w2.drew w3) => hfin.out w2 w3 hb2 ⟨ht.os, ht.tape, ht.output, ht.size, ht.block⟩)
  have g2 := hp_free (i := 0) rc2
  have HNE := Lib.hid n2
  clear hd hbk hca k2 r2 rc2 hfin HP HR1 HC1 HA1 HK1 HX hb2 hj hn lb n2 n3 n8 hdel c0
  go_region_with (go_at_call 146; refine HD.out.mono ?_; rintro e w3 ⟨rfl, hown3, ht3⟩; have d1 := (hp_cell (i := 1) (HBK.out w3 ht3).1).trans rfl; have d2 := HCA.out w3 ht3; have f2 := hp_free (i := 0) (HBK.out w3 ht3).2; have d3 := Lib.hid (HFI.out w3 ht3 hown3); have e1 : ¬ b = ba := HNE.out)
  all_goals
    go_wp2
    go_end0
    exact d3.out
end Go.Proofs.Ytedkhpnlhkjjgaa
