/- The store: place, walked. -/
import Derived.Test.YtedkhpnlhkjjgaaT2
import Derived.Test.YtedkhpnlhkjjgaaShelf
import Derived.Deep.DeepCutAuto
import Derived.Deep.CutBlock
import Derived.Deep.RegionHeld3
import Derived.Lib.QuietBelow
namespace Go.Proofs.Ytedkhpnlhkjjgaa
open Go.RowKit Go.Maps Go.Sort

theorem ownsRow_cell {w : World} {base : Nat} {e : TypeId} {size : Nat} {v : Value} {n : Nat} {xs : List Value} (h : w.ownsRow base e size v n xs) {g cap : Nat} (hv : v = .slice (some ⟨g, 0, none⟩) n cap) {j : Nat} {u : Value} (hj : xs[j]? = some u) : w.cell? ⟨g, j, none⟩ = some u := by
  obtain ⟨h1, h2⟩ := h
  rcases h2 with ⟨rfl, h0⟩ | ⟨g', cap', cur, rfl, hb, hg, hn, hc, hs, ht⟩
  · cases hv
  · cases hv
    have hjl : j < xs.length := (List.getElem?_eq_some_iff.1 hj).1
    rw [← ht, List.getElem?_take_of_lt (by omega)] at hj
    rw [hp_cell hg, ← hj]
    simp
theorem ownsRow_form {w : World} {base : Nat} {e : TypeId} {size : Nat} {v : Value} {n : Nat} {xs : List Value} (h : w.ownsRow base e size v n xs) (hn : 0 < n) : ∃ g cap, v = .slice (some ⟨g, 0, none⟩) n cap ∧ g < w.heap.size := by
  obtain ⟨g, cap, h1, _, h2⟩ := h.form hn
  exact ⟨g, cap, h1, h2⟩
set_option maxRecDepth 100000 in
set_option maxHeartbeats 1000000 in
theorem place1_walk (W : World) (B2 B3 b ba bc bk n kc : Nat) (x y : ByteArray) (hn : 0 < n) (h63 : n ≤ 4611686018427387904)
    (c2 : W.cell? ⟨B2, 0, none⟩ = some (.pointer (some ⟨b, 0, none⟩))) (c3 : W.cell? ⟨B3, 0, none⟩ = some (.string x)) (c1 : W.cell? ⟨b, 1, none⟩ = some (.slice (some ⟨ba, 0, none⟩) 1 bc)) (ca : W.cell? ⟨ba, 0, none⟩ = some (.slice (some ⟨bk, 0, none⟩) n kc)) (ck : W.cell? ⟨bk, n - 1, none⟩ = some (.string y)) :
    Calls Try.prog 156 (#[.int .i64 0] ++ #[.pointer (some ⟨B2, 0, none⟩), .pointer (some ⟨B3, 0, none⟩)]) W fun e w' => e = .returned (.bool (!decide (y.data.toList < x.data.toList))) ∧ ∃ q, w' = W.drewN q := by
  obtain ⟨m, rfl⟩ : ∃ m, n = m + 1 := ⟨n - 1, by omega⟩
  rw [Nat.add_sub_cancel] at ck
  go_enter Try.func156, Try.ntmps156
  go_wp2
  go_region
  all_goals go_wp2
  all_goals go_ret
  all_goals exact ⟨by rw [bytesLess_eq, Lib.toList_data, Lib.toList_data]; rfl, 1, rfl⟩
theorem last_lt {ks : List ByteArray} (hs : Rising ks) {x : ByteArray} (hn : 0 < ks.length) : ((ks[ks.length - 1]'(by omega)).data.toList < x.data.toList) ↔ klo ks x = ks.length := by
  unfold klo
  rw [List.countP_eq_length]
  constructor
  · intro h a ha
    obtain ⟨i, hi, rfl⟩ := List.mem_iff_getElem.1 ha
    rw [decide_eq_true_eq]
    by_cases e : i = ks.length - 1
    · subst e; exact h
    · have := List.pairwise_iff_getElem.1 hs i (ks.length - 1) hi (by omega) (by omega)
      exact List.lt_trans this h
  · intro h
    have := h (ks[ks.length - 1]'(by omega)) (List.getElem_mem _)
    rwa [decide_eq_true_eq] at this
theorem rising_mono {ks : List ByteArray} (hs : Rising ks) (x : ByteArray) : ∀ a b, a ≤ b → b < ks.toArray.size → (!decide (ks.toArray[a]!.data.toList < x.data.toList)) = true → (!decide (ks.toArray[b]!.data.toList < x.data.toList)) = true := by
  intro a b hab hb h
  rw [List.size_toArray] at hb
  rw [getElem!_pos ks.toArray a (by simpa using by omega), List.getElem_toArray] at h
  rw [getElem!_pos ks.toArray b (by simpa using hb), List.getElem_toArray]
  simp only [Bool.not_eq_true', decide_eq_false_iff_not] at h ⊢
  intro hlt
  by_cases e : a = b
  · subst e; exact h hlt
  · exact h (List.lt_trans (List.pairwise_iff_getElem.1 hs a b (by omega) hb (by omega)) hlt)
set_option maxRecDepth 100000 in
set_option maxHeartbeats 2000000 in
/-- where there is nothing -/
theorem place_none (b bm : Nat) (A : Option Addr) (c : Nat) (vq : Value) (x : ByteArray) (w : World) (hr : w.heap[b]? = some (.cells #[.map (some bm), .slice A 0 c, vq] 107 (0, 0))) :
    Calls Try.prog 145 #[.pointer (some ⟨b, 0, none⟩), .string x] w fun e w' => e = .returned (.tuple #[.int .i64 0, .int .i64 0]) ∧ Below w.heap.size w w' := by
  obtain ⟨W0, hW0⟩ : ∃ W0, W0 = (w.alloc (.cells #[.pointer (some ⟨b, 0, none⟩)] 25)).alloc (.cells #[.string x] 9) := ⟨_, rfl⟩
  have hb : Below w.heap.size w W0 := by rw [hW0]; exact ((Below.refl _ _).alloc (Nat.le_refl _) _).alloc (by simp) _
  have hr0 := (hb.block b (hp_lt hr)).trans hr
  have c2 : W0.heap[w.heap.size]? = some (.cells #[.pointer (some ⟨b, 0, none⟩)] 25 (0, 0)) := by rw [hW0]; exact (heap_alloc_old _ _ (by simp)).trans (heap_alloc_new _ _)
  have eg : ∀ args w, (callFunc 156 args).run Try.prog w = .ok (.enter 156 args) w := enters_of Try.func156 (by kernel_rfl) rfl
  have hS := Try.sort_Search 156 #[.pointer (some ⟨w.heap.size, 0, none⟩), .pointer (some ⟨w.heap.size + 1, 0, none⟩)] 0 (fun _ => true) W0 eg (by omega) (fun _ _ i hi => absurd hi (Nat.not_lt_zero _)) (fun _ _ _ _ h => h)
  have HS := Lib.hid hS
  have HB := Lib.hid hb
  have C2 := Lib.hid c2
  have R0 := Lib.hid hr0
  have EW := Lib.hid hW0
  have r1' := (hp_cell (i := 1) hr0).trans rfl
  have c2' := (hp_cell (i := 0) c2).trans rfl
  clear hS hb hr hr0 hW0 eg c2
  go_enter Try.func145, Try.ntmps145
  go_upto_region 1 with (fail)
  rw [← EW.out]
  clear EW
  go_wp2_with (go_at_call 155; refine HS.out.mono ?_; rintro e w1 ⟨rfl, qd, os, hw1⟩; have B1 := Lib.hid (show Below W0.heap.size W0 w1 by rw [hw1]; exact below_grown_sl _ _ _ _ (Nat.le_refl _)); have d2 := (hp_cell (i := 0) ((B1.out.block _ (hp_lt C2.out)).trans C2.out)).trans rfl; have d1 := (hp_cell (i := 1) ((B1.out.block _ (hp_lt R0.out)).trans R0.out)).trans rfl; clear hw1)
  go_ret2
  exact ⟨rfl, HB.out.trans (B1.out.mono HB.out.size)⟩
theorem klo_arr (ks : List ByteArray) (x : ByteArray) : (ks.toArray.toList.countP (fun y => !!decide (y.data.toList < x.data.toList))) = klo ks x := by
  unfold klo
  simp
theorem pl_keep {w W0 W : World} {b bm ba bc bk n kc : Nat} {vq : Value} {x : ByteArray} (h2 : W0.heap[w.heap.size]? = some (.cells #[.pointer (some ⟨b, 0, none⟩)] 25 (0, 0))) (h3 : W0.heap[w.heap.size + 1]? = some (.cells #[.string x] 9 (0, 0))) (hr : W0.heap[b]? = some (.cells #[.map (some bm), .slice (some ⟨ba, 0, none⟩) 1 bc, vq] 107 (0, 0))) (ha : W0.cell? ⟨ba, 0, none⟩ = some (.slice (some ⟨bk, 0, none⟩) n kc)) (hB : Below W0.heap.size W0 W) :
    W.cell? ⟨w.heap.size, 0, none⟩ = some (.pointer (some ⟨b, 0, none⟩)) ∧ W.cell? ⟨w.heap.size + 1, 0, none⟩ = some (.string x) ∧ W.cell? ⟨b, 1, none⟩ = some (.slice (some ⟨ba, 0, none⟩) 1 bc) ∧ W.cell? ⟨ba, 0, none⟩ = some (.slice (some ⟨bk, 0, none⟩) n kc) ∧ Below W0.heap.size W0 W :=
  ⟨(hp_cell (i := 0) ((hB.block _ (hp_lt h2)).trans h2)).trans rfl, (hp_cell (i := 0) ((hB.block _ (hp_lt h3)).trans h3)).trans rfl, (hp_cell (i := 1) ((hB.block _ (hp_lt hr)).trans hr)).trans rfl, (hB.cell (p := ⟨ba, 0, none⟩) (World.block_lt_of_cell? _ _ ha)).trans ha, hB⟩
set_option maxRecDepth 100000 in
set_option maxHeartbeats 2000000 in
/-- where there are keys: the block behind all, or the place in the one block -/
theorem place_some (b bm ba bc bk kc : Nat) (ks : List ByteArray) (vq : Value) (x : ByteArray) (w : World) (hn : 0 < ks.length) (h63 : ks.length ≤ 1000000) (hs : Rising ks) (hr : w.heap[b]? = some (.cells #[.map (some bm), .slice (some ⟨ba, 0, none⟩) 1 bc, vq] 107 (0, 0)))
    (ha : w.cell? ⟨ba, 0, none⟩ = some (.slice (some ⟨bk, 0, none⟩) ks.length kc)) (hk : ∀ i (h : i < ks.length), w.cell? ⟨bk, i, none⟩ = some (.string ks[i])) :
    Calls Try.prog 145 #[.pointer (some ⟨b, 0, none⟩), .string x] w fun e w' => e = .returned (.tuple (if klo ks x = ks.length then #[.int .i64 1, .int .i64 0] else #[.int .i64 0, .int .i64 (klo ks x : Nat)])) ∧ Below w.heap.size w w' := by
  obtain ⟨W0, hW0⟩ : ∃ W0, W0 = (w.alloc (.cells #[.pointer (some ⟨b, 0, none⟩)] 25)).alloc (.cells #[.string x] 9) := ⟨_, rfl⟩
  have hb : Below w.heap.size w W0 := by rw [hW0]; exact ((Below.refl _ _).alloc (Nat.le_refl _) _).alloc (by simp) _
  have hr0 := (hb.block b (hp_lt hr)).trans hr
  have c2 : W0.heap[w.heap.size]? = some (.cells #[.pointer (some ⟨b, 0, none⟩)] 25 (0, 0)) := by rw [hW0]; exact (heap_alloc_old _ _ (by simp)).trans (heap_alloc_new _ _)
  have c3 : W0.heap[w.heap.size + 1]? = some (.cells #[.string x] 9 (0, 0)) := by rw [hW0]; simpa using heap_alloc_new (w.alloc (.cells #[.pointer (some ⟨b, 0, none⟩)] 25)) (.cells #[.string x] 9)
  have ha0 : W0.cell? ⟨ba, 0, none⟩ = some (.slice (some ⟨bk, 0, none⟩) ks.length kc) := by rw [hb.cell (p := ⟨ba, 0, none⟩) (World.block_lt_of_cell? _ _ ha)]; exact ha
  have hk0 : ∀ i (h : i < ks.length), W0.cell? ⟨bk, i, none⟩ = some (.string ks[i]) := fun i h => by rw [hb.cell (p := ⟨bk, i, none⟩) (World.block_lt_of_cell? _ _ (hk i h))]; exact hk i h
  have hbk : bk < W0.heap.size := World.block_lt_of_cell? _ _ (hk0 0 hn)
  obtain ⟨y, hy⟩ : ∃ y, y = ks[ks.length - 1]'(by omega) := ⟨_, rfl⟩
  obtain ⟨l, hl⟩ : ∃ l, l = klo ks x := ⟨_, rfl⟩
  have hll : y.data.toList < x.data.toList ↔ l = ks.length := by rw [hy, hl]; exact last_lt hs hn
  have eg : ∀ args w, (callFunc 156 args).run Try.prog w = .ok (.enter 156 args) w := enters_of Try.func156 (by kernel_rfl) rfl
  have hS := Try.sort_Search 156 #[.pointer (some ⟨w.heap.size, 0, none⟩), .pointer (some ⟨w.heap.size + 1, 0, none⟩)] 1 (fun _ => !decide (y.data.toList < x.data.toList)) W0 eg (by omega)
    (fun m os i hi => by
      obtain rfl : i = 0 := by omega
      have hB := below_grown_sl W0.heap.size W0 m os (Nat.le_refl _)
      have hc : ∀ (p : Addr) (v : Value), W0.cell? p = some v → (grow (W0.drewN m) os).cell? p = some v := fun p v hp => by rw [hB.cell (World.block_lt_of_cell? _ _ hp)]; exact hp
      refine (place1_walk (grow (W0.drewN m) os) w.heap.size (w.heap.size + 1) b ba bc bk ks.length kc x y hn (by omega) (hc _ _ ((hp_cell (i := 0) c2).trans rfl)) (hc _ _ ((hp_cell (i := 0) c3).trans rfl)) (hc _ _ ((hp_cell (i := 1) hr0).trans rfl)) (hc _ _ ha0) (hc _ _ (by rw [hk0 _ (by omega), hy]))).mono ?_
      rintro e w' ⟨he, q, hq⟩
      exact ⟨he, q, #[], by rw [hq, grow_empty]⟩) (fun _ _ _ _ h => h)
  have hcnt : ((List.range 1).countP (fun i => !(fun _ : Nat => !decide (y.data.toList < x.data.toList)) i) : Nat) = if l = ks.length then 1 else 0 := by
    by_cases h : l = ks.length
    · rw [if_pos h, decide_eq_true (hll.2 h)]; rfl
    · rw [if_neg h, decide_eq_false (fun hh => h (hll.1 hh))]; rfl
  rw [hcnt] at hS
  have HS := Lib.hid hS
  have HSS := Lib.hid (fun W (hB : Below W0.heap.size W0 W) => by
    have h := Try.sort_SearchStrings bk 0 kc ks.toArray x W (fun i hi => by
      rw [List.size_toArray] at hi
      rw [Nat.zero_add, hB.cell (p := ⟨bk, i, none⟩) hbk, hk0 i hi, getElem!_pos ks.toArray i (by simpa using hi), List.getElem_toArray]) (Nat.lt_of_lt_of_le hbk hB.size) (by rw [List.size_toArray]; omega) (rising_mono hs x)
    rw [klo_arr, ← hl, List.size_toArray] at h
    exact h)
  rw [← hl]
  have HB := Lib.hid hb
  have C2 := Lib.hid c2
  have C3 := Lib.hid c3
  have R0 := Lib.hid hr0
  have A0 := Lib.hid ha0
  have EW := Lib.hid hW0
  have r1' := (hp_cell (i := 1) hr0).trans rfl
  have c2' := (hp_cell (i := 0) c2).trans rfl
  obtain ⟨n, hnn⟩ : ∃ n, n = ks.length := ⟨_, rfl⟩
  rw [← hnn] at HS HSS A0 ⊢
  clear hS hb hr hr0 hW0 eg c2 c3 ha hk ha0 hk0 hbk hy hl hll hcnt hs hn h63 hnn
  by_cases hln : l = n
  · rw [if_pos hln] at HS ⊢
    clear hln HSS
    go_enter Try.func145, Try.ntmps145
    go_upto_region 1 with (fail)
    rw [← EW.out]
    clear EW
    go_wp2_with (go_at_call 155; refine HS.out.mono ?_; rintro e w1 ⟨rfl, qd, os, hw1⟩; have B1 := Lib.hid (show Below W0.heap.size W0 w1 by rw [hw1]; exact below_grown_sl _ _ _ _ (Nat.le_refl _)); have d2 := (hp_cell (i := 0) ((B1.out.block _ (hp_lt C2.out)).trans C2.out)).trans rfl; have d1 := (hp_cell (i := 1) ((B1.out.block _ (hp_lt R0.out)).trans R0.out)).trans rfl; clear hw1)
    go_ret2
    exact ⟨rfl, HB.out.trans (B1.out.mono HB.out.size)⟩
  · rw [if_neg hln] at HS ⊢
    clear hln
    go_enter Try.func145, Try.ntmps145
    go_upto_region 1 with (fail)
    rw [← EW.out]
    clear EW
    go_upto_region 4 with (go_at_call 155; refine HS.out.mono ?_; rintro e w1 ⟨rfl, qd, os, hw1⟩; have B1 := Lib.hid (show Below W0.heap.size W0 w1 by rw [hw1]; exact below_grown_sl _ _ _ _ (Nat.le_refl _)); have d2 := (hp_cell (i := 0) ((B1.out.block _ (hp_lt C2.out)).trans C2.out)).trans rfl; have d3 := (hp_cell (i := 0) ((B1.out.block _ (hp_lt C3.out)).trans C3.out)).trans rfl; have d1 := (hp_cell (i := 1) ((B1.out.block _ (hp_lt R0.out)).trans R0.out)).trans rfl; have d0 := (B1.out.cell (p := ⟨ba, 0, none⟩) (World.block_lt_of_cell? _ _ A0.out)).trans A0.out; clear hw1)
    go_region_held3 (fun w' => w'.cell? ⟨w.heap.size, 0, none⟩ = some (.pointer (some ⟨b, 0, none⟩)) ∧ w'.cell? ⟨w.heap.size + 1, 0, none⟩ = some (.string x) ∧ w'.cell? ⟨b, 1, none⟩ = some (.slice (some ⟨ba, 0, none⟩) 1 bc) ∧ w'.cell? ⟨ba, 0, none⟩ = some (.slice (some ⟨bk, 0, none⟩) n kc) ∧ Below W0.heap.size W0 w')
      ((first | exact ⟨d2, d3, d1, d0, B1.out⟩ | exact ⟨d2, d3, d1, d0, B1.out.drew⟩ | exact pl_keep C2.out C3.out R0.out A0.out B2.out))
      ((go_at_call 157; refine (HSS.out _ B1.out.drew).mono ?_; rintro e w2 ⟨rfl, hb2⟩; have B2 := Lib.hid (B1.out.drew.trans (hb2.mono B1.out.drew.size)); clear hb2))
    all_goals go_wp2
    all_goals go_ret2
    all_goals exact ⟨rfl, HB.out.trans (B2.out.mono HB.out.size)⟩
end Go.Proofs.Ytedkhpnlhkjjgaa
