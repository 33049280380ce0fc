/- The store: place, walked. -/
import Derived.Test.YthloohoefjmmoaaG04
import Derived.Deep.DeepCutAuto
import Derived.Deep.CutBlock
import Derived.Deep.RegionHeld3
import Derived.Lib.QuietBelow
import Derived.Lib.AppendZerosOnto
import Derived.Laws.NewBlocks
namespace Go.Proofs.Ythloohoefjmmoaa
open Go.RowKit Go.Maps Go.Sort

theorem ownsRow_cell {w : World} {base : Nat} {e : TypeId} {size : Nat} {v : Value} {n : Nat} {xs : List Value} (h : w.ownsRow base e size v n xs) {g cap : Nat} (hv : v = .slice (some ⟨g, 0, none⟩) n cap) {j : Nat} {u : Value} (hj : xs[j]? = some u) : w.cell? ⟨g, j, none⟩ = some u := by
  obtain ⟨h1, h2⟩ := h
  rcases h2 with ⟨rfl, h0⟩ | ⟨g', cap', cur, rfl, hb, hg, hn, hc, hs, ht⟩
  · cases hv
  · cases hv
    have hjl : j < xs.length := (List.getElem?_eq_some_iff.1 hj).1
    rw [← ht, List.getElem?_take_of_lt (by omega)] at hj
    rw [hp_cell hg, ← hj]
    simp
theorem ownsRow_form {w : World} {base : Nat} {e : TypeId} {size : Nat} {v : Value} {n : Nat} {xs : List Value} (h : w.ownsRow base e size v n xs) (hn : 0 < n) : ∃ g cap, v = .slice (some ⟨g, 0, none⟩) n cap ∧ g < w.heap.size := by
  obtain ⟨g, cap, h1, _, h2⟩ := h.form hn
  exact ⟨g, cap, h1, h2⟩
theorem last_lt {ks : List ByteArray} (hs : Rising ks) {x : ByteArray} (hn : 0 < ks.length) : ((ks[ks.length - 1]'(by omega)).data.toList < x.data.toList) ↔ klo ks x = ks.length := by
  unfold klo
  rw [List.countP_eq_length]
  constructor
  · intro h a ha
    obtain ⟨i, hi, rfl⟩ := List.mem_iff_getElem.1 ha
    rw [decide_eq_true_eq]
    by_cases e : i = ks.length - 1
    · subst e; exact h
    · have := List.pairwise_iff_getElem.1 hs i (ks.length - 1) hi (by omega) (by omega)
      exact List.lt_trans this h
  · intro h
    have := h (ks[ks.length - 1]'(by omega)) (List.getElem_mem _)
    rwa [decide_eq_true_eq] at this
theorem rising_mono {ks : List ByteArray} (hs : Rising ks) (x : ByteArray) : ∀ a b, a ≤ b → b < ks.toArray.size → (!decide (ks.toArray[a]!.data.toList < x.data.toList)) = true → (!decide (ks.toArray[b]!.data.toList < x.data.toList)) = true := by
  intro a b hab hb h
  rw [List.size_toArray] at hb
  rw [getElem!_pos ks.toArray a (by simpa using by omega), List.getElem_toArray] at h
  rw [getElem!_pos ks.toArray b (by simpa using hb), List.getElem_toArray]
  simp only [Bool.not_eq_true', decide_eq_false_iff_not] at h ⊢
  intro hlt
  by_cases e : a = b
  · subst e; exact h hlt
  · exact h (List.lt_trans (List.pairwise_iff_getElem.1 hs a b (by omega) hb (by omega)) hlt)
set_option maxRecDepth 100000 in
set_option maxHeartbeats 2000000 in
/-- where there is nothing -/
theorem place_none (b bm : Nat) (A : Option Addr) (c : Nat) (vq : Value) (x : ByteArray) (w : World) (hr : w.heap[b]? = some (.cells #[.map (some bm), .slice A 0 c, vq] 55 (0, 0))) :
    Calls Try.prog 43 #[.pointer (some ⟨b, 0, none⟩), .string x] w fun e w' => e = .returned (.tuple #[.int .i64 0, .int .i64 0]) ∧ Below w.heap.size w w' := by
  obtain ⟨W0, hW0⟩ : ∃ W0, W0 = (w.alloc (.cells #[.pointer (some ⟨b, 0, none⟩)] 24)).alloc (.cells #[.string x] 9) := ⟨_, rfl⟩
  have hb : Below w.heap.size w W0 := by rw [hW0]; exact ((Below.refl _ _).alloc (Nat.le_refl _) _).alloc (by simp) _
  have hr0 := (hb.block b (hp_lt hr)).trans hr
  have c2 : W0.heap[w.heap.size]? = some (.cells #[.pointer (some ⟨b, 0, none⟩)] 24 (0, 0)) := by rw [hW0]; exact (heap_alloc_old _ _ (by simp)).trans (heap_alloc_new _ _)
  have eg : ∀ args w, (callFunc 56 args).run Try.prog w = .ok (.enter 56 args) w := enters_of Try.func56 (by kernel_rfl) rfl
  have hS := Try.sort_Search 56 #[.pointer (some ⟨w.heap.size, 0, none⟩), .pointer (some ⟨w.heap.size + 1, 0, none⟩)] 0 (fun _ => true) W0 eg (by omega) (fun _ _ i hi => absurd hi (Nat.not_lt_zero _)) (fun _ _ _ _ h => h)
  have HS := Lib.hid hS
  have HB := Lib.hid hb
  have C2 := Lib.hid c2
  have R0 := Lib.hid hr0
  have EW := Lib.hid hW0
  have r1' := (hp_cell (i := 1) hr0).trans rfl
  have c2' := (hp_cell (i := 0) c2).trans rfl
  clear hS hb hr hr0 hW0 eg c2
  go_enter Try.func43, Try.ntmps43
  go_upto_region 1 with (fail)
  rw [← EW.out]
  clear EW
  go_wp2_with (go_at_call 55; refine HS.out.mono ?_; rintro e w1 ⟨rfl, qd, os, hw1⟩; have B1 := Lib.hid (show Below W0.heap.size W0 w1 by rw [hw1]; exact below_grown_sl _ _ _ _ (Nat.le_refl _)); have d2 := (hp_cell (i := 0) ((B1.out.block _ (hp_lt C2.out)).trans C2.out)).trans rfl; have d1 := (hp_cell (i := 1) ((B1.out.block _ (hp_lt R0.out)).trans R0.out)).trans rfl; clear hw1)
  go_ret2
  exact ⟨rfl, HB.out.trans (B1.out.mono HB.out.size)⟩
theorem klo_arr (ks : List ByteArray) (x : ByteArray) : (ks.toArray.toList.countP (fun y => !!decide (y.data.toList < x.data.toList))) = klo ks x := by
  unfold klo
  simp
theorem klo_app (a c : List ByteArray) (x : ByteArray) : klo (a ++ c) x = klo a x + klo c x := by unfold klo; exact List.countP_append
theorem flat_app (P S : List Seg) : flat (P ++ S) = flat P ++ flat S := by unfold flat; exact List.flatMap_append
theorem flat_cons (s : Seg) (S : List Seg) : flat (s :: S) = s.ks ++ flat S := by unfold flat; exact List.flatMap_cons
def Seg.last (s : Seg) : ByteArray := s.ks.getD (s.ks.length - 1) ⟨#[]⟩
theorem Seg.last_is {s : Seg} (h : 0 < s.ks.length) : s.last = s.ks[s.ks.length - 1]'(by omega) := by unfold Seg.last; rw [List.getD_eq_getElem?_getD, List.getElem?_eq_getElem (by omega)]; rfl
/-- how many blocks end below x -/
def gN (G : List Seg) (x : ByteArray) : Nat := G.countP (fun s => decide (s.last.data.toList < x.data.toList))
theorem klo_zero {ks : List ByteArray} {x : ByteArray} (h : ∀ y ∈ ks, ¬ y.data.toList < x.data.toList) : klo ks x = 0 := by
  unfold klo; rw [List.countP_eq_zero]; intro y hy hd; exact h y hy (of_decide_eq_true hd)
/-- the place of a key: its block, and where in it -/
theorem plc_parts (x : ByteArray) : ∀ G : List Seg, Rising (flat G) → (∀ s ∈ G, 0 < s.ks.length) → (gN G x = G.length ∧ klo (flat G) x = (flat G).length) ∨ ∃ P s S, G = P ++ s :: S ∧ gN G x = P.length ∧ klo (flat G) x = (flat P).length + klo s.ks x ∧ klo s.ks x < s.ks.length
  | [], _, _ => .inl ⟨rfl, rfl⟩
  | s :: r, hr, hn => by
    rw [flat_cons] at hr
    obtain ⟨h1, h2, h3⟩ := List.pairwise_append.1 hr
    have hs := hn s (by simp)
    have hll := last_lt (x := x) h1 hs
    rw [← Seg.last_is hs] at hll
    by_cases hl : s.last.data.toList < x.data.toList
    · have hk := hll.1 hl
      have hg : gN (s :: r) x = gN r x + 1 := by unfold gN; rw [List.countP_cons_of_pos (by simpa using hl)]
      rcases plc_parts x r h2 (fun t ht => hn t (List.mem_cons_of_mem _ ht)) with ⟨i1, i2⟩ | ⟨P, t, S, rfl, i1, i2, i3⟩
      · exact .inl ⟨by rw [hg, i1]; rfl, by rw [flat_cons, klo_app, hk, i2, List.length_append]⟩
      · exact .inr ⟨s :: P, t, S, rfl, by rw [hg, i1]; rfl, by rw [flat_cons, klo_app, hk, i2, flat_cons, List.length_append]; omega, i3⟩
    · have hk : klo s.ks x < s.ks.length := Nat.lt_of_le_of_ne (klo_le _ _) fun e => hl (hll.2 e)
      have hmem : s.last ∈ s.ks := by rw [Seg.last_is hs]; exact List.getElem_mem _
      have hz : klo (flat r) x = 0 := klo_zero fun y hy hd => hl (List.lt_trans (h3 _ hmem _ hy) hd)
      have hg : gN (s :: r) x = 0 := by
        unfold gN
        rw [List.countP_cons_of_neg (by simpa using hl), List.countP_eq_zero]
        intro t ht hd
        have ht2 := hn t (List.mem_cons_of_mem _ ht)
        refine hl (List.lt_trans (h3 _ hmem t.last ?_) (of_decide_eq_true hd))
        rw [Seg.last_is ht2]
        exact List.mem_flatMap.2 ⟨t, ht, List.getElem_mem _⟩
      exact .inr ⟨[], s, r, rfl, hg, by rw [flat_cons, klo_app, hz]; simp [flat], hk⟩
theorem gN_le (G : List Seg) (x : ByteArray) : gN G x ≤ G.length := List.countP_le_length
/-- the blocks' last keys rise -/
theorem last_mono {G : List Seg} (hr : Rising (flat G)) (hn : ∀ s ∈ G, 0 < s.ks.length) (i j : Nat) (hi : i < j) (hj : j < G.length) : (G[i]'(by omega)).last.data.toList < (G[j]).last.data.toList := by
  unfold Rising flat at hr
  have h := (List.pairwise_flatMap.1 hr).2
  have h2 := List.pairwise_iff_getElem.1 h i j (by omega) hj hi
  have h3 := hn _ (List.getElem_mem (show i < G.length by omega))
  have h4 := hn _ (List.getElem_mem hj)
  exact h2 _ (by rw [Seg.last_is h3]; exact List.getElem_mem _) _ (by rw [Seg.last_is h4]; exact List.getElem_mem _)
def noSeg : Seg := ⟨0, 0, 0, []⟩
theorem gN_range (G : List Seg) (x : ByteArray) : ((List.range G.length).countP (fun i => !(!decide ((G.getD i noSeg).last.data.toList < x.data.toList)))) = gN G x := by
  have e : G = (List.range G.length).map (fun i => G.getD i noSeg) := by
    refine List.ext_getElem (by simp) fun i h1 h2 => ?_
    simp [List.getElem?_eq_getElem h1]
  unfold gN
  conv => rhs; rw [e, List.countP_map]
  refine List.countP_congr fun i _ => ?_
  simp
/-- a key of a block, in memory -/
theorem Seg.At.cell {w : World} {s : Seg} (h : s.At w) {j : Nat} {u : ByteArray} (hj : s.ks[j]? = some u) : w.cell? ⟨s.g, s.o + j, none⟩ = some (.string u) := by
  obtain ⟨cur, h1, _, h2⟩ := h.row
  exact (hp_cell h1).trans (h2 j u hj)
set_option maxRecDepth 100000 in
set_option maxHeartbeats 1000000 in
theorem place1_walk (W : World) (B2 B3 b ba N bc i bk o n kc : Nat) (x y : ByteArray) (hn : 0 < n) (hi : i < N) (h63 : n ≤ 4611686018427387904)
    (c2 : W.cell? ⟨B2, 0, none⟩ = some (.pointer (some ⟨b, 0, none⟩))) (c3 : W.cell? ⟨B3, 0, none⟩ = some (.string x)) (c1 : W.cell? ⟨b, 1, none⟩ = some (.slice (some ⟨ba, 0, none⟩) N bc)) (ca : W.cell? ⟨ba, i, none⟩ = some (.slice (some ⟨bk, o, none⟩) n kc)) (ck : W.cell? ⟨bk, o + (n - 1), none⟩ = some (.string y)) :
    Calls Try.prog 56 (#[.int .i64 (i : Nat)] ++ #[.pointer (some ⟨B2, 0, none⟩), .pointer (some ⟨B3, 0, none⟩)]) W fun e w' => e = .returned (.bool (!decide (y.data.toList < x.data.toList))) ∧ ∃ q, w' = W.drewN q := by
  obtain ⟨m, rfl⟩ : ∃ m, n = m + 1 := ⟨n - 1, by omega⟩
  rw [Nat.add_sub_cancel] at ck
  have p1 : (i : Int) < (N : Int) := by omega
  go_enter Try.func56, Try.ntmps56
  go_wp2
  go_region
  all_goals go_wp2
  all_goals go_ret
  all_goals exact ⟨by rw [bytesLess_eq, Lib.toList_data, Lib.toList_data]; rfl, 1, rfl⟩
theorem pl_keep {w W0 W : World} {b bm ba bc i N bk o n kc : Nat} {vq : Value} {x : ByteArray} (h2 : W0.heap[w.heap.size]? = some (.cells #[.pointer (some ⟨b, 0, none⟩)] 24 (0, 0))) (h3 : W0.heap[w.heap.size + 1]? = some (.cells #[.string x] 9 (0, 0))) (hr : W0.heap[b]? = some (.cells #[.map (some bm), .slice (some ⟨ba, 0, none⟩) N bc, vq] 55 (0, 0))) (ha : W0.cell? ⟨ba, i, none⟩ = some (.slice (some ⟨bk, o, none⟩) n kc)) (hB : Below W0.heap.size W0 W) :
    W.cell? ⟨w.heap.size, 0, none⟩ = some (.pointer (some ⟨b, 0, none⟩)) ∧ W.cell? ⟨w.heap.size + 1, 0, none⟩ = some (.string x) ∧ W.cell? ⟨b, 1, none⟩ = some (.slice (some ⟨ba, 0, none⟩) N bc) ∧ W.cell? ⟨ba, i, none⟩ = some (.slice (some ⟨bk, o, none⟩) n kc) ∧ Below W0.heap.size W0 W :=
  ⟨(hp_cell (i := 0) ((hB.block _ (hp_lt h2)).trans h2)).trans rfl, (hp_cell (i := 0) ((hB.block _ (hp_lt h3)).trans h3)).trans rfl, (hp_cell (i := 1) ((hB.block _ (hp_lt hr)).trans hr)).trans rfl, (hB.cell (p := ⟨ba, i, none⟩) (World.block_lt_of_cell? _ _ ha)).trans ha, hB⟩
/-- what place tells -/
def plcI (G : List Seg) (x : ByteArray) : Nat × Nat := if gN G x = G.length then (G.length, 0) else (gN G x, klo (G.getD (gN G x) noSeg).ks x)
set_option maxRecDepth 100000 in
set_option maxHeartbeats 2000000 in
/-- where there are keys: the block behind all, or a place in a block -/
theorem place_some (b bm ba bc : Nat) (G : List Seg) (vq : Value) (x : ByteArray) (w : World) (hn : 0 < G.length) (h63 : G.length ≤ 1000000) (hs : Rising (flat G)) (hG : Segs w G) (hr : w.heap[b]? = some (.cells #[.map (some bm), .slice (some ⟨ba, 0, none⟩) G.length bc, vq] 55 (0, 0)))
    (ha : ∀ i (h : i < G.length), w.cell? ⟨ba, i, none⟩ = some G[i].val) :
    Calls Try.prog 43 #[.pointer (some ⟨b, 0, none⟩), .string x] w fun e w' => e = .returned (.tuple #[.int .i64 ((plcI G x).1 : Nat), .int .i64 ((plcI G x).2 : Nat)]) ∧ Below w.heap.size w w' := by
  obtain ⟨W0, hW0⟩ : ∃ W0, W0 = (w.alloc (.cells #[.pointer (some ⟨b, 0, none⟩)] 24)).alloc (.cells #[.string x] 9) := ⟨_, rfl⟩
  have hb : Below w.heap.size w W0 := by rw [hW0]; exact ((Below.refl _ _).alloc (Nat.le_refl _) _).alloc (by simp) _
  have hr0 := (hb.block b (hp_lt hr)).trans hr
  have c2 : W0.heap[w.heap.size]? = some (.cells #[.pointer (some ⟨b, 0, none⟩)] 24 (0, 0)) := by rw [hW0]; exact (heap_alloc_old _ _ (by simp)).trans (heap_alloc_new _ _)
  have c3 : W0.heap[w.heap.size + 1]? = some (.cells #[.string x] 9 (0, 0)) := by rw [hW0]; simpa using heap_alloc_new (w.alloc (.cells #[.pointer (some ⟨b, 0, none⟩)] 24)) (.cells #[.string x] 9)
  have ha0 : ∀ i (h : i < G.length), W0.cell? ⟨ba, i, none⟩ = some G[i].val := fun i h => by rw [hb.cell (p := ⟨ba, i, none⟩) (World.block_lt_of_cell? _ _ (ha i h))]; exact ha i h
  have hS0 : ∀ s ∈ G, s.At W0 := fun s hm => (hG.at_ s hm).same (hb.block _ (hG.at_ s hm).lt)
  have eg : ∀ args w, (callFunc 56 args).run Try.prog w = .ok (.enter 56 args) w := enters_of Try.func56 (by kernel_rfl) rfl
  have hgd : ∀ i (h : i < G.length), G.getD i noSeg = G[i] := fun i h => by rw [List.getD_eq_getElem?_getD, List.getElem?_eq_getElem h]; rfl
  have hS := Try.sort_Search 56 #[.pointer (some ⟨w.heap.size, 0, none⟩), .pointer (some ⟨w.heap.size + 1, 0, none⟩)] G.length (fun i => !decide ((G.getD i noSeg).last.data.toList < x.data.toList)) W0 eg (by omega)
    (fun m os i hi => by
      have hB := below_grown_sl W0.heap.size W0 m os (Nat.le_refl _)
      have hc : ∀ (p : Addr) (v : Value), W0.cell? p = some v → (grow (W0.drewN m) os).cell? p = some v := fun p v hp => by rw [hB.cell (World.block_lt_of_cell? _ _ hp)]; exact hp
      have hm := List.getElem_mem hi
      have hne := (hG.ne _ hm).1
      have h128 := (hG.ne _ hm).2
      have hck := (hS0 _ hm).cell (j := G[i].ks.length - 1) (u := G[i].last) (by rw [Seg.last_is hne, List.getElem?_eq_getElem (by omega)])
      refine (place1_walk (grow (W0.drewN m) os) w.heap.size (w.heap.size + 1) b ba G.length bc i G[i].g G[i].o G[i].ks.length G[i].c x G[i].last hne hi (by omega) (hc _ _ ((hp_cell (i := 0) c2).trans rfl)) (hc _ _ ((hp_cell (i := 0) c3).trans rfl)) (hc _ _ ((hp_cell (i := 1) hr0).trans rfl)) (hc _ _ (ha0 i hi)) (hc _ _ hck)).mono ?_
      rintro e w' ⟨he, q, hq⟩
      rw [hgd i hi]
      exact ⟨he, q, #[], by rw [hq, grow_empty]⟩) (fun i j hij hj hi => by
      simp only [Bool.not_eq_true', decide_eq_false_iff_not] at hi ⊢
      intro hlt
      rcases Nat.lt_or_ge i j with h | h
      · rw [hgd i (by omega)] at hi
        rw [hgd j hj] at hlt
        exact hi (List.lt_trans (last_mono hs (fun s hm => (hG.ne s hm).1) i j h hj) hlt)
      · obtain rfl : i = j := by omega
        exact hi hlt)
  rw [gN_range] at hS
  have HS := Lib.hid hS
  have HB := Lib.hid hb
  have C2 := Lib.hid c2
  have C3 := Lib.hid c3
  have R0 := Lib.hid hr0
  have EW := Lib.hid hW0
  have r1' := (hp_cell (i := 1) hr0).trans rfl
  have c2' := (hp_cell (i := 0) c2).trans rfl
  unfold plcI
  rcases plc_parts x G hs (fun s hm => (hG.ne s hm).1) with ⟨hl, _⟩ | ⟨P, s, S, rfl, hl, _, hlt⟩
  · rw [if_pos hl]
    rw [hl] at HS
    obtain ⟨N, eN⟩ : ∃ N, N = G.length := ⟨_, rfl⟩
    rw [← eN] at HS r1' R0 ⊢
    clear hS hb hr hr0 hW0 eg c2 c3 ha ha0 hS0 hgd hs hG hl eN hn h63
    go_enter Try.func43, Try.ntmps43
    go_upto_region 1 with (fail)
    rw [← EW.out]
    clear EW
    go_wp2_with (go_at_call 55; refine HS.out.mono ?_; rintro e w1 ⟨rfl, qd, os, hw1⟩; have B1 := Lib.hid (show Below W0.heap.size W0 w1 by rw [hw1]; exact below_grown_sl _ _ _ _ (Nat.le_refl _)); have d2 := (hp_cell (i := 0) ((B1.out.block _ (hp_lt C2.out)).trans C2.out)).trans rfl; have d1 := (hp_cell (i := 1) ((B1.out.block _ (hp_lt R0.out)).trans R0.out)).trans rfl; clear hw1)
    go_ret2
    exact ⟨rfl, HB.out.trans (B1.out.mono HB.out.size)⟩
  · have hne : ¬ gN (P ++ s :: S) x = (P ++ s :: S).length := by rw [hl]; simp
    rw [if_neg hne, hl]
    rw [hl] at HS
    have hi : P.length < (P ++ s :: S).length := by simp
    have hgs : (P ++ s :: S)[P.length] = s := by simp
    have hgd2 : (P ++ s :: S).getD P.length noSeg = s := by rw [hgd _ hi, hgs]
    have hal := ha0 P.length hi
    rw [hgs] at hal
    have hm : s ∈ P ++ s :: S := by simp
    have hsl : Rising s.ks := by
      rw [flat_app, flat_cons] at hs
      exact (List.pairwise_append.1 (List.pairwise_append.1 hs).2.1).1
    have hAt := hS0 s hm
    have hn8 := (hG.ne s hm)
    have HSS := Lib.hid (fun W (hB : Below W0.heap.size W0 W) => by
      have h := Try.sort_SearchStrings s.g s.o s.c s.ks.toArray x W (fun i hi => by
        rw [List.size_toArray] at hi
        have := (hAt.same (hB.block _ hAt.lt)).cell (j := i) (List.getElem?_eq_getElem hi)
        rw [this, getElem!_pos s.ks.toArray i (by simpa using hi), List.getElem_toArray]) (Nat.lt_of_lt_of_le hAt.lt hB.size) (by rw [List.size_toArray]; omega) (rising_mono hsl x)
      rw [klo_arr, List.size_toArray] at h
      exact h)
    obtain ⟨l, el⟩ : ∃ l, l = klo s.ks x := ⟨_, rfl⟩
    rw [hgd2, ← el]
    rw [← el] at HSS
    obtain ⟨N, eN⟩ : ∃ N, N = (P ++ s :: S).length := ⟨_, rfl⟩
    obtain ⟨i, ei⟩ : ∃ i, i = P.length := ⟨_, rfl⟩
    rw [← eN] at HS r1' R0 hi
    rw [← ei] at HS hal hi ⊢
    obtain ⟨n, en⟩ : ∃ n, n = s.ks.length := ⟨_, rfl⟩
    unfold Seg.val at hal
    rw [← en] at HSS hal
    have A0 := Lib.hid hal
    have p1 : (i : Int) < (N : Int) := by omega
    have p2 : ¬ i = N := by omega
    clear hS hb hr hr0 hW0 eg c2 c3 ha ha0 hS0 hgd hs hG hl eN hn h63 hne hgs hgd2 hal hm hsl hAt hn8 hlt el ei en
    go_enter Try.func43, Try.ntmps43
    go_upto_region 1 with (fail)
    rw [← EW.out]
    clear EW
    go_upto_region 4 with (go_at_call 55; refine HS.out.mono ?_; rintro e w1 ⟨rfl, qd, os, hw1⟩; have B1 := Lib.hid (show Below W0.heap.size W0 w1 by rw [hw1]; exact below_grown_sl _ _ _ _ (Nat.le_refl _)); have d2 := (hp_cell (i := 0) ((B1.out.block _ (hp_lt C2.out)).trans C2.out)).trans rfl; have d3 := (hp_cell (i := 0) ((B1.out.block _ (hp_lt C3.out)).trans C3.out)).trans rfl; have d1 := (hp_cell (i := 1) ((B1.out.block _ (hp_lt R0.out)).trans R0.out)).trans rfl; have d0 := (B1.out.cell (p := ⟨ba, i, none⟩) (World.block_lt_of_cell? _ _ A0.out)).trans A0.out; clear hw1)
    go_region_held3 (fun w' => w'.cell? ⟨w.heap.size, 0, none⟩ = some (.pointer (some ⟨b, 0, none⟩)) ∧ w'.cell? ⟨w.heap.size + 1, 0, none⟩ = some (.string x) ∧ w'.cell? ⟨b, 1, none⟩ = some (.slice (some ⟨ba, 0, none⟩) N bc) ∧ w'.cell? ⟨ba, i, none⟩ = some (.slice (some ⟨s.g, s.o, none⟩) n s.c) ∧ Below W0.heap.size W0 w')
      ((first | exact ⟨d2, d3, d1, d0, B1.out⟩ | exact ⟨d2, d3, d1, d0, B1.out.drew⟩ | exact pl_keep C2.out C3.out R0.out A0.out B2.out))
      ((go_at_call 57; refine (HSS.out _ B1.out.drew).mono ?_; rintro e w2 ⟨rfl, hb2⟩; have B2 := Lib.hid (B1.out.drew.trans (hb2.mono B1.out.drew.size)); clear hb2))
    all_goals go_wp2
    all_goals go_ret2
    all_goals exact ⟨rfl, HB.out.trans (B2.out.mono HB.out.size)⟩
end Go.Proofs.Ythloohoefjmmoaa

namespace Go.Proofs.Ythloohoefjmmoaa
open Go.RowKit Go.Maps Go.Sort

def putA (cur : Array Value) : Nat → List Value → Array Value
  | _, [] => cur
  | o, v :: r => putA (cur.setIfInBounds o v) (o + 1) r
theorem putA_size : ∀ (vs : List Value) (cur : Array Value) (o : Nat), (putA cur o vs).size = cur.size
  | [], _, _ => rfl
  | v :: r, cur, o => by rw [putA, putA_size r]; simp
theorem putA_list : ∀ (vs : List Value) (cur : Array Value) (o : Nat), o + vs.length ≤ cur.size → (putA cur o vs).toList = cur.toList.take o ++ vs ++ cur.toList.drop (o + vs.length)
  | [], cur, o, h => by simp [putA]
  | v :: r, cur, o, h => by
    rw [putA, putA_list r _ _ (by simp at h ⊢; omega)]
    have h1 : o < cur.toList.length := by simp at h ⊢; omega
    have hlo : (cur.toList.take o).length = o := by rw [List.length_take]; omega
    have e1 : (cur.toList.set o v).take (o + 1) = cur.toList.take o ++ [v] := by
      rw [List.set_eq_take_append_cons_drop, if_pos h1, List.take_append, hlo, List.take_of_length_le (by omega), Nat.add_sub_cancel_left]
      rfl
    rw [Array.toList_setIfInBounds, e1, List.drop_set_of_lt (by omega)]
    simp [Nat.add_assoc, Nat.add_comm 1]
theorem heap_setCell_row {w : World} {b o : Nat} {cur : Array Value} {t : TypeId} {fr : Nat × Nat} (h : w.heap[b]? = some (.cells cur t fr)) (v : Value) : (w.setCell ⟨b, o, none⟩ v).heap[b]? = some (.cells (cur.setIfInBounds o v) t fr) := by
  simp only [World.setCell, Array.getElem?_modify]
  rw [if_pos trivial, h]
  rfl
theorem heap_setCells_row : ∀ (vs : List Value) (o : Nat) {w : World} {b : Nat} {cur : Array Value} {t : TypeId} {fr : Nat × Nat}, w.heap[b]? = some (.cells cur t fr) → (w.setCells b o vs).heap[b]? = some (.cells (putA cur o vs) t fr)
  | [], _, _, _, _, _, _, h => h
  | v :: r, o, _, _, _, _, _, h => heap_setCells_row r (o + 1) (heap_setCell_row h v)
theorem touch_setCells {F : List Nat} (b : Nat) (hb : b ∈ F) : ∀ (vs : List Value) (o : Nat) (w : World), Touch F w (w.setCells b o vs)
  | [], _, w => Touch.refl F w
  | v :: r, o, w => (Touch.setCell w ⟨b, o, none⟩ v hb).trans (fun _ hk => .inl hk) (touch_setCells b hb r (o + 1) _)
/-- a row that the store owns, opened -/
theorem ownsRow_open {w : World} {e : TypeId} {size : Nat} {g n cap : Nat} {xs : List Value} (h : w.ownsRow 0 e size (.slice (some ⟨g, 0, none⟩) n cap) n xs) : ∃ cur, w.heap[g]? = some (.cells cur e (0, 0)) ∧ n ≤ cap ∧ cap ≤ maxLen ∧ cur.size = cap * size ∧ cur.toList.take (n * size) = xs ∧ xs.length = n * size := by
  obtain ⟨h1, h2⟩ := h
  rcases h2 with ⟨h3, _⟩ | ⟨g', cap', cur, hv, hb, hg, hn, hc, hs, ht⟩
  · cases h3
  · cases hv
    exact ⟨cur, hg, hn, hc, hs, ht, h1⟩
theorem ownsRow_shut {w : World} {e : TypeId} {size : Nat} {g n cap : Nat} {xs : List Value} {cur : Array Value} (hg : w.heap[g]? = some (.cells cur e (0, 0))) (hn : n ≤ cap) (hc : cap ≤ maxLen) (hs : cur.size = cap * size) (ht : cur.toList.take (n * size) = xs) (hl : xs.length = n * size) : w.ownsRow 0 e size (.slice (some ⟨g, 0, none⟩) n cap) n xs :=
  ⟨hl, .inr ⟨g, cap, cur, rfl, Nat.zero_le _, hg, hn, hc, hs, ht⟩⟩
theorem zeroCells_size (n : Nat) : (Builtin.zeroCells (Value.string ⟨#[]⟩).cells n).size = n := by
  unfold Builtin.zeroCells
  rw [Array.size_map, Array.size_range]
  exact Nat.mul_one n
theorem ins_list {α : Type} (cs cur : List α) (x : α) (i n : Nat) (hn : cs.length = n) (hi : i ≤ n) (hc : n + 1 ≤ cur.length) (ht : cur.take i = cs.take i) :
    ((cur.take (i + 1) ++ cs.drop i ++ cur.drop (i + 1 + (n - i))).take i ++ [x] ++ (cur.take (i + 1) ++ cs.drop i ++ cur.drop (i + 1 + (n - i))).drop (i + 1)).take (n + 1) = cs.take i ++ [x] ++ cs.drop i := by
  have l1 : (cur.take (i + 1)).length = i + 1 := by rw [List.length_take]; omega
  have e1 : (cur.take (i + 1) ++ cs.drop i ++ cur.drop (i + 1 + (n - i))).take i = cs.take i := by
    rw [List.append_assoc, List.take_append_of_le_length (by omega), List.take_take, Nat.min_eq_left (by omega), ht]
  have e2 : (cur.take (i + 1) ++ cs.drop i ++ cur.drop (i + 1 + (n - i))).drop (i + 1) = cs.drop i ++ cur.drop (i + 1 + (n - i)) := by
    rw [List.append_assoc, List.drop_left' l1]
  rw [e1, e2, ← List.append_assoc]
  exact List.take_left' (by simp; omega)
theorem ins_list2 {α : Type} (cs cur : List α) (x : α) (i n : Nat) (hn : cs.length = n) (hi : i ≤ n) (hc : n + 1 ≤ cur.length) (ht : cur.take i = cs.take i) :
    ((cur.take i ++ [x] ++ cur.drop (i + 1)).take (i + 1) ++ cs.drop i ++ (cur.take i ++ [x] ++ cur.drop (i + 1)).drop (i + 1 + (n - i))).take (n + 1) = cs.take i ++ [x] ++ cs.drop i := by
  have l1 : (cur.take i ++ [x]).length = i + 1 := by simp; omega
  rw [List.take_left' l1, ht]
  exact List.take_left' (by simp; omega)
theorem touch_drew {F : List Nat} {w w' : World} (h : Touch F w w') : Touch F w w'.drew := ⟨h.os, h.tape, h.output, h.size, h.block⟩
theorem touch_alloc {F : List Nat} {w w' : World} (h : Touch F w w') (o : Obj) : Touch F w (w'.alloc o) :=
  ⟨h.os, h.tape, h.output, by rw [World.size_alloc]; have := h.size; omega, fun k hk hn => (Below.heap_alloc _ _ _ (Nat.lt_of_lt_of_le hk h.size)).trans (h.block k hk hn)⟩
theorem touch_cells_new {F : List Nat} {w w' : World} (h : Touch F w w') (b : Nat) (hb : w.heap.size ≤ b) (vs : List Value) (o : Nat) : Touch F w (w'.setCells b o vs) := by
  have h2 := touch_setCells (F := [b]) b (by simp) vs o w'
  exact ⟨h2.os.trans h.os, h2.tape.trans h.tape, h2.output.trans h.output, Nat.le_trans h.size h2.size, fun k hk hn => (h2.block k (Nat.lt_of_lt_of_le hk h.size) (by simp; omega)).trans (h.block k hk hn)⟩
theorem putA_out : ∀ (vs : List Value) (cur : Array Value) (o k : Nat), k < o ∨ o + vs.length ≤ k → (putA cur o vs)[k]? = cur[k]?
  | [], _, _, _, _ => rfl
  | v :: r, cur, o, k, h => by
    simp only [List.length_cons] at h
    rw [putA, putA_out r _ _ _ (by omega), Array.getElem?_setIfInBounds_ne (by omega)]
theorem putA_in : ∀ (vs : List Value) (cur : Array Value) (o k : Nat), o + vs.length ≤ cur.size → k < vs.length → (putA cur o vs)[o + k]? = vs[k]?
  | [], _, _, _, _, h => absurd h (Nat.not_lt_zero _)
  | v :: r, cur, o, k, h, hk => by
    simp only [List.length_cons] at h hk
    rw [putA]
    by_cases h0 : k = 0
    · subst h0
      rw [putA_out r _ _ _ (.inl (by omega))]
      show (cur.setIfInBounds o v)[o]? = some v
      rw [Array.getElem?_setIfInBounds_self_of_lt (by omega)]
    · obtain ⟨j, rfl⟩ : ∃ j, k = j + 1 := ⟨k - 1, by omega⟩
      rw [show o + (j + 1) = o + 1 + j by omega, putA_in r _ _ _ (by simp; omega) (by omega), List.getElem?_cons_succ]
/-- keys with one more -/
theorem ins_get (ks : List ByteArray) (x : ByteArray) (i : Nat) (hi : i ≤ ks.length) (j : Nat) : (ks.take i ++ [x] ++ ks.drop i)[j]? = if j < i then ks[j]? else if j = i then some x else ks[j - 1]? := by
  have hl : (ks.take i).length = i := by rw [List.length_take]; omega
  rw [List.append_assoc]
  by_cases h1 : j < i
  · rw [if_pos h1, List.getElem?_append_left (by omega), List.getElem?_take_of_lt h1]
  · rw [if_neg h1, List.getElem?_append_right (by omega), hl]
    by_cases h2 : j = i
    · rw [if_pos h2, h2, Nat.sub_self]; rfl
    · rw [if_neg h2]
      obtain ⟨m, rfl⟩ : ∃ m, j = i + (m + 1) := ⟨j - i - 1, by omega⟩
      rw [show i + (m + 1) - i = m + 1 by omega, List.singleton_append, List.getElem?_cons_succ, List.getElem?_drop]
      congr 1
/-- what insert makes of a block of keys -/
def SegIns (s : Seg) (x : ByteArray) (i : Nat) (w : World) (e : Ending) (w' : World) : Prop :=
  ∃ s' : Seg, e = .returned s'.val ∧ s'.At w' ∧ s'.ks = s.ks.take i ++ [x] ++ s.ks.drop i ∧ ((s'.g = s.g ∧ s'.o = s.o ∧ s'.c = s.c) ∨ w.heap.size ≤ s'.g) ∧ Touch [s.g] w w' ∧ ∀ t : Seg, t.Apart s → t.At w → t.At w'
theorem Seg.At.touch {w w' : World} {s t : Seg} (h : t.At w) (ht : Touch [s.g] w w') (hne : t.g ≠ s.g) : t.At w' := h.same (ht.block _ h.lt (by simpa using hne))
/-- a row written into its own room -/
theorem seg_put {w w' : World} {s : Seg} (h : s.At w) (cur cur' : Array Value) (hg : w.heap[s.g]? = some (.cells cur 9 (0, 0))) (hsz : s.o + s.c ≤ cur.size) (hg' : w'.heap[s.g]? = some (.cells cur' 9 (0, 0))) (hs' : cur'.size = cur.size) (hout : ∀ k, k < s.o ∨ s.o + s.c ≤ k → cur'[k]? = cur[k]?) (ht : Touch [s.g] w w') (ks : List ByteArray) (hl : ks.length ≤ s.c) (hks : ∀ j u, ks[j]? = some u → cur'[s.o + j]? = some (.string u)) :
    (⟨s.g, s.o, s.c, ks⟩ : Seg).At w' ∧ ∀ t : Seg, t.Apart s → t.At w → t.At w' := by
  refine ⟨⟨hl, h.most, cur', hg', by rw [hs']; exact hsz, hks⟩, fun t hA hT => ?_⟩
  by_cases hne : t.g = s.g
  · obtain ⟨c2, h1, h2, h3⟩ := hT.row
    rw [hne, hg] at h1
    cases h1
    refine ⟨hT.le, hT.most, cur', by rw [hne]; exact hg', by rw [hs']; exact h2, fun j u hj => ?_⟩
    have hjl := (List.getElem?_eq_some_iff.1 hj).1
    have := hT.le
    rw [hout _ (by rcases hA with h | h | h; exact absurd hne h; exact .inl (by omega); exact .inr (by omega))]
    exact h3 j u hj
  · exact hT.touch ht hne
theorem str_map (ks : List ByteArray) (j : Nat) : (ks.map Value.string)[j]? = (ks[j]?).map Value.string := List.getElem?_map
set_option maxRecDepth 100000 in
set_option maxHeartbeats 1000000 in
theorem insert_seg (s : Seg) (vb i : Nat) (x : ByteArray) (w : World) (hi : i ≤ s.ks.length) (hn : 0 < s.ks.length) (hN : s.ks.length ≤ 1000000) (hne : vb ≠ s.g) (hk : s.At w) (hv : w.heap[vb]? = some (.cells #[.string x] 9 (0, 0))) :
    Calls Try.prog 66 #[s.val, .int .i64 (i : Nat), .slice (some ⟨vb, 0, none⟩) 1 1] w (SegIns s x i w) := by
  obtain ⟨cur, hg, hsz, hcells⟩ := hk.row
  have hle := hk.le
  have hmost := hk.most
  have hcell : ∀ j v, (s.ks.map Value.string)[j]? = some v → w.cell? ⟨s.g, s.o + j, none⟩ = some v := fun j v hj => by
    rw [str_map] at hj
    obtain ⟨u, hu, rfl⟩ := Option.map_eq_some_iff.1 hj
    exact hk.cell hu
  have hvs : ∀ j v, [Value.string x][j]? = some v → w.cell? ⟨vb, 0 + j, none⟩ = some v := fun j v hj => by
    rcases j with _ | j
    · simp at hj; subst hj; rw [hp_cell hv]; rfl
    · simp at hj
  have h1v : ∀ v ∈ [Value.string x], v.oneCell' = true := fun v hv => by simp at hv; subst hv; rfl
  have h1c : ∀ v ∈ s.ks.map Value.string, v.oneCell' = true := fun v hv => by obtain ⟨y, _, rfl⟩ := List.mem_map.1 hv; rfl
  have hsome : ∀ j, j < s.c → (w.cell? ⟨s.g, s.o + j, none⟩).isSome = true := fun j hj => by
    rw [hp_cell hg, Array.getElem?_eq_getElem (by omega)]; rfl
  have hfree : ∀ j, w.frozen? ⟨s.g, j, none⟩ = false := fun j => hp_free hg
  have hc63 : s.c ≤ 9223372036854775807 := hmost
  have hil : (s.ks.take i ++ [x] ++ s.ks.drop i).length = s.ks.length + 1 := by simp; omega
  by_cases hroom : s.ks.length + 1 ≤ s.c
  · by_cases he : i = s.ks.length
    · subst he
      refine (Try.slices_Insert_end_room s.g s.o s.ks.length s.c vb 0 1 1 [.string x] w (by omega) hroom hc63 rfl (fun j hj => by rw [Nat.add_assoc]; exact hsome _ (by omega)) (fun j _ => hfree _) hvs h1v).mono ?_
      rintro e w' ⟨rfl, rfl⟩
      have ht := touch_setCells (F := [s.g]) s.g (by simp) [.string x] (s.o + s.ks.length) w
      obtain ⟨r1, r2⟩ := seg_put hk cur _ hg hsz (heap_setCells_row [.string x] (s.o + s.ks.length) hg) (putA_size _ _ _) (fun k hk => putA_out _ _ _ _ (by simp only [List.length_cons, List.length_nil]; omega)) ht (s.ks.take s.ks.length ++ [x] ++ s.ks.drop s.ks.length) (by rw [hil]; exact hroom) (fun j u hj => by
        rw [ins_get _ _ _ (Nat.le_refl _)] at hj
        by_cases h1 : j < s.ks.length
        · rw [if_pos h1] at hj
          rw [putA_out _ _ _ _ (.inl (by omega))]
          exact hcells j u hj
        · rw [if_neg h1] at hj
          by_cases h2 : j = s.ks.length
          · rw [if_pos h2] at hj
            cases hj
            have := putA_in [Value.string x] cur (s.o + s.ks.length) 0 (by simp; omega) (by simp)
            rw [h2]; simpa using this
          · rw [if_neg h2, List.getElem?_eq_none (by omega)] at hj; cases hj)
      exact ⟨_, by unfold Seg.val; rw [hil], r1, rfl, .inl ⟨rfl, rfl, rfl⟩, ht, r2⟩
    · obtain ⟨tA, tB, kA, kB, s1, s2, s3⟩ : ∃ tA tB kA kB, w.shape? vb = some (tA, kA) ∧ w.shape? s.g = some (tB, kB) ∧ kB ≠ 0 := ⟨9, 9, 1, cur.size, by simp [World.shape?, hv], by simp [World.shape?, hg], by omega⟩
      refine (Try.slices_Insert_shift s.g s.o s.ks.length s.c i vb 0 1 1 (s.ks.map Value.string) [.string x] w (by omega) (by omega) hroom hc63 hne (by simp) rfl hcell (fun j hj => hsome _ (by omega)) (fun j _ => hfree _) hvs h1c h1v tA tB kA kB s1 s2 s3 (hp_free hv) (by
        have : tA = 9 ∧ kA = 1 := by simpa [World.shape?, hv, eq_comm] using s1
        exact hp_free hv)).mono ?_
      rintro e w' ⟨rfl, rfl⟩
      have l1 : ((s.ks.map Value.string).drop i).length = s.ks.length - i := by simp
      have ht : Touch [s.g] w ((w.drew.setCells s.g (s.o + (i + 1)) ((s.ks.map Value.string).drop i)).setCells s.g (s.o + i) [.string x]) := (touch_drew (Touch.refl [s.g] w)).trans (fun _ hk => .inl hk) ((touch_setCells s.g (by simp) _ _ _).trans (fun _ hk => .inl hk) (touch_setCells s.g (by simp) _ _ _))
      obtain ⟨r1, r2⟩ := seg_put hk cur _ hg hsz (heap_setCells_row [.string x] (s.o + i) (heap_setCells_row ((s.ks.map Value.string).drop i) (s.o + (i + 1)) (show w.drew.heap[s.g]? = _ from hg))) (by rw [putA_size, putA_size]) (fun k hk => by rw [putA_out _ _ _ _ (by simp only [List.length_cons, List.length_nil]; omega), putA_out _ _ _ _ (by rw [l1]; omega)]) ht (s.ks.take i ++ [x] ++ s.ks.drop i) (by rw [hil]; exact hroom) (fun j u hj => by
        rw [ins_get _ _ _ hi] at hj
        by_cases h1 : j < i
        · rw [if_pos h1] at hj
          rw [putA_out _ _ _ _ (.inl (by omega)), putA_out _ _ _ _ (.inl (by omega))]
          exact hcells j u hj
        · rw [if_neg h1] at hj
          by_cases h2 : j = i
          · rw [if_pos h2] at hj
            cases hj
            have := putA_in [Value.string x] (putA cur (s.o + (i + 1)) ((s.ks.map Value.string).drop i)) (s.o + i) 0 (by rw [putA_size]; simp; omega) (by simp)
            rw [h2]; simpa using this
          · rw [if_neg h2] at hj
            have hjl := (List.getElem?_eq_some_iff.1 hj).1
            rw [putA_out _ _ _ _ (.inr (by simp only [List.length_cons, List.length_nil]; omega))]
            have := putA_in ((s.ks.map Value.string).drop i) cur (s.o + (i + 1)) (j - (i + 1)) (by rw [l1]; omega) (by rw [l1]; omega)
            rw [show s.o + (i + 1) + (j - (i + 1)) = s.o + j by omega, List.getElem?_drop, str_map, show i + (j - (i + 1)) = j - 1 by omega, hj] at this
            exact this)
      exact ⟨_, by unfold Seg.val; rw [hil], r1, rfl, .inl ⟨rfl, rfl, rfl⟩, ht, r2⟩
  · have hbig : (s.ks.length + 1) * 16 ≤ 140737488355328 := by omega
    have hge := grownCap_ge w (s.ks.length + 1) s.c 9
    have hlem := grownCap_le_maxLen w (s.ks.length + 1) s.c 9 (by unfold maxLen; omega)
    obtain ⟨G, hG⟩ : ∃ G, G = grownCap w (s.ks.length + 1) s.c 9 := ⟨_, rfl⟩
    rw [← hG] at hge hlem
    by_cases he : i = s.ks.length
    · subst he
      refine (Try.slices_Insert_end_grow (some ⟨s.g, s.o, none⟩) s.ks.length s.c vb 0 1 1 (s.ks.map Value.string) [.string x] w (by omega) hle (by omega) hbig (by simp) rfl (fun h => by cases h) (fun a ha j v hj => by cases ha; rw [Addr.add_lit]; exact hcell j v hj) hvs h1v).mono ?_
      rintro e w' ⟨rfl, rfl⟩
      rw [← hG]
      have ht : Touch [s.g] w (w.drew.alloc (.cells ((s.ks.map Value.string ++ [Value.string x]).toArray ++ Builtin.zeroCells (Value.string ⟨#[]⟩).cells (G - (s.ks.length + 1))) 9)) := touch_alloc (touch_drew (Touch.refl [s.g] w)) _
      refine ⟨⟨w.heap.size, 0, G, s.ks.take s.ks.length ++ [x] ++ s.ks.drop s.ks.length⟩, by unfold Seg.val; rw [hil], ⟨by rw [hil]; exact hge, hlem, _, heap_alloc_new w.drew _, by simp [zeroCells_size]; omega, fun j u hj => ?_⟩, rfl, .inr (Nat.le_refl _), ht, fun t hA hT => hT.same (heap_alloc_old w.drew _ hT.lt)⟩
      have hjl := (List.getElem?_eq_some_iff.1 hj).1
      rw [hil] at hjl
      have e1 : s.ks.take s.ks.length ++ [x] ++ s.ks.drop s.ks.length = s.ks ++ [x] := by simp
      rw [show (⟨w.heap.size, 0, G, s.ks.take s.ks.length ++ [x] ++ s.ks.drop s.ks.length⟩ : Seg).o + j = j from Nat.zero_add j]
      rw [show (⟨w.heap.size, 0, G, s.ks.take s.ks.length ++ [x] ++ s.ks.drop s.ks.length⟩ : Seg).ks = s.ks ++ [x] from e1] at hj
      rw [Array.getElem?_append_left (by simp; omega), List.getElem?_toArray]
      have := congrArg (Option.map Value.string) hj
      rw [← List.getElem?_map, List.map_append] at this
      exact this
    · refine (Try.slices_Insert_grow s.g s.o s.ks.length s.c i vb 0 1 1 (s.ks.map Value.string) [.string x] w (by omega) (by omega) hle (by omega) hbig (by simp) rfl hcell hvs h1c h1v).mono ?_
      rintro e w' ⟨rfl, rfl⟩
      rw [← hG]
      have hz := zeroCells_size (s.ks.length + 1 - i)
      have hz2 := zeroCells_size (G - (s.ks.length + 1))
      generalize Builtin.zeroCells (Value.string ⟨#[]⟩).cells (s.ks.length + 1 - i) = Z at hz ⊢
      generalize Builtin.zeroCells (Value.string ⟨#[]⟩).cells (G - (s.ks.length + 1)) = Y at hz2 ⊢
      have l1 : ((s.ks.map Value.string).drop i).length = s.ks.length - i := by simp
      have l2 : ((s.ks.map Value.string).take i).length = i := by simp; omega
      obtain ⟨R, hR⟩ : ∃ R : Array Value, R = ((s.ks.map Value.string).take i).toArray ++ Z ++ Y := ⟨_, rfl⟩
      have hRs : R.size = i + (s.ks.length + 1 - i) + (G - (s.ks.length + 1)) := by rw [hR]; simp [hz, hz2]; omega
      have hRt : ∀ j, j < i → R[j]? = (s.ks.map Value.string)[j]? := fun j hj => by
        rw [hR, Array.append_assoc, Array.getElem?_append_left (by simp; omega), List.getElem?_toArray, List.getElem?_take_of_lt hj]
      rw [← hR]
      have ht : Touch [] w (((w.alloc (.cells R 9)).drew.setCells w.heap.size i [.string x]).drew.setCells w.heap.size (i + 1) ((s.ks.map Value.string).drop i)) := touch_cells_new (touch_drew (touch_cells_new (touch_drew (touch_alloc (Touch.refl [] w) _)) _ (Nat.le_refl _) _ _)) _ (Nat.le_refl _) _ _
      have hg1 := heap_setCells_row ((s.ks.map Value.string).drop i) (i + 1) (show (((w.alloc (.cells R 9)).drew.setCells w.heap.size i [Value.string x]).drew).heap[w.heap.size]? = _ from heap_setCells_row [Value.string x] i (show (w.alloc (.cells R 9)).drew.heap[w.heap.size]? = _ from heap_alloc_new w _))
      refine ⟨⟨w.heap.size, 0, G, s.ks.take i ++ [x] ++ s.ks.drop i⟩, by unfold Seg.val; rw [hil], ⟨by rw [hil]; exact hge, hlem, _, hg1, by rw [putA_size, putA_size, hRs]; show 0 + G ≤ _; omega, fun j u hj => ?_⟩, rfl, .inr (Nat.le_refl _), ht.mono (fun k hk => by cases hk), fun t hA hT => hT.same (ht.block _ hT.lt (by simp))⟩
      rw [show (⟨w.heap.size, 0, G, s.ks.take i ++ [x] ++ s.ks.drop i⟩ : Seg).o + j = j from Nat.zero_add j]
      rw [show (⟨w.heap.size, 0, G, s.ks.take i ++ [x] ++ s.ks.drop i⟩ : Seg).ks = s.ks.take i ++ [x] ++ s.ks.drop i from rfl, ins_get _ _ _ hi] at hj
      by_cases h1 : j < i
      · rw [if_pos h1] at hj
        rw [putA_out _ _ _ _ (.inl (by omega)), putA_out _ _ _ _ (.inl (by omega)), hRt j h1, str_map, hj]
        rfl
      · rw [if_neg h1] at hj
        by_cases h2 : j = i
        · rw [if_pos h2] at hj
          cases hj
          rw [putA_out _ _ _ _ (.inl (by omega))]
          have := putA_in [Value.string x] R i 0 (by rw [hRs]; simp; omega) (by simp)
          rw [h2]; simpa using this
        · rw [if_neg h2] at hj
          have hjl := (List.getElem?_eq_some_iff.1 hj).1
          have := putA_in ((s.ks.map Value.string).drop i) (putA R i [Value.string x]) (i + 1) (j - (i + 1)) (by rw [putA_size, l1, hRs]; omega) (by rw [l1]; omega)
          rw [show i + 1 + (j - (i + 1)) = j by omega, List.getElem?_drop, str_map, show i + (j - (i + 1)) = j - 1 by omega, hj] at this
          exact this
end Go.Proofs.Ythloohoefjmmoaa

namespace Go.Proofs.Ythloohoefjmmoaa
open Go.RowKit Go.Maps Go.Sort

theorem slInfo3 : (Try.prog.info? 92).map (fun i => (i.zero, i.size, i.bytes)) = some (some (.slice none 0 0), 1, 24) := by kernel_rfl
theorem sl_size : (Try.prog.info? 92).map (·.size) = some 1 := by kernel_rfl
theorem zeroSl_size (n : Nat) : (Builtin.zeroCells (Value.slice none 0 0).cells n).size = n := by
  unfold Builtin.zeroCells
  rw [Array.size_map, Array.size_range]
  exact Nat.mul_one n
set_option maxRecDepth 100000 in
set_option maxHeartbeats 4000000 in
/-- ahead of a row, where there is room -/
theorem insR_shift (b n c i vb : Nat) (x : Value) (cs : List Value) (w : World) (hi : i < n) (hroom : n + 1 ≤ c) (hc63 : c ≤ 9223372036854775807) (hvb : vb ≠ b) (hcl : cs.length = n)
    (hcs : ∀ j v, cs[j]? = some v → w.cell? ⟨b, j, none⟩ = some v) (hsp : ∀ j, j < n + 1 → (w.cell? ⟨b, j, none⟩).isSome = true) (hfz : ∀ j, w.frozen? ⟨b, j, none⟩ = false)
    (hvs : w.heap[vb]? = some (.cells #[x] 92 (0, 0))) (h1c : ∀ v ∈ cs, v.oneCell' = true) (h1v : x.oneCell' = true) (kB : Nat) (hsb : w.shape? b = some (92, kB)) (hkB : kB ≠ 0) :
    Calls Try.prog 67 #[.slice (some ⟨b, 0, none⟩) n c, .int .i64 (i : Nat), .slice (some ⟨vb, 0, none⟩) 1 1] w fun e w' =>
      e = .returned (.slice (some ⟨b, 0, none⟩) (n + 1 : Nat) c) ∧ w' = (w.drew.setCells b (i + 1) (cs.drop i)).setCells b i [x] := by
  have hcx : w.cell? ⟨vb, 0, none⟩ = some x := (hp_cell (i := 0) hvs).trans rfl
  have hov : ∀ lb cb, (callFunc 72 #[.slice (some ⟨vb, 0, none⟩) 1 1, .slice (some ⟨b, i + 1, none⟩) lb cb]).run Try.prog w = .ok (.value (.bool false)) w := fun lb cb => by
    rw [run_callFunc_extern Try.func72 (by kernel_rfl) (by kernel_rfl) (by kernel_rfl) (e := Extern.SlicesOverlaps.overlaps #[52, 52] #[4]) (by kernel_rfl),
      Lib.run_overlaps_apart w 52 4 92 Try.underlying52 1 Try.sizeOf92 ⟨vb, 0, none⟩ ⟨b, i + 1, none⟩ 1 1 lb cb hvb 92 92 1 kB (by simp [World.shape?, hvs]) hsb hkB (hp_free hvs) (hp_free hvs)]
    rfl
  have hdl : (cs.drop i).length = n - i := by rw [List.length_drop, hcl]
  have hcp1 : ∀ ty dc sc, (Builtin.copy_ #[52, 52] ty #[.slice (some ⟨b, i + 1, none⟩) (n + 1 - (i + 1)) dc, .slice (some ⟨b, i, none⟩) (n + 1 - i) sc]).run Try.prog w.drew = .ok (goInt (cs.drop i).length) (w.drew.setCells b (i + 1) (cs.drop i)) := fun ty dc sc =>
    run_copy_cells w.drew _ _ ty 92 b (i + 1) (n + 1 - (i + 1)) dc ⟨b, i, none⟩ (n + 1 - i) sc (cs.drop i) Try.underlying52 sl_size (by rw [hdl]; simp only [Nat.min_def]; split <;> omega)
      (fun j v hj => by rw [Addr.add_lit]; exact hcs (i + j) v (by rwa [List.getElem?_drop] at hj))
      (fun j hj => hsp _ (by omega)) (fun j _ => hfz _) (fun v hv => h1c v (List.mem_of_mem_drop hv))
  obtain ⟨W1, hW1⟩ : ∃ W1, W1 = w.drew.setCells b (i + 1) (cs.drop i) := ⟨_, rfl⟩
  have hsp1 : ∀ k, k < n + 1 → (W1.cell? ⟨b, k, none⟩).isSome = true := fun k hk => by
    rw [hW1]
    exact isSome_setCells b (cs.drop i) (i + 1) w.drew (fun j hj => hsp (i + 1 + j) (by rw [hdl] at hj; omega)) k (hsp k hk)
  have hcp2 : ∀ (W : World), (∀ y, W.cell? y = W1.cell? y) → (∀ y, W.frozen? y = W1.frozen? y) → ∀ ty dc, (Builtin.copy_ #[52, 52] ty #[.slice (some ⟨b, i, none⟩) (n + 1 - i) dc, .slice (some ⟨vb, 0, none⟩) 1 1]).run Try.prog W = .ok (goInt [x].length) (W.setCells b i [x]) := fun W hWc hWf ty dc =>
    run_copy_cells W _ _ ty 92 b i (n + 1 - i) dc ⟨vb, 0, none⟩ 1 1 [x] Try.underlying52 sl_size (by simp only [List.length_cons, List.length_nil, Nat.min_def]; split <;> omega)
      (fun j v hj => by
        obtain rfl : j = 0 := by have := (List.getElem?_eq_some_iff.1 hj).1; simpa using this
        cases hj
        rw [show (⟨vb, 0, none⟩ : Addr).add 0 = ⟨vb, 0, none⟩ from rfl, hWc, hW1, World.cell?_setCells_out b _ _ _ _ (fun h _ => absurd h hvb)]
        exact hcx)
      (fun j hj => by rw [hWc]; exact hsp1 _ (by simp at hj; omega)) (fun j hj => by rw [hWf, hW1, World.frozen?_setCells]; exact hfz _) (by simpa using h1v)
  rw [← hW1] at hcp1
  have p1 : ¬ (i : Int) = (n : Int) := by omega
  have p2 : ¬ (c : Int) < (n : Int) + 1 := by omega
  have p3 : IntKind.i64.wrap ((n : Int) + 1) = (n : Int) + 1 := IntWalk.i64_in _ (by omega)
  have p4 : IntKind.i64.wrap ((i : Int) + 1) = (i : Int) + 1 := IntWalk.i64_in _ (by omega)
  have p5 : i ≤ n := by omega
  have p6 : ¬ c = i := by omega
  have p7 : ¬ c = i + 1 := by omega
  have p8 : (i : Int) ≤ (n : Int) + 1 := by omega
  have p9 : (n : Int) + 1 ≤ (c : Int) := by omega
  have p11 : (0 : Int) ≤ (i : Int) + 1 := by omega
  have mixed : Try.prog.follows .mixedOrders = true := by kernel_rfl
  have HO := Lib.hid hov
  have H1 := Lib.hid hcp1
  have H2 := Lib.hid hcp2
  have HW := Lib.hid hW1
  clear hcs hsp hfz hvs h1c h1v hsb hkB hcx hdl hsp1 hcp1 hcp2 hov hW1
  go_enter Try.func67, Try.ntmps67
  go_upto_region 15 with (simp only [HO.out])
  go_region_law_o (refine step_copy_runI rfl _ _ 52 52 rfl (.slice (some ⟨b, i + 1, none⟩) (n + 1 - (i + 1)) (c - (i + 1))) (.slice (some ⟨b, i, none⟩) (n + 1 - i) (c - i)) (by simp [Act.eval, Act.put]) (by simp [Act.eval, Act.put]) (H1.out 3 (c - (i + 1)) (c - i)) ?_)
  have X := fun ty dc => H2.out W1 (fun _ => rfl) (fun _ => rfl) ty dc
  clear H2
  go_wp2_with (at_builtin; refine wpList_copy_runI _ rfl _ _ 52 52 rfl _ _ rfl rfl (X _ _) ?_)
  go_ret
  first | exact ⟨rfl, rfl⟩ | exact ⟨rfl, by rw [HW.out]⟩
set_option maxRecDepth 100000 in
set_option maxHeartbeats 4000000 in
/-- ahead of a row, where there is no room: a new block -/
theorem insR_grow (b n c i vb : Nat) (x : Value) (cs : List Value) (w : World) (hi : i < n) (hnc : n ≤ c) (hroom : c < n + 1) (hbig : n ≤ 1000000) (hcl : cs.length = n)
    (hcs : ∀ j v, cs[j]? = some v → w.cell? ⟨b, j, none⟩ = some v) (hvs : w.heap[vb]? = some (.cells #[x] 92 (0, 0))) (h1c : ∀ v ∈ cs, v.oneCell' = true) (h1v : x.oneCell' = true) :
    Calls Try.prog 67 #[.slice (some ⟨b, 0, none⟩) n c, .int .i64 (i : Nat), .slice (some ⟨vb, 0, none⟩) 1 1] w fun e w' =>
      e = .returned (.slice (some ⟨w.heap.size, 0, none⟩) (n + 1 : Nat) (grownCap w (n + 1) c 92)) ∧
      w' = (((w.alloc (.cells ((cs.take i).toArray ++ Builtin.zeroCells (Value.slice none 0 0).cells (n + 1 - i) ++ Builtin.zeroCells (Value.slice none 0 0).cells (grownCap w (n + 1) c 92 - (n + 1))) 92)).drew.setCells w.heap.size i [x]).drew).setCells w.heap.size (i + 1) (cs.drop i) := by
  obtain ⟨i0, hi0, hz0, hzs, hzb⟩ := info_parts slInfo3
  have hcx : w.cell? ⟨vb, 0, none⟩ = some x := (hp_cell (i := 0) hvs).trans rfl
  have hbw : b < w.heap.size := World.block_lt_of_cell? _ _ (hcs 0 _ (List.getElem?_eq_getElem (by omega)))
  have hvw : vb < w.heap.size := hp_lt hvs
  have hkk : (n : Int) + 1 - (i : Int) = ((n + 1 - i : Nat) : Int) := by omega
  have hik : i + (n + 1 - i) = n + 1 := by omega
  have hold : (Builtin.firstCells i0.size i (.slice (some ⟨b, 0, none⟩) i c)).run Try.prog w.drew = .ok (cs.take i).toArray w.drew := by
    rw [hzs]
    exact run_firstCells_some w.drew 1 i ⟨b, 0, none⟩ i c (cs.take i) (by rw [List.length_take]; omega) (fun j v hj => by
      rw [Addr.add_lit, Nat.zero_add]
      rw [List.getElem?_take] at hj
      split at hj
      · exact hcs j v hj
      · cases hj)
  have hrz : ∀ ty, (Builtin.append_ #[52, 3] ty #[.slice (some ⟨b, 0, none⟩) i c, .int .i64 ((n : Int) + 1 - (i : Int))]).run Try.prog w =
      .ok (.slice (some ⟨w.heap.size, 0, none⟩) (n + 1) (grownCap w (n + 1) c 92)) (w.drew.alloc (.cells ((cs.take i).toArray ++ Builtin.zeroCells (Value.slice none 0 0).cells (n + 1 - i) ++ Builtin.zeroCells (Value.slice none 0 0).cells (grownCap w (n + 1) c 92 - (n + 1))) 92)) := fun ty => by
    have h := Lib.run_append_grow_zeros w 52 3 ty 92 i0 _ .i64 .i64 Try.underlying52 Try.underlying3 hi0 hz0 (some ⟨b, 0, none⟩) i c (cs.take i) hold (n + 1 - i) (by omega) (by omega) (by omega) (by omega) (by rw [hzb]; omega) (by rw [hzb, hik]; exact growslice_fits hroom (by omega))
    rw [hik] at h
    rw [hkk]
    exact h
  obtain ⟨G, hG⟩ : ∃ G, G = grownCap w (n + 1) c 92 := ⟨_, rfl⟩
  obtain ⟨ROW, hROW⟩ : ∃ ROW : Array Value, ROW = (cs.take i).toArray ++ Builtin.zeroCells (Value.slice none 0 0).cells (n + 1 - i) ++ Builtin.zeroCells (Value.slice none 0 0).cells (G - (n + 1)) := ⟨_, rfl⟩
  rw [← hG] at hrz ⊢
  rw [← hROW] at hrz ⊢
  have hRl : n + 1 ≤ ROW.size := by
    rw [hROW, Array.size_append, Array.size_append, zeroSl_size, zeroSl_size]
    simp
    omega
  obtain ⟨W1, hW1⟩ : ∃ W1, W1 = w.drew.alloc (.cells ROW 92) := ⟨_, rfl⟩
  have h1 : W1.heap[w.heap.size]? = some (.cells ROW 92 (0, 0)) := by rw [hW1]; exact heap_alloc_new w.drew _
  rw [← hW1] at hrz
  have hN : ∀ j, j < n + 1 → (W1.cell? ⟨w.heap.size, j, none⟩).isSome = true := fun j hj => by
    rw [hp_cell h1, Array.getElem?_eq_getElem (by omega)]; rfl
  have hNf : ∀ j, W1.frozen? ⟨w.heap.size, j, none⟩ = false := fun j => hp_free h1
  have hOb : ∀ a j v, a < w.heap.size → w.cell? ⟨a, j, none⟩ = some v → W1.cell? ⟨a, j, none⟩ = some v := fun a j v ha h => by rw [hW1, World.cell?_alloc_past (w := w.drew) _ a j ha]; exact h
  have hcpA : ∀ (W : World), (∀ y, W.cell? y = W1.cell? y) → (∀ y, W.frozen? y = W1.frozen? y) → ∀ ty dc, (Builtin.copy_ #[52, 52] ty #[.slice (some ⟨w.heap.size, i, none⟩) (n + 1 - i) dc, .slice (some ⟨vb, 0, none⟩) 1 1]).run Try.prog W = .ok (goInt [x].length) (W.setCells w.heap.size i [x]) := fun W hWc hWf ty dc =>
    run_copy_cells W _ _ ty 92 w.heap.size i (n + 1 - i) dc ⟨vb, 0, none⟩ 1 1 [x] Try.underlying52 sl_size (by simp only [List.length_cons, List.length_nil, Nat.min_def]; split <;> omega)
      (fun j v hj => by
        obtain rfl : j = 0 := by have := (List.getElem?_eq_some_iff.1 hj).1; simpa using this
        cases hj
        rw [show (⟨vb, 0, none⟩ : Addr).add 0 = ⟨vb, 0, none⟩ from rfl, hWc]
        exact hOb vb 0 x hvw hcx)
      (fun j hj => by rw [hWc]; exact hN _ (by simp at hj; omega)) (fun j hj => by rw [hWf]; exact hNf _) (by simpa using h1v)
  have hGn : n + 1 ≤ G := by rw [hG]; exact grownCap_ge w _ _ _
  have hG63 : G ≤ 9223372036854775807 := by
    have := grownCap_le_maxLen w (n + 1) c 92 (by unfold maxLen; omega)
    rw [← hG] at this
    unfold maxLen at this
    omega
  have q1 : ¬ (G = i) := by omega
  have q2 : ¬ (G = i + 1) := by omega
  have q3 : ¬ (c = i) := by omega
  have hbN : b ≠ w.heap.size := by omega
  have hdl : (cs.drop i).length = n - i := by rw [List.length_drop, hcl]
  have hcpB : ∀ (W : World), (∀ y, W.cell? y = (W1.setCells w.heap.size i [x]).cell? y) → (∀ y, W.frozen? y = (W1.setCells w.heap.size i [x]).frozen? y) → ∀ ty dc sc, (Builtin.copy_ #[52, 52] ty #[.slice (some ⟨w.heap.size, i + 1, none⟩) (n + 1 - (i + 1)) dc, .slice (some ⟨b, i, none⟩) (n - i) sc]).run Try.prog W = .ok (goInt (cs.drop i).length) (W.setCells w.heap.size (i + 1) (cs.drop i)) := fun W hWc hWf ty dc sc =>
    run_copy_cells W _ _ ty 92 w.heap.size (i + 1) (n + 1 - (i + 1)) dc ⟨b, i, none⟩ (n - i) sc (cs.drop i) Try.underlying52 sl_size (by rw [hdl]; simp only [Nat.min_def]; split <;> omega)
      (fun j v hj => by
        rw [Addr.add_lit, hWc, World.cell?_setCells_out _ _ _ _ _ (fun h _ => absurd h hbN)]
        exact hOb b _ v hbw (hcs (i + j) v (by rwa [List.getElem?_drop] at hj)))
      (fun j hj => by rw [hWc]; exact isSome_setCells _ _ _ _ (fun t ht => hN _ (by simp at ht; omega)) _ (hN _ (by omega)))
      (fun j hj => by rw [hWf, World.frozen?_setCells]; exact hNf _) (fun v hv => h1c v (List.mem_of_mem_drop hv))
  subst hW1
  have hE1 : ∀ y, ((w.alloc (.cells ROW 92)).drew).cell? y = (w.drew.alloc (.cells ROW 92)).cell? y := fun y => rfl
  have hE2 : ∀ y, ((w.alloc (.cells ROW 92)).drew).frozen? y = (w.drew.alloc (.cells ROW 92)).frozen? y := fun y => rfl
  have hF1 : ∀ y, (((w.alloc (.cells ROW 92)).drew.setCells w.heap.size i [x]).drew).cell? y = ((w.drew.alloc (.cells ROW 92)).setCells w.heap.size i [x]).cell? y := fun y => rfl
  have hF2 : ∀ y, (((w.alloc (.cells ROW 92)).drew.setCells w.heap.size i [x]).drew).frozen? y = ((w.drew.alloc (.cells ROW 92)).setCells w.heap.size i [x]).frozen? y := fun y => rfl
  have p1 : ¬ (i : Int) = (n : Int) := by omega
  have p2 : (c : Int) < (n : Int) + 1 := by omega
  have p3 : IntKind.i64.wrap ((n : Int) + 1) = (n : Int) + 1 := IntWalk.i64_in _ (by omega)
  have p4 : IntKind.i64.wrap ((i : Int) + 1) = (i : Int) + 1 := IntWalk.i64_in _ (by omega)
  have p5 : i ≤ n := by omega
  have p8 : (i : Int) ≤ (n : Int) := by omega
  have p9 : (i : Int) ≤ (n : Int) + 1 := by omega
  have p11 : (0 : Int) ≤ (i : Int) + 1 := by omega
  have p10 : IntKind.i64.wrap ((n : Int) + 1 - (i : Int)) = (n : Int) + 1 - (i : Int) := IntWalk.i64_in _ (by omega)
  have HZ := Lib.hid hrz
  have HA := Lib.hid (fun W h1 h2 => hcpA W h1 h2)
  have HB := Lib.hid hcpB
  have HE := Lib.hid (And.intro hE1 (And.intro hE2 (And.intro hF1 hF2)))
  clear hcs hvs h1c h1v hcx hrz hcpA hcpB hN hNf hOb hE1 hE2 hF1 hF2 hRl hkk hik hold hROW hG h1 hdl
  go_enter Try.func67, Try.ntmps67
  have mixed : Try.prog.follows .mixedOrders = true := by kernel_rfl
  have X := fun ty dc => HA.out ((w.alloc (.cells ROW 92)).drew) HE.out.1 HE.out.2.1 ty dc
  clear HA
  go_wp2_with (first
    | (at_builtin; refine Lib.wpList_append_run _ rfl _ _ _ _ rfl _ _ rfl rfl _ _ (HZ.out _) ?_)
    | (at_builtin; refine wpList_copy_runI _ rfl _ _ 52 52 rfl _ _ rfl rfl (X _ _) ?_))
  go_region_law_o (refine step_copy_runI rfl _ _ 52 52 rfl (.slice (some ⟨w.heap.size, i + 1, none⟩) (n + 1 - (i + 1)) (G - (i + 1))) (.slice (some ⟨b, i, none⟩) (n - i) (c - i)) (by simp [Act.eval, Act.put]) (by simp [Act.eval, Act.put]) (HB.out _ HE.out.2.2.1 HE.out.2.2.2 3 (G - (i + 1)) (c - i)) ?_)
  go_wp2
  go_ret
  exact ⟨rfl, rfl⟩
set_option maxRecDepth 100000 in
set_option maxHeartbeats 4000000 in
/-- behind all rows -/
theorem insR_end (b n c vb : Nat) (x : Value) (cs : List Value) (w : World) (hN : n ≤ 1000000) (h0 : 0 < n)
    (hown : w.ownsRow 0 92 1 (.slice (some ⟨b, 0, none⟩) n c) n cs) (hvs : w.heap[vb]? = some (.cells #[x] 92 (0, 0))) (h1v : x.oneCell' = true) :
    Calls Try.prog 67 #[.slice (some ⟨b, 0, none⟩) n c, .int .i64 (n : Nat), .slice (some ⟨vb, 0, none⟩) 1 1] w fun e w' =>
      ∃ g cap, e = .returned (.slice (some ⟨g, 0, none⟩) (n + 1 : Nat) cap) ∧ w'.ownsRow 0 92 1 (.slice (some ⟨g, 0, none⟩) (n + 1) cap) (n + 1) (cs ++ [x]) ∧ (g = b ∨ w.heap.size ≤ g) ∧ Touch [b] w w' := by
  obtain ⟨i0, hi0, hz0, hzs, hzb⟩ := info_parts slInfo3
  have hcx : ∀ j u, [x][j]? = some u → w.cell? ((⟨vb, 0, none⟩ : Addr).add j) = some u := fun j u hj => by
    obtain rfl : j = 0 := by have := (List.getElem?_eq_some_iff.1 hj).1; simpa using this
    cases hj
    exact (hp_cell (i := 0) hvs).trans rfl
  obtain ⟨cur, hc1, hc2, hc3, hc4, _, _⟩ := ownsRow_open hown
  have hcI : (n : Int) ≤ (c : Int) := by omega
  have hc5 : (c : Int) ≤ 9223372036854775807 := by unfold maxLen at hc3; omega
  have HC := Lib.hid hcx
  have HO := Lib.hid hown
  clear hcx hown hvs hc1 hc4
  by_cases hcn : c = n
  · subst hcn
    go_enter Try.func67, Try.ntmps67
    go_wp2_with (at_builtin; refine wpList_append_lies _ rfl _ _ 52 rfl 0 92 i0 _ 1 24 Try.underlying52 hi0 hz0 hzs hzb rfl (by decide) _ _ cs rfl HO.out ⟨vb, 0, none⟩ 1 1 [x] rfl rfl HC.out (by simpa using h1v) (by decide) (by unfold maxLen; omega) (by omega) (Nat.zero_le _) _ rfl ?_; intro g cap w5 hown5 hgrow hat hlt; have H5 := Lib.hid (And.intro hown5 (And.intro hgrow (And.intro hat hlt))); clear hown5 hgrow hat hlt)
    go_ret
    refine ⟨g, cap, rfl, H5.out.1, ?_, Touch.grown H5.out.2.1 (fun k hk => by cases hk; simp)⟩
    rcases H5.out.2.2.1 with h | h
    · cases h; exact .inl rfl
    · exact .inr (by omega)
  · have hcn2 : ¬ (c : Int) = (n : Int) := by omega
    have hcn3 : ¬ n = c := by omega
    go_enter Try.func67, Try.ntmps67
    go_wp2_with (at_builtin; refine wpList_append_lies _ rfl _ _ 52 rfl 0 92 i0 _ 1 24 Try.underlying52 hi0 hz0 hzs hzb rfl (by decide) _ _ cs rfl HO.out ⟨vb, 0, none⟩ 1 1 [x] rfl rfl HC.out (by simpa using h1v) (by decide) (by unfold maxLen; omega) (by omega) (Nat.zero_le _) _ rfl ?_; intro g cap w5 hown5 hgrow hat hlt; have H5 := Lib.hid (And.intro hown5 (And.intro hgrow (And.intro hat hlt))); clear hown5 hgrow hat hlt)
    go_ret
    refine ⟨g, cap, rfl, H5.out.1, ?_, Touch.grown H5.out.2.1 (fun k hk => by cases hk; simp)⟩
    rcases H5.out.2.2.1 with h | h
    · cases h; exact .inl rfl
    · exact .inr (by omega)
set_option maxRecDepth 100000 in
set_option maxHeartbeats 1000000 in
theorem insert_rows (vals : List Value) (ba bc vb i : Nat) (x : Value) (w : World) (hi : i ≤ vals.length) (h0 : 0 < vals.length) (hN : vals.length ≤ 1000000) (hne : vb ≠ ba) (h1c : ∀ v ∈ vals, v.oneCell' = true) (h1v : x.oneCell' = true)
    (hk : w.ownsRow 0 92 1 (.slice (some ⟨ba, 0, none⟩) vals.length bc) vals.length vals) (hv : w.heap[vb]? = some (.cells #[x] 92 (0, 0))) :
    Calls Try.prog 67 #[.slice (some ⟨ba, 0, none⟩) vals.length bc, .int .i64 (i : Nat), .slice (some ⟨vb, 0, none⟩) 1 1] w fun e w' =>
      ∃ g cap, e = .returned (.slice (some ⟨g, 0, none⟩) (vals.length + 1 : Nat) cap) ∧ w'.ownsRow 0 92 1 (.slice (some ⟨g, 0, none⟩) (vals.length + 1) cap) (vals.length + 1) (vals.take i ++ [x] ++ vals.drop i) ∧ (g = ba ∨ w.heap.size ≤ g) ∧ Touch [ba] w w' := by
  obtain ⟨cur, hg, hnc, hcm, hcs, hct, hxl⟩ := ownsRow_open hk
  rw [Nat.mul_one] at hcs hct hxl
  have hcell : ∀ j v, vals[j]? = some v → w.cell? ⟨ba, j, none⟩ = some v := fun j v hj => ownsRow_cell hk rfl hj
  by_cases he : i = vals.length
  · subst he
    refine (insR_end ba vals.length bc vb x vals w hN h0 hk hv h1v).mono ?_
    rintro e w' ⟨g, cap, h1, h2, h3, h4⟩
    exact ⟨g, cap, h1, by simpa using h2, h3, h4⟩
  · by_cases hroom : vals.length + 1 ≤ bc
    · refine (insR_shift ba vals.length bc i vb x vals w (by omega) hroom hcm hne rfl hcell (fun j hj => by rw [hp_cell hg, Array.getElem?_eq_getElem (by omega)]; rfl) (fun j => hp_free hg) hv h1c h1v cur.size (by simp [World.shape?, hg]) (by omega)).mono ?_
      rintro e w' ⟨rfl, rfl⟩
      refine ⟨ba, bc, rfl, ?_, .inl rfl, ?_⟩
      · refine ownsRow_shut (heap_setCells_row _ _ (heap_setCells_row _ _ (show w.drew.heap[ba]? = _ from hg))) hroom hcm (by rw [putA_size, putA_size, hcs, Nat.mul_one]) ?_ (by simp; omega)
        have l1 : (vals.drop i).length = vals.length - i := by simp
        rw [putA_list _ _ _ (by rw [putA_size]; simp; omega), putA_list _ _ _ (by rw [l1]; omega), l1]
        simp only [List.length_cons, List.length_nil, Nat.zero_add, Nat.mul_one]
        exact ins_list vals cur.toList x i vals.length rfl hi (by simp; omega) (by rw [← hct, List.take_take, Nat.min_eq_left (by omega)])
      · exact (touch_drew (Touch.refl [ba] w)).trans (fun _ hk => .inl hk) ((touch_setCells ba (by simp) _ _ _).trans (fun _ hk => .inl hk) (touch_setCells ba (by simp) _ _ _))
    · have hge := grownCap_ge w (vals.length + 1) bc 92
      have hle := grownCap_le_maxLen w (vals.length + 1) bc 92 (by unfold maxLen; omega)
      refine (insR_grow ba vals.length bc i vb x vals w (by omega) hnc (by omega) hN rfl hcell hv h1c h1v).mono ?_
      rintro e w' ⟨rfl, rfl⟩
      obtain ⟨G, hG⟩ : ∃ G, G = grownCap w (vals.length + 1) bc 92 := ⟨_, rfl⟩
      rw [← hG] at hge hle ⊢
      have hz := zeroSl_size (vals.length + 1 - i)
      have hz2 := zeroSl_size (G - (vals.length + 1))
      generalize Builtin.zeroCells (Value.slice none 0 0).cells (vals.length + 1 - i) = Z at hz ⊢
      generalize Builtin.zeroCells (Value.slice none 0 0).cells (G - (vals.length + 1)) = Y at hz2 ⊢
      refine ⟨w.heap.size, G, rfl, ?_, .inr (Nat.le_refl _), ?_⟩
      · refine ownsRow_shut (heap_setCells_row _ _ (heap_setCells_row _ _ (show (w.alloc (.cells _ 92)).drew.heap[w.heap.size]? = _ from heap_alloc_new w _))) hge hle (by rw [putA_size, putA_size]; simp [hz, hz2]; omega) ?_ (by simp; omega)
        have l1 : (vals.drop i).length = vals.length - i := by simp
        have l2 : (vals.take i).length = i := by simp; omega
        rw [putA_list _ _ _ (by rw [putA_size, l1]; simp [hz, hz2]; omega), putA_list _ _ _ (by simp [hz, hz2]; omega), l1]
        simp only [List.length_cons, List.length_nil, Nat.zero_add, Nat.mul_one]
        exact ins_list2 vals _ x i vals.length rfl hi (by simp [hz, hz2]; omega) (by
          simp only [Array.toList_append, List.append_assoc]
          exact List.take_left' l2)
      · exact touch_cells_new (touch_drew (touch_cells_new (touch_drew (touch_alloc (Touch.refl [ba] w) _)) _ (Nat.le_refl _) _ _)) _ (Nat.le_refl _) _ _
end Go.Proofs.Ythloohoefjmmoaa
