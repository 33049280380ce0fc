/- The law StoreLast: what is read at its end. -/
import Derived.Test.YtbfmhafmncnhfaaG18
import Derived.Test.YtbfmhafmncnhfaaG15
import Derived.Test.YtbfmhafmncnhfaaG17
import Derived.Test.YtbfmhafmncnhfaaG05
namespace Go.Proofs.Ytbfmhafmncnhfaa
open Go.RowKit Go.Maps Go.Sort

theorem lpre_take : ∀ (k b : List UInt8), b.length ≤ k.length → ((k.take b.length == b) = Lib.hasPrefix k b)
  | _, [], _ => by simp [Lib.hasPrefix]
  | [], b :: x, h => by simp at h
  | a :: k, b :: x, h => by
    have ih := lpre_take k x (by simpa using h)
    unfold Lib.hasPrefix at ih ⊢
    rw [List.length_cons, List.take_succ_cons, List.isPrefixOf_cons_cons, ← ih, Bool.eq_iff_iff]
    rw [Bool.and_eq_true, beq_iff_eq, beq_iff_eq, beq_iff_eq, List.cons_eq_cons]
    exact ⟨fun ⟨h1, h2⟩ => ⟨h1.symm, h2⟩, fun ⟨h1, h2⟩ => ⟨h1.symm, h2⟩⟩
theorem pre_ext {k b v : ByteArray} (h : b.size ≤ k.size) : ((k.extract 0 b.size).toList == b.toList) = hpre b (k, v) := by
  have h1 : b.size = b.data.toList.length := by rw [Array.length_toList]; rfl
  have h2 : k.size = k.data.toList.length := by rw [Array.length_toList]; rfl
  have e : (k.extract 0 b.size).toList = k.data.toList.take b.data.toList.length := by
    rw [Lib.toList_data, ByteArray.data_extract, Array.toList_extract, ← h1]
    show ((k.data.toList).drop 0).take (b.size - 0) = _
    rw [List.drop_zero, Nat.sub_zero]
  rw [e, Lib.toList_data, lpre_take _ _ (by omega)]
  rfl
theorem pre_short {k b v : ByteArray} (h : k.size < b.size) : hpre b (k, v) = false := by
  cases hp : hpre b (k, v) with
  | false => rfl
  | true =>
    unfold hpre Lib.hasPrefix at hp
    have := (List.isPrefixOf_iff_prefix.1 hp).length_le
    have h1 : b.size = b.data.toList.length := by rw [Array.length_toList]; rfl
    have h2 : k.size = k.data.toList.length := by rw [Array.length_toList]; rfl
    dsimp only at this
    omega
theorem cp_take {L : SL} (P : ByteArray × ByteArray → Bool) {m : Nat} (h : m < L.length) : (L.take (m + 1)).countP P = (L.take m).countP P + (if P L[m] = true then 1 else 0) := by
  rw [List.take_succ_eq_append_getElem h, List.countP_append, List.countP_singleton]
/-- All by it -/
theorem SlW.all {w W : World} {b : Nat} {key want : ByteArray} {th : Bool} {c : Nat} {L : SL} (h : SlW w W b key want th c L) (hc : c < 1000000) :
    Calls Try.prog 20 #[.pointer (some ⟨b, 0, none⟩)] W fun e w' => (∃ v, e = .returned v ∧ w'.ownsRow W.heap.size 43 2 v L.length (pcs L)) ∧ Below W.heap.size W w' := by
  obtain ⟨F, q, qs, hs, hq⟩ := h.s
  exact all_live b F L q qs W hs.s h.ks (by have := h.len; omega)
theorem SlW.under {w W : World} {b : Nat} {key want : ByteArray} {th : Bool} {c : Nat} {L : SL} (h : SlW w W b key want th c L) (hc : c < 1000000) (x : ByteArray) :
    Calls Try.prog 24 #[.pointer (some ⟨b, 0, none⟩), .string x] W fun e w' => (∃ A C, e = .returned (.slice A (L.countP (hpre x)) C)) ∧ Below W.heap.size W w' := by
  obtain ⟨F, q, qs, hs, hq⟩ := h.s
  refine (under_live b F L q qs W hs.s x h.ks (by have := h.len; omega)).mono ?_
  rintro e w' ⟨⟨v, rfl, ho⟩, hb⟩
  obtain ⟨A, C, rfl, _⟩ := row_pairs ho
  obtain ⟨bm, vb, vk, vq, _, hM⟩ := hs.s
  exact ⟨⟨A, C, by rw [under_count hM.so x]⟩, hb⟩
end Go.Proofs.Ytbfmhafmncnhfaa

namespace Go.Proofs.Ytbfmhafmncnhfaa
open Go.RowKit Go.Maps Go.Sort

set_option maxRecDepth 100000 in
set_option maxHeartbeats 4000000 in
theorem runder_walk (w W : World) (m : Nat) (L : SL) (R : List Ch) (x : ByteArray) (h : DS w W m L R) (hN : L.length < 1000000) :
    Calls Try.prog 43 #[.pointer (some ⟨m, 0, none⟩), .string x] W fun e W' => (∃ v, e = .returned v ∧ W'.ownsRow W.heap.size 43 2 v (L.filter (hpre x)).length (pcs (L.filter (hpre x)))) ∧ Below W.heap.size W W' := by
  obtain ⟨i0, hi, hz0, hz1, hz2⟩ := info_parts infoPair
  obtain ⟨vL, vP, h1, h2, h3⟩ := h.ex
  obtain ⟨A, C, rfl, hrow⟩ := row_pairs h2
  have c0 := (hp_cell (i := 0) h1).trans rfl
  have HRow := Lib.hid hrow
  obtain ⟨n, hn⟩ : ∃ n, n = L.length := ⟨_, rfl⟩
  rw [← hn] at c0
  have HN := Lib.hid hn
  have hnI : (n : Int) ≤ 1000000 := by omega
  clear h h1 h2 h3 hrow hn hN
  go_enter Try.func43, Try.ntmps43
  go_wp2
  go_loopw [5, 13] (fun v i wr => ∃ j : Nat, j ≤ n ∧ i = .int .i64 (j : Nat) ∧ wr.ownsRow W.heap.size 43 2 v ((L.take j).filter (hpre x)).length (pcs ((L.take j).filter (hpre x))) ∧ Below W.heap.size W wr) (fun _ i _ => n - (intOf i).toNat)
  case atStart => exact ⟨0, Nat.zero_le _, rfl, World.ownsRow_nil _ _ _ _, Below.refl _ _⟩
  case round =>
    obtain ⟨j, hj, rfl, hown, hbb⟩ := hrel
    have HO := Lib.hid hown
    have HB := Lib.hid hbb
    by_cases hlt : j < n
    · have p1 : (j : Int) < (n : Int) := by omega
      have hjL : j < L.length := by have := HN.out; omega
      obtain ⟨g, rfl, _, hg, hc⟩ := HRow.out (by omega)
      have a0 := (hbb.cell (p := ⟨g, j * 2, none⟩) hg).trans (hc j hjL).1
      have a1 := (hbb.cell (p := ⟨g, j * 2 + 1, none⟩) hg).trans (hc j hjL).2
      have htk : L.take (j + 1) = L.take j ++ [L[j]] := List.take_succ_eq_append_getElem hjL
      obtain ⟨p, hp⟩ : ∃ p, p = L[j] := ⟨_, rfl⟩
      rw [← hp] at a0 a1 htk
      obtain ⟨k, v⟩ := p
      simp only at a0 a1
      have hfl : (L.take (j + 1)).filter (hpre x) = (L.take j).filter (hpre x) ++ (if hpre x (k, v) = true then [(k, v)] else []) := by
        rw [htk, List.filter_append]
        congr 1
        by_cases hq : hpre x (k, v) = true
        · rw [if_pos hq, List.filter_cons_of_pos hq, List.filter_nil]
        · rw [if_neg hq, List.filter_cons_of_neg hq, List.filter_nil]
      have hX := hbb.alloc hbb.size (.cells #[.string k, .string v] 43)
      have hnx := heap_alloc_new wr (.cells #[.string k, .string v] 43)
      have HX := Lib.hid (And.intro hX (And.intro hnx hown))
      have hln : ((L.take j).filter (hpre x)).length ≤ j := by
        have := List.length_filter_le (hpre x) (L.take j)
        rw [List.length_take] at this; omega
      obtain ⟨q, hq⟩ : ∃ q, q = (L.take j).filter (hpre x) := ⟨_, rfl⟩
      rw [← hq] at hfl hln HX HO
      have HF := Lib.hid hfl
      clear hown hbb hc hp htk hX hnx hfl hq
      by_cases hsz : x.size ≤ k.size
      · have p4 : (x.size : Int) ≤ (k.size : Int) := by omega
        have hq := pre_ext (v := v) hsz
        cases hpb : hpre x (k, v) with
        | true =>
          rw [hpb] at hq
          have hcn := HF.out
          rw [hpb, if_pos rfl] at hcn
          have HCN := Lib.hid hcn
          clear hcn hpb
          go_upto_region 6 with fail
          generalize hW5 : wr.alloc (.cells #[.string k, .string v] 43) = W5
          have HX5 := HX.out
          rw [hW5] at HX5
          have y0 := (hp_cell (i := 0) HX5.2.1).trans rfl
          have y1 := (hp_cell (i := 1) HX5.2.1).trans rfl
          have ho5 := HO.out.alloc (.cells #[.string k, .string v] 43)
          rw [hW5] at ho5
          have HO5 := Lib.hid (And.intro ho5 HX5.1)
          clear hW5 ho5 HX5
          go_wp2_with (at_builtin; refine wpList_append_own _ rfl _ _ _ rfl W.heap.size 43 i0 _ 2 32 Try.underlying28 hi hz0 hz1 hz2 rfl (by omega) _ q.length (pcs q) rfl (HO5.out.1.alloc _) ⟨W5.heap.size, 0, none⟩ 1 1 [Value.string k, Value.string v] rfl rfl (World.news_of_block (cs := #[.string k, .string v]) (t := 43) (fr := (0, 0)) (heap_alloc_new W5 _)) (by simp [Value.oneCell']) (by unfold maxLen; omega) (by omega) (Nat.le_trans HO5.out.2.size (by simp)) ?_; intro v2 w6 hown2 hgrow _; have hb6 : Below W.heap.size W w6 := ((HO5.out.2.alloc HO5.out.2.size (.cells #[.string k, .string v] 43)).grown hgrow (Nat.le_trans HO5.out.2.size (by simp)) (fun q hq => (HO5.out.1.lt q hq).1)); have H6 := Lib.hid (And.intro hown2 hb6); clear hown2 hgrow hb6)
          refine ⟨⟨j + 1, by omega, by go_num, ?_, H6.out.2⟩, by simp [intOf]; omega⟩
          rw [HCN.out, List.length_append, pcs_app]
          exact H6.out.1
        | false =>
          rw [hpb] at hq
          have hcn := HF.out
          rw [hpb, if_neg (by decide), List.append_nil] at hcn
          have HCN := Lib.hid hcn
          clear hcn hpb
          go_wp2
          refine ⟨⟨j + 1, by omega, by go_num, ?_, HX.out.1⟩, by simp [intOf]; omega⟩
          rw [HCN.out]
          exact HX.out.2.2.alloc _
      · have p4 : ¬ (x.size : Int) ≤ (k.size : Int) := by omega
        have hcn := HF.out
        rw [pre_short (by omega), if_neg (by decide), List.append_nil] at hcn
        have HCN := Lib.hid hcn
        clear hcn
        go_wp2
        refine ⟨⟨j + 1, by omega, by go_num, ?_, HX.out.1⟩, by simp [intOf]; omega⟩
        rw [HCN.out]
        exact HX.out.2.2.alloc _
    · obtain rfl : j = n := by omega
      have p1 : ¬ (j : Int) < (j : Int) := by omega
      have e : L.take j = L := List.take_of_length_le (by have := HN.out; omega)
      rw [e] at HO
      clear hown hbb e
      go_wp2
      go_ret
      exact ⟨⟨_, rfl, HO.out⟩, HB.out⟩
end Go.Proofs.Ytbfmhafmncnhfaa

namespace Go.Proofs.Ytbfmhafmncnhfaa
open Go.RowKit Go.Maps Go.Sort

theorem DS.so {w W : World} {m : Nat} {L : SL} {R : List Ch} (_h : DS w W m L R) : True := trivial
/-- what an act leaves -/
def ActPost (w W W' : World) (b m : Nat) (L : SL) (R : List Ch) (L' : SL) (R' : List Ch) : Prop :=
  (∃ F, SH w W' b F L R) ∧ DS w W' m L' R' ∧ ∀ T, Foreign T → T ≠ 31 ∧ T ≠ 117 → KeepT T W W'
theorem post_ab {w W W1 W2 : World} {b m : Nat} {F : List Nat} {L L1 L1' : SL} {R R1 R1' : List Ch} (hs : SH w W b F L R) (h1 : SHTo w W W1 b F L1 R1) (h2 : DSTo w W1 W2 m L1' R1') : ActPost w W W2 b m L1 R1 L1' R1' := by
  have hk := fun (T : TypeId) (hT : Foreign T) => SHTo.keepT hs h1 hT
  obtain ⟨F', h1, _⟩ := h1
  exact ⟨⟨F', h1.other h2⟩, h2.s, fun T hT hn => (hk T hT).trans (h2.keepT hn)⟩
theorem post_ba {w W W1 W2 : World} {b m : Nat} {F : List Nat} {L L1 L1' : SL} {R R1 R1' : List Ch} (hs : SH w W b F L R) (h1 : DSTo w W W1 m L1' R1') (h2 : SHTo w W1 W2 b F L1 R1) : ActPost w W W2 b m L1 R1 L1' R1' := by
  have hs1 := hs.other h1
  have hd := h1.s.other hs1 h2
  have hk := fun (T : TypeId) (hT : Foreign T) => SHTo.keepT hs1 h2 hT
  obtain ⟨F', h2, _⟩ := h2
  exact ⟨⟨F', h2⟩, hd, fun T hT hn => (h1.keepT hn).trans (hk T hT)⟩
theorem post_below {w W W1 : World} {b m : Nat} {F : List Nat} {L L' : SL} {R R' : List Ch} (hs : SH w W b F L R) (hd : DS w W m L' R') (h : Below W.heap.size W W1) : ActPost w W W1 b m L R L' R' :=
  ⟨⟨F, hs.below h⟩, hd.below h, fun _ _ _ => KeepT.of_below h⟩
theorem ActPost.pre {w W W1 W2 : World} {b m : Nat} {L L' : SL} {R R' : List Ch} (h : ActPost w W1 W2 b m L R L' R') (hb : Below W.heap.size W W1) : ActPost w W W2 b m L R L' R' :=
  ⟨h.1, h.2.1, fun T hT hn => (KeepT.of_below hb).trans (h.2.2 T hT hn)⟩
theorem nAct08 : 33 ≠ 31 ∧ 33 ≠ 117 := ⟨by decide, by decide⟩
theorem SH.under {w W : World} {b : Nat} {F : List Nat} {L : SL} {R : List Ch} (h : SH w W b F L R) (hN : L.length < 1000000) (x : ByteArray) :
    Calls Try.prog 24 #[.pointer (some ⟨b, 0, none⟩), .string x] W fun e w' => (∃ v, e = .returned v ∧ w'.ownsRow W.heap.size 43 2 v (L.filter (hpre x)).length (pcs (L.filter (hpre x)))) ∧ Below W.heap.size W w' := by
  have h1 := under_live b F L _ _ W h.s.s x (fun p hp => (h.z p hp).1) hN
  unfold UnPost at h1
  rw [under_filter h.so x] at h1
  exact h1
set_option maxRecDepth 100000 in
set_option maxHeartbeats 8000000 in
theorem act_set (w W : World) (b m : Nat) (F : List Nat) (L L' : SL) (R R' : List Ch) (k v : ByteArray) (n : Int) (hs : SH w W b F L R) (hd : DS w W m L' R') (hr : Rising (skeys L')) (hk : k.size ≤ maxLen) (hv : v.size ≤ maxLen) (hN : L.length + 1 < 1000000) (hq : R.length < 1000000) (hN' : L'.length < 1000000) (hq' : R'.length < 1000000) :
    Calls Try.prog 11 #[.pointer (some ⟨b, 0, none⟩), .pointer (some ⟨m, 0, none⟩), .agg #[.int .i64 0, .string k, .string v, .int .i64 n]] W fun e W' => e = .returned (.bool true) ∧ ActPost w W W' b m (setE L k v) (setR L R k v) (setE L' k v) (setR L' R' k v) := by
  have hb1 := (Below.refl W.heap.size W).alloc (Nat.le_refl _) (.cells #[.int .i64 0, .string k, .string v, .int .i64 n] 33)
  have hx1 := heap_alloc_new W (.cells #[.int .i64 0, .string k, .string v, .int .i64 n] 33)
  have hs1 := hs.below hb1
  have hd1 := hd.below hb1
  have H1 := Lib.hid (And.intro hs1 (And.intro hd1 (And.intro hb1 hx1)))
  have HA := Lib.hid (And.intro hk (And.intro hv (And.intro hN (And.intro hq (And.intro hN' (And.intro hq' hr))))))
  clear hk hv hN hq hN' hq'
  obtain ⟨z, hz⟩ : ∃ z : Int, z = if k = ⟨#[]⟩ then 2 else 0 := ⟨_, rfl⟩
  have HZ := Lib.hid hz
  have q1 : (z == z) = true := beq_self_eq_true _
  clear hz
  clear hs hd hb1 hx1 hs1 hd1 hr
  go_enter Try.func11, Try.ntmps11
  go_upto_region 3 with fail
  generalize W.alloc (.cells #[.int .i64 0, .string k, .string v, .int .i64 n] 33) = W1 at H1 ⊢
  obtain ⟨x, hx⟩ : ∃ x, x = W.heap.size := ⟨_, rfl⟩
  rw [← hx] at H1 ⊢
  have HB1 : Hid (Below W.heap.size W W1) := Lib.hid (by have := H1.out.2.2.1; rw [hx] at this; exact this)
  have Hd := Lib.hid (And.intro (H1.out.1.below (Below.refl _ W1).drew) (And.intro (H1.out.2.1.below (Below.refl _ W1).drew) (show W1.drew.heap[x]? = _ from H1.out.2.2.2)))
  have HBd : Hid (Below W.heap.size W W1.drew) := Lib.hid HB1.out.drew
  clear hx H1 HB1
  refine wp_region_held_drew (S := fun w' => w'.heap[x]? = some (Obj.cells #[.int .i64 0, .string k, .string v, .int .i64 n] 33)) (by kernel_rfl) ?_ (fun hHeld => ?_)
  · exact Hd.out.2.2
  refine wpAnyH_take (i := 0) (v := ?_) rfl (by kernel_rfl) (by kernel_rfl) (by kernel_rfl) (fun _ _ _ h => h) (Or.inl ⟨by kernel_rfl, ?_⟩) (by with_reducible assumption) ?_
  rotate_left
  · intro wz hSw
    (try dsimp only at hSw)
    go_simp
    (try with_reducible rfl)
  show wpAnyH _ _ _ _ _ _ _ (Act.put _ (some 11) _) _
  (try simp only [Act.put, List.setIfInBounds_toArray, List.set_cons_zero, List.set_cons_succ])
  refine wpAnyH_take (i := 1) (v := ?_) rfl (by kernel_rfl) (by kernel_rfl) (by kernel_rfl) (fun _ _ _ h => h) (Or.inl ⟨by kernel_rfl, ?_⟩) (by with_reducible assumption) ?_
  rotate_left
  · intro wz hSw
    (try dsimp only at hSw)
    go_simp
    (try with_reducible rfl)
  show wpAnyH _ _ _ _ _ _ _ (Act.put _ (some 12) _) _
  (try simp only [Act.put, List.setIfInBounds_toArray, List.set_cons_zero, List.set_cons_succ])
  refine wpAnyH_take (i := 2) (v := .string k) rfl (by kernel_rfl) (by kernel_rfl) (by kernel_rfl) (fun _ _ _ h => h) (Or.inl ⟨by kernel_rfl, ?_⟩) (by with_reducible assumption) ?_
  · intro wz hSw
    (try dsimp only at hSw)
    have y0 := (hp_cell (i := 1) hSw).trans rfl
    go_simp
    (try with_reducible rfl)
  show wpAnyH _ _ _ _ _ _ _ (Act.put _ (some 13) _) _
  (try simp only [Act.put, List.setIfInBounds_toArray, List.set_cons_zero, List.set_cons_succ])
  refine wpAnyH_take (i := 3) (v := ?_) rfl (by kernel_rfl) (by kernel_rfl) (by kernel_rfl) (fun _ _ _ h => h) (Or.inl ⟨by kernel_rfl, ?_⟩) (by with_reducible assumption) ?_
  rotate_left
  · intro wz hSw
    (try dsimp only at hSw)
    go_simp
    (try with_reducible rfl)
  show wpAnyH _ _ _ _ _ _ _ (Act.put _ (some 14) _) _
  (try simp only [Act.put, List.setIfInBounds_toArray, List.set_cons_zero, List.set_cons_succ])
  refine wpAnyH_take (i := 4) (v := .string v) rfl (by kernel_rfl) (by kernel_rfl) (by kernel_rfl) (fun _ _ _ h => h) (Or.inl ⟨by kernel_rfl, ?_⟩) (by with_reducible assumption) ?_
  · intro wz hSw
    (try dsimp only at hSw)
    have y0 := (hp_cell (i := 2) hSw).trans rfl
    go_simp
    (try with_reducible rfl)
  show wpAnyH _ _ _ _ _ _ _ (Act.put _ (some 15) _) _
  (try simp only [Act.put, List.setIfInBounds_toArray, List.set_cons_zero, List.set_cons_succ])
  refine wpAnyH_take (i := 6) (v := ?_) rfl (by kernel_rfl) (by kernel_rfl) (by kernel_rfl) (fun _ _ _ h => h) (Or.inl ⟨by kernel_rfl, ?_⟩) (by with_reducible assumption) ?_
  rotate_left
  · intro wz hSw
    (try dsimp only at hSw)
    go_simp
    (try with_reducible rfl)
  show wpAnyH _ _ _ _ _ _ _ (Act.put _ (some 17) _) _
  (try simp only [Act.put, List.setIfInBounds_toArray, List.set_cons_zero, List.set_cons_succ])
  refine wpAnyH_take (i := 7) (v := ?_) rfl (by kernel_rfl) (by kernel_rfl) (by kernel_rfl) (fun _ _ _ h => h) (Or.inl ⟨by kernel_rfl, ?_⟩) (by with_reducible assumption) ?_
  rotate_left
  · intro wz hSw
    (try dsimp only at hSw)
    go_simp
    (try with_reducible rfl)
  show wpAnyH _ _ _ _ _ _ _ (Act.put _ (some 18) _) _
  (try simp only [Act.put, List.setIfInBounds_toArray, List.set_cons_zero, List.set_cons_succ])
  refine wpAnyH_take (i := 8) (v := .string k) rfl (by kernel_rfl) (by kernel_rfl) (by kernel_rfl) (fun _ _ _ h => h) (Or.inl ⟨by kernel_rfl, ?_⟩) (by with_reducible assumption) ?_
  · intro wz hSw
    (try dsimp only at hSw)
    have y0 := (hp_cell (i := 1) hSw).trans rfl
    go_simp
    (try with_reducible rfl)
  show wpAnyH _ _ _ _ _ _ _ (Act.put _ (some 19) _) _
  (try simp only [Act.put, List.setIfInBounds_toArray, List.set_cons_zero, List.set_cons_succ])
  refine wpAnyH_take (i := 9) (v := ?_) rfl (by kernel_rfl) (by kernel_rfl) (by kernel_rfl) (fun _ _ _ h => h) (Or.inl ⟨by kernel_rfl, ?_⟩) (by with_reducible assumption) ?_
  rotate_left
  · intro wz hSw
    (try dsimp only at hSw)
    go_simp
    (try with_reducible rfl)
  show wpAnyH _ _ _ _ _ _ _ (Act.put _ (some 20) _) _
  (try simp only [Act.put, List.setIfInBounds_toArray, List.set_cons_zero, List.set_cons_succ])
  refine wpAnyH_take (i := 10) (v := .string v) rfl (by kernel_rfl) (by kernel_rfl) (by kernel_rfl) (fun _ _ _ h => h) (Or.inl ⟨by kernel_rfl, ?_⟩) (by with_reducible assumption) ?_
  · intro wz hSw
    (try dsimp only at hSw)
    have y0 := (hp_cell (i := 2) hSw).trans rfl
    go_simp
    (try with_reducible rfl)
  show wpAnyH _ _ _ _ _ _ _ (Act.put _ (some 21) _) _
  (try simp only [Act.put, List.setIfInBounds_toArray, List.set_cons_zero, List.set_cons_succ])
  refine wpAnyH_ready (rs := [5]) (by kernel_rfl) (by simp) ?_
  refine AllReadyH.cons rfl (fun K hK => ?_) AllReadyH.nil
  clear hHeld
  go_simp
  go_at_call 22
  refine (SH.set Hd.out.1 k v HA.out.1 HA.out.2.1 HA.out.2.2.1 HA.out.2.2.2.1).mono ?_
  rintro e W2 ⟨he, h2⟩
  rw [← HZ.out] at he
  subst he
  have r2 := (SHTo.keepT Hd.out.1 h2 fAct08).2 _ _ _ Hd.out.2.2
  have HR2 := Lib.hid r2
  have S2 := Lib.hid h2
  have D2 := Lib.hid (Hd.out.2.1.other Hd.out.1 h2)
  clear h2 r2
  go_wp2_with fail
  refine hK.out _ _ ?_ (fun hHeld => ?_)
  · exact HR2.out
  clear hK K
  (try simp only [Act.put, List.setIfInBounds_toArray, List.set_cons_zero, List.set_cons_succ])
  refine wpAnyH_ready (rs := [11]) (by kernel_rfl) (by simp) ?_
  refine AllReadyH.cons rfl (fun K hK => ?_) AllReadyH.nil
  clear hHeld
  go_simp
  go_at_call 39
  refine (rset_walk w _ m L' R' k v D2.out HA.out.2.2.2.2.2.2 HA.out.2.2.2.2.1 HA.out.2.2.2.2.2.1).mono ?_
  rintro e W3 ⟨he, h3⟩
  rw [← HZ.out] at he
  subst he
  have r3 := (h3.keepT nAct08).2 _ _ _ HR2.out
  have HR3 := Lib.hid r3
  have HP := Lib.hid ((post_ab Hd.out.1 S2.out h3).pre HBd.out)
  clear h3 r3
  go_wp2_with fail
  refine hK.out _ _ ?_ (fun hHeld => ?_)
  · exact HR3.out
  clear hK K
  (try simp only [Act.put, List.setIfInBounds_toArray, List.set_cons_zero, List.set_cons_succ])
  refine wpAnyH_take (i := 12) (v := ?_) rfl (by kernel_rfl) (by kernel_rfl) (by kernel_rfl) (fun _ _ _ h => h) (Or.inl ⟨by kernel_rfl, ?_⟩) (by with_reducible assumption) ?_
  rotate_left
  · intro wz hSw
    (try dsimp only at hSw)
    go_simp
    (try with_reducible rfl)
  show wpAnyH _ _ _ _ _ _ _ (Act.put _ (some 23) _) _
  (try simp only [Act.put, List.setIfInBounds_toArray, List.set_cons_zero, List.set_cons_succ])
  refine wpAnyH_take (i := 13) (v := ?_) rfl (by kernel_rfl) (by kernel_rfl) (by kernel_rfl) (fun _ _ _ h => h) (Or.inl ⟨by kernel_rfl, ?_⟩) (by with_reducible assumption) ?_
  rotate_left
  · intro wz hSw
    (try dsimp only at hSw)
    go_simp
    (try with_reducible rfl)
  show wpAnyH _ _ _ _ _ _ _ (Act.put _ (some 6) _) _
  (try simp only [Act.put, List.setIfInBounds_toArray, List.set_cons_zero, List.set_cons_succ])
  refine wpAnyH_done (by kernel_rfl) ?_ _
  go_wp2_with fail
  go_ret
  exact ⟨rfl, HP.out⟩
set_option maxRecDepth 100000 in
set_option maxHeartbeats 8000000 in
theorem act_del (w W : World) (b m : Nat) (F : List Nat) (L L' : SL) (R R' : List Ch) (k v : ByteArray) (n : Int) (hs : SH w W b F L R) (hd : DS w W m L' R') (hr : Rising (skeys L')) (hk : k.size ≤ maxLen) (hN : L.length < 1000000) (hq : R.length < 1000000) (hN' : L'.length < 1000000) (hq' : R'.length < 1000000) :
    Calls Try.prog 11 #[.pointer (some ⟨b, 0, none⟩), .pointer (some ⟨m, 0, none⟩), .agg #[.int .i64 1, .string k, .string v, .int .i64 n]] W fun e W' => e = .returned (.bool ((sget L k).isSome == (sget L' k).isSome)) ∧ ActPost w W W' b m (sdel L k) (delR L R k) (sdel L' k) (delR L' R' k) := by
  have hb1 := (Below.refl W.heap.size W).alloc (Nat.le_refl _) (.cells #[.int .i64 1, .string k, .string v, .int .i64 n] 33)
  have hx1 := heap_alloc_new W (.cells #[.int .i64 1, .string k, .string v, .int .i64 n] 33)
  have hs1 := hs.below hb1
  have hd1 := hd.below hb1
  have H1 := Lib.hid (And.intro hs1 (And.intro hd1 (And.intro hb1 hx1)))
  have HA := Lib.hid (And.intro hk (And.intro hN (And.intro hq (And.intro hN' (And.intro hq' hr)))))
  clear hk hN hq hN' hq'
  obtain ⟨z1, hz1⟩ : ∃ z : Bool, z = (sget L k).isSome := ⟨_, rfl⟩
  obtain ⟨z2, hz2⟩ : ∃ z : Bool, z = (sget L' k).isSome := ⟨_, rfl⟩
  rw [← hz1, ← hz2]
  have HZ := Lib.hid (And.intro hz1 hz2)
  clear hz1 hz2
  clear hs hd hb1 hx1 hs1 hd1 hr
  go_enter Try.func11, Try.ntmps11
  go_upto_region 5 with fail
  generalize W.alloc (.cells #[.int .i64 1, .string k, .string v, .int .i64 n] 33) = W1 at H1 ⊢
  obtain ⟨x, hx⟩ : ∃ x, x = W.heap.size := ⟨_, rfl⟩
  rw [← hx] at H1 ⊢
  have HB1 : Hid (Below W.heap.size W W1) := Lib.hid (by have := H1.out.2.2.1; rw [hx] at this; exact this)
  have Hd := Lib.hid (And.intro (H1.out.1.below (Below.refl _ W1).drew) (And.intro (H1.out.2.1.below (Below.refl _ W1).drew) (show W1.drew.heap[x]? = _ from H1.out.2.2.2)))
  have HBd : Hid (Below W.heap.size W W1.drew) := Lib.hid HB1.out.drew
  clear hx H1 HB1
  refine wp_region_held_drew (S := fun w' => w'.heap[x]? = some (Obj.cells #[.int .i64 1, .string k, .string v, .int .i64 n] 33)) (by kernel_rfl) ?_ (fun hHeld => ?_)
  · exact Hd.out.2.2
  refine wpAnyH_take (i := 0) (v := ?_) rfl (by kernel_rfl) (by kernel_rfl) (by kernel_rfl) (fun _ _ _ h => h) (Or.inl ⟨by kernel_rfl, ?_⟩) (by with_reducible assumption) ?_
  rotate_left
  · intro wz hSw
    (try dsimp only at hSw)
    go_simp
    (try with_reducible rfl)
  show wpAnyH _ _ _ _ _ _ _ (Act.put _ (some 26) _) _
  (try simp only [Act.put, List.setIfInBounds_toArray, List.set_cons_zero, List.set_cons_succ])
  refine wpAnyH_take (i := 1) (v := ?_) rfl (by kernel_rfl) (by kernel_rfl) (by kernel_rfl) (fun _ _ _ h => h) (Or.inl ⟨by kernel_rfl, ?_⟩) (by with_reducible assumption) ?_
  rotate_left
  · intro wz hSw
    (try dsimp only at hSw)
    go_simp
    (try with_reducible rfl)
  show wpAnyH _ _ _ _ _ _ _ (Act.put _ (some 27) _) _
  (try simp only [Act.put, List.setIfInBounds_toArray, List.set_cons_zero, List.set_cons_succ])
  refine wpAnyH_take (i := 2) (v := .string k) rfl (by kernel_rfl) (by kernel_rfl) (by kernel_rfl) (fun _ _ _ h => h) (Or.inl ⟨by kernel_rfl, ?_⟩) (by with_reducible assumption) ?_
  · intro wz hSw
    (try dsimp only at hSw)
    have y0 := (hp_cell (i := 1) hSw).trans rfl
    go_simp
    (try with_reducible rfl)
  show wpAnyH _ _ _ _ _ _ _ (Act.put _ (some 28) _) _
  (try simp only [Act.put, List.setIfInBounds_toArray, List.set_cons_zero, List.set_cons_succ])
  refine wpAnyH_take (i := 4) (v := ?_) rfl (by kernel_rfl) (by kernel_rfl) (by kernel_rfl) (fun _ _ _ h => h) (Or.inl ⟨by kernel_rfl, ?_⟩) (by with_reducible assumption) ?_
  rotate_left
  · intro wz hSw
    (try dsimp only at hSw)
    go_simp
    (try with_reducible rfl)
  show wpAnyH _ _ _ _ _ _ _ (Act.put _ (some 30) _) _
  (try simp only [Act.put, List.setIfInBounds_toArray, List.set_cons_zero, List.set_cons_succ])
  refine wpAnyH_take (i := 5) (v := ?_) rfl (by kernel_rfl) (by kernel_rfl) (by kernel_rfl) (fun _ _ _ h => h) (Or.inl ⟨by kernel_rfl, ?_⟩) (by with_reducible assumption) ?_
  rotate_left
  · intro wz hSw
    (try dsimp only at hSw)
    go_simp
    (try with_reducible rfl)
  show wpAnyH _ _ _ _ _ _ _ (Act.put _ (some 31) _) _
  (try simp only [Act.put, List.setIfInBounds_toArray, List.set_cons_zero, List.set_cons_succ])
  refine wpAnyH_take (i := 6) (v := .string k) rfl (by kernel_rfl) (by kernel_rfl) (by kernel_rfl) (fun _ _ _ h => h) (Or.inl ⟨by kernel_rfl, ?_⟩) (by with_reducible assumption) ?_
  · intro wz hSw
    (try dsimp only at hSw)
    have y0 := (hp_cell (i := 1) hSw).trans rfl
    go_simp
    (try with_reducible rfl)
  show wpAnyH _ _ _ _ _ _ _ (Act.put _ (some 32) _) _
  (try simp only [Act.put, List.setIfInBounds_toArray, List.set_cons_zero, List.set_cons_succ])
  refine wpAnyH_ready (rs := [3]) (by kernel_rfl) (by simp) ?_
  refine AllReadyH.cons rfl (fun K hK => ?_) AllReadyH.nil
  clear hHeld
  go_simp
  go_at_call 23
  refine (SH.del Hd.out.1 k HA.out.1 HA.out.2.1 HA.out.2.2.1).mono ?_
  rintro e W2 ⟨he, h2⟩
  rw [← HZ.out.1] at he
  subst he
  have r2 := (SHTo.keepT Hd.out.1 h2 fAct08).2 _ _ _ Hd.out.2.2
  have HR2 := Lib.hid r2
  have S2 := Lib.hid h2
  have D2 := Lib.hid (Hd.out.2.1.other Hd.out.1 h2)
  clear h2 r2
  go_wp2_with fail
  refine hK.out _ _ ?_ (fun hHeld => ?_)
  · exact HR2.out
  clear hK K
  (try simp only [Act.put, List.setIfInBounds_toArray, List.set_cons_zero, List.set_cons_succ])
  refine wpAnyH_ready (rs := [7]) (by kernel_rfl) (by simp) ?_
  refine AllReadyH.cons rfl (fun K hK => ?_) AllReadyH.nil
  clear hHeld
  go_simp
  go_at_call 40
  refine (rdel_walk w _ m L' R' k D2.out HA.out.2.2.2.2.2 HA.out.2.2.2.1 HA.out.2.2.2.2.1).mono ?_
  rintro e W3 ⟨he, h3⟩
  rw [← HZ.out.2] at he
  subst he
  have r3 := (h3.keepT nAct08).2 _ _ _ HR2.out
  have HR3 := Lib.hid r3
  have HP := Lib.hid ((post_ab Hd.out.1 S2.out h3).pre HBd.out)
  clear h3 r3
  go_wp2_with fail
  refine hK.out _ _ ?_ (fun hHeld => ?_)
  · exact HR3.out
  clear hK K
  (try simp only [Act.put, List.setIfInBounds_toArray, List.set_cons_zero, List.set_cons_succ])
  refine wpAnyH_take (i := 8) (v := ?_) rfl (by kernel_rfl) (by kernel_rfl) (by kernel_rfl) (fun _ _ _ h => h) (Or.inl ⟨by kernel_rfl, ?_⟩) (by with_reducible assumption) ?_
  rotate_left
  · intro wz hSw
    (try dsimp only at hSw)
    go_simp
    (try with_reducible rfl)
  show wpAnyH _ _ _ _ _ _ _ (Act.put _ (some 34) _) _
  (try simp only [Act.put, List.setIfInBounds_toArray, List.set_cons_zero, List.set_cons_succ])
  refine wpAnyH_take (i := 9) (v := ?_) rfl (by kernel_rfl) (by kernel_rfl) (by kernel_rfl) (fun _ _ _ h => h) (Or.inl ⟨by kernel_rfl, ?_⟩) (by with_reducible assumption) ?_
  rotate_left
  · intro wz hSw
    (try dsimp only at hSw)
    go_simp
    (try with_reducible rfl)
  show wpAnyH _ _ _ _ _ _ _ (Act.put _ (some 6) _) _
  (try simp only [Act.put, List.setIfInBounds_toArray, List.set_cons_zero, List.set_cons_succ])
  refine wpAnyH_done (by kernel_rfl) ?_ _
  go_wp2_with fail
  go_ret
  exact ⟨rfl, HP.out⟩
set_option maxRecDepth 100000 in
set_option maxHeartbeats 8000000 in
theorem act_undo (w W : World) (b m : Nat) (F : List Nat) (L L' : SL) (R R' : List Ch) (k v : ByteArray) (n : Int) (hs : SH w W b F L R) (hd : DS w W m L' R') (hr : Rising (skeys L')) (hn : -9223372036854775808 ≤ n ∧ n < 2 ^ 63) (hq : R.length < 1000000) (hN' : L'.length + R'.length < 1000000) :
    Calls Try.prog 11 #[.pointer (some ⟨b, 0, none⟩), .pointer (some ⟨m, 0, none⟩), .agg #[.int .i64 2, .string k, .string v, .int .i64 n]] W fun e W' => e = .returned (.bool (decide (0 ≤ n ∧ n ≤ (R.length : Int)) == decide (0 ≤ n ∧ n ≤ (R'.length : Int)))) ∧ ActPost w W W' b m (und L R (undD R n)) (R.drop (undD R n)) (und L' R' (undD R' n)) (R'.drop (undD R' n)) := by
  have hb1 := (Below.refl W.heap.size W).alloc (Nat.le_refl _) (.cells #[.int .i64 2, .string k, .string v, .int .i64 n] 33)
  have hx1 := heap_alloc_new W (.cells #[.int .i64 2, .string k, .string v, .int .i64 n] 33)
  have hs1 := hs.below hb1
  have hd1 := hd.below hb1
  have H1 := Lib.hid (And.intro hs1 (And.intro hd1 (And.intro hb1 hx1)))
  have HA := Lib.hid (And.intro hn (And.intro hq (And.intro hN' hr)))
  clear hn hq hN'
  obtain ⟨z1, hz1⟩ : ∃ z : Bool, z = decide (0 ≤ n ∧ n ≤ (R.length : Int)) := ⟨_, rfl⟩
  obtain ⟨z2, hz2⟩ : ∃ z : Bool, z = decide (0 ≤ n ∧ n ≤ (R'.length : Int)) := ⟨_, rfl⟩
  rw [← hz1, ← hz2]
  have HZ := Lib.hid (And.intro hz1 hz2)
  clear hz1 hz2
  clear hs hd hb1 hx1 hs1 hd1 hr
  go_enter Try.func11, Try.ntmps11
  go_upto_region 7 with fail
  generalize W.alloc (.cells #[.int .i64 2, .string k, .string v, .int .i64 n] 33) = W1 at H1 ⊢
  obtain ⟨x, hx⟩ : ∃ x, x = W.heap.size := ⟨_, rfl⟩
  rw [← hx] at H1 ⊢
  have HB1 : Hid (Below W.heap.size W W1) := Lib.hid (by have := H1.out.2.2.1; rw [hx] at this; exact this)
  have Hd := Lib.hid (And.intro (H1.out.1.below (Below.refl _ W1).drew) (And.intro (H1.out.2.1.below (Below.refl _ W1).drew) (show W1.drew.heap[x]? = _ from H1.out.2.2.2)))
  have HBd : Hid (Below W.heap.size W W1.drew) := Lib.hid HB1.out.drew
  clear hx H1 HB1
  refine wp_region_held_drew (S := fun w' => w'.heap[x]? = some (Obj.cells #[.int .i64 2, .string k, .string v, .int .i64 n] 33)) (by kernel_rfl) ?_ (fun hHeld => ?_)
  · exact Hd.out.2.2
  refine wpAnyH_take (i := 0) (v := ?_) rfl (by kernel_rfl) (by kernel_rfl) (by kernel_rfl) (fun _ _ _ h => h) (Or.inl ⟨by kernel_rfl, ?_⟩) (by with_reducible assumption) ?_
  rotate_left
  · intro wz hSw
    (try dsimp only at hSw)
    go_simp
    (try with_reducible rfl)
  show wpAnyH _ _ _ _ _ _ _ (Act.put _ (some 37) _) _
  (try simp only [Act.put, List.setIfInBounds_toArray, List.set_cons_zero, List.set_cons_succ])
  refine wpAnyH_take (i := 1) (v := ?_) rfl (by kernel_rfl) (by kernel_rfl) (by kernel_rfl) (fun _ _ _ h => h) (Or.inl ⟨by kernel_rfl, ?_⟩) (by with_reducible assumption) ?_
  rotate_left
  · intro wz hSw
    (try dsimp only at hSw)
    go_simp
    (try with_reducible rfl)
  show wpAnyH _ _ _ _ _ _ _ (Act.put _ (some 38) _) _
  (try simp only [Act.put, List.setIfInBounds_toArray, List.set_cons_zero, List.set_cons_succ])
  refine wpAnyH_take (i := 2) (v := .int .i64 n) rfl (by kernel_rfl) (by kernel_rfl) (by kernel_rfl) (fun _ _ _ h => h) (Or.inl ⟨by kernel_rfl, ?_⟩) (by with_reducible assumption) ?_
  · intro wz hSw
    (try dsimp only at hSw)
    have y0 := (hp_cell (i := 3) hSw).trans rfl
    go_simp
    (try with_reducible rfl)
  show wpAnyH _ _ _ _ _ _ _ (Act.put _ (some 39) _) _
  (try simp only [Act.put, List.setIfInBounds_toArray, List.set_cons_zero, List.set_cons_succ])
  refine wpAnyH_take (i := 4) (v := ?_) rfl (by kernel_rfl) (by kernel_rfl) (by kernel_rfl) (fun _ _ _ h => h) (Or.inl ⟨by kernel_rfl, ?_⟩) (by with_reducible assumption) ?_
  rotate_left
  · intro wz hSw
    (try dsimp only at hSw)
    go_simp
    (try with_reducible rfl)
  show wpAnyH _ _ _ _ _ _ _ (Act.put _ (some 41) _) _
  (try simp only [Act.put, List.setIfInBounds_toArray, List.set_cons_zero, List.set_cons_succ])
  refine wpAnyH_take (i := 5) (v := ?_) rfl (by kernel_rfl) (by kernel_rfl) (by kernel_rfl) (fun _ _ _ h => h) (Or.inl ⟨by kernel_rfl, ?_⟩) (by with_reducible assumption) ?_
  rotate_left
  · intro wz hSw
    (try dsimp only at hSw)
    go_simp
    (try with_reducible rfl)
  show wpAnyH _ _ _ _ _ _ _ (Act.put _ (some 42) _) _
  (try simp only [Act.put, List.setIfInBounds_toArray, List.set_cons_zero, List.set_cons_succ])
  refine wpAnyH_take (i := 6) (v := .int .i64 n) rfl (by kernel_rfl) (by kernel_rfl) (by kernel_rfl) (fun _ _ _ h => h) (Or.inl ⟨by kernel_rfl, ?_⟩) (by with_reducible assumption) ?_
  · intro wz hSw
    (try dsimp only at hSw)
    have y0 := (hp_cell (i := 3) hSw).trans rfl
    go_simp
    (try with_reducible rfl)
  show wpAnyH _ _ _ _ _ _ _ (Act.put _ (some 43) _) _
  (try simp only [Act.put, List.setIfInBounds_toArray, List.set_cons_zero, List.set_cons_succ])
  refine wpAnyH_ready (rs := [3]) (by kernel_rfl) (by simp) ?_
  refine AllReadyH.cons rfl (fun K hK => ?_) AllReadyH.nil
  clear hHeld
  go_simp
  go_at_call 21
  refine (SH.undo Hd.out.1 n HA.out.1 HA.out.2.1).mono ?_
  rintro e W2 ⟨he, h2⟩
  rw [← HZ.out.1] at he
  subst he
  have r2 := (SHTo.keepT Hd.out.1 h2 fAct08).2 _ _ _ Hd.out.2.2
  have HR2 := Lib.hid r2
  have S2 := Lib.hid h2
  have D2 := Lib.hid (Hd.out.2.1.other Hd.out.1 h2)
  clear h2 r2
  go_wp2_with fail
  refine hK.out _ _ ?_ (fun hHeld => ?_)
  · exact HR2.out
  clear hK K
  (try simp only [Act.put, List.setIfInBounds_toArray, List.set_cons_zero, List.set_cons_succ])
  refine wpAnyH_ready (rs := [7]) (by kernel_rfl) (by simp) ?_
  refine AllReadyH.cons rfl (fun K hK => ?_) AllReadyH.nil
  clear hHeld
  go_simp
  go_at_call 41
  refine (rundo_walk w _ m L' R' n D2.out HA.out.2.2.2 HA.out.2.2.1).mono ?_
  rintro e W3 ⟨he, h3⟩
  rw [← HZ.out.2] at he
  subst he
  have r3 := (h3.keepT nAct08).2 _ _ _ HR2.out
  have HR3 := Lib.hid r3
  have HP := Lib.hid ((post_ab Hd.out.1 S2.out h3).pre HBd.out)
  clear h3 r3
  go_wp2_with fail
  refine hK.out _ _ ?_ (fun hHeld => ?_)
  · exact HR3.out
  clear hK K
  (try simp only [Act.put, List.setIfInBounds_toArray, List.set_cons_zero, List.set_cons_succ])
  refine wpAnyH_take (i := 8) (v := ?_) rfl (by kernel_rfl) (by kernel_rfl) (by kernel_rfl) (fun _ _ _ h => h) (Or.inl ⟨by kernel_rfl, ?_⟩) (by with_reducible assumption) ?_
  rotate_left
  · intro wz hSw
    (try dsimp only at hSw)
    go_simp
    (try with_reducible rfl)
  show wpAnyH _ _ _ _ _ _ _ (Act.put _ (some 45) _) _
  (try simp only [Act.put, List.setIfInBounds_toArray, List.set_cons_zero, List.set_cons_succ])
  refine wpAnyH_take (i := 9) (v := ?_) rfl (by kernel_rfl) (by kernel_rfl) (by kernel_rfl) (fun _ _ _ h => h) (Or.inl ⟨by kernel_rfl, ?_⟩) (by with_reducible assumption) ?_
  rotate_left
  · intro wz hSw
    (try dsimp only at hSw)
    go_simp
    (try with_reducible rfl)
  show wpAnyH _ _ _ _ _ _ _ (Act.put _ (some 6) _) _
  (try simp only [Act.put, List.setIfInBounds_toArray, List.set_cons_zero, List.set_cons_succ])
  refine wpAnyH_done (by kernel_rfl) ?_ _
  go_wp2_with fail
  go_ret
  exact ⟨rfl, HP.out⟩
theorem past_nil {w W : World} {m : Nat} {L : SL} {R : List Ch} (h : DS w W m L R) : DSTo w W (W.setCell ⟨m, 1, none⟩ (.slice none 0 0)) m L [] := by
  obtain ⟨vL, vP, h1, h2, h3⟩ := h.ex
  exact past_done h h1 (Below.refl _ _) (W5 := W) ⟨rfl, rfl, rfl, Nat.le_refl _, fun _ _ _ => rfl⟩ (World.ownsRow_nil _ _ _ _)
theorem ActPost.post {w W W1 W2 : World} {b m : Nat} {L L' : SL} {R R' : List Ch} (h : ActPost w W W1 b m L R L' R') (hb : Below W1.heap.size W1 W2) : ActPost w W W2 b m L R L' R' := by
  obtain ⟨⟨F, h1⟩, h2, h3⟩ := h
  exact ⟨⟨F, h1.below hb⟩, h2.below hb, fun T hT hn => (h3 T hT hn).trans (KeepT.of_below hb)⟩
set_option maxRecDepth 100000 in
set_option maxHeartbeats 8000000 in
theorem act_other (w W : World) (b m : Nat) (F : List Nat) (L L' : SL) (R R' : List Ch) (kd : Int) (k v : ByteArray) (n : Int) (hs : SH w W b F L R) (hd : DS w W m L' R') (hN : L.length < 1000000) (hN' : L'.length < 1000000) (hk0 : kd ≠ 0) (hk1 : kd ≠ 1) (hk2 : kd ≠ 2) (hk3 : kd ≠ 3) :
    Calls Try.prog 11 #[.pointer (some ⟨b, 0, none⟩), .pointer (some ⟨m, 0, none⟩), .agg #[.int .i64 kd, .string k, .string v, .int .i64 n]] W fun e W' => e = .returned (.bool (decide (L.filter (hpre k) = L'.filter (hpre k)))) ∧ ActPost w W W' b m L R L' R' := by
  have hb1 := (Below.refl W.heap.size W).alloc (Nat.le_refl _) (.cells #[.int .i64 kd, .string k, .string v, .int .i64 n] 33)
  have hx1 := heap_alloc_new W (.cells #[.int .i64 kd, .string k, .string v, .int .i64 n] 33)
  have hs1 := hs.below hb1
  have hd1 := hd.below hb1
  have H1 := Lib.hid (And.intro hs1 (And.intro hd1 (And.intro hb1 hx1)))
  have HA := Lib.hid (And.intro hN hN')
  obtain ⟨l1, hl1⟩ : ∃ l, l = L.filter (hpre k) := ⟨_, rfl⟩
  obtain ⟨l2, hl2⟩ : ∃ l, l = L'.filter (hpre k) := ⟨_, rfl⟩
  rw [← hl1, ← hl2]
  have HLn : Hid (l1.length < 1000000) := Lib.hid (by rw [hl1]; have := List.length_filter_le (hpre k) L; omega)
  have HLs := Lib.hid (And.intro hl1 hl2)
  obtain ⟨T, hT⟩ : ∃ T : Bool, T = decide (l1 = l2) := ⟨_, rfl⟩
  rw [← hT]
  have HT : Hid (T = true ↔ l1 = l2) := Lib.hid (by rw [hT]; exact decide_eq_true_iff)
  clear hs hd hb1 hx1 hs1 hd1 hN hN' hl1 hl2 hT
  have z0 : (kd == 0) = false := beq_eq_false_iff_ne.2 hk0
  have z1 : (kd == 1) = false := beq_eq_false_iff_ne.2 hk1
  have z2 : (kd == 2) = false := beq_eq_false_iff_ne.2 hk2
  have z3 : (kd == 3) = false := beq_eq_false_iff_ne.2 hk3
  clear hk0 hk1 hk2 hk3
  go_enter Try.func11, Try.ntmps11
  go_upto_region 11 with fail
  generalize W.alloc (.cells #[.int .i64 kd, .string k, .string v, .int .i64 n] 33) = W1 at H1 ⊢
  obtain ⟨x, hx⟩ : ∃ x, x = W.heap.size := ⟨_, rfl⟩
  rw [← hx] at H1 ⊢
  have HB1 : Hid (Below W.heap.size W W1) := Lib.hid (by have := H1.out.2.2.1; rw [hx] at this; exact this)
  clear hx
  have Hd := Lib.hid (And.intro (H1.out.1.below (Below.refl _ W1).drew) (And.intro (H1.out.2.1.below (Below.refl _ W1).drew) (show W1.drew.heap[x]? = _ from H1.out.2.2.2)))
  have HP := Lib.hid ((post_below Hd.out.1 Hd.out.2.1 (Below.refl _ _)).pre HB1.out.drew)
  clear H1 HB1
  refine wp_region_held_drew (S := fun w' => w'.heap[x]? = some (Obj.cells #[.int .i64 kd, .string k, .string v, .int .i64 n] 33)) (by kernel_rfl) ?_ (fun hHeld => ?_)
  · exact Hd.out.2.2
  refine wpAnyH_take (i := 0) (v := ?_) rfl (by kernel_rfl) (by kernel_rfl) (by kernel_rfl) (fun _ _ _ h => h) (Or.inl ⟨by kernel_rfl, ?_⟩) (by with_reducible assumption) ?_
  rotate_left
  · intro wz hSw
    (try dsimp only at hSw)
    go_simp
    (try with_reducible rfl)
  show wpAnyH _ _ _ _ _ _ _ (Act.put _ (some 53) _) _
  (try simp only [Act.put, List.setIfInBounds_toArray, List.set_cons_zero, List.set_cons_succ])
  refine wpAnyH_take (i := 1) (v := ?_) rfl (by kernel_rfl) (by kernel_rfl) (by kernel_rfl) (fun _ _ _ h => h) (Or.inl ⟨by kernel_rfl, ?_⟩) (by with_reducible assumption) ?_
  rotate_left
  · intro wz hSw
    (try dsimp only at hSw)
    go_simp
    (try with_reducible rfl)
  show wpAnyH _ _ _ _ _ _ _ (Act.put _ (some 54) _) _
  (try simp only [Act.put, List.setIfInBounds_toArray, List.set_cons_zero, List.set_cons_succ])
  refine wpAnyH_take (i := 2) (v := .string k) rfl (by kernel_rfl) (by kernel_rfl) (by kernel_rfl) (fun _ _ _ h => h) (Or.inl ⟨by kernel_rfl, ?_⟩) (by with_reducible assumption) ?_
  · intro wz hSw
    (try dsimp only at hSw)
    have y0 := (hp_cell (i := 1) hSw).trans rfl
    go_simp
    (try with_reducible rfl)
  show wpAnyH _ _ _ _ _ _ _ (Act.put _ (some 55) _) _
  (try simp only [Act.put, List.setIfInBounds_toArray, List.set_cons_zero, List.set_cons_succ])
  refine wpAnyH_take (i := 4) (v := ?_) rfl (by kernel_rfl) (by kernel_rfl) (by kernel_rfl) (fun _ _ _ h => h) (Or.inl ⟨by kernel_rfl, ?_⟩) (by with_reducible assumption) ?_
  rotate_left
  · intro wz hSw
    (try dsimp only at hSw)
    go_simp
    (try with_reducible rfl)
  show wpAnyH _ _ _ _ _ _ _ (Act.put _ (some 57) _) _
  (try simp only [Act.put, List.setIfInBounds_toArray, List.set_cons_zero, List.set_cons_succ])
  refine wpAnyH_take (i := 5) (v := ?_) rfl (by kernel_rfl) (by kernel_rfl) (by kernel_rfl) (fun _ _ _ h => h) (Or.inl ⟨by kernel_rfl, ?_⟩) (by with_reducible assumption) ?_
  rotate_left
  · intro wz hSw
    (try dsimp only at hSw)
    go_simp
    (try with_reducible rfl)
  show wpAnyH _ _ _ _ _ _ _ (Act.put _ (some 58) _) _
  (try simp only [Act.put, List.setIfInBounds_toArray, List.set_cons_zero, List.set_cons_succ])
  refine wpAnyH_take (i := 6) (v := .string k) rfl (by kernel_rfl) (by kernel_rfl) (by kernel_rfl) (fun _ _ _ h => h) (Or.inl ⟨by kernel_rfl, ?_⟩) (by with_reducible assumption) ?_
  · intro wz hSw
    (try dsimp only at hSw)
    have y0 := (hp_cell (i := 1) hSw).trans rfl
    go_simp
    (try with_reducible rfl)
  show wpAnyH _ _ _ _ _ _ _ (Act.put _ (some 59) _) _
  (try simp only [Act.put, List.setIfInBounds_toArray, List.set_cons_zero, List.set_cons_succ])
  refine wpAnyH_ready (rs := [3]) (by kernel_rfl) (by simp) ?_
  refine AllReadyH.cons rfl (fun K hK => ?_) AllReadyH.nil
  clear hHeld
  go_simp
  go_at_call 24
  refine (SH.under Hd.out.1 HA.out.1 k).mono ?_
  rintro e W6 ⟨⟨v6, rfl, ho6⟩, hb6⟩
  rw [← HLs.out.1] at ho6
  obtain ⟨A6, C6, rfl, hp6⟩ := Pr.of ho6
  have H6 := Lib.hid (And.intro hp6 (And.intro (Hd.out.2.1.below hb6) (And.intro hb6 ((hb6.block x (hp_lt Hd.out.2.2)).trans Hd.out.2.2))))
  clear ho6 hp6 hb6
  go_wp2_with fail
  refine hK.out _ _ ?_ (fun hHeld => ?_)
  · exact H6.out.2.2.2
  clear hK K
  (try simp only [Act.put, List.setIfInBounds_toArray, List.set_cons_zero, List.set_cons_succ])
  refine wpAnyH_ready (rs := [7]) (by kernel_rfl) (by simp) ?_
  refine AllReadyH.cons rfl (fun K hK => ?_) AllReadyH.nil
  clear hHeld
  go_simp
  go_at_call 43
  refine (runder_walk w _ m L' R' k H6.out.2.1 HA.out.2).mono ?_
  rintro e W7 ⟨⟨v7, rfl, ho7⟩, hb7⟩
  rw [← HLs.out.2] at ho7
  obtain ⟨A7, C7, rfl, hp7⟩ := Pr.of ho7
  have H7 := Lib.hid (And.intro hp7 (And.intro (H6.out.1.below hb7) (And.intro (H6.out.2.2.1.trans (hb7.mono H6.out.2.2.1.size)) ((hb7.block x (hp_lt H6.out.2.2.2)).trans H6.out.2.2.2))))
  clear ho7 hp7 hb7
  go_wp2_with fail
  refine hK.out _ _ ?_ (fun hHeld => ?_)
  · exact H7.out.2.2.2
  clear hK K
  (try simp only [Act.put, List.setIfInBounds_toArray, List.set_cons_zero, List.set_cons_succ])
  refine wpAnyH_ready (rs := [8]) (by kernel_rfl) (by simp) ?_
  refine AllReadyH.cons rfl (fun K hK => ?_) AllReadyH.nil
  clear hHeld
  go_simp
  go_at_call 19
  refine (same_walk A6 A7 C6 C7 l1 l2 W7 H7.out.2.1 H7.out.1 HLn.out T HT.out).mono ?_
  rintro e W8 ⟨rfl, hb8⟩
  have H8 := Lib.hid (And.intro (H7.out.2.2.1.trans (hb8.mono H7.out.2.2.1.size)) ((hb8.block x (hp_lt H7.out.2.2.2)).trans H7.out.2.2.2))
  clear hb8
  go_wp2_with fail
  refine hK.out _ _ ?_ (fun hHeld => ?_)
  · exact H8.out.2
  clear hK K
  (try simp only [Act.put, List.setIfInBounds_toArray, List.set_cons_zero, List.set_cons_succ])
  refine wpAnyH_take (i := 9) (v := ?_) rfl (by kernel_rfl) (by kernel_rfl) (by kernel_rfl) (fun _ _ _ h => h) (Or.inl ⟨by kernel_rfl, ?_⟩) (by with_reducible assumption) ?_
  rotate_left
  · intro wz hSw
    (try dsimp only at hSw)
    go_simp
    (try with_reducible rfl)
  show wpAnyH _ _ _ _ _ _ _ (Act.put _ (some 6) _) _
  (try simp only [Act.put, List.setIfInBounds_toArray, List.set_cons_zero, List.set_cons_succ])
  refine wpAnyH_done (by kernel_rfl) ?_ _
  go_wp2_with fail
  go_ret
  exact ⟨rfl, HP.out.post H8.out.1⟩
set_option maxRecDepth 100000 in
set_option maxHeartbeats 8000000 in
theorem act_settle (w W : World) (b m : Nat) (F : List Nat) (L L' : SL) (R R' : List Ch) (k v : ByteArray) (n : Int) (hs : SH w W b F L R) (hd : DS w W m L' R') (hN : L.length < 1000000) (hN' : L'.length < 1000000) :
    Calls Try.prog 11 #[.pointer (some ⟨b, 0, none⟩), .pointer (some ⟨m, 0, none⟩), .agg #[.int .i64 3, .string k, .string v, .int .i64 n]] W fun e W' => e = .returned (.bool (decide (L.filter (hpre k) = L'.filter (hpre k)))) ∧ ActPost w W W' b m L [] L' [] := by
  have hb1 := (Below.refl W.heap.size W).alloc (Nat.le_refl _) (.cells #[.int .i64 3, .string k, .string v, .int .i64 n] 33)
  have hx1 := heap_alloc_new W (.cells #[.int .i64 3, .string k, .string v, .int .i64 n] 33)
  have hs1 := hs.below hb1
  have hd1 := hd.below hb1
  have H1 := Lib.hid (And.intro hs1 (And.intro hd1 (And.intro hb1 hx1)))
  have HA := Lib.hid (And.intro hN hN')
  obtain ⟨l1, hl1⟩ : ∃ l, l = L.filter (hpre k) := ⟨_, rfl⟩
  obtain ⟨l2, hl2⟩ : ∃ l, l = L'.filter (hpre k) := ⟨_, rfl⟩
  rw [← hl1, ← hl2]
  have HLn : Hid (l1.length < 1000000) := Lib.hid (by rw [hl1]; have := List.length_filter_le (hpre k) L; omega)
  have HLs := Lib.hid (And.intro hl1 hl2)
  obtain ⟨T, hT⟩ : ∃ T : Bool, T = decide (l1 = l2) := ⟨_, rfl⟩
  rw [← hT]
  have HT : Hid (T = true ↔ l1 = l2) := Lib.hid (by rw [hT]; exact decide_eq_true_iff)
  clear hs hd hb1 hx1 hs1 hd1 hN hN' hl1 hl2 hT
  go_enter Try.func11, Try.ntmps11
  go_upto_region 9 with fail
  generalize W.alloc (.cells #[.int .i64 3, .string k, .string v, .int .i64 n] 33) = W1 at H1 ⊢
  obtain ⟨x, hx⟩ : ∃ x, x = W.heap.size := ⟨_, rfl⟩
  rw [← hx] at H1 ⊢
  have HB1 : Hid (Below W.heap.size W W1) := Lib.hid (by have := H1.out.2.2.1; rw [hx] at this; exact this)
  clear hx
  have hset := SH.settle H1.out.1
  have HSt := Lib.hid hset
  clear hset
  go_upto_region 10 with (go_at_call 42; refine HSt.out.mono ?_; rintro e W4 ⟨rfl, h4⟩; have r4 := (SHTo.keepT H1.out.1 h4 fAct08).2 _ _ _ H1.out.2.2.2; have D4 := Lib.hid (H1.out.2.1.other H1.out.1 h4); have H4 := Lib.hid (And.intro h4 r4); clear h4 r4)
  obtain ⟨vL, vP, h1, h2, h3⟩ := D4.out.ex
  have c1 := (hp_cell (i := 1) h1).trans rfl
  have f1 := hp_free (i := 1) h1
  have HM := Lib.hid h1
  clear h1 h2 h3
  go_upto_region 11 with fail
  have h5 := past_nil D4.out
  generalize W4.setCell ⟨m, 1, none⟩ (.slice none 0 0) = W5 at h5 ⊢
  have hpab := post_ab H1.out.1 H4.out.1 h5
  have r5 := (h5.keepT nAct08).2 _ _ _ H4.out.2
  obtain ⟨⟨F5, hs5⟩, hd5, hk5⟩ := hpab
  have Hd := Lib.hid (And.intro (hs5.below (Below.refl _ W5).drew) (And.intro (hd5.below (Below.refl _ W5).drew) (show W5.drew.heap[x]? = _ from r5)))
  have HP : Hid (ActPost w W W5.drew b m L [] L' []) := Lib.hid ((ActPost.post ⟨⟨F5, hs5⟩, hd5, hk5⟩ (Below.refl _ W5).drew).pre HB1.out)
  clear h5 r5 hs5 hd5 hk5 H1 HB1 H4 c1 f1 HM D4 HSt
  refine wp_region_held_drew (S := fun w' => w'.heap[x]? = some (Obj.cells #[.int .i64 3, .string k, .string v, .int .i64 n] 33)) (by kernel_rfl) ?_ (fun hHeld => ?_)
  · exact Hd.out.2.2
  refine wpAnyH_take (i := 0) (v := ?_) rfl (by kernel_rfl) (by kernel_rfl) (by kernel_rfl) (fun _ _ _ h => h) (Or.inl ⟨by kernel_rfl, ?_⟩) (by with_reducible assumption) ?_
  rotate_left
  · intro wz hSw
    (try dsimp only at hSw)
    go_simp
    (try with_reducible rfl)
  show wpAnyH _ _ _ _ _ _ _ (Act.put _ (some 53) _) _
  (try simp only [Act.put, List.setIfInBounds_toArray, List.set_cons_zero, List.set_cons_succ])
  refine wpAnyH_take (i := 1) (v := ?_) rfl (by kernel_rfl) (by kernel_rfl) (by kernel_rfl) (fun _ _ _ h => h) (Or.inl ⟨by kernel_rfl, ?_⟩) (by with_reducible assumption) ?_
  rotate_left
  · intro wz hSw
    (try dsimp only at hSw)
    go_simp
    (try with_reducible rfl)
  show wpAnyH _ _ _ _ _ _ _ (Act.put _ (some 54) _) _
  (try simp only [Act.put, List.setIfInBounds_toArray, List.set_cons_zero, List.set_cons_succ])
  refine wpAnyH_take (i := 2) (v := .string k) rfl (by kernel_rfl) (by kernel_rfl) (by kernel_rfl) (fun _ _ _ h => h) (Or.inl ⟨by kernel_rfl, ?_⟩) (by with_reducible assumption) ?_
  · intro wz hSw
    (try dsimp only at hSw)
    have y0 := (hp_cell (i := 1) hSw).trans rfl
    go_simp
    (try with_reducible rfl)
  show wpAnyH _ _ _ _ _ _ _ (Act.put _ (some 55) _) _
  (try simp only [Act.put, List.setIfInBounds_toArray, List.set_cons_zero, List.set_cons_succ])
  refine wpAnyH_take (i := 4) (v := ?_) rfl (by kernel_rfl) (by kernel_rfl) (by kernel_rfl) (fun _ _ _ h => h) (Or.inl ⟨by kernel_rfl, ?_⟩) (by with_reducible assumption) ?_
  rotate_left
  · intro wz hSw
    (try dsimp only at hSw)
    go_simp
    (try with_reducible rfl)
  show wpAnyH _ _ _ _ _ _ _ (Act.put _ (some 57) _) _
  (try simp only [Act.put, List.setIfInBounds_toArray, List.set_cons_zero, List.set_cons_succ])
  refine wpAnyH_take (i := 5) (v := ?_) rfl (by kernel_rfl) (by kernel_rfl) (by kernel_rfl) (fun _ _ _ h => h) (Or.inl ⟨by kernel_rfl, ?_⟩) (by with_reducible assumption) ?_
  rotate_left
  · intro wz hSw
    (try dsimp only at hSw)
    go_simp
    (try with_reducible rfl)
  show wpAnyH _ _ _ _ _ _ _ (Act.put _ (some 58) _) _
  (try simp only [Act.put, List.setIfInBounds_toArray, List.set_cons_zero, List.set_cons_succ])
  refine wpAnyH_take (i := 6) (v := .string k) rfl (by kernel_rfl) (by kernel_rfl) (by kernel_rfl) (fun _ _ _ h => h) (Or.inl ⟨by kernel_rfl, ?_⟩) (by with_reducible assumption) ?_
  · intro wz hSw
    (try dsimp only at hSw)
    have y0 := (hp_cell (i := 1) hSw).trans rfl
    go_simp
    (try with_reducible rfl)
  show wpAnyH _ _ _ _ _ _ _ (Act.put _ (some 59) _) _
  (try simp only [Act.put, List.setIfInBounds_toArray, List.set_cons_zero, List.set_cons_succ])
  refine wpAnyH_ready (rs := [3]) (by kernel_rfl) (by simp) ?_
  refine AllReadyH.cons rfl (fun K hK => ?_) AllReadyH.nil
  clear hHeld
  go_simp
  go_at_call 24
  refine (SH.under Hd.out.1 HA.out.1 k).mono ?_
  rintro e W6 ⟨⟨v6, rfl, ho6⟩, hb6⟩
  rw [← HLs.out.1] at ho6
  obtain ⟨A6, C6, rfl, hp6⟩ := Pr.of ho6
  have H6 := Lib.hid (And.intro hp6 (And.intro (Hd.out.2.1.below hb6) (And.intro hb6 ((hb6.block x (hp_lt Hd.out.2.2)).trans Hd.out.2.2))))
  clear ho6 hp6 hb6
  go_wp2_with fail
  refine hK.out _ _ ?_ (fun hHeld => ?_)
  · exact H6.out.2.2.2
  clear hK K
  (try simp only [Act.put, List.setIfInBounds_toArray, List.set_cons_zero, List.set_cons_succ])
  refine wpAnyH_ready (rs := [7]) (by kernel_rfl) (by simp) ?_
  refine AllReadyH.cons rfl (fun K hK => ?_) AllReadyH.nil
  clear hHeld
  go_simp
  go_at_call 43
  refine (runder_walk w _ m L' [] k H6.out.2.1 HA.out.2).mono ?_
  rintro e W7 ⟨⟨v7, rfl, ho7⟩, hb7⟩
  rw [← HLs.out.2] at ho7
  obtain ⟨A7, C7, rfl, hp7⟩ := Pr.of ho7
  have H7 := Lib.hid (And.intro hp7 (And.intro (H6.out.1.below hb7) (And.intro (H6.out.2.2.1.trans (hb7.mono H6.out.2.2.1.size)) ((hb7.block x (hp_lt H6.out.2.2.2)).trans H6.out.2.2.2))))
  clear ho7 hp7 hb7
  go_wp2_with fail
  refine hK.out _ _ ?_ (fun hHeld => ?_)
  · exact H7.out.2.2.2
  clear hK K
  (try simp only [Act.put, List.setIfInBounds_toArray, List.set_cons_zero, List.set_cons_succ])
  refine wpAnyH_ready (rs := [8]) (by kernel_rfl) (by simp) ?_
  refine AllReadyH.cons rfl (fun K hK => ?_) AllReadyH.nil
  clear hHeld
  go_simp
  go_at_call 19
  refine (same_walk A6 A7 C6 C7 l1 l2 W7 H7.out.2.1 H7.out.1 HLn.out T HT.out).mono ?_
  rintro e W8 ⟨rfl, hb8⟩
  have H8 := Lib.hid (And.intro (H7.out.2.2.1.trans (hb8.mono H7.out.2.2.1.size)) ((hb8.block x (hp_lt H7.out.2.2.2)).trans H7.out.2.2.2))
  clear hb8
  go_wp2_with fail
  refine hK.out _ _ ?_ (fun hHeld => ?_)
  · exact H8.out.2
  clear hK K
  (try simp only [Act.put, List.setIfInBounds_toArray, List.set_cons_zero, List.set_cons_succ])
  refine wpAnyH_take (i := 9) (v := ?_) rfl (by kernel_rfl) (by kernel_rfl) (by kernel_rfl) (fun _ _ _ h => h) (Or.inl ⟨by kernel_rfl, ?_⟩) (by with_reducible assumption) ?_
  rotate_left
  · intro wz hSw
    (try dsimp only at hSw)
    go_simp
    (try with_reducible rfl)
  show wpAnyH _ _ _ _ _ _ _ (Act.put _ (some 6) _) _
  (try simp only [Act.put, List.setIfInBounds_toArray, List.set_cons_zero, List.set_cons_succ])
  refine wpAnyH_done (by kernel_rfl) ?_ _
  go_wp2_with fail
  go_ret
  exact ⟨rfl, HP.out.post H8.out.1⟩
end Go.Proofs.Ytbfmhafmncnhfaa
