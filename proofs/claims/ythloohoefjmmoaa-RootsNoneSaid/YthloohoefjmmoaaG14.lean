/- What lies in blocks of types that no store has stays, whatever a store does. -/
import Derived.Test.YthloohoefjmmoaaG12
import Derived.Test.YthloohoefjmmoaaG13
import Derived.Test.YthloohoefjmmoaaG10
import Derived.Test.YthloohoefjmmoaaG11
namespace Go.Proofs.Ythloohoefjmmoaa
open Go.RowKit Go.Maps Go.Sort

/-- what keeps every block of cells of one type -/
def KeepT (T : TypeId) (W W' : World) : Prop := W.heap.size ≤ W'.heap.size ∧ ∀ (k : Nat) (cs : Array Value) (fr : Nat × Nat), W.heap[k]? = some (Obj.cells cs T fr) → W'.heap[k]? = some (Obj.cells cs T fr)
theorem KeepT.refl (T : TypeId) (W : World) : KeepT T W W := ⟨Nat.le_refl _, fun _ _ _ h => h⟩
theorem KeepT.trans {T : TypeId} {A B C : World} (h : KeepT T A B) (k : KeepT T B C) : KeepT T A C := ⟨Nat.le_trans h.1 k.1, fun i cs fr hi => k.2 i cs fr (h.2 i cs fr hi)⟩
theorem KeepT.of_below {T : TypeId} {W W' : World} (h : Below W.heap.size W W') : KeepT T W W' := ⟨h.size, fun k cs fr hk => (h.block k (hp_lt hk)).trans hk⟩
theorem ownsRow_keepT {T : TypeId} {w w' : World} {B k n : Nat} {v : Value} {xs : List Value} (h : w.ownsRow B T k v n xs) (hk : KeepT T w w') : w'.ownsRow B T k v n xs := by
  refine ownsRow_same h fun g hg => ?_
  rcases h.2 with ⟨rfl, _⟩ | ⟨g', cap, cur, rfl, _, hh, _⟩
  · cases hg
  · cases hg
    exact (hk.2 _ _ _ hh).trans hh.symm
theorem ownsRow_typ {T : TypeId} {w : World} {B k n : Nat} {v : Value} {xs : List Value} (h : w.ownsRow B T k v n xs) {g : Nat} (hg : v.ownBlock = some g) : ∃ cs, w.heap[g]? = some (Obj.cells cs T (0, 0)) := by
  rcases h.2 with ⟨rfl, _⟩ | ⟨g', cap, cur, rfl, _, hh, _⟩
  · cases hg
  · cases hg
    exact ⟨_, hh⟩
/-- a type of which no block of a store is -/
structure Foreign (T : TypeId) : Prop where
  s : T ≠ 55
  b : T ≠ 92
  k : T ≠ 9
  c : T ≠ 105
theorem stp_blk {w : World} {b : Nat} {F : List Nat} {L : SL} {q : Nat} {qs : List Value} (h : StP w b F L q qs) : ∀ k ∈ F, (∃ es c, w.heap[k]? = some (Obj.map es c)) ∨ ∃ cs T, w.heap[k]? = some (Obj.cells cs T (0, 0)) ∧ ¬ Foreign T := by
  obtain ⟨bm, vb, vk, vq, rfl, hS⟩ := h
  intro k hk
  rcases (fpr_kfp _ _ _ _ _ _ _).1 hk with rfl | hk | hk
  · obtain ⟨D, ⟨es, clock, hb, _⟩, _⟩ := hS.m
    exact .inl ⟨_, _, hb⟩
  · obtain ⟨cs, T, hc, hT⟩ := hS.keys.ty hk
    exact .inr ⟨cs, T, hc, fun h => by rcases hT with e | e | e; exact h.s e; exact h.b e; exact h.k e⟩
  · obtain ⟨cs, hc⟩ := ownsRow_typ hS.kq hk
    exact .inr ⟨cs, _, hc, fun h => h.c rfl⟩
theorem stp_other {w : World} {b : Nat} {F : List Nat} {L : SL} {q : Nat} {qs : List Value} (h : StP w b F L q qs) {k : Nat} {cs : Array Value} {T : TypeId} {fr : Nat × Nat} (hk : w.heap[k]? = some (Obj.cells cs T fr)) (hT : Foreign T) : k ∉ F := fun hm => by
  rcases stp_blk h k hm with ⟨es, c, h1⟩ | ⟨cs', T', h1, h2⟩
  · rw [h1] at hk; cases hk
  · rw [h1] at hk; cases hk; exact h2 hT
theorem LiveTo.keepT {w W W' : World} {b : Nat} {F : List Nat} {L L' : SL} {q q' : Nat} {qs : List Value} (hs : SNew w W b F L q qs) (h : LiveTo w W W' b F L' q') {T : TypeId} (hT : Foreign T) : KeepT T W W' := by
  obtain ⟨_, _, _, _, _, ht, _⟩ := h
  exact ⟨ht.size, fun k cs fr hk => (ht.block k (hp_lt hk) (stp_other hs.s hk hT)).trans hk⟩
/-- a store lies as it lay where a block of another type is written -/
theorem SNew.other {w W W' : World} {b : Nat} {F : List Nat} {L : SL} {q : Nat} {qs : List Value} (h : SNew w W b F L q qs) (G : List Nat) (ht : Touch G W W') (hG : ∀ g ∈ G, w.heap.size ≤ g ∧ ∃ cs T fr, W.heap[g]? = some (Obj.cells cs T fr) ∧ Foreign T) : SNew w W' b F L q qs :=
  ⟨h.s.touch ht (fun k hk hm => by obtain ⟨_, cs, T, fr, h1, h2⟩ := hG k hm; exact stp_other h.s h1 h2 hk), h.f, h.l.trans (ht.below (fun k hk => (hG k hk).1) h.l.size)⟩
theorem KeepT.setOther {T T' : TypeId} {W : World} {g o : Nat} {cs : Array Value} {fr : Nat × Nat} (v : Value) (hg : W.heap[g]? = some (Obj.cells cs T' fr)) (hne : T ≠ T') : KeepT T W (W.setCell ⟨g, o, none⟩ v) := by
  refine ⟨by simp, fun k cs' fr' hk => ?_⟩
  have hk2 : k ≠ g := fun e => by subst e; rw [hg] at hk; cases hk; exact hne rfl
  rw [Below.heap_setCell _ _ _ _ hk2]
  exact hk
theorem KeepT.grown {T T' : TypeId} {W W' : World} {row : Option Nat} (hg : W.grownBy W' row) (hr : ∀ g, row = some g → ∃ cs fr, W.heap[g]? = some (Obj.cells cs T' fr)) (hne : T ≠ T') : KeepT T W W' :=
  ⟨hg.size, fun k cs fr hk => (hg.block k (hp_lt hk) (fun e => by
    obtain ⟨cs', fr', h1⟩ := hr k e.symm
    rw [hk] at h1; cases h1; exact hne rfl)).trans hk⟩
theorem Touch.keepT {F : List Nat} {W W' : World} {T : TypeId} (ht : Touch F W W') (hF : ∀ k ∈ F, ∀ cs fr, W.heap[k]? ≠ some (Obj.cells cs T fr)) : KeepT T W W' :=
  ⟨ht.size, fun k cs fr hk => (ht.block k (hp_lt hk) (fun hm => hF k hm cs fr hk)).trans hk⟩
/-- a row of ints in a block of its own stays -/
theorem il_touch {w W : World} {b : Nat} {F : List Nat} {L : SL} {q : Nat} {qs : List Value} (hs : SNew w W b F L q qs) {g : Nat} {cs : Array Value} (hg : W.heap[g]? = some (Obj.cells cs 3 (0, 0))) {n : Nat} {f : Nat → Int} (hl : Il W (some ⟨g, 0, none⟩) n f) (hT : Foreign 3) (W' : World) (ht : Touch F W W') : Il W' (some ⟨g, 0, none⟩) n f := by
  have he := ht.block g (hp_lt hg) (stp_other hs.s hg hT)
  refine ⟨hl.1, fun hn => ?_⟩
  obtain ⟨g', o, e, hlt, hc⟩ := hl.2 hn
  cases e
  refine ⟨g, 0, rfl, Nat.lt_of_lt_of_le hlt ht.size, fun i hi => ?_⟩
  rw [← hc i hi]
  simp only [World.cell?, he]
end Go.Proofs.Ythloohoefjmmoaa

namespace Go.Proofs.Ythloohoefjmmoaa
open Go.RowKit Go.Maps

theorem fHash : Foreign 32 := ⟨by decide, by decide, by decide, by decide⟩
theorem conv_hash (w : World) (X cap : Nat) (f : Nat → Nat) (hr : w.heap[X]? = some (.cells (hc f) 32 (0, 0))) : (convert 73 9 (.slice (some ⟨X, 0, none⟩) 32 cap)).run Try.prog w = .ok (.string (hstr f)) w :=
  run_convert_bytes_arg (P := Try.prog) w 73 5 Try.underlying73 Try.underlying5 X 0 32 cap ((List.range 32).map fun i => ((f i : Nat) : Int)) (by simp)
    (fun i hi => by
      rw [Nat.zero_add]
      refine (hp_cell (i := i) hr).trans ?_
      show (bys f 32).toArray[i]? = _
      rw [List.getElem?_toArray, bys_get f hi]
      simp [List.getD, hi]) 9 Try.underlying9
theorem setL_leK (L : SL) (k v : ByteArray) : (setL L k v).length ≤ L.length + 1 := by
  unfold setL
  split
  · omega
  · unfold sset
    split
    · simp
    · simp; omega
set_option maxRecDepth 100000 in
set_option maxHeartbeats 1000000 in
theorem rcount_at {w W : World} {b : Nat} {F : List Nat} {L : SL} {q : Nat} {qs : List Value} (h : SNew w W b F L q qs) (K : ByteArray) (hK : keyStr 36 (fun _ => 0) 0 = K) (hk : K.size ≤ maxLen) (n : Nat) (he : intAt L K n) (hn : n < 2 ^ 63) :
    Calls Try.prog 9 #[.pointer (some ⟨b, 0, none⟩)] W fun e W' => e = .returned (.int .i64 (n : Nat)) ∧ Below W.heap.size W W' := by
  have HT := Lib.hid (tbl_is 36 K hK W)
  have HI := Lib.hid (fun (w1 : World) (hb : Below W.heap.size W w1) => cint_at (h.below hb) K n hk he hn)
  clear h hK hk he hn
  go_enter Try.func9, Try.ntmps9
  go_wp2_with (first
    | (go_at_call 21; refine (HI.out w1 HB1.out).mono ?_; rintro e w2 ⟨rfl, hb2⟩; have HB2 := Lib.hid (HB1.out.trans (hb2.mono HB1.out.size)); clear hb2)
    | (go_at_call 22; refine HT.out.mono ?_; rintro e w1 ⟨rfl, hb1⟩; have HB1 := Lib.hid hb1; clear hb1))
  go_ret
  exact ⟨rfl, HB2.out⟩
theorem K36_ne : keyStr 36 (fun _ => 0) 0 ≠ ⟨#[]⟩ := by decide +kernel
theorem K36_size : (keyStr 36 (fun _ => 0) 0).size ≤ maxLen := by decide +kernel
set_option maxRecDepth 100000 in
set_option maxHeartbeats 8000000 in
theorem rpost_ok {w W : World} {b : Nat} {F : List Nat} {L : SL} {q : Nat} {qs : List Value} (h : SNew w W b F L q qs) (c : Nat) (K6 K7 K8 : ByteArray) (hK6 : keyStr 36 (fun _ => 0) 0 = K6) (hK7 : keyStr 37 (fun _ => (c : Int)) 1 = K7) (hK8 : keyStr 38 (fun _ => (c : Int)) 1 = K8) (hn6 : K6 ≠ ⟨#[]⟩) (hn7 : K7 ≠ ⟨#[]⟩) (hn8 : K8 ≠ ⟨#[]⟩) (hk6 : K6.size ≤ maxLen) (hk7 : K7.size ≤ maxLen) (hk8 : K8.size ≤ maxLen)
    (he : intAt L K6 c) (hc1 : c < 1000) (bl wt : Int) (hb1 : 0 ≤ bl ∧ bl ≤ 1099511627776) (hw1 : 0 ≤ wt ∧ wt ≤ 1099511627776) (f : Nat → Nat) (hN : L.length < 900000) (hq : q + 3 < 1000000) :
    Calls Try.prog 17 #[.pointer (some ⟨b, 0, none⟩), .agg (hc f), .int .i64 bl, .int .i64 wt] W fun e W' => e = .returned (.tuple #[.int .i64 (c : Nat), .int .i64 0]) ∧ LiveTo w W W' b F (setL (setL (setL L K6 (numStr ((c : Int) + 1))) K7 (rowV (two2 1 (bl + wt)) 2)) K8 (hstr f)) (q + 3) := by
  have l1 := setL_leK L K6 (numStr ((c : Int) + 1))
  have l2 := setL_leK (setL L K6 (numStr ((c : Int) + 1))) K7 (rowV (two2 1 (bl + wt)) 2)
  have hs1 := h.al (.cells (hc f) 32)
  have hb0 := (Below.refl W.heap.size W).alloc (Nat.le_refl _) (.cells (hc f) 32)
  have hr0 := heap_alloc_new W (.cells (hc f) 32)
  obtain ⟨W1, eW1⟩ : ∃ z, z = W.alloc (.cells (hc f) 32) := ⟨_, rfl⟩
  rw [← eW1] at hs1 hb0 hr0
  have HW1 := Lib.hid eW1
  have HR0 := Lib.hid hr0
  have HS1 := Lib.hid hs1
  have HPre := Lib.hid (fun (V : World) (hl : LiveTo w W1 V b F (setL (setL (setL L K6 (numStr ((c : Int) + 1))) K7 (rowV (two2 1 (bl + wt)) 2)) K8 (hstr f)) (q + 3)) => hl.pre hb0)
  have H0 := Lib.hid hs1.start
  have HM := Lib.hid (made_live b F L q qs W1 hs1.s)
  have HCt := Lib.hid (rcount_at hs1 K6 hK6 hk6 c he (by omega))
  have HTb := Lib.hid (fun (V : World) => tbl_is 36 K6 hK6 V)
  have HNx := Lib.hid (fun (V : World) (hl : LiveTo w W1 V b F L q) => hl.seq 1 (fun F1 qa qsa hs hqa => cnext_walk hs K6 c hk6 hn6 he (by omega) (by omega) (by omega)))
  have HKA := Lib.hid (fun (V : World) => key_is 37 (some ⟨V.heap.size, 0, none⟩) 1 1 (fun _ => (c : Int)) K7 hK7 _ (il1 (c : Int) V 3 (by omega)) (by omega))
  have HKB := Lib.hid (fun (V : World) => key_is 38 (some ⟨V.heap.size, 0, none⟩) 1 1 (fun _ => (c : Int)) K8 hK8 _ (il1 (c : Int) V 3 (by omega)) (by omega))
  have HSR := Lib.hid (fun (V : World) (hl : LiveTo w W1 (V.alloc (.cells #[.int .i64 1, .int .i64 (bl + wt)] 3)) b F (setL L K6 (numStr ((c : Int) + 1))) (q + 1)) => hl.seq 1 (fun F1 qa qsa hs hqa => csetRow_set hs K7 (some ⟨V.heap.size, 0, none⟩) 2 2 (two2 1 (bl + wt)) (il2 1 (bl + wt) V 3 (by decide) (by omega)) (by omega) (by omega) (fun j hj => by rcases (by omega : j = 0 ∨ j = 1) with rfl | rfl; exact (by decide : (0 : Int) ≤ 1); exact (by omega : 0 ≤ bl + wt)) hk7 hn7 (by omega) (by omega)))
  have HSt := Lib.hid (fun (V : World) (hl : LiveTo w W1 V b F (setL (setL L K6 (numStr ((c : Int) + 1))) K7 (rowV (two2 1 (bl + wt)) 2)) (q + 2)) => hl.seq 1 (fun F1 qa qsa hs hqa => hs.sets K8 (hstr f) hk8 (by rw [hstr_size]; decide) hn8 (by omega) (by omega)))
  have p1 : ¬ bl < 0 := by omega
  have p2 : ¬ (1099511627776 : Int) < bl := by omega
  have p3 : ¬ wt < 0 := by omega
  have p4 : ¬ (1099511627776 : Int) < wt := by omega
  have p5 : ¬ (1000 : Int) ≤ (c : Int) := by omega
  have i1 : IntKind.i64.wrap (bl + wt) = bl + wt := IntWalk.i64_in _ (by omega)
  have i2 : IntKind.i64.wrap ((c : Int) + 1 - 1) = (c : Int) := by rw [IntWalk.i64_in _ (by omega)]; omega
  have i3 : IntKind.i64.wrap (c : Int) = (c : Int) := IntWalk.i64_in _ (by omega)
  obtain ⟨L1, eL1⟩ : ∃ z, z = setL L K6 (numStr ((c : Int) + 1)) := ⟨_, rfl⟩
  rw [← eL1] at HPre HNx HSR HSt ⊢
  obtain ⟨L2, eL2⟩ : ∃ z, z = setL L1 K7 (rowV (two2 1 (bl + wt)) 2) := ⟨_, rfl⟩
  rw [← eL2] at HPre HSR HSt ⊢
  obtain ⟨L3, eL3⟩ : ∃ z, z = setL L2 K8 (hstr f) := ⟨_, rfl⟩
  rw [← eL3] at HPre HSt ⊢
  obtain ⟨cn, ecn⟩ : ∃ z : Int, z = (c : Int) := ⟨_, rfl⟩
  rw [← ecn] at HCt HNx HKA HKB p5 i2 i3 ⊢
  have HConv := Lib.hid (fun (wz : World) (X : Nat) (hr : wz.heap[X]? = some (.cells (hc f) 32 (0, 0))) => conv_hash wz X 32 f hr)
  obtain ⟨cz, ecz⟩ : ∃ z, z = hc f := ⟨_, rfl⟩
  rw [← ecz] at HW1 HR0 HConv ⊢
  obtain ⟨hs, ehs⟩ : ∃ z, z = hstr f := ⟨_, rfl⟩
  rw [← ehs] at HSt HConv
  have HSize := Lib.hid (show cz.size = 32 by rw [ecz]; exact hc_size f)
  clear h hs1 hb0 hr0 eW1 hK6 hK7 hK8 hn6 hn7 hn8 hk6 hk7 hk8 he hc1 hb1 hw1 hN hq l1 l2 eL1 eL2 eL3 ecn ecz ehs
  go_enter Try.func17, Try.ntmps17
  go_upto_region 1 with fail
  rw [← HW1.out]
  obtain ⟨X, hX⟩ : ∃ X, X = W.heap.size := ⟨_, rfl⟩
  rw [← hX] at HR0 ⊢
  clear hX HW1
  go_upto_region 9 with (first
    | (go_at_call 33; refine (HSR.out _ (H5.out.al _)).mono ?_; rintro e w6 ⟨rfl, h6⟩; have H6 := Lib.hid h6; clear h6)
    | (go_at_call 26; refine (HKA.out _).mono ?_; rintro e w5 ⟨rfl, hb5⟩; have H5 := Lib.hid ((H4.out.al _).post hb5); clear hb5)
    | (go_at_call 32; refine (HNx.out _ H3.out).mono ?_; rintro e w4 ⟨rfl, h4⟩; have H4 := Lib.hid h4; clear h4)
    | (go_at_call 22; refine (HTb.out _).mono ?_; rintro e w3 ⟨rfl, hb3⟩; have H3 := Lib.hid (H2.out.post hb3); clear hb3)
    | (go_at_call 9; refine HCt.out.mono ?_; rintro e w2 ⟨rfl, hb2⟩; have H2 := Lib.hid (H0.out.post hb2); clear hb2)
    | (go_at_call 31; refine HM.out.mono ?_; rintro e w1 ⟨rfl, rfl⟩))
  have HZ := Lib.hid (H6.out.post (Below.refl w6.heap.size w6).drew)
  have RZ := Lib.hid ((HZ.out.keepT HS1.out fHash).2 _ _ _ HR0.out)
  refine wp_region_held_drew (S := fun w' => w'.heap[X]? = some (.cells cz 32 (0, 0))) (by kernel_rfl) ?_ (fun hHeld => ?_)
  · exact RZ.out
  generalize w6.drew = Z0 at HZ RZ hHeld ⊢
  refine wpAnyH_take (i := 0) (v := ?_) rfl (by kernel_rfl) (by kernel_rfl) (by kernel_rfl) (fun _ _ _ h => h) (Or.inl ⟨by kernel_rfl, ?_⟩) (by with_reducible assumption) ?_
  rotate_left
  · intro wz hSw
    (try dsimp only at hSw)
    go_simp
    (try with_reducible rfl)
  show wpAnyH _ _ _ _ _ _ _ (Act.put _ (some 47) _) _
  (try simp only [Act.put, List.setIfInBounds_toArray, List.set_cons_zero, List.set_cons_succ])
  refine wpAnyH_take (i := 1) (v := ?_) rfl (by kernel_rfl) (by kernel_rfl) (by kernel_rfl) (fun _ _ _ h => h) (Or.inl ⟨by kernel_rfl, ?_⟩) (by with_reducible assumption) ?_
  rotate_left
  · intro wz hSw
    (try dsimp only at hSw)
    go_simp
    (try with_reducible rfl)
  show wpAnyH _ _ _ _ _ _ _ (Act.put _ (some 48) _) _
  (try simp only [Act.put, List.setIfInBounds_toArray, List.set_cons_zero, List.set_cons_succ])
  refine wpAnyH_take (i := 4) (v := ?_) rfl (by kernel_rfl) (by kernel_rfl) (by kernel_rfl) (fun _ _ _ h => h) (Or.inl ⟨by kernel_rfl, ?_⟩) (by with_reducible assumption) ?_
  rotate_left
  · intro wz hSw
    (try dsimp only at hSw)
    go_simp
    (try with_reducible rfl)
  show wpAnyH _ _ _ _ _ _ _ (Act.put _ (some 51) _) _
  (try simp only [Act.put, List.setIfInBounds_toArray, List.set_cons_zero, List.set_cons_succ])
  refine wpAnyH_take (i := 5) (v := .string hs) rfl (by kernel_rfl) (by kernel_rfl) (by kernel_rfl) (fun _ _ _ h => h) (Or.inl ⟨by kernel_rfl, ?_⟩) (by with_reducible assumption) ?_
  · intro wz hSw
    (try dsimp only at hSw)
    have hcv := HConv.out wz X hSw
    go_simp
    (try with_reducible rfl)
  show wpAnyH _ _ _ _ _ _ _ (Act.put _ (some 52) _) _
  (try simp only [Act.put, List.setIfInBounds_toArray, List.set_cons_zero, List.set_cons_succ])
  refine wpAnyH_ready (rs := [2]) (by kernel_rfl) (by simp) ?_
  refine AllReadyH.cons rfl (fun K hK => ?_) AllReadyH.nil
  clear hHeld
  go_simp
  have HZ1 := Lib.hid (HZ.out.al (.cells #[.int .i64 cn] 3))
  have RZ1 := Lib.hid ((heap_alloc_old Z0 (.cells #[.int .i64 cn] 3) (hp_lt RZ.out)).trans RZ.out)
  go_wp2_with fail
  refine hK.out _ _ ?_ (fun hHeld => ?_)
  · exact RZ1.out
  clear hK K
  (try simp only [Act.put, List.setIfInBounds_toArray, List.set_cons_zero, List.set_cons_succ])
  refine wpAnyH_ready (rs := [3]) (by kernel_rfl) (by simp) ?_
  refine AllReadyH.cons rfl (fun K hK => ?_) AllReadyH.nil
  clear hHeld
  go_simp
  go_at_call 26
  refine (HKB.out _).mono ?_
  rintro e Z2 ⟨rfl, hb⟩
  have HZ2 := Lib.hid (HZ1.out.post hb)
  have RZ2 := Lib.hid ((hb.block _ (hp_lt RZ1.out)).trans RZ1.out)
  clear hb
  go_wp2_with fail
  refine hK.out _ _ ?_ (fun hHeld => ?_)
  · exact RZ2.out
  clear hK K
  (try simp only [Act.put, List.setIfInBounds_toArray, List.set_cons_zero, List.set_cons_succ])
  refine wpAnyH_ready (rs := [6]) (by kernel_rfl) (by simp) ?_
  refine AllReadyH.cons rfl (fun K hK => ?_) AllReadyH.nil
  clear hHeld
  go_simp
  go_at_call 34
  refine (HSt.out _ HZ2.out).mono ?_
  rintro e Z3 ⟨rfl, h3⟩
  have HZ3 := Lib.hid h3
  have RZ3 := Lib.hid ((h3.keepT HS1.out fHash).2 _ _ _ HR0.out)
  clear h3
  go_wp2_with fail
  refine hK.out _ _ ?_ (fun hHeld => ?_)
  · exact RZ3.out
  clear hK K
  (try simp only [Act.put, List.setIfInBounds_toArray, List.set_cons_zero, List.set_cons_succ])
  refine wpAnyH_done (by kernel_rfl) ?_ _
  go_wp2_with fail
  refine bodyPost_ret (v := .tuple #[.int .i64 cn, .int .i64 0]) (by simp [results, Try.results17, go_sem]) rfl ⟨rfl, HPre.out _ HZ3.out⟩
end Go.Proofs.Ythloohoefjmmoaa

namespace Go.Proofs.Ythloohoefjmmoaa
open Go.RowKit Go.Maps

set_option maxRecDepth 100000 in
set_option maxHeartbeats 2000000 in
theorem rusable_ok {w W : World} {b : Nat} {F : List Nat} {L : SL} {q : Nat} {qs : List Value} (h : SNew w W b F L q qs) (i : Int) (K7 K8 : ByteArray) (hK7 : keyStr 37 (fun _ => i) 1 = K7) (hK8 : keyStr 38 (fun _ => i) 1 = K8) (hi : i < 2 ^ 63) (hk7 : K7.size ≤ maxLen) (hk8 : K8.size ≤ maxLen)
    (r1 : Int) (h1 : 0 ≤ r1 ∧ r1 < 2 ^ 63) (f : Nat → Nat) (hf : ∀ i, f i < 256) (he7 : sget L K7 = some (rowV (two2 1 r1) 2)) (he8 : sget L K8 = some (hstr f)) (blk : Int) (hb : r1 ≤ blk) :
    Calls Try.prog 13 #[.pointer (some ⟨b, 0, none⟩), .int .i64 i, .int .i64 blk] W fun e W' => e = .returned (.tuple #[.agg (hc f), .int .i64 0]) ∧ Below W.heap.size W W' := by
  have hb0 := (Below.refl W.heap.size W).alloc (Nat.le_refl _) (.cells hz 32)
  have hr0 := heap_alloc_new W (.cells hz 32)
  obtain ⟨w0, ew0⟩ : ∃ w0, w0 = W.alloc (.cells hz 32) := ⟨_, rfl⟩
  rw [← ew0] at hb0 hr0
  have hG := rget_some (h.below hb0) i K7 K8 hK7 hK8 hi hk7 hk8 1 r1 (by decide) h1 f hf he7 he8
  rw [show decide ((1 : Int) = 1) = true from rfl] at hG
  obtain ⟨cz, ecz⟩ : ∃ cz, cz = hc f := ⟨_, rfl⟩
  have hs : cz.size = 32 := by rw [ecz]; exact hc_size f
  have ho : cz.all (·.oneCell') = true := by rw [ecz]; exact hc_one f
  rw [← ecz] at hG ⊢
  have HG := Lib.hid hG
  have HI := Lib.hid (show (Try.prog.info? 32).map (·.size) = some cz.size by rw [hs]; exact hi_info)
  have HSz := Lib.hid (show hz.size = cz.size by rw [hs]; rfl)
  have HOne := Lib.hid ho
  have HB0 := Lib.hid (And.intro hb0 hr0)
  have HW := Lib.hid ew0
  have p1 : ¬ blk < r1 := by omega
  clear h hi hb0 hr0 ew0 hG hs ho ecz hK7 hK8 hk7 hk8 h1 hf he7 he8 hb
  go_enter Try.func13, Try.ntmps13
  go_upto_region 1 with fail
  have hw0 := HW.out
  unfold hz at hw0
  rw [← hw0]
  clear hw0
  go_upto_region 2 with (first
    | (go_at_call 11; refine HG.out.mono ?_; rintro e w1 ⟨rfl, hb1⟩; have HB1 := Lib.hid hb1; clear hb1)
    | ((with_reducible refine wpList_store_row rfl 32 (.tmp 8) (.tmp 16) rfl w1.heap.size cz ?_ ?_ 32 hz ?_ ?_ ?_ ?_ ?_); (· rfl); (· rfl); (· exact heap_alloc_new _ _); (· exact HI.out); (· exact HSz.out); (· exact HOne.out)))
  have HB2 := Lib.hid (HB1.out.alloc HB1.out.size (.cells hz 32))
  have HB3 := Lib.hid (below_setRow HB2.out HB1.out.size cz)
  have rx := setRow_heap (w1.alloc (.cells hz 32)) w1.heap.size hz cz 32 (0, 0) (heap_alloc_new _ _)
  have r3 := (HB3.out.block _ (hp_lt HB0.out.2)).trans HB0.out.2
  have hl3 := HB0.out.1.trans (HB3.out.mono HB0.out.1.size)
  obtain ⟨W3, eW3⟩ : ∃ z, z = (w1.alloc (.cells hz 32)).setRow w1.heap.size cz := ⟨_, rfl⟩
  rw [← eW3] at rx r3 hl3
  have RX := Lib.hid rx
  have R3 := Lib.hid r3
  have HL := Lib.hid hl3
  unfold hz at eW3
  rw [← eW3]
  clear eW3 rx r3 hl3 HB3
  go_wp2_with (first
    | ((with_reducible refine wpList_load_row rfl 32 (.tmp 8) rfl w1.heap.size ?_ 32 cz (0, 0) _ RX.out Try.underlying32 rfl HI.out ?_); (· rfl))
    | ((with_reducible refine wpList_store_row rfl 32 (.tmp 6) (.tmp 33) rfl W.heap.size cz ?_ ?_ 32 hz ?_ ?_ ?_ ?_ ?_); (· rfl); (· rfl); (· exact R3.out); (· exact HI.out); (· exact HSz.out); (· exact HOne.out)))
  refine bodyPost_ret (v := .tuple #[.agg cz, .int .i64 0]) (res_cell_tmp rfl _ _ W.heap.size 32 cz (0, 0) _ _ rfl rfl (setRow_heap _ _ hz _ _ _ R3.out) Try.underlying32 rfl HI.out) rfl ⟨rfl, below_setRow HL.out (Nat.le_refl _) _⟩
set_option maxRecDepth 100000 in
set_option maxHeartbeats 2000000 in
theorem rdisable_state {w W : World} {b : Nat} {F : List Nat} {L : SL} {q : Nat} {qs : List Value} (h : SNew w W b F L q qs) (i : Int) (K7 K8 : ByteArray) (hK7 : keyStr 37 (fun _ => i) 1 = K7) (hK8 : keyStr 38 (fun _ => i) 1 = K8) (hi : i < 2 ^ 63) (hk7 : K7.size ≤ maxLen) (hk8 : K8.size ≤ maxLen)
    (r1 : Int) (h1 : 0 ≤ r1 ∧ r1 < 2 ^ 63) (f : Nat → Nat) (hf : ∀ i, f i < 256) (he7 : sget L K7 = some (rowV (two2 1 r1) 2)) (he8 : sget L K8 = some (hstr f)) (blk : Int) (hb : r1 ≤ blk) :
    Calls Try.prog 18 #[.pointer (some ⟨b, 0, none⟩), .int .i64 i, .int .i64 blk] W fun e W' => e = .returned (.int .i64 10) ∧ Below W.heap.size W W' := by
  have hG := rget_some h i K7 K8 hK7 hK8 hi hk7 hk8 1 r1 (by decide) h1 f hf he7 he8
  rw [show decide ((1 : Int) = 1) = true from rfl] at hG
  obtain ⟨cz, ecz⟩ : ∃ cz, cz = hc f := ⟨_, rfl⟩
  have hs : cz.size = 32 := by rw [ecz]; exact hc_size f
  have ho : cz.all (·.oneCell') = true := by rw [ecz]; exact hc_one f
  rw [← ecz] at hG
  have HG := Lib.hid hG
  have HI := Lib.hid (show (Try.prog.info? 32).map (·.size) = some cz.size by rw [hs]; exact hi_info)
  have HSz := Lib.hid (show hz.size = cz.size by rw [hs]; rfl)
  have HOne := Lib.hid ho
  clear h hi hG hs ho ecz hK7 hK8 hk7 hk8 h1 hf he7 he8
  go_enter Try.func18, Try.ntmps18
  go_upto_region 2 with (first
    | (go_at_call 11; refine HG.out.mono ?_; rintro e w1 ⟨rfl, hb1⟩; have HB1 := Lib.hid hb1; clear hb1)
    | ((with_reducible refine wpList_store_row rfl 32 (.tmp 7) (.tmp 15) rfl w1.heap.size cz ?_ ?_ 32 hz ?_ ?_ ?_ ?_ ?_); (· rfl); (· rfl); (· exact heap_alloc_new _ _); (· exact HI.out); (· exact HSz.out); (· exact HOne.out)))
  have HB2 := Lib.hid (HB1.out.alloc HB1.out.size (.cells hz 32))
  have HB3 := Lib.hid (below_setRow HB2.out HB1.out.size cz)
  go_wp2
  go_ret
  exact ⟨rfl, HB3.out⟩
set_option maxRecDepth 100000 in
set_option maxHeartbeats 2000000 in
theorem rdisable_ok {w W : World} {b : Nat} {F : List Nat} {L : SL} {q : Nat} {qs : List Value} (h : SNew w W b F L q qs) (i : Int) (K7 K8 : ByteArray) (hK7 : keyStr 37 (fun _ => i) 1 = K7) (hK8 : keyStr 38 (fun _ => i) 1 = K8) (hi : i < 2 ^ 63) (hk7 : K7.size ≤ maxLen) (hk8 : K8.size ≤ maxLen) (hn7 : K7 ≠ ⟨#[]⟩)
    (r1 : Int) (h1 : 0 ≤ r1 ∧ r1 < 2 ^ 63) (f : Nat → Nat) (hf : ∀ i, f i < 256) (he7 : sget L K7 = some (rowV (two2 1 r1) 2)) (he8 : sget L K8 = some (hstr f)) (blk : Int) (hb : blk < r1) (hN : L.length < 1000000) (hq : q < 1000000) :
    Calls Try.prog 18 #[.pointer (some ⟨b, 0, none⟩), .int .i64 i, .int .i64 blk] W fun e W' => e = .returned (.int .i64 0) ∧ LiveTo w W W' b F (setL L K7 (rowV (two2 2 r1) 2)) (q + 1) := by
  have hG := rget_some h i K7 K8 hK7 hK8 hi hk7 hk8 1 r1 (by decide) h1 f hf he7 he8
  rw [show decide ((1 : Int) = 1) = true from rfl] at hG
  obtain ⟨cz, ecz⟩ : ∃ cz, cz = hc f := ⟨_, rfl⟩
  have hs : cz.size = 32 := by rw [ecz]; exact hc_size f
  have ho : cz.all (·.oneCell') = true := by rw [ecz]; exact hc_one f
  rw [← ecz] at hG
  have HG := Lib.hid hG
  have HI := Lib.hid (show (Try.prog.info? 32).map (·.size) = some cz.size by rw [hs]; exact hi_info)
  have HSz := Lib.hid (show hz.size = cz.size by rw [hs]; rfl)
  have HOne := Lib.hid ho
  have HKA := Lib.hid (fun (V : World) => key_is 37 (some ⟨V.heap.size, 0, none⟩) 1 1 (fun _ => i) K7 hK7 _ (il1 i V 3 hi) (by omega))
  have HSR := Lib.hid (fun (V : World) (hb : Below W.heap.size W (V.alloc (.cells #[.int .i64 2, .int .i64 r1] 3))) => (csetRow_set (h.below hb) K7 (some ⟨V.heap.size, 0, none⟩) 2 2 (two2 2 r1) (il2 2 r1 V 3 (by decide) h1.2) (by omega) (by omega) (fun j hj => by rcases (by omega : j = 0 ∨ j = 1) with rfl | rfl; exact (by decide : (0 : Int) ≤ 2); exact h1.1) hk7 hn7 hN hq).mono fun e W' hp => (⟨hp.1, hp.2.pre hb⟩ : e = .returned (.tuple #[]) ∧ LiveTo w W W' b F (setL L K7 (rowV (two2 2 r1) 2)) (q + 1)))
  have p1 : ¬ r1 ≤ blk := by omega
  obtain ⟨L1, eL1⟩ : ∃ z, z = setL L K7 (rowV (two2 2 r1) 2) := ⟨_, rfl⟩
  rw [← eL1] at HSR ⊢
  clear h hi hG hs ho ecz hK7 hK8 hk7 hk8 h1 hf he7 he8 hb hn7 hN hq eL1
  go_enter Try.func18, Try.ntmps18
  go_upto_region 2 with (first
    | (go_at_call 11; refine HG.out.mono ?_; rintro e w1 ⟨rfl, hb1⟩; have HB1 := Lib.hid hb1; clear hb1)
    | ((with_reducible refine wpList_store_row rfl 32 (.tmp 7) (.tmp 15) rfl w1.heap.size cz ?_ ?_ 32 hz ?_ ?_ ?_ ?_ ?_); (· rfl); (· rfl); (· exact heap_alloc_new _ _); (· exact HI.out); (· exact HSz.out); (· exact HOne.out)))
  have HB2 := Lib.hid (HB1.out.alloc HB1.out.size (.cells hz 32))
  have hb3 := below_setRow HB2.out HB1.out.size cz
  obtain ⟨W3, eW3⟩ : ∃ z, z = (w1.alloc (.cells hz 32)).setRow w1.heap.size cz := ⟨_, rfl⟩
  rw [← eW3] at hb3
  have HB3 := Lib.hid hb3
  unfold hz at eW3
  rw [← eW3]
  clear eW3 hb3
  go_wp2_with (first
    | (go_at_call 33; refine (HSR.out _ (HB4.out.alloc HB4.out.size _)).mono ?_; rintro e w5 ⟨rfl, h5⟩; have H5 := Lib.hid h5; clear h5)
    | (go_at_call 26; refine (HKA.out _).mono ?_; rintro e w4 ⟨rfl, hb4⟩; have hbx := HB3.out.alloc HB3.out.size (.cells #[.int .i64 i] 3); have HB4 := Lib.hid (hbx.trans (hb4.mono hbx.size)); clear hb4 hbx))
  go_ret
  exact ⟨rfl, H5.out⟩
end Go.Proofs.Ythloohoefjmmoaa
