/- An act of any kind, by the plain model; what is read of a store with its changes. -/
import Derived.Test.YtbfmhafmncnhfaaG19
import Derived.Test.YtbfmhafmncnhfaaG16
import Derived.Test.YtbfmhafmncnhfaaG00
import Derived.ChangeSlices
import Derived.Carry
namespace Go.Proofs.Ytbfmhafmncnhfaa
open Go.RowKit Go.Maps Go.Sort

/-- the entries behind an act -/
def aL (kd : Int) (L : SL) (R : List Ch) (k v : ByteArray) (n : Int) : SL := if kd = 0 then setE L k v else if kd = 1 then sdel L k else if kd = 2 then und L R (undD R n) else L
/-- the changes behind it -/
def aR (kd : Int) (L : SL) (R : List Ch) (k v : ByteArray) (n : Int) : List Ch := if kd = 0 then setR L R k v else if kd = 1 then delR L R k else if kd = 2 then R.drop (undD R n) else if kd = 3 then [] else R
theorem und_len : ∀ (R : List Ch) (d : Nat) (L : SL), (und L R d).length + (R.drop d).length ≤ L.length + R.length
  | R, 0, L => by simp [und]
  | [], d + 1, L => by simp [und]
  | c :: R, d + 1, L => by
    have h1 := und_len R d (undo1 L c)
    have h2 := undo1_len L c
    have e : und L (c :: R) (d + 1) = und (undo1 L c) R d := by simp [und]
    rw [e, List.drop_succ_cons, List.length_cons]
    omega
theorem setE_len2 (L : SL) (R : List Ch) (k v : ByteArray) : (setE L k v).length ≤ L.length + 1 ∧ (setR L R k v).length ≤ R.length + 1 := by
  refine ⟨setE_len L k v, ?_⟩
  unfold setR
  split
  · omega
  · split <;> simp
theorem delE_len2 (L : SL) (R : List Ch) (k : ByteArray) : (sdel L k).length ≤ L.length ∧ (delR L R k).length ≤ R.length + 1 := by
  refine ⟨List.length_filter_le _ _, ?_⟩
  unfold delR
  split <;> simp
theorem aL_len (kd : Int) (L : SL) (R : List Ch) (k v : ByteArray) (n : Int) : (aL kd L R k v n).length + (aR kd L R k v n).length ≤ L.length + R.length + 2 := by
  unfold aL aR
  split
  · have := setE_len2 L R k v; omega
  · split
    · have := delE_len2 L R k; omega
    · split
      · have := und_len R (undD R n) L; omega
      · split
        · simp; omega
        · omega
theorem rise_setE {L : SL} (h : Rising (skeys L)) (k v : ByteArray) : Rising (skeys (setE L k v)) := by
  unfold setE
  split
  · exact h
  · unfold setL
    split
    · exact h
    · exact rising_sset h k v
theorem rise_und : ∀ (R : List Ch) (d : Nat) {L : SL}, Rising (skeys L) → Rising (skeys (und L R d))
  | R, 0, L, h => by simpa [und] using h
  | [], d + 1, L, h => by simpa [und] using h
  | c :: R, d + 1, L, h => by
    have e : und L (c :: R) (d + 1) = und (undo1 L c) R d := by simp [und]
    rw [e]
    exact rise_und R d (undo1_rise h c)
theorem rise_aL {kd : Int} {L : SL} {R : List Ch} {k v : ByteArray} {n : Int} (h : Rising (skeys L)) : Rising (skeys (aL kd L R k v n)) := by
  unfold aL
  split
  · exact rise_setE h k v
  · split
    · exact rising_sdel h
    · split
      · exact rise_und R _ h
      · exact h
theorem act_any (w W : World) (b m : Nat) (F : List Nat) (L L' : SL) (R R' : List Ch) (kd : Int) (k v : ByteArray) (n : Int) (hs : SH w W b F L R) (hd : DS w W m L' R') (hr : Rising (skeys L')) (hk : k.size ≤ maxLen) (hv : v.size ≤ maxLen) (hn : -9223372036854775808 ≤ n ∧ n < 2 ^ 63)
    (hN : L.length + R.length + 1 < 1000000) (hN' : L'.length + R'.length < 1000000) :
    Calls Try.prog 11 #[.pointer (some ⟨b, 0, none⟩), .pointer (some ⟨m, 0, none⟩), .agg #[.int .i64 kd, .string k, .string v, .int .i64 n]] W fun e W' => ∃ r, e = .returned (.bool r) ∧ (L = L' → R = R' → r = true) ∧ ActPost w W W' b m (aL kd L R k v n) (aR kd L R k v n) (aL kd L' R' k v n) (aR kd L' R' k v n) := by
  unfold aL aR
  by_cases h0 : kd = 0
  · subst h0
    simp only [if_true]
    exact (act_set w W b m F L L' R R' k v n hs hd hr hk hv (by omega) (by omega) (by omega) (by omega)).mono fun e W' h => ⟨true, h.1, fun _ _ => rfl, h.2⟩
  · simp only [if_neg h0]
    by_cases h1 : kd = 1
    · subst h1
      simp only [if_true]
      exact (act_del w W b m F L L' R R' k v n hs hd hr hk (by omega) (by omega) (by omega) (by omega)).mono fun e W' h => ⟨_, h.1, fun e1 _ => by rw [e1]; exact beq_self_eq_true _, h.2⟩
    · simp only [if_neg h1]
      by_cases h2 : kd = 2
      · subst h2
        simp only [if_true]
        exact (act_undo w W b m F L L' R R' k v n hs hd hr hn (by omega) hN').mono fun e W' h => ⟨_, h.1, fun _ e2 => by rw [e2]; exact beq_self_eq_true _, h.2⟩
      · simp only [if_neg h2]
        by_cases h3 : kd = 3
        · subst h3
          simp only [if_true]
          exact (act_settle w W b m F L L' R R' k v n hs hd (by omega) (by omega)).mono fun e W' h => ⟨_, h.1, fun e1 _ => by rw [e1]; exact decide_eq_true rfl, h.2⟩
        · simp only [if_neg h3]
          exact (act_other w W b m F L L' R R' kd k v n hs hd (by omega) (by omega) h0 h1 h2 h3).mono fun e W' h => ⟨_, h.1, fun e1 _ => by rw [e1]; exact decide_eq_true rfl, h.2⟩
theorem SH.all {w W : World} {b : Nat} {F : List Nat} {L : SL} {R : List Ch} (h : SH w W b F L R) (hN : L.length < 1000000) :
    Calls Try.prog 20 #[.pointer (some ⟨b, 0, none⟩)] W fun e w' => (∃ v, e = .returned v ∧ w'.ownsRow W.heap.size 43 2 v L.length (pcs L)) ∧ Below W.heap.size W w' :=
  all_live b F L _ _ W h.s.s (fun p hp => (h.z p hp).1) hN
theorem SH.get {w W : World} {b : Nat} {F : List Nat} {L : SL} {R : List Ch} (h : SH w W b F L R) (k : ByteArray) (hk : k.size ≤ maxLen) :
    Calls Try.prog 12 #[.pointer (some ⟨b, 0, none⟩), .string k] W fun e W' => e = .returned (.tuple #[.string ((sget L k).getD ⟨#[]⟩), .bool (sget L k).isSome]) ∧ Below W.heap.size W W' :=
  sget_live b F L R.length (chs R) k W h.s.s hk
theorem SH.mark {w W : World} {b : Nat} {F : List Nat} {L : SL} {R : List Ch} (h : SH w W b F L R) :
    Calls Try.prog 14 #[.pointer (some ⟨b, 0, none⟩)] W fun e W' => e = .returned (.int .i64 (R.length : Nat)) ∧ W = W' :=
  mark_live b F L R.length (chs R) W h.s.s
theorem SH.len {w W : World} {b : Nat} {F : List Nat} {L : SL} {R : List Ch} (h : SH w W b F L R) :
    Calls Try.prog 15 #[.pointer (some ⟨b, 0, none⟩)] W fun e W' => e = .returned (.int .i64 (L.length : Nat)) ∧ W = W' :=
  len_live b F L R.length (chs R) W h.s.s
theorem SH.new (w W : World) (hb : Below w.heap.size w W) : Calls Try.prog 10 #[] W fun e W' => ∃ b F, e = .returned (.pointer (some ⟨b, 0, none⟩)) ∧ SH w W' b F [] [] ∧ Below W.heap.size W W' :=
  (SNew.new w W hb).mono fun e W' ⟨b, F, he, hs, hb, _⟩ => ⟨b, F, he, ⟨hs, trivial, fun p hp => by cases hp⟩, hb⟩
theorem SH.l {w W : World} {b : Nat} {F : List Nat} {L : SL} {R : List Ch} (h : SH w W b F L R) : Below w.heap.size w W := h.s.l
/-- behind a mark: a change more -/
theorem und_more {L L1 : SL} {R2 R1 : List Ch} {c : Ch} (h : und L (R2 ++ R1) R2.length = L1) {L' : SL} (hu : undo1 L' c = L) : und L' ((c :: R2) ++ R1) (c :: R2).length = L1 := by
  have e : und L' ((c :: R2) ++ R1) (c :: R2).length = und (undo1 L' c) (R2 ++ R1) R2.length := by simp [und]
  rw [e, hu, h]
theorem keep_set {L L1 : SL} {R2 R1 : List Ch} (hr : Rising (skeys L)) (h : und L (R2 ++ R1) R2.length = L1) (k v : ByteArray) : ∃ R3, setR L (R2 ++ R1) k v = R3 ++ R1 ∧ und (setE L k v) (R3 ++ R1) R3.length = L1 := by
  unfold setR setE
  by_cases h0 : k = ⟨#[]⟩
  · rw [if_pos h0, if_pos h0]; exact ⟨R2, rfl, h⟩
  · rw [if_neg h0, if_neg h0]
    unfold setL
    by_cases h1 : sget L k = some v
    · rw [if_pos h1, if_pos h1]; exact ⟨R2, rfl, h⟩
    · rw [if_neg h1, if_neg h1]
      exact ⟨_ :: R2, rfl, und_more h (undo_sset hr k v)⟩
theorem keep_del {L L1 : SL} {R2 R1 : List Ch} (hr : Rising (skeys L)) (h : und L (R2 ++ R1) R2.length = L1) (k : ByteArray) : ∃ R3, delR L (R2 ++ R1) k = R3 ++ R1 ∧ und (sdel L k) (R3 ++ R1) R3.length = L1 := by
  unfold delR
  cases hs : sget L k with
  | none =>
    have e0 : sdel L k = L := by
      unfold sdel
      rw [List.filter_eq_self]
      intro p hp
      simp [sget_none (by rw [hs]; rfl) p hp]
    rw [e0]
    exact ⟨R2, rfl, h⟩
  | some o => exact ⟨_ :: R2, rfl, und_more h (undo_sdel hr hs)⟩
end Go.Proofs.Ytbfmhafmncnhfaa

namespace Go.Proofs.Ytbfmhafmncnhfaa
open Go.RowKit Go.Maps Go.Sort

theorem str_ne {a b : ByteArray} (h : a ≠ b) : (a.toList == b.toList) = false := by
  rw [beq_eq_false_iff_ne, Lib.toList_data, Lib.toList_data]
  exact fun e => h (lit_inj (congrArg Lit.string e))
set_option maxRecDepth 100000 in
set_option maxHeartbeats 16000000 in
theorem storeLast_go (A : Option Addr) (N C : Nat) (x0 : Nat → Int) (x1 x2 : Nat → ByteArray) (x3 : Nat → Int) (key beg : ByteArray) (w : World) (hr : RowsV w A N 4 (fun i => [.int .i64 (x0 i), .string (x1 i), .string (x2 i), .int .i64 (x3 i)]))
    (hN : N ≤ 300) (hacc : ∀ j, j < N → lacc x1 x2 (j + 1) ≤ 20000) (hk1 : ∀ i, i < N → (x1 i).size ≤ maxLen) (hk2 : ∀ i, i < N → (x2 i).size ≤ maxLen) (hk : key.size ≤ maxLen) (hbg : beg.size ≤ maxLen) :
    Calls Try.prog 5 #[.slice A N C, .string key, .string beg] w fun e w' => e = .returned (.bool true) ∧ Below w.heap.size w w' := by
  have HL1 := Lib.hid (light08_rows A N C x0 x1 x2 x3 w hr (by omega) true ⟨fun _ => ⟨hN, hacc⟩, fun _ => rfl⟩)
  have HR := Lib.hid hr
  have HS := Lib.hid (And.intro hk1 (And.intro hk2 (And.intro hk hbg)))
  have hN' : (N : Int) ≤ 300 := by omega
  clear hr hN hk1 hk2 hk hbg hacc
  go_enter Try.func5, Try.ntmps5
  go_wp2_with (first
    | (go_at_call 10; with_reducible refine (SNew.new w _ H1.out).mono ?_; rintro e w3 ⟨b, F1, rfl, hs1, _, _⟩; have H3 := Lib.hid hs1; clear hs1)
    | (go_at_call 8; with_reducible refine HL1.out.mono ?_; rintro e w1 ⟨rfl, hb1⟩; have H1 := Lib.hid hb1; clear hb1))
  go_loopw [8, 9, 24] (fun v8 v9 i wr => ∃ (j : Nat) (want : ByteArray) (th : Bool) (L : SL), j ≤ N ∧ i = .int .i64 (j : Nat) ∧ v8 = .string want ∧ v9 = .bool th ∧ SlW w wr b key want th j L) (fun _ _ i _ => N - (intOf i).toNat)
  case atStart => exact ⟨0, ⟨#[]⟩, false, [], by omega, rfl, rfl, rfl, ⟨⟨F1, 0, [], H3.out, Nat.le_refl _⟩, Nat.le_refl _, fun p hp => (by cases hp), .inr ⟨rfl, rfl, rfl⟩⟩⟩
  case round =>
    obtain ⟨j, want, th, L, hj, rfl, rfl, rfl, hw⟩ := hrel
    have HW := Lib.hid hw
    by_cases hlt : j < N
    · have p2 : (j : Int) < (N : Int) := by omega
      obtain ⟨g, o, rfl, hg, hc⟩ := (HR.out.below hw.l) (by omega)
      have d0 := hc j hlt 0 _ rfl
      have d1 := hc j hlt 1 _ rfl
      have d2 := hc j hlt 2 _ rfl
      have d3 := hc j hlt 3 _ rfl
      simp only [Nat.add_zero] at d0
      have hks := HS.out.1 j hlt
      have hvs := HS.out.2.1 j hlt
      obtain ⟨k, ek⟩ : ∃ y, y = x1 j := ⟨_, rfl⟩
      obtain ⟨v, ev⟩ : ∃ y, y = x2 j := ⟨_, rfl⟩
      obtain ⟨kd, ekd⟩ : ∃ y, y = x0 j := ⟨_, rfl⟩
      rw [← ek] at d1 hks
      rw [← ev] at d2 hvs
      rw [← ekd] at d0
      have hj6 : j < 100000 := by omega
      clear hc ek ev ekd
      by_cases hk0 : kd = 0
      · subst hk0
        have hbx := (Below.refl wr.heap.size wr).alloc (Nat.le_refl _) (.cells #[.int .i64 0, .string k, .string v, .int .i64 (x3 j)] 33)
        have hpx := heap_alloc_new wr (.cells #[.int .i64 0, .string k, .string v, .int .i64 (x3 j)] 33)
        have hw2 := hw.below hbx
        have HW2 := Lib.hid hw2
        have Hpx := Lib.hid hpx
        have hSt := hw2.set hj6 k v hks hvs
        have HSt := Lib.hid hSt
        clear hw hbx hpx hw2 hSt hks hvs hj6
        by_cases hkk : k = key
        · subst hkk
          have q1 : (k.toList == k.toList) = true := beq_self_eq_true _
          by_cases hke : k = ⟨#[]⟩
          · have q2 : k.toList.isEmpty = true := by rw [hke, Lib.toList_data]; rfl
            have HKE := Lib.hid hke
            clear hke
            go_upto_region 11 with (go_at_call 22; refine HSt.out.mono ?_; rintro e w5 ⟨⟨r, rfl⟩, hs5, hk5⟩; have H5 := Lib.hid hs5; have r5 := (hk5 _ fAct08).2 _ _ _ Hpx.out; have y0 := (hp_cell (i := 0) r5).trans rfl; have y1 := (hp_cell (i := 1) r5).trans rfl; have y2 := (hp_cell (i := 2) r5).trans rfl; clear hs5 hk5 r5)
            go_wp2
            exact ⟨⟨j + 1, want, th, setE L k v, by omega, by go_num, rfl, rfl, H5.out _ _ (HW2.out.k.other (.inr HKE.out))⟩, by simp [intOf]; omega⟩
          · have q2 : k.toList.isEmpty = false := ba_nil hke
            have HKE := Lib.hid hke
            clear hke
            go_upto_region 11 with (go_at_call 22; refine HSt.out.mono ?_; rintro e w5 ⟨⟨r, rfl⟩, hs5, hk5⟩; have H5 := Lib.hid hs5; have r5 := (hk5 _ fAct08).2 _ _ _ Hpx.out; have y0 := (hp_cell (i := 0) r5).trans rfl; have y1 := (hp_cell (i := 1) r5).trans rfl; have y2 := (hp_cell (i := 2) r5).trans rfl; clear hs5 hk5 r5)
            go_wp2
            exact ⟨⟨j + 1, v, true, setE L k v, by omega, by go_num, rfl, rfl, H5.out _ _ (KeepS.set HKE.out)⟩, by simp [intOf]; omega⟩
        · have q1 := str_ne hkk
          have HKK := Lib.hid hkk
          clear hkk
          go_upto_region 11 with (go_at_call 22; refine HSt.out.mono ?_; rintro e w5 ⟨⟨r, rfl⟩, hs5, hk5⟩; have H5 := Lib.hid hs5; have r5 := (hk5 _ fAct08).2 _ _ _ Hpx.out; have y0 := (hp_cell (i := 0) r5).trans rfl; have y1 := (hp_cell (i := 1) r5).trans rfl; have y2 := (hp_cell (i := 2) r5).trans rfl; clear hs5 hk5 r5)
          go_wp2
          exact ⟨⟨j + 1, want, th, setE L k v, by omega, by go_num, rfl, rfl, H5.out _ _ (HW2.out.k.other (.inl HKK.out))⟩, by simp [intOf]; omega⟩
      · have z0 : (kd == 0) = false := beq_eq_false_iff_ne.2 hk0
        by_cases hk1 : kd = 1
        · subst hk1
          have hbx := (Below.refl wr.heap.size wr).alloc (Nat.le_refl _) (.cells #[.int .i64 1, .string k, .string v, .int .i64 (x3 j)] 33)
          have hpx := heap_alloc_new wr (.cells #[.int .i64 1, .string k, .string v, .int .i64 (x3 j)] 33)
          have hw2 := hw.below hbx
          have HW2 := Lib.hid hw2
          have Hpx := Lib.hid hpx
          have hSt := hw2.del hj6 k hks
          have HSt := Lib.hid hSt
          clear hw hbx hpx hw2 hSt hks hvs hj6 hk0 z0
          by_cases hkk : k = key
          · subst hkk
            have q1 : (k.toList == k.toList) = true := beq_self_eq_true _
            go_upto_region 15 with (go_at_call 23; refine HSt.out.mono ?_; rintro e w5 ⟨⟨r, rfl⟩, hs5, hk5⟩; have H5 := Lib.hid hs5; have r5 := (hk5 _ fAct08).2 _ _ _ Hpx.out; have y0 := (hp_cell (i := 0) r5).trans rfl; have y1 := (hp_cell (i := 1) r5).trans rfl; have y2 := (hp_cell (i := 2) r5).trans rfl; clear hs5 hk5 r5)
            go_wp2
            exact ⟨⟨j + 1, ⟨#[]⟩, false, sdel L k, by omega, by go_num, rfl, rfl, H5.out _ _ KeepS.del⟩, by simp [intOf]; omega⟩
          · have q1 := str_ne hkk
            have HKK := Lib.hid hkk
            clear hkk
            go_upto_region 15 with (go_at_call 23; refine HSt.out.mono ?_; rintro e w5 ⟨⟨r, rfl⟩, hs5, hk5⟩; have H5 := Lib.hid hs5; have r5 := (hk5 _ fAct08).2 _ _ _ Hpx.out; have y0 := (hp_cell (i := 0) r5).trans rfl; have y1 := (hp_cell (i := 1) r5).trans rfl; have y2 := (hp_cell (i := 2) r5).trans rfl; clear hs5 hk5 r5)
            go_wp2
            exact ⟨⟨j + 1, want, th, sdel L k, by omega, by go_num, rfl, rfl, H5.out _ _ (HW2.out.k.delOther HKK.out)⟩, by simp [intOf]; omega⟩
        · have z1 : (kd == 1) = false := beq_eq_false_iff_ne.2 hk1
          have hbx := (Below.refl wr.heap.size wr).alloc (Nat.le_refl _) (.cells #[.int .i64 kd, .string k, .string v, .int .i64 (x3 j)] 33)
          have hw2 := (hw.below hbx).next
          have HW2 := Lib.hid hw2
          clear hw hbx hw2 hks hvs hj6 hk0 hk1
          go_wp2
          exact ⟨⟨j + 1, want, th, L, by omega, by go_num, rfl, rfl, HW2.out⟩, by simp [intOf]; omega⟩
    · obtain rfl : j = N := by omega
      have p2 : ¬ (j : Int) < (j : Int) := by omega
      have hGt := hw.get HS.out.2.2.1
      have HGt := Lib.hid hGt
      clear hw hGt
      go_upto_region 19 with (go_at_call 12; refine HGt.out.mono ?_; rintro e w6 ⟨rfl, hb6⟩; have hw6 := HW.out.below hb6; have HW6 := Lib.hid hw6; have hAl := hw6.all (by omega); have HAl := Lib.hid hAl; clear hb6 hw6 hAl)
      go_upto_region 21 with (go_at_call 20; refine HAl.out.mono ?_; rintro e w7 ⟨⟨v7, rfl, ho7⟩, hb7⟩; obtain ⟨A7, C7, rfl, hrow⟩ := row_pairs ho7; have HRW := Lib.hid hrow; have HW7 := Lib.hid (HW6.out.below hb7); have HB7 := Lib.hid hb7; clear ho7 hrow hb7)
      have hLl := HW.out.len
      go_loopw [14, 68] (fun v14 i wr => ∃ (m n : Nat), m ≤ L.length ∧ n ≤ m ∧ n = (L.take m).countP (hpre beg) ∧ i = .int .i64 (m : Nat) ∧ v14 = .int .i64 (n : Nat) ∧ Below w7.heap.size w7 wr) (fun _ i _ => L.length - (intOf i).toNat)
      case atStart => exact ⟨0, 0, by omega, by omega, rfl, rfl, rfl, Below.refl _ _⟩
      case round =>
        obtain ⟨m, n, hm, hnm, hn, rfl, rfl, hbb⟩ := hrel
        have HBB := Lib.hid hbb
        have HNN := Lib.hid hn
        by_cases hlt2 : m < L.length
        · have p3 : (m : Int) < (L.length : Int) := by omega
          obtain ⟨g7, rfl, _, hg7, hcc⟩ := HRW.out (by omega)
          have c0 := (hbb.cell (p := ⟨g7, m * 2, none⟩) hg7).trans (hcc m hlt2).1
          have c1 := (hbb.cell (p := ⟨g7, m * 2 + 1, none⟩) hg7).trans (hcc m hlt2).2
          have hcp := cp_take (hpre beg) hlt2
          obtain ⟨pp, epp⟩ : ∃ y, y = L[m] := ⟨_, rfl⟩
          rw [← epp] at c0 c1 hcp
          obtain ⟨pk, pv⟩ := pp
          simp only at c0 c1
          rw [← hn] at hcp
          have HCP := Lib.hid hcp
          have hx := HBB.out.alloc HBB.out.size (.cells #[.string pk, .string pv] 43)
          have HX := Lib.hid hx
          clear hbb hn hcc epp hcp hx
          by_cases hsz : beg.size ≤ pk.size
          · have p4 : (beg.size : Int) ≤ (pk.size : Int) := by omega
            have hq := pre_ext (v := pv) hsz
            cases hpb : hpre beg (pk, pv) with
            | true =>
              rw [hpb] at hq
              have hcn := HCP.out
              rw [hpb, if_pos rfl] at hcn
              have HCN := Lib.hid hcn
              clear hcn hpb
              go_wp2
              exact ⟨⟨m + 1, n + 1, by omega, by omega, HCN.out.symm, by go_num, by go_num, HX.out⟩, by simp [intOf]; omega⟩
            | false =>
              rw [hpb] at hq
              have hcn := HCP.out
              rw [hpb, if_neg (by decide), Nat.add_zero] at hcn
              have HCN := Lib.hid hcn
              clear hcn hpb
              go_wp2
              exact ⟨⟨m + 1, n, by omega, by omega, HCN.out.symm, by go_num, rfl, HX.out⟩, by simp [intOf]; omega⟩
          · have p4 : ¬ (beg.size : Int) ≤ (pk.size : Int) := by omega
            have hcn := HCP.out
            rw [pre_short (by omega), if_neg (by decide), Nat.add_zero] at hcn
            have HCN := Lib.hid hcn
            clear hcn
            go_wp2
            exact ⟨⟨m + 1, n, by omega, by omega, HCN.out.symm, by go_num, rfl, HX.out⟩, by simp [intOf]; omega⟩
        · obtain rfl : m = L.length := by omega
          have p3 : ¬ (L.length : Int) < (L.length : Int) := by omega
          rw [List.take_length] at hn
          have hw8 := HW7.out.below hbb
          have HW8 := Lib.hid hw8
          have hUn := hw8.under (by omega) beg
          rw [← hn] at hUn
          have HUn := Lib.hid hUn
          have q1 : (want.toList == want.toList) = true := beq_self_eq_true _
          have q2 : (th == th) = true := beq_self_eq_true _
          have q3 : ((n : Int) == (n : Int)) = true := beq_self_eq_true _
          clear hbb hw8 hUn hn
          go_wp2_with (first
            | (go_at_call 9; refine (lives08_walk _).mono ?_; rintro e w9 ⟨rfl, hb9⟩; have H9 := Lib.hid hb9; clear hb9)
            | (go_at_call 24; refine HUn.out.mono ?_; rintro e w8 ⟨⟨A8, C8, rfl⟩, hb8⟩; have H8 := Lib.hid (HW8.out.below hb8); clear hb8))
          go_ret
          exact ⟨rfl, H8.out.l.trans (H9.out.mono H8.out.l.size)⟩
  all_goals done
end Go.Proofs.Ytbfmhafmncnhfaa

namespace Go.Proofs.Ytbfmhafmncnhfaa
open Go.ChangeShapes Go.WideShapes Go.ChangeAt Go.RowKit

theorem cellsU8 : Try.prog.cellsOf 5 = 1 := by kernel_rfl
section
variable {H : Type} {enc : TypeId × Value → H} {W : World} {base : Nat}
set_option maxRecDepth 100000 in
theorem open_bl {v : Value} {d : DataW H} {p : List MemPlace} (hv : Value.okWide Try.prog W .any base 106 v) (h : DataW.Trod enc Try.prog W 0 (fun _ => true) true 106 v d p) :
    ∃ A n c f, v = .slice A n c ∧ Sl W A n f := by
  obtain ⟨a0, n, c, rfl⟩ := okWide_slice Try.underlying106 hv
  obtain ⟨fuel, hf⟩ := h
  rcases open_ints Try.underlying106 Try.underlying5 cellsU8 hf with ⟨hcs, hx⟩ | ⟨a, len', cap', zs, hcs, _, hl, hm, hz, hx, hcell, hwz⟩
  · simp [Value.cells] at hcs
    obtain ⟨rfl, rfl, rfl⟩ := hcs
    exact ⟨none, 0, 0, fun _ => 0, rfl, fun _ => by decide, fun h => absurd h (by omega)⟩
  · simp only [Value.cells, List.cons.injEq, Value.slice.injEq, and_true] at hcs
    obtain ⟨rfl, rfl, rfl⟩ := hcs
    simp only [if_true] at hz
    have hb : ∀ i, 0 ≤ zs.getD i 0 ∧ zs.getD i 0 < 256 := fun i => by
      rcases Nat.lt_or_ge i zs.length with hi | hi
      · have h1 := hwz (zs.getD i 0) (by simp [List.getD, List.getElem?_eq_getElem hi])
        have h2 := bounds_u8 h1
        omega
      · simp only [List.getD, List.getElem?_eq_none hi, Option.getD_none]; decide
    refine ⟨some a, n, c, fun i => (zs.getD i 0).toNat, rfl, fun i => by have := hb i; omega, fun hn => ?_⟩
    have hc0 := hcell 0 (by omega)
    have hlt := World.block_lt_of_cell? W _ hc0
    obtain ⟨g, o, sp⟩ := a
    have hspot : sp = none := by simpa [Addr.add] using World.cell?_spot hc0
    subst hspot
    exact ⟨g, o, rfl, hlt, fun i hi => by
      have h1 := hcell i (by omega)
      have h2 := (hb i).1
      rw [add_plain] at h1
      rw [h1, Int.toNat_of_nonneg h2]⟩
set_option maxRecDepth 100000 in
theorem open_bl2 {v : Value} {d : DataW H} {p : List MemPlace} (hv : Value.okWide Try.prog W .any base 106 v) (h : DataW.Trod enc Try.prog W 0 (fun _ => true) true 106 v d p) :
    ∃ A n c f, v = .slice A n c ∧ Sl W A n f ∧ (A = none → n = 0 ∧ c = 0) := by
  obtain ⟨a0, n, c, rfl⟩ := okWide_slice Try.underlying106 hv
  obtain ⟨fuel, hf⟩ := h
  rcases open_ints Try.underlying106 Try.underlying5 cellsU8 hf with ⟨hcs, hx⟩ | ⟨a, len', cap', zs, hcs, _, hl, hm, hz, hx, hcell, hwz⟩
  · simp [Value.cells] at hcs
    obtain ⟨rfl, rfl, rfl⟩ := hcs
    exact ⟨none, 0, 0, fun _ => 0, rfl, ⟨fun _ => by decide, fun h => absurd h (by omega)⟩, fun _ => ⟨rfl, rfl⟩⟩
  · simp only [Value.cells, List.cons.injEq, Value.slice.injEq, and_true] at hcs
    obtain ⟨rfl, rfl, rfl⟩ := hcs
    simp only [if_true] at hz
    have hb : ∀ i, 0 ≤ zs.getD i 0 ∧ zs.getD i 0 < 256 := fun i => by
      rcases Nat.lt_or_ge i zs.length with hi | hi
      · have h1 := hwz (zs.getD i 0) (by simp [List.getD, List.getElem?_eq_getElem hi])
        have h2 := bounds_u8 h1
        omega
      · simp only [List.getD, List.getElem?_eq_none hi, Option.getD_none]; decide
    refine ⟨some a, n, c, fun i => (zs.getD i 0).toNat, rfl, ⟨fun i => by have := hb i; omega, fun hn => ?_⟩, fun h => by cases h⟩
    have hc0 := hcell 0 (by omega)
    have hlt := World.block_lt_of_cell? W _ hc0
    obtain ⟨g, o, sp⟩ := a
    have hspot : sp = none := by simpa [Addr.add] using World.cell?_spot hc0
    subst hspot
    exact ⟨g, o, rfl, hlt, fun i hi => by
      have h1 := hcell i (by omega)
      have h2 := (hb i).1
      rw [add_plain] at h1
      rw [h1, Int.toNat_of_nonneg h2]⟩
end
end Go.Proofs.Ytbfmhafmncnhfaa
