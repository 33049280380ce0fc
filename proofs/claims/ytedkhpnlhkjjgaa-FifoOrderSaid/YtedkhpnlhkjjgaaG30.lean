/- history: Push, Last, on a dead store and on a live one. -/
import Derived.Test.YtedkhpnlhkjjgaaG29
import Derived.Test.YtedkhpnlhkjjgaaG14
import Derived.Test.YtedkhpnlhkjjgaaG16
namespace Go.Proofs.Ytedkhpnlhkjjgaa
open Go.RowKit Go.Maps Go.Sort

/-- a reader on a dead store -/
theorem reads_dead (P : Option Addr) (t : Int) (A : Option Addr) (n c : Nat) (f : Nat → Int) (k : Int) (w : World) (h : SDead w (.pointer P)) (hk : k < 2 ^ 63) : Reads w P t A n c f k 0 0 false := by
  intro b W hb hA
  exact read_none b P t A n c f k _ rfl false W hA hk fun W1 hb1 => (sget_dead _ _ W1 ((h.below hb).below hb1)).mono fun e w' hh => ⟨hh.1, by rw [← hh.2]; exact Below.refl _ _⟩
/-- a reader on a live store, where there is nothing at the key -/
theorem reads_none {w W : World} {b : Nat} {F : List Nat} {L : SL} {q : Nat} {qs : List Value} (h : SNew w W b F L q qs) (t : Int) (A : Option Addr) (n c : Nat) (f : Nat → Int) (k : Int) (K : ByteArray) (hK : keyStr t (icat f n fun _ => k) (n + 1) = K) (hk : k < 2 ^ 63) (hkK : K.size ≤ maxLen) (he : sget L K = none) : Reads W (some ⟨b, 0, none⟩) t A n c f k 0 0 false := by
  intro b1 W1 hb hA
  exact read_none b1 _ t A n c f k K hK false W1 hA hk fun W2 hb2 => ((h.below (hb.trans (hb2.mono hb.size))).get_none K hkK he).mono fun e w' hh => ⟨hh.1, hh.2.2⟩
theorem reads_some {w W : World} {b : Nat} {F : List Nat} {L : SL} {q : Nat} {qs : List Value} (h : SNew w W b F L q qs) (t : Int) (A : Option Addr) (n c : Nat) (f : Nat → Int) (k : Int) (K : ByteArray) (hK : keyStr t (icat f n fun _ => k) (n + 1) = K) (x a : Nat) (hx : x < 2 ^ 63) (ha : a < 2 ^ 256) (hk : k < 2 ^ 63) (hkK : K.size ≤ maxLen) (he : sget L K = some (hpV x a)) : Reads W (some ⟨b, 0, none⟩) t A n c f k x a true := by
  intro b1 W1 hb hA
  exact read_some b1 _ t A n c f k K hK x a hx ha W1 hA hk fun W2 hb2 => ((h.below (hb.trans (hb2.mono hb.size))).get_some K (hpV x a) hkK he).mono fun e w' hh => ⟨hh.1, hh.2.2⟩
set_option maxRecDepth 100000 in
set_option maxHeartbeats 400000 in
theorem hpush_dead (P : Option Addr) (t : Int) (A : Option Addr) (n c : Nat) (blk : Int) (a : Nat) (w : World) (h : SDead w (.pointer P)) :
    Calls Try.prog 14 #[.pointer P, .int .i64 t, .slice A n c, .int .i64 blk, U a] w fun e w' => e = .returned (.int .i64 1) ∧ Below w.heap.size w w' := by
  have hb0 := (Below.refl w.heap.size w).alloc (Nat.le_refl _) (.cells #[.int .u64 (limb a 0 : Nat), .int .u64 (limb a 1 : Nat), .int .u64 (limb a 2 : Nat), .int .u64 (limb a 3 : Nat)] 29)
  have HM := Lib.hid (made_dead _ _ (h.below hb0))
  have HB0 := Lib.hid hb0
  clear h hb0
  unfold U
  go_enter Try.func14, Try.ntmps14
  go_wp2_with (go_at_call 27; refine HM.out.mono ?_; rintro e w1 ⟨rfl, rfl⟩)
  go_ret
  exact ⟨rfl, HB0.out⟩
set_option maxRecDepth 100000 in
set_option maxHeartbeats 2000000 in
/-- a checkpoint more -/
theorem hpush_more {w W : World} {b : Nat} {F : List Nat} {L : SL} {q : Nat} {qs : List Value} (h : SNew w W b F L q qs) (t : Int) (A : Option Addr) (n c : Nat) (f : Nat → Int) (hI : ∀ W', Touch F W W' → Il W' A n f) (hz : A = none → n = 0 ∧ c = 0) (hn : n ≤ 20) (blk a : Nat) (ha : a < 2 ^ 256) (hblk : blk ≤ 1099511627776)
    (m : Nat) (hm : m ≤ 1000000) (x a0 : Nat) (o : Bool) (hR : Reads W (some ⟨b, 0, none⟩) t A n c f ((m : Int) - 1) x a0 o) (ho : o = false ∨ (x < blk ∧ a0 ≠ a ∧ a0 < 2 ^ 256)) (K0 Km : ByteArray) (hK0 : keyStr t f n = K0) (hKm : keyStr t (icat f n fun _ => (m : Int)) (n + 1) = Km) (hk0 : K0.size ≤ maxLen) (hkm : Km.size ≤ maxLen) (hk00 : K0 ≠ ⟨#[]⟩) (hkm0 : Km ≠ ⟨#[]⟩)
    (he0 : intAt L K0 m) (hN : L.length < 128) (hN1 : (setL L K0 (numStr ((m : Int) + 1))).length < 128) (hq : q + 2 < 1000000) :
    Calls Try.prog 14 #[.pointer (some ⟨b, 0, none⟩), .int .i64 t, .slice A n c, .int .i64 (blk : Nat), U a] W fun e W' => e = .returned (.int .i64 0) ∧ LiveTo w W W' b F (setL (setL L K0 (numStr ((m : Int) + 1))) Km (numStr (blk : Int) ++ amtStr a)) (q + 2) := by
  obtain ⟨W0, hW0⟩ : ∃ W0, W0 = W.alloc (.cells #[.int .u64 (limb a 0 : Nat), .int .u64 (limb a 1 : Nat), .int .u64 (limb a 2 : Nat), .int .u64 (limb a 3 : Nat)] 29) := ⟨_, rfl⟩
  have hb0 : Below W.heap.size W W0 := by rw [hW0]; exact (Below.refl _ _).alloc (Nat.le_refl _) _
  have r0 : W0.heap[W.heap.size]? = some (.cells #[.int .u64 (limb a 0 : Nat), .int .u64 (limb a 1 : Nat), .int .u64 (limb a 2 : Nat), .int .u64 (limb a 3 : Nat)] 29 (0, 0)) := by rw [hW0]; exact heap_alloc_new _ _
  have h0 := h.below hb0
  have hl := hI W (Touch.refl _ _)
  have hl0 := hl.below hb0
  have hFl : W.heap.size ∉ F := fun hk => Nat.lt_irrefl _ (h.s.lt _ hk)
  have HT7 := Lib.hid (fun (w7 : World) (L' : SL) (q' : Nat) (h7 : LiveTo w W0 w7 b F L' q') => show Il w7 A n f ∧ w7.heap[W.heap.size]? = some (.cells #[.int .u64 (limb a 0 : Nat), .int .u64 (limb a 1 : Nat), .int .u64 (limb a 2 : Nat), .int .u64 (limb a 3 : Nat)] 29 (0, 0)) from by
    obtain ⟨_, _, _, _, _, ht, _⟩ := h7
    exact ⟨hI w7 ((Touch.of_below hb0).trans (fun _ hk => .inl hk) ht), (ht.block _ (hp_lt r0) hFl).trans r0⟩)
  have HS0 := Lib.hid h0.start
  have HM := Lib.hid (made_live b F L q qs W0 h0.s)
  have HK0 := Lib.hid (key_is t A n c f K0 hK0 W0 hl0 (by omega))
  have HI := Lib.hid (fun (W1 : World) (hb : Below W0.heap.size W0 W1) => cint_at (h0.below hb) K0 m hk0 he0 (by omega))
  have HRd := Lib.hid (fun w => reader_walk (some ⟨b, 0, none⟩) t A n c w)
  have HRs := Lib.hid (fun (b1 : Nat) (W1 : World) (hb : Below W.heap.size W W1) (hA : HisAt W1 b1 (some ⟨b, 0, none⟩) t A n c f) => hR b1 W1 hb hA)
  have HNx := Lib.hid (fun (W1 : World) (hl : LiveTo w W0 W1 b F L q) => hl.seq 1 (fun F1 qa qsa hs hqa => cnext_walk hs K0 m hk0 hk00 he0 (by omega) hN (by omega)))
  have HPt := Lib.hid (fun (W1 : World) (hb : Il W1 A n f) => point_is t A n c f (m : Int) Km hKm W1 hb hz hn (by omega))
  have HNm := Lib.hid (fun W1 => knum_walk (blk : Int) W1 (by omega))
  have hAm := fun W1 => amount9_walk a W1
  unfold U at hAm
  have HAm := Lib.hid hAm
  clear hAm
  have HSt := Lib.hid (fun (W1 : World) (hl : LiveTo w W0 W1 b F (setL L K0 (numStr ((m : Int) + 1))) (q + 1)) => hl.seq 1 (fun F1 qa qsa hs hqa => hs.sets Km (numStr (blk : Int) ++ amtStr a) hkm (by rw [ba_size_append, numStr_sizeA, amtStr_size]; decide) hkm0 hN1 (by omega)))
  have HH := Lib.hid (And.intro hb0 (And.intro r0 (And.intro hl0 (And.intro hz hn))))
  have hkne := ba_nil hk00
  have n1 : ¬ (1099511627776 : Int) < (blk : Int) := by omega
  have z1 := numStr_sizeA (blk : Int)
  have z2 := amtStr_size a
  have n2 : ¬ (blk : Int) < 0 := by omega
  have HW := Lib.hid hW0
  obtain ⟨L1, hL1⟩ : ∃ L1, L1 = setL L K0 (numStr ((m : Int) + 1)) := ⟨_, rfl⟩
  rw [← hL1] at HNx HSt ⊢
  have mI : (m : Int) ≤ 1000000 := by omega
  have HBl := Lib.hid (And.intro hblk ha)
  clear hR hm
  clear hI hFl
  clear h hl hz hn hW0 hb0 r0 h0 hl0 hK0 hKm hk0 hkm hk00 hkm0 he0 hN hN1 hq hL1 hblk ha
  unfold U
  go_enter Try.func14, Try.ntmps14
  go_upto_region 1 with fail
  rw [← HW.out]
  go_upto_region 9 with (first
    | (go_at_call 112; have g5 := H4; clear g5; with_reducible refine (HRs.out _ _ (HH.out.1.trans (H4.out.1.mono HH.out.1.size)) H4.out.2).mono ?_; rintro e w5 ⟨rfl, hb5⟩; have H5 := Lib.hid (H4.out.1.trans (hb5.mono H4.out.1.size)); unfold hisV U; clear hb5)
    | (go_at_call 62; refine (HRd.out _).mono ?_; rintro e w4 ⟨rfl, hb4, hc0, hc1, hc2, hlt⟩; have H4 := Lib.hid (And.intro (H3.out.trans (hb4.mono H3.out.size)) (show HisAt w4 w3.heap.size (some ⟨b, 0, none⟩) t A n c f from ⟨hc0, hc1, hc2, hlt, HH.out.2.2.1.below (H3.out.trans (hb4.mono H3.out.size)), HH.out.2.2.2.1, HH.out.2.2.2.2⟩)); clear hb4 hc0 hc1 hc2 hlt)
    | (go_at_call 61; refine (HI.out _ H2.out).mono ?_; rintro e w3 ⟨rfl, hb3⟩; have H3 := Lib.hid (H2.out.trans (hb3.mono H2.out.size)); clear hb3)
    | (go_at_call 60; refine HK0.out.mono ?_; rintro e w2 ⟨rfl, hb2⟩; have H2 := Lib.hid hb2; clear hb2)
    | (go_at_call 27; refine HM.out.mono ?_; rintro e w1 ⟨rfl, rfl⟩))
  have hbx := (H5.out).alloc H5.out.size (.cells #[.int .u64 (limb a0 0 : Nat), .int .u64 (limb a0 1 : Nat), .int .u64 (limb a0 2 : Nat), .int .u64 (limb a0 3 : Nat)] 29)
  have rA := (hbx.block W.heap.size (hp_lt HH.out.2.1)).trans HH.out.2.1
  have rB := heap_alloc_new w5 (.cells #[.int .u64 (limb a0 0 : Nat), .int .u64 (limb a0 1 : Nat), .int .u64 (limb a0 2 : Nat), .int .u64 (limb a0 3 : Nat)] 29)
  obtain ⟨W6, hW6⟩ : ∃ W6, W6 = w5.alloc (.cells #[.int .u64 (limb a0 0 : Nat), .int .u64 (limb a0 1 : Nat), .int .u64 (limb a0 2 : Nat), .int .u64 (limb a0 3 : Nat)] 29) := ⟨_, rfl⟩
  rw [← hW6] at hbx rA rB ⊢
  clear hW6
  have H6 := Lib.hid hbx
  have R6 := Lib.hid rA
  have HL6 := Lib.hid (HS0.out.post hbx)
  clear hbx
  have a0c := (hp_cell (i := 0) rA).trans rfl
  have a1c := (hp_cell (i := 1) rA).trans rfl
  have a2c := (hp_cell (i := 2) rA).trans rfl
  have a3c := (hp_cell (i := 3) rA).trans rfl
  have b0c := (hp_cell (i := 0) rB).trans rfl
  have b1c := (hp_cell (i := 1) rB).trans rfl
  have b2c := (hp_cell (i := 2) rB).trans rfl
  have b3c := (hp_cell (i := 3) rB).trans rfl
  clear rA rB
  rcases ho with rfl | ⟨hxb, hne, h3⟩
  · go_upto_region 15 with (first
      | (go_at_call 63; refine (HNx.out _ HL6.out).mono ?_; rintro e w7 ⟨rfl, h7⟩; have H7 := Lib.hid h7; clear h7))
    have il7 := (HT7.out _ _ _ H7.out).1
    have r7 := (HT7.out _ _ _ H7.out).2
    clear a0c a1c a2c a3c b0c b1c b2c b3c
    have f0 := fun (dq : Nat) (osq : Array Obj) => cell_regrown (w := w7) (a := ⟨W.heap.size, 0, none⟩) ((hp_cell (i := 0) r7).trans rfl) dq osq
    have f1 := fun (dq : Nat) (osq : Array Obj) => cell_regrown (w := w7) (a := ⟨W.heap.size, 1, none⟩) ((hp_cell (i := 1) r7).trans rfl) dq osq
    have f2 := fun (dq : Nat) (osq : Array Obj) => cell_regrown (w := w7) (a := ⟨W.heap.size, 2, none⟩) ((hp_cell (i := 2) r7).trans rfl) dq osq
    have f3 := fun (dq : Nat) (osq : Array Obj) => cell_regrown (w := w7) (a := ⟨W.heap.size, 3, none⟩) ((hp_cell (i := 3) r7).trans rfl) dq osq
    have HP7 := Lib.hid (fun (dq : Nat) (osq : Array Obj) => HPt.out (grow (redrawn w7 dq) osq) (il7.below (below_regrown w7 dq osq)))
    clear il7 r7
    refine wp_region_quiet_tail 10 (by kernel_rfl) (by kernel_rfl) ?_
    simp only [List.take_succ_cons, List.take_zero]
    repeat (quiet_step (first
      | (go_at_call 65; with_reducible exact Calls.regrown_of (HP7.out _ _))
      | (go_at_call 66; with_reducible exact Calls.regrown_of (HNm.out _))
      | (go_at_call 67; with_reducible exact Calls.regrown_of (HAm.out _))))
    refine wpQuiet_nil ?_
    intro _ hw'
    obtain ⟨⟨dq, osq⟩, hw''⟩ := hw'
    subst hw''
    have H8 := Lib.hid (H7.out.post (below_regrown w7 dq osq))
    clear f0 f1 f2 f3 HP7
    simp only [List.drop_succ_cons, List.drop_zero]
    go_wp2_with (go_at_call 64; refine (HSt.out _ H8.out).mono ?_; rintro e w9 ⟨rfl, h9⟩; have H9 := Lib.hid h9; clear h9)
    go_ret
    exact ⟨rfl, H9.out.pre HH.out.1⟩
  · have p1 : ¬ (blk : Int) < (x : Int) := by omega
    have p2 : ((blk : Int) == (x : Int)) = false := by rw [beq_eq_false_iff_ne]; omega
    have hEq := fun w => eq_run (a := a) (b := a0) HBl.out.2 h3 w
    rw [decide_eq_false (fun h => hne h.symm)] at hEq
    have HOx := Lib.hid (And.intro hxb (And.intro hne h3))
    clear hxb hne h3
    cases o
    · go_upto_region 15 with (first
      | (go_at_call 63; refine (HNx.out _ HL6.out).mono ?_; rintro e w7 ⟨rfl, h7⟩; have H7 := Lib.hid h7; clear h7))
      have il7 := (HT7.out _ _ _ H7.out).1
      have r7 := (HT7.out _ _ _ H7.out).2
      clear a0c a1c a2c a3c b0c b1c b2c b3c
      have f0 := fun (dq : Nat) (osq : Array Obj) => cell_regrown (w := w7) (a := ⟨W.heap.size, 0, none⟩) ((hp_cell (i := 0) r7).trans rfl) dq osq
      have f1 := fun (dq : Nat) (osq : Array Obj) => cell_regrown (w := w7) (a := ⟨W.heap.size, 1, none⟩) ((hp_cell (i := 1) r7).trans rfl) dq osq
      have f2 := fun (dq : Nat) (osq : Array Obj) => cell_regrown (w := w7) (a := ⟨W.heap.size, 2, none⟩) ((hp_cell (i := 2) r7).trans rfl) dq osq
      have f3 := fun (dq : Nat) (osq : Array Obj) => cell_regrown (w := w7) (a := ⟨W.heap.size, 3, none⟩) ((hp_cell (i := 3) r7).trans rfl) dq osq
      have HP7 := Lib.hid (fun (dq : Nat) (osq : Array Obj) => HPt.out (grow (redrawn w7 dq) osq) (il7.below (below_regrown w7 dq osq)))
      clear il7 r7
      refine wp_region_quiet_tail 10 (by kernel_rfl) (by kernel_rfl) ?_
      simp only [List.take_succ_cons, List.take_zero]
      repeat (quiet_step (first
        | (go_at_call 65; with_reducible exact Calls.regrown_of (HP7.out _ _))
        | (go_at_call 66; with_reducible exact Calls.regrown_of (HNm.out _))
        | (go_at_call 67; with_reducible exact Calls.regrown_of (HAm.out _))))
      refine wpQuiet_nil ?_
      intro _ hw'
      obtain ⟨⟨dq, osq⟩, hw''⟩ := hw'
      subst hw''
      have H8 := Lib.hid (H7.out.post (below_regrown w7 dq osq))
      clear f0 f1 f2 f3 HP7
      simp only [List.drop_succ_cons, List.drop_zero]
      go_wp2_with (go_at_call 64; refine (HSt.out _ H8.out).mono ?_; rintro e w9 ⟨rfl, h9⟩; have H9 := Lib.hid h9; clear h9)
      go_ret
      exact ⟨rfl, H9.out.pre HH.out.1⟩
    · go_upto_region 15 with (first
      | (go_at_call 63; refine (HNx.out _ HL6.out).mono ?_; rintro e w7 ⟨rfl, h7⟩; have H7 := Lib.hid h7; clear h7))
      have il7 := (HT7.out _ _ _ H7.out).1
      have r7 := (HT7.out _ _ _ H7.out).2
      clear a0c a1c a2c a3c b0c b1c b2c b3c
      have f0 := fun (dq : Nat) (osq : Array Obj) => cell_regrown (w := w7) (a := ⟨W.heap.size, 0, none⟩) ((hp_cell (i := 0) r7).trans rfl) dq osq
      have f1 := fun (dq : Nat) (osq : Array Obj) => cell_regrown (w := w7) (a := ⟨W.heap.size, 1, none⟩) ((hp_cell (i := 1) r7).trans rfl) dq osq
      have f2 := fun (dq : Nat) (osq : Array Obj) => cell_regrown (w := w7) (a := ⟨W.heap.size, 2, none⟩) ((hp_cell (i := 2) r7).trans rfl) dq osq
      have f3 := fun (dq : Nat) (osq : Array Obj) => cell_regrown (w := w7) (a := ⟨W.heap.size, 3, none⟩) ((hp_cell (i := 3) r7).trans rfl) dq osq
      have HP7 := Lib.hid (fun (dq : Nat) (osq : Array Obj) => HPt.out (grow (redrawn w7 dq) osq) (il7.below (below_regrown w7 dq osq)))
      clear il7 r7
      refine wp_region_quiet_tail 10 (by kernel_rfl) (by kernel_rfl) ?_
      simp only [List.take_succ_cons, List.take_zero]
      repeat (quiet_step (first
        | (go_at_call 65; with_reducible exact Calls.regrown_of (HP7.out _ _))
        | (go_at_call 66; with_reducible exact Calls.regrown_of (HNm.out _))
        | (go_at_call 67; with_reducible exact Calls.regrown_of (HAm.out _))))
      refine wpQuiet_nil ?_
      intro _ hw'
      obtain ⟨⟨dq, osq⟩, hw''⟩ := hw'
      subst hw''
      have H8 := Lib.hid (H7.out.post (below_regrown w7 dq osq))
      clear f0 f1 f2 f3 HP7
      simp only [List.drop_succ_cons, List.drop_zero]
      go_wp2_with (go_at_call 64; refine (HSt.out _ H8.out).mono ?_; rintro e w9 ⟨rfl, h9⟩; have H9 := Lib.hid h9; clear h9)
      go_ret
      exact ⟨rfl, H9.out.pre HH.out.1⟩
end Go.Proofs.Ytedkhpnlhkjjgaa

namespace Go.Proofs.Ytedkhpnlhkjjgaa
open Go.RowKit Go.Maps Go.Sort

set_option maxRecDepth 100000 in
set_option maxHeartbeats 1000000 in
theorem hpush_bad {w W : World} {b : Nat} {F : List Nat} {L : SL} {q : Nat} {qs : List Value} (h : SNew w W b F L q qs) (t : Int) (A : Option Addr) (n c : Nat) (f : Nat → Int) (hl : Il W A n f) (hn : n ≤ 20) (blk : Int) (a : Nat) (K0 : ByteArray) (hK0 : keyStr t f n = K0) (hk00 : K0 ≠ ⟨#[]⟩) (hbad : blk < 0 ∨ 1099511627776 < blk) :
    Calls Try.prog 14 #[.pointer (some ⟨b, 0, none⟩), .int .i64 t, .slice A n c, .int .i64 blk, U a] W fun e W' => e = .returned (.int .i64 2) ∧ LiveTo w W W' b F L q := by
  have hb0 := (Below.refl W.heap.size W).alloc (Nat.le_refl _) (.cells #[.int .u64 (limb a 0 : Nat), .int .u64 (limb a 1 : Nat), .int .u64 (limb a 2 : Nat), .int .u64 (limb a 3 : Nat)] 29)
  have HM := Lib.hid (made_live b F L q qs _ (h.below hb0).s)
  have HK0 := Lib.hid (key_is t A n c f K0 hK0 _ (hl.below hb0) (by omega))
  have HS := Lib.hid (fun (W1 : World) (hb : Below W.heap.size W W1) => h.same hb)
  have HB0 := Lib.hid hb0
  have hkne := ba_nil hk00
  clear h hl hn hK0 hk00 hb0
  unfold U
  rcases hbad with h1 | h1
  · go_enter Try.func14, Try.ntmps14
    go_wp2_with (first
      | (go_at_call 60; with_reducible refine HK0.out.mono ?_; rintro e w2 ⟨rfl, hb2⟩; have H2 := Lib.hid (HB0.out.trans (hb2.mono HB0.out.size)); clear hb2)
      | (go_at_call 27; with_reducible refine HM.out.mono ?_; rintro e w1 ⟨rfl, rfl⟩))
    go_ret
    exact ⟨rfl, HS.out _ H2.out⟩
  · have h2 : ¬ blk < 0 := by omega
    go_enter Try.func14, Try.ntmps14
    go_wp2_with (first
      | (go_at_call 60; with_reducible refine HK0.out.mono ?_; rintro e w2 ⟨rfl, hb2⟩; have H2 := Lib.hid (HB0.out.trans (hb2.mono HB0.out.size)); clear hb2)
      | (go_at_call 27; with_reducible refine HM.out.mono ?_; rintro e w1 ⟨rfl, rfl⟩))
    go_ret
    exact ⟨rfl, HS.out _ H2.out⟩
set_option maxRecDepth 100000 in
set_option maxHeartbeats 4000000 in
theorem hpush_state {w W : World} {b : Nat} {F : List Nat} {L : SL} {q : Nat} {qs : List Value} (h : SNew w W b F L q qs) (t : Int) (A : Option Addr) (n c : Nat) (f : Nat → Int) (hI : ∀ W', Touch F W W' → Il W' A n f) (hz : A = none → n = 0 ∧ c = 0) (hn : n ≤ 20) (blk a : Nat) (ha : a < 2 ^ 256) (hblk : blk ≤ 1099511627776)
    (m : Nat) (hm : m ≤ 1000000) (x a0 : Nat) (hR : Reads W (some ⟨b, 0, none⟩) t A n c f ((m : Int) - 1) x a0 true) (ho : blk < x) (K0 : ByteArray) (hK0 : keyStr t f n = K0) (hk0 : K0.size ≤ maxLen) (hk00 : K0 ≠ ⟨#[]⟩) (he0 : intAt L K0 m) :
    Calls Try.prog 14 #[.pointer (some ⟨b, 0, none⟩), .int .i64 t, .slice A n c, .int .i64 (blk : Nat), U a] W fun e W' => e = .returned (.int .i64 10) ∧ LiveTo w W W' b F L q := by
  obtain ⟨W0, hW0⟩ : ∃ W0, W0 = W.alloc (.cells #[.int .u64 (limb a 0 : Nat), .int .u64 (limb a 1 : Nat), .int .u64 (limb a 2 : Nat), .int .u64 (limb a 3 : Nat)] 29) := ⟨_, rfl⟩
  have hb0 : Below W.heap.size W W0 := by rw [hW0]; exact (Below.refl _ _).alloc (Nat.le_refl _) _
  have r0 : W0.heap[W.heap.size]? = some (.cells #[.int .u64 (limb a 0 : Nat), .int .u64 (limb a 1 : Nat), .int .u64 (limb a 2 : Nat), .int .u64 (limb a 3 : Nat)] 29 (0, 0)) := by rw [hW0]; exact heap_alloc_new _ _
  have h0 := h.below hb0
  have hl := hI W (Touch.refl _ _)
  have hl0 := hl.below hb0
  have hFl : W.heap.size ∉ F := fun hk => Nat.lt_irrefl _ (h.s.lt _ hk)
  have HT7 := Lib.hid (fun (w7 : World) (L' : SL) (q' : Nat) (h7 : LiveTo w W0 w7 b F L' q') => show Il w7 A n f ∧ w7.heap[W.heap.size]? = some (.cells #[.int .u64 (limb a 0 : Nat), .int .u64 (limb a 1 : Nat), .int .u64 (limb a 2 : Nat), .int .u64 (limb a 3 : Nat)] 29 (0, 0)) from by
    obtain ⟨_, _, _, _, _, ht, _⟩ := h7
    exact ⟨hI w7 ((Touch.of_below hb0).trans (fun _ hk => .inl hk) ht), (ht.block _ (hp_lt r0) hFl).trans r0⟩)
  have HS0 := Lib.hid h0.start
  have HM := Lib.hid (made_live b F L q qs W0 h0.s)
  have HK0 := Lib.hid (key_is t A n c f K0 hK0 W0 hl0 (by omega))
  have HI := Lib.hid (fun (W1 : World) (hb : Below W0.heap.size W0 W1) => cint_at (h0.below hb) K0 m hk0 he0 (by omega))
  have HRd := Lib.hid (fun w => reader_walk (some ⟨b, 0, none⟩) t A n c w)
  have HRs := Lib.hid (fun (b1 : Nat) (W1 : World) (hb : Below W.heap.size W W1) (hA : HisAt W1 b1 (some ⟨b, 0, none⟩) t A n c f) => hR b1 W1 hb hA)
  have HH := Lib.hid (And.intro hb0 (And.intro r0 (And.intro hl0 (And.intro hz hn))))
  have hkne := ba_nil hk00
  have n1 : ¬ (1099511627776 : Int) < (blk : Int) := by omega
  have n2 : ¬ (blk : Int) < 0 := by omega
  have HW := Lib.hid hW0
  have HBl := Lib.hid (And.intro hblk ha)
  have mI : (m : Int) ≤ 1000000 := by omega
  clear hR hm
  clear hI hFl
  clear h hl hz hn hW0 hb0 r0 h0 hl0 hK0 hk0 hk00 he0 hblk ha
  unfold U
  go_enter Try.func14, Try.ntmps14
  go_upto_region 1 with fail
  rw [← HW.out]
  go_upto_region 9 with (first
    | (go_at_call 112; have g5 := H4; clear g5; with_reducible refine (HRs.out _ _ (HH.out.1.trans (H4.out.1.mono HH.out.1.size)) H4.out.2).mono ?_; rintro e w5 ⟨rfl, hb5⟩; have H5 := Lib.hid (H4.out.1.trans (hb5.mono H4.out.1.size)); unfold hisV U; clear hb5)
    | (go_at_call 62; refine (HRd.out _).mono ?_; rintro e w4 ⟨rfl, hb4, hc0, hc1, hc2, hlt⟩; have H4 := Lib.hid (And.intro (H3.out.trans (hb4.mono H3.out.size)) (show HisAt w4 w3.heap.size (some ⟨b, 0, none⟩) t A n c f from ⟨hc0, hc1, hc2, hlt, HH.out.2.2.1.below (H3.out.trans (hb4.mono H3.out.size)), HH.out.2.2.2.1, HH.out.2.2.2.2⟩)); clear hb4 hc0 hc1 hc2 hlt)
    | (go_at_call 61; refine (HI.out _ H2.out).mono ?_; rintro e w3 ⟨rfl, hb3⟩; have H3 := Lib.hid (H2.out.trans (hb3.mono H2.out.size)); clear hb3)
    | (go_at_call 60; refine HK0.out.mono ?_; rintro e w2 ⟨rfl, hb2⟩; have H2 := Lib.hid hb2; clear hb2)
    | (go_at_call 27; refine HM.out.mono ?_; rintro e w1 ⟨rfl, rfl⟩))
  have hbx := (H5.out).alloc H5.out.size (.cells #[.int .u64 (limb a0 0 : Nat), .int .u64 (limb a0 1 : Nat), .int .u64 (limb a0 2 : Nat), .int .u64 (limb a0 3 : Nat)] 29)
  have rA := (hbx.block W.heap.size (hp_lt HH.out.2.1)).trans HH.out.2.1
  have rB := heap_alloc_new w5 (.cells #[.int .u64 (limb a0 0 : Nat), .int .u64 (limb a0 1 : Nat), .int .u64 (limb a0 2 : Nat), .int .u64 (limb a0 3 : Nat)] 29)
  obtain ⟨W6, hW6⟩ : ∃ W6, W6 = w5.alloc (.cells #[.int .u64 (limb a0 0 : Nat), .int .u64 (limb a0 1 : Nat), .int .u64 (limb a0 2 : Nat), .int .u64 (limb a0 3 : Nat)] 29) := ⟨_, rfl⟩
  rw [← hW6] at hbx rA rB ⊢
  clear hW6
  have H6 := Lib.hid hbx
  have R6 := Lib.hid rA
  have HL6 := Lib.hid (HS0.out.post hbx)
  clear hbx
  have a0c := (hp_cell (i := 0) rA).trans rfl
  have a1c := (hp_cell (i := 1) rA).trans rfl
  have a2c := (hp_cell (i := 2) rA).trans rfl
  have a3c := (hp_cell (i := 3) rA).trans rfl
  have b0c := (hp_cell (i := 0) rB).trans rfl
  have b1c := (hp_cell (i := 1) rB).trans rfl
  have b2c := (hp_cell (i := 2) rB).trans rfl
  have b3c := (hp_cell (i := 3) rB).trans rfl
  clear rA rB
  have p1 : (blk : Int) < (x : Int) := by omega
  clear a0c a1c a2c a3c b0c b1c b2c b3c
  go_wp2
  go_ret
  exact ⟨rfl, HL6.out.pre HH.out.1⟩
set_option maxRecDepth 100000 in
set_option maxHeartbeats 4000000 in
theorem hpush_stay {w W : World} {b : Nat} {F : List Nat} {L : SL} {q : Nat} {qs : List Value} (h : SNew w W b F L q qs) (t : Int) (A : Option Addr) (n c : Nat) (f : Nat → Int) (hI : ∀ W', Touch F W W' → Il W' A n f) (hz : A = none → n = 0 ∧ c = 0) (hn : n ≤ 20) (blk a : Nat) (ha : a < 2 ^ 256) (hblk : blk ≤ 1099511627776)
    (m : Nat) (hm : m ≤ 1000000) (x a0 : Nat) (hR : Reads W (some ⟨b, 0, none⟩) t A n c f ((m : Int) - 1) x a0 true) (ho : x < blk) (hEa : a0 = a) (K0 : ByteArray) (hK0 : keyStr t f n = K0) (hk0 : K0.size ≤ maxLen) (hk00 : K0 ≠ ⟨#[]⟩) (he0 : intAt L K0 m) :
    Calls Try.prog 14 #[.pointer (some ⟨b, 0, none⟩), .int .i64 t, .slice A n c, .int .i64 (blk : Nat), U a] W fun e W' => e = .returned (.int .i64 0) ∧ LiveTo w W W' b F L q := by
  subst hEa
  obtain ⟨W0, hW0⟩ : ∃ W0, W0 = W.alloc (.cells #[.int .u64 (limb a0 0 : Nat), .int .u64 (limb a0 1 : Nat), .int .u64 (limb a0 2 : Nat), .int .u64 (limb a0 3 : Nat)] 29) := ⟨_, rfl⟩
  have hb0 : Below W.heap.size W W0 := by rw [hW0]; exact (Below.refl _ _).alloc (Nat.le_refl _) _
  have r0 : W0.heap[W.heap.size]? = some (.cells #[.int .u64 (limb a0 0 : Nat), .int .u64 (limb a0 1 : Nat), .int .u64 (limb a0 2 : Nat), .int .u64 (limb a0 3 : Nat)] 29 (0, 0)) := by rw [hW0]; exact heap_alloc_new _ _
  have h0 := h.below hb0
  have hl := hI W (Touch.refl _ _)
  have hl0 := hl.below hb0
  have hFl : W.heap.size ∉ F := fun hk => Nat.lt_irrefl _ (h.s.lt _ hk)
  have HT7 := Lib.hid (fun (w7 : World) (L' : SL) (q' : Nat) (h7 : LiveTo w W0 w7 b F L' q') => show Il w7 A n f ∧ w7.heap[W.heap.size]? = some (.cells #[.int .u64 (limb a0 0 : Nat), .int .u64 (limb a0 1 : Nat), .int .u64 (limb a0 2 : Nat), .int .u64 (limb a0 3 : Nat)] 29 (0, 0)) from by
    obtain ⟨_, _, _, _, _, ht, _⟩ := h7
    exact ⟨hI w7 ((Touch.of_below hb0).trans (fun _ hk => .inl hk) ht), (ht.block _ (hp_lt r0) hFl).trans r0⟩)
  have HS0 := Lib.hid h0.start
  have HM := Lib.hid (made_live b F L q qs W0 h0.s)
  have HK0 := Lib.hid (key_is t A n c f K0 hK0 W0 hl0 (by omega))
  have HI := Lib.hid (fun (W1 : World) (hb : Below W0.heap.size W0 W1) => cint_at (h0.below hb) K0 m hk0 he0 (by omega))
  have HRd := Lib.hid (fun w => reader_walk (some ⟨b, 0, none⟩) t A n c w)
  have HRs := Lib.hid (fun (b1 : Nat) (W1 : World) (hb : Below W.heap.size W W1) (hA : HisAt W1 b1 (some ⟨b, 0, none⟩) t A n c f) => hR b1 W1 hb hA)
  have HH := Lib.hid (And.intro hb0 (And.intro r0 (And.intro hl0 (And.intro hz hn))))
  have hkne := ba_nil hk00
  have n1 : ¬ (1099511627776 : Int) < (blk : Int) := by omega
  have n2 : ¬ (blk : Int) < 0 := by omega
  have HW := Lib.hid hW0
  have HBl := Lib.hid (And.intro hblk ha)
  have mI : (m : Int) ≤ 1000000 := by omega
  clear hR hm
  clear hI hFl
  clear h hl hz hn hW0 hb0 r0 h0 hl0 hK0 hk0 hk00 he0 hblk ha
  unfold U
  go_enter Try.func14, Try.ntmps14
  go_upto_region 1 with fail
  rw [← HW.out]
  go_upto_region 9 with (first
    | (go_at_call 112; have g5 := H4; clear g5; with_reducible refine (HRs.out _ _ (HH.out.1.trans (H4.out.1.mono HH.out.1.size)) H4.out.2).mono ?_; rintro e w5 ⟨rfl, hb5⟩; have H5 := Lib.hid (H4.out.1.trans (hb5.mono H4.out.1.size)); unfold hisV U; clear hb5)
    | (go_at_call 62; refine (HRd.out _).mono ?_; rintro e w4 ⟨rfl, hb4, hc0, hc1, hc2, hlt⟩; have H4 := Lib.hid (And.intro (H3.out.trans (hb4.mono H3.out.size)) (show HisAt w4 w3.heap.size (some ⟨b, 0, none⟩) t A n c f from ⟨hc0, hc1, hc2, hlt, HH.out.2.2.1.below (H3.out.trans (hb4.mono H3.out.size)), HH.out.2.2.2.1, HH.out.2.2.2.2⟩)); clear hb4 hc0 hc1 hc2 hlt)
    | (go_at_call 61; refine (HI.out _ H2.out).mono ?_; rintro e w3 ⟨rfl, hb3⟩; have H3 := Lib.hid (H2.out.trans (hb3.mono H2.out.size)); clear hb3)
    | (go_at_call 60; refine HK0.out.mono ?_; rintro e w2 ⟨rfl, hb2⟩; have H2 := Lib.hid hb2; clear hb2)
    | (go_at_call 27; refine HM.out.mono ?_; rintro e w1 ⟨rfl, rfl⟩))
  have hbx := (H5.out).alloc H5.out.size (.cells #[.int .u64 (limb a0 0 : Nat), .int .u64 (limb a0 1 : Nat), .int .u64 (limb a0 2 : Nat), .int .u64 (limb a0 3 : Nat)] 29)
  have rA := (hbx.block W.heap.size (hp_lt HH.out.2.1)).trans HH.out.2.1
  have rB := heap_alloc_new w5 (.cells #[.int .u64 (limb a0 0 : Nat), .int .u64 (limb a0 1 : Nat), .int .u64 (limb a0 2 : Nat), .int .u64 (limb a0 3 : Nat)] 29)
  obtain ⟨W6, hW6⟩ : ∃ W6, W6 = w5.alloc (.cells #[.int .u64 (limb a0 0 : Nat), .int .u64 (limb a0 1 : Nat), .int .u64 (limb a0 2 : Nat), .int .u64 (limb a0 3 : Nat)] 29) := ⟨_, rfl⟩
  rw [← hW6] at hbx rA rB ⊢
  clear hW6
  have H6 := Lib.hid hbx
  have R6 := Lib.hid rA
  have HL6 := Lib.hid (HS0.out.post hbx)
  clear hbx
  have a0c := (hp_cell (i := 0) rA).trans rfl
  have a1c := (hp_cell (i := 1) rA).trans rfl
  have a2c := (hp_cell (i := 2) rA).trans rfl
  have a3c := (hp_cell (i := 3) rA).trans rfl
  have b0c := (hp_cell (i := 0) rB).trans rfl
  have b1c := (hp_cell (i := 1) rB).trans rfl
  have b2c := (hp_cell (i := 2) rB).trans rfl
  have b3c := (hp_cell (i := 3) rB).trans rfl
  clear rA rB
  have p1 : ¬ (blk : Int) < (x : Int) := by omega
  have p2 : ((blk : Int) == (x : Int)) = false := by rw [beq_eq_false_iff_ne]; omega
  have hEq := fun w => eq_run (a := a0) (b := a0) HBl.out.2 HBl.out.2 w
  rw [decide_eq_true (rfl : a0 = a0)] at hEq
  go_wp2
  go_ret
  exact ⟨rfl, HL6.out.pre HH.out.1⟩
set_option maxRecDepth 100000 in
set_option maxHeartbeats 4000000 in
theorem hpush_over {w W : World} {b : Nat} {F : List Nat} {L : SL} {q : Nat} {qs : List Value} (h : SNew w W b F L q qs) (t : Int) (A : Option Addr) (n c : Nat) (f : Nat → Int) (hI : ∀ W', Touch F W W' → Il W' A n f) (hz : A = none → n = 0 ∧ c = 0) (hn : n ≤ 20) (blk a : Nat) (ha : a < 2 ^ 256) (hblk : blk ≤ 1099511627776)
    (m : Nat) (hm : m ≤ 1000000) (x a0 : Nat) (hR : Reads W (some ⟨b, 0, none⟩) t A n c f ((m : Int) - 1) x a0 true) (ho : blk = x) (K0 : ByteArray) (hK0 : keyStr t f n = K0) (hk0 : K0.size ≤ maxLen) (hk00 : K0 ≠ ⟨#[]⟩) (he0 : intAt L K0 m) (Km : ByteArray) (hKm : keyStr t (icat f n fun _ => (m : Int) - 1) (n + 1) = Km) (hkm : Km.size ≤ maxLen) (hkm0 : Km ≠ ⟨#[]⟩) (hN : L.length < 128) (hq : q + 1 < 1000000) :
    Calls Try.prog 14 #[.pointer (some ⟨b, 0, none⟩), .int .i64 t, .slice A n c, .int .i64 (blk : Nat), U a] W fun e W' => e = .returned (.int .i64 0) ∧ LiveTo w W W' b F (setL L Km (numStr (blk : Int) ++ amtStr a)) (q + 1) := by
  subst ho
  obtain ⟨W0, hW0⟩ : ∃ W0, W0 = W.alloc (.cells #[.int .u64 (limb a 0 : Nat), .int .u64 (limb a 1 : Nat), .int .u64 (limb a 2 : Nat), .int .u64 (limb a 3 : Nat)] 29) := ⟨_, rfl⟩
  have hb0 : Below W.heap.size W W0 := by rw [hW0]; exact (Below.refl _ _).alloc (Nat.le_refl _) _
  have r0 : W0.heap[W.heap.size]? = some (.cells #[.int .u64 (limb a 0 : Nat), .int .u64 (limb a 1 : Nat), .int .u64 (limb a 2 : Nat), .int .u64 (limb a 3 : Nat)] 29 (0, 0)) := by rw [hW0]; exact heap_alloc_new _ _
  have h0 := h.below hb0
  have hl := hI W (Touch.refl _ _)
  have hl0 := hl.below hb0
  have hFl : W.heap.size ∉ F := fun hk => Nat.lt_irrefl _ (h.s.lt _ hk)
  have HT7 := Lib.hid (fun (w7 : World) (L' : SL) (q' : Nat) (h7 : LiveTo w W0 w7 b F L' q') => show Il w7 A n f ∧ w7.heap[W.heap.size]? = some (.cells #[.int .u64 (limb a 0 : Nat), .int .u64 (limb a 1 : Nat), .int .u64 (limb a 2 : Nat), .int .u64 (limb a 3 : Nat)] 29 (0, 0)) from by
    obtain ⟨_, _, _, _, _, ht, _⟩ := h7
    exact ⟨hI w7 ((Touch.of_below hb0).trans (fun _ hk => .inl hk) ht), (ht.block _ (hp_lt r0) hFl).trans r0⟩)
  have HS0 := Lib.hid h0.start
  have HM := Lib.hid (made_live b F L q qs W0 h0.s)
  have HK0 := Lib.hid (key_is t A n c f K0 hK0 W0 hl0 (by omega))
  have HI := Lib.hid (fun (W1 : World) (hb : Below W0.heap.size W0 W1) => cint_at (h0.below hb) K0 m hk0 he0 (by omega))
  have HRd := Lib.hid (fun w => reader_walk (some ⟨b, 0, none⟩) t A n c w)
  have HRs := Lib.hid (fun (b1 : Nat) (W1 : World) (hb : Below W.heap.size W W1) (hA : HisAt W1 b1 (some ⟨b, 0, none⟩) t A n c f) => hR b1 W1 hb hA)
  have HPt := Lib.hid (fun (W1 : World) (hb : Il W1 A n f) => point_is t A n c f ((m : Int) - 1) Km hKm W1 hb hz hn (by omega))
  have HNm := Lib.hid (fun W1 => knum_walk (blk : Int) W1 (by omega))
  have hAm := fun W1 => amount9_walk a W1
  unfold U at hAm
  have HAm := Lib.hid hAm
  clear hAm
  have HSt := Lib.hid (fun (W1 : World) (hl : LiveTo w W0 W1 b F L q) => hl.seq 1 (fun F1 qa qsa hs hqa => hs.sets Km (numStr (blk : Int) ++ amtStr a) hkm (by rw [ba_size_append, numStr_sizeA, amtStr_size]; decide) hkm0 hN (by omega)))
  have HH := Lib.hid (And.intro hb0 (And.intro r0 (And.intro hl0 (And.intro hz hn))))
  have hkne := ba_nil hk00
  have n1 : ¬ (1099511627776 : Int) < (blk : Int) := by omega
  have z1 := numStr_sizeA (blk : Int)
  have z2 := amtStr_size a
  have n2 : ¬ (blk : Int) < 0 := by omega
  have HW := Lib.hid hW0
  have HBl := Lib.hid (And.intro hblk ha)
  have mI : (m : Int) ≤ 1000000 := by omega
  clear hR hm
  clear hI hFl
  clear h hl hz hn hW0 hb0 r0 h0 hl0 hK0 hKm hk0 hkm hk00 hkm0 he0 hN hq hblk ha
  unfold U
  go_enter Try.func14, Try.ntmps14
  go_upto_region 1 with fail
  rw [← HW.out]
  go_upto_region 9 with (first
    | (go_at_call 112; have g5 := H4; clear g5; with_reducible refine (HRs.out _ _ (HH.out.1.trans (H4.out.1.mono HH.out.1.size)) H4.out.2).mono ?_; rintro e w5 ⟨rfl, hb5⟩; have H5 := Lib.hid (H4.out.1.trans (hb5.mono H4.out.1.size)); unfold hisV U; clear hb5)
    | (go_at_call 62; refine (HRd.out _).mono ?_; rintro e w4 ⟨rfl, hb4, hc0, hc1, hc2, hlt⟩; have H4 := Lib.hid (And.intro (H3.out.trans (hb4.mono H3.out.size)) (show HisAt w4 w3.heap.size (some ⟨b, 0, none⟩) t A n c f from ⟨hc0, hc1, hc2, hlt, HH.out.2.2.1.below (H3.out.trans (hb4.mono H3.out.size)), HH.out.2.2.2.1, HH.out.2.2.2.2⟩)); clear hb4 hc0 hc1 hc2 hlt)
    | (go_at_call 61; refine (HI.out _ H2.out).mono ?_; rintro e w3 ⟨rfl, hb3⟩; have H3 := Lib.hid (H2.out.trans (hb3.mono H2.out.size)); clear hb3)
    | (go_at_call 60; refine HK0.out.mono ?_; rintro e w2 ⟨rfl, hb2⟩; have H2 := Lib.hid hb2; clear hb2)
    | (go_at_call 27; refine HM.out.mono ?_; rintro e w1 ⟨rfl, rfl⟩))
  have hbx := (H5.out).alloc H5.out.size (.cells #[.int .u64 (limb a0 0 : Nat), .int .u64 (limb a0 1 : Nat), .int .u64 (limb a0 2 : Nat), .int .u64 (limb a0 3 : Nat)] 29)
  have rA := (hbx.block W.heap.size (hp_lt HH.out.2.1)).trans HH.out.2.1
  have rB := heap_alloc_new w5 (.cells #[.int .u64 (limb a0 0 : Nat), .int .u64 (limb a0 1 : Nat), .int .u64 (limb a0 2 : Nat), .int .u64 (limb a0 3 : Nat)] 29)
  obtain ⟨W6, hW6⟩ : ∃ W6, W6 = w5.alloc (.cells #[.int .u64 (limb a0 0 : Nat), .int .u64 (limb a0 1 : Nat), .int .u64 (limb a0 2 : Nat), .int .u64 (limb a0 3 : Nat)] 29) := ⟨_, rfl⟩
  rw [← hW6] at hbx rA rB ⊢
  clear hW6
  have H6 := Lib.hid hbx
  have R6 := Lib.hid rA
  have HL6 := Lib.hid (HS0.out.post hbx)
  clear hbx
  have a0c := (hp_cell (i := 0) rA).trans rfl
  have a1c := (hp_cell (i := 1) rA).trans rfl
  have a2c := (hp_cell (i := 2) rA).trans rfl
  have a3c := (hp_cell (i := 3) rA).trans rfl
  have b0c := (hp_cell (i := 0) rB).trans rfl
  have b1c := (hp_cell (i := 1) rB).trans rfl
  have b2c := (hp_cell (i := 2) rB).trans rfl
  have b3c := (hp_cell (i := 3) rB).trans rfl
  clear rA rB
  have p1 : ¬ (blk : Int) < (blk : Int) := by omega
  clear p1
  go_upto_region 15 with fail
  have H7 := HL6
  obtain ⟨w7, hw7⟩ : ∃ w7, w7 = W6 := ⟨_, rfl⟩
  rw [← hw7] at H7 ⊢
  clear a0c a1c a2c a3c b0c b1c b2c b3c
  clear hw7
  have il7 := (HT7.out _ _ _ H7.out).1
  have r7 := (HT7.out _ _ _ H7.out).2
  have f0 := fun (dq : Nat) (osq : Array Obj) => cell_regrown (w := w7) (a := ⟨W.heap.size, 0, none⟩) ((hp_cell (i := 0) r7).trans rfl) dq osq
  have f1 := fun (dq : Nat) (osq : Array Obj) => cell_regrown (w := w7) (a := ⟨W.heap.size, 1, none⟩) ((hp_cell (i := 1) r7).trans rfl) dq osq
  have f2 := fun (dq : Nat) (osq : Array Obj) => cell_regrown (w := w7) (a := ⟨W.heap.size, 2, none⟩) ((hp_cell (i := 2) r7).trans rfl) dq osq
  have f3 := fun (dq : Nat) (osq : Array Obj) => cell_regrown (w := w7) (a := ⟨W.heap.size, 3, none⟩) ((hp_cell (i := 3) r7).trans rfl) dq osq
  have HP7 := Lib.hid (fun (dq : Nat) (osq : Array Obj) => HPt.out (grow (redrawn w7 dq) osq) (il7.below (below_regrown w7 dq osq)))
  clear il7 r7
  refine wp_region_quiet_tail 10 (by kernel_rfl) (by kernel_rfl) ?_
  simp only [List.take_succ_cons, List.take_zero]
  repeat (quiet_step (first
    | (go_at_call 65; with_reducible exact Calls.regrown_of (HP7.out _ _))
    | (go_at_call 66; with_reducible exact Calls.regrown_of (HNm.out _))
    | (go_at_call 67; with_reducible exact Calls.regrown_of (HAm.out _))))
  refine wpQuiet_nil ?_
  intro _ hw'
  obtain ⟨⟨dq, osq⟩, hw''⟩ := hw'
  subst hw''
  have H8 := Lib.hid (H7.out.post (below_regrown w7 dq osq))
  clear f0 f1 f2 f3 HP7
  simp only [List.drop_succ_cons, List.drop_zero]
  go_wp2_with (go_at_call 64; refine (HSt.out _ H8.out).mono ?_; rintro e w9 ⟨rfl, h9⟩; have H9 := Lib.hid h9; clear h9)
  go_ret
  exact ⟨rfl, H9.out.pre HH.out.1⟩
end Go.Proofs.Ytedkhpnlhkjjgaa

namespace Go.Proofs.Ytedkhpnlhkjjgaa
open Go.RowKit Go.Maps Go.Sort

theorem hat_dead (P : Option Addr) (t : Int) (A : Option Addr) (n c : Nat) (f : Nat → Int) (blk : Int) (w : World) (h : SDead w (.pointer P)) (hl : Il w A n f) (hz : A = none → n = 0 ∧ c = 0) (hn : n ≤ 20) :
    Calls Try.prog 15 #[.pointer P, .int .i64 t, .slice A n c, .int .i64 blk] w fun e w' => e = .returned (.tuple #[U 0, .bool false]) ∧ Below w.heap.size w w' :=
  hat_walk P t A n c f blk 0 (fun _ => 0) (fun _ => 0) (fun _ => false) w hl hz hn (by omega) (fun W hb => hlen_dead P t A n c f W (h.below hb) (hl.below hb) hn) (fun k h1 h2 => reads_dead P t A n c f k w h (by omega)) 0 rfl
set_option maxRecDepth 100000 in
set_option maxHeartbeats 2000000 in
theorem hlast_walk (P : Option Addr) (t : Int) (A : Option Addr) (n c : Nat) (f : Nat → Int) (m : Nat) (x : Int) (a : Nat) (o : Bool) (w : World) (hl : Il w A n f) (hz : A = none → n = 0 ∧ c = 0) (hn : n ≤ 20) (hm : m ≤ 1099511627776)
    (HL : ∀ W, Below w.heap.size w W → Calls Try.prog 17 #[.pointer P, .int .i64 t, .slice A n c] W fun e w' => e = .returned (.int .i64 (m : Nat)) ∧ Below W.heap.size W w')
    (HR : Reads w P t A n c f ((m : Int) - 1) x a o) :
    Calls Try.prog 101 #[.pointer P, .int .i64 t, .slice A n c] w fun e w' => e = .returned (.tuple #[U a, .bool o]) ∧ Below w.heap.size w w' := by
  have HRd := Lib.hid (fun w => reader_walk P t A n c w)
  have HLn := Lib.hid HL
  have HRs := Lib.hid (fun (b1 : Nat) (W1 : World) (hb : Below w.heap.size w W1) (hA : HisAt W1 b1 P t A n c f) => HR b1 W1 hb hA)
  have HI := Lib.hid (And.intro hl (And.intro hz hn))
  have hb0 := (Below.refl w.heap.size w).alloc (Nat.le_refl _) (.cells #[.int .u64 0, .int .u64 0, .int .u64 0, .int .u64 0] 29)
  have r0 := heap_alloc_new w (.cells #[.int .u64 0, .int .u64 0, .int .u64 0, .int .u64 0] 29)
  have H0 := Lib.hid (And.intro hb0 r0)
  have mI : (m : Int) ≤ 1099511627776 := by omega
  clear HL HR hl hz hn hm hb0 r0
  rw [show U a = .agg #[.int .u64 (limb a 0 : Nat), .int .u64 (limb a 1 : Nat), .int .u64 (limb a 2 : Nat), .int .u64 (limb a 3 : Nat)] from rfl]
  go_enter Try.func101, Try.ntmps101
  go_wp2_with (first
    | (go_at_call 112; have g5 := H2; clear g5; with_reducible refine (HRs.out _ _ H2.out.1 H2.out.2.1).mono ?_; rintro e w3 ⟨rfl, hb3⟩; have r3 := (hb3.block w.heap.size (hp_lt H2.out.2.2)).trans H2.out.2.2; have H3 := Lib.hid (And.intro (H2.out.1.trans (hb3.mono H2.out.1.size)) r3); unfold hisV U; have hbx := (Below.refl w3.heap.size w3).alloc (Nat.le_refl _) (.cells #[.int .u64 (limb a 0 : Nat), .int .u64 (limb a 1 : Nat), .int .u64 (limb a 2 : Nat), .int .u64 (limb a 3 : Nat)] 29); have rx := (hbx.block w.heap.size (hp_lt r3)).trans r3; have HX := Lib.hid hbx; have RX := Lib.hid rx; have d0 := (hp_cell (i := 0) rx).trans rfl; have d1 := (hp_cell (i := 1) rx).trans rfl; have d2 := (hp_cell (i := 2) rx).trans rfl; have d3 := (hp_cell (i := 3) rx).trans rfl; have g0 := hp_free (i := 0) rx; have g1 := hp_free (i := 1) rx; have g2 := hp_free (i := 2) rx; have g3 := hp_free (i := 3) rx; clear hb3 r3 hbx rx)
    | (go_at_call 17; refine (HLn.out w1 H1.out.1).mono ?_; rintro e w2 ⟨rfl, hb2⟩; have H2 := Lib.hid (And.intro (H1.out.1.trans (hb2.mono H1.out.1.size)) (And.intro (H1.out.2.1.below hb2) ((hb2.block _ (hp_lt H1.out.2.2)).trans H1.out.2.2))); clear hb2)
    | (go_at_call 62; refine (HRd.out _).mono ?_; rintro e w1 ⟨rfl, hb1, hc0, hc1, hc2, hlt⟩; rw [World.size_alloc] at hc0 hc1 hc2 hlt; have hbx := H0.out.1.trans (hb1.mono H0.out.1.size); have H1 := Lib.hid (And.intro hbx (And.intro (show HisAt w1 (w.heap.size + 1) P t A n c f from ⟨hc0, hc1, hc2, hlt, HI.out.1.below hbx, HI.out.2.1, HI.out.2.2⟩) ((hb1.block w.heap.size (by simp)).trans H0.out.2))); clear hb1 hc0 hc1 hc2 hlt hbx))
  obtain ⟨e0, e1, e2, e3⟩ := ((arr_zero RX.out).put4 (n := a)).cells4
  refine bodyPost_ret (v := .tuple #[.agg #[.int .u64 (limb a 0 : Nat), .int .u64 (limb a 1 : Nat), .int .u64 (limb a 2 : Nat), .int .u64 (limb a 3 : Nat)], .bool o]) (by simp [results, Try.results101, go_sem, e0, e1, e2, e3]) rfl ⟨rfl, ?_⟩
  exact below_set4 (H3.out.1.trans (HX.out.mono H3.out.1.size)) (Nat.le_refl _)
theorem hlast_dead (P : Option Addr) (t : Int) (A : Option Addr) (n c : Nat) (f : Nat → Int) (w : World) (h : SDead w (.pointer P)) (hl : Il w A n f) (hz : A = none → n = 0 ∧ c = 0) (hn : n ≤ 20) :
    Calls Try.prog 101 #[.pointer P, .int .i64 t, .slice A n c] w fun e w' => e = .returned (.tuple #[U 0, .bool false]) ∧ Below w.heap.size w w' :=
  hlast_walk P t A n c f 0 0 0 false w hl hz hn (by omega) (fun W hb => hlen_dead P t A n c f W (h.below hb) (hl.below hb) hn) (reads_dead P t A n c f _ w h (by decide))
set_option maxRecDepth 100000 in
set_option maxHeartbeats 1000000 in
theorem hlist_dead (P : Option Addr) (t : Int) (A : Option Addr) (n c : Nat) (f : Nat → Int) (w : World) (h : SDead w (.pointer P)) (hl : Il w A n f) (hn : n ≤ 20) :
    Calls Try.prog 16 #[.pointer P, .int .i64 t, .slice A n c] w fun e w' => e = .returned (.tuple #[.slice none 0 0, .slice none 0 0]) ∧ Below w.heap.size w w' := by
  have HRd := Lib.hid (fun w => reader_walk P t A n c w)
  have HLn := Lib.hid (fun (W : World) (hb : Below w.heap.size w W) => hlen_dead P t A n c f W (h.below hb) (hl.below hb) hn)
  clear h hl hn
  go_enter Try.func16, Try.ntmps16
  go_wp2_with (first
    | (go_at_call 17; refine (HLn.out w1 H1.out).mono ?_; rintro e w2 ⟨rfl, hb2⟩; have H2 := Lib.hid (H1.out.trans (hb2.mono H1.out.size)); clear hb2)
    | (go_at_call 62; refine (HRd.out _).mono ?_; rintro e w1 ⟨rfl, hb1, _⟩; have H1 := Lib.hid hb1; clear hb1))
  go_loopw [8, 9, 23] (fun v8 v9 i wr => v8 = .slice none 0 0 ∧ v9 = .slice none 0 0 ∧ i = .int .i64 0 ∧ w2 = wr) (fun _ _ _ _ => 0)
  case atStart => exact ⟨rfl, rfl, rfl, rfl⟩
  case round =>
    obtain ⟨rfl, rfl, rfl, rfl⟩ := hrel
    go_wp2
    go_ret2
    exact ⟨rfl, H2.out⟩
/-! ### the document's example -/
def K13 : ByteArray := ⟨#[13]⟩
def K130 : ByteArray := ⟨#[13, 0, 0, 0, 0, 0, 0, 0, 0]⟩
def K131 : ByteArray := ⟨#[13, 0, 0, 0, 0, 0, 0, 0, 1]⟩
theorem key13 : keyStr 13 (fun _ => 0) 0 = K13 := by decide +kernel
theorem key130 : keyStr 13 (icat (fun _ => 0) 0 fun _ => ((0 : Nat) : Int)) (0 + 1) = K130 := by decide +kernel
theorem key131 : keyStr 13 (icat (fun _ => 0) 0 fun _ => ((1 : Nat) : Int)) (0 + 1) = K131 := by decide +kernel
theorem key13m : keyStr 13 (icat (fun _ => 0) 0 fun _ => ((0 : Nat) : Int) - 1) (0 + 1) = ⟨#[]⟩ := by decide +kernel
def LH1 : SL := setL (setL [] K13 (numStr (((0 : Nat) : Int) + 1))) K130 (numStr ((5 : Nat) : Int) ++ amtStr 10)
def LH2 : SL := setL (setL LH1 K13 (numStr (((1 : Nat) : Int) + 1))) K131 (numStr ((7 : Nat) : Int) ++ amtStr 20)
theorem LH1a : intAt LH1 K13 1 := .inr (by decide +kernel)
theorem LH1b : sget LH1 K130 = some (hpV 5 10) := by decide +kernel
theorem LH2a : intAt LH2 K13 2 := .inr (by decide +kernel)
theorem LH2b : sget LH2 K130 = some (hpV 5 10) := by decide +kernel
theorem LH2c : sget LH2 K131 = some (hpV 7 20) := by decide +kernel
theorem LH2d : sget LH2 ⟨#[]⟩ = none := by decide +kernel
def rx11 (k : Int) : Int := if k = 0 then 5 else if k = 1 then 7 else 0
def ra11 (k : Int) : Nat := if k = 0 then 10 else if k = 1 then 20 else 0
def ro11 (k : Int) : Bool := decide (k = 0 ∨ k = 1)
theorem reads11 {w W : World} {b : Nat} {F : List Nat} {q : Nat} {qs : List Value} (h : SNew w W b F LH2 q qs) (k : Int) (h1 : -1 ≤ k) (h2 : k < ((2 : Nat) : Int)) : Reads W (some ⟨b, 0, none⟩) 13 none 0 0 (fun _ => 0) k (rx11 k) (ra11 k) (ro11 k) := by
  rcases (by omega : k = -1 ∨ k = 0 ∨ k = 1) with rfl | rfl | rfl
  · exact reads_none h 13 none 0 0 (fun _ => 0) (-1) ⟨#[]⟩ key13m (by decide) (by decide) LH2d
  · exact reads_some h 13 none 0 0 (fun _ => 0) 0 K130 key130 5 10 (by decide) (by decide) (by decide) (by decide) LH2b
  · exact reads_some h 13 none 0 0 (fun _ => 0) 1 K131 key131 7 20 (by decide) (by decide) (by decide) (by decide) LH2c
theorem il_nil (w : World) : Il w none 0 (fun _ => 0) := ⟨fun _ => by decide, fun h => absurd h (by omega)⟩
theorem hat11 {w W : World} {b : Nat} {F : List Nat} {q : Nat} {qs : List Value} (h : SNew w W b F LH2 q qs) (blk : Int) (Z : Nat) (hZ : hbs rx11 ro11 blk 2 0 2 = Z) (a : Nat) (o : Bool) (v0 : Int) (ha : ra11 ((Z : Int) - 1) = a) (ho : ro11 ((Z : Int) - 1) = o) (hv : U a = .agg #[.int .u64 v0, .int .u64 0, .int .u64 0, .int .u64 0]) :
    Calls Try.prog 15 #[.pointer (some ⟨b, 0, none⟩), .int .i64 13, .slice none 0 0, .int .i64 blk] W fun e W' => e = .returned (.tuple #[.agg #[.int .u64 v0, .int .u64 0, .int .u64 0, .int .u64 0], .bool o]) ∧ Below W.heap.size W W' := by
  have := hat_walk (some ⟨b, 0, none⟩) 13 none 0 0 (fun _ => 0) blk 2 rx11 ra11 ro11 W (il_nil W) (fun _ => ⟨rfl, rfl⟩) (by omega) (by omega) (fun W1 hb => hlen_live (h.below hb) 13 none 0 0 (fun _ => 0) (il_nil W1) (by omega) K13 key13 (by decide) 2 LH2a (by decide)) (fun k h1 h2 => reads11 h k h1 h2) Z hZ
  rw [ha, ho, hv] at this
  exact this
theorem u10 : U 10 = .agg #[.int .u64 10, .int .u64 0, .int .u64 0, .int .u64 0] := by unfold U; rw [show limb 10 0 = 10 by decide, show limb 10 1 = 0 by decide, show limb 10 2 = 0 by decide, show limb 10 3 = 0 by decide]; rfl
theorem u20 : U 20 = .agg #[.int .u64 20, .int .u64 0, .int .u64 0, .int .u64 0] := by unfold U; rw [show limb 20 0 = 20 by decide, show limb 20 1 = 0 by decide, show limb 20 2 = 0 by decide, show limb 20 3 = 0 by decide]; rfl
set_option maxRecDepth 100000 in
set_option maxHeartbeats 4000000 in
theorem lives11_walk (w : World) : Calls Try.prog 12 #[] w fun e w' => e = .returned (.bool true) ∧ Below w.heap.size w w' := by
  have D1 := Lib.hid (fun (W W1 : World) (b : Nat) (F : List Nat) (hl : LiveTo w W W1 b F [] 0) => show Calls Try.prog 14 #[.pointer (some ⟨b, 0, none⟩), .int .i64 13, .slice none 0 0, .int .i64 5, .agg #[.int .u64 10, .int .u64 0, .int .u64 0, .int .u64 0]] W1 fun e W2 => e = .returned (.int .i64 0) ∧ LiveTo w W W2 b F LH1 2 from by
    have := hl.seq 2 (fun F1 qa qsa hs hqa => hpush_more hs 13 none 0 0 (fun _ => 0) (fun W' _ => il_nil W') (fun _ => ⟨rfl, rfl⟩) (by omega) 5 10 (by decide) (by omega) 0 (by omega) 0 0 false (reads_none hs 13 none 0 0 (fun _ => 0) _ ⟨#[]⟩ key13m (by decide) (by decide) rfl) (.inl rfl) K13 K130 key13 key130 (by decide) (by decide) (by decide) (by decide) (.inl ⟨rfl, rfl⟩) (by decide) (by decide +kernel) (by omega))
    rw [u10] at this
    exact this)
  have D2 := Lib.hid (fun (W W1 : World) (b : Nat) (F : List Nat) (hl : LiveTo w W W1 b F LH1 2) => show Calls Try.prog 14 #[.pointer (some ⟨b, 0, none⟩), .int .i64 13, .slice none 0 0, .int .i64 7, .agg #[.int .u64 20, .int .u64 0, .int .u64 0, .int .u64 0]] W1 fun e W2 => e = .returned (.int .i64 0) ∧ LiveTo w W W2 b F LH2 4 from by
    have := hl.seq 2 (fun F1 qa qsa hs hqa => hpush_more hs 13 none 0 0 (fun _ => 0) (fun W' _ => il_nil W') (fun _ => ⟨rfl, rfl⟩) (by omega) 7 20 (by decide) (by omega) 1 (by omega) 5 10 true (reads_some hs 13 none 0 0 (fun _ => 0) _ K130 key130 5 10 (by decide) (by decide) (by decide) (by decide) LH1b) (.inr ⟨by decide, by decide, by decide⟩) K13 K131 key13 key131 (by decide) (by decide) (by decide) (by decide) LH1a (by decide +kernel) (by decide +kernel) (by omega))
    rw [u20] at this
    exact this)
  have D6 := Lib.hid (fun (W W1 : World) (b : Nat) (F : List Nat) (hl : LiveTo w W W1 b F LH2 4) => hl.read (fun F1 qa qsa hs hqa => hat11 hs 6 1 (by decide) 10 true 10 rfl (by decide) u10))
  have D7 := Lib.hid (fun (W W1 : World) (b : Nat) (F : List Nat) (hl : LiveTo w W W1 b F LH2 4) => hl.read (fun F1 qa qsa hs hqa => hat11 hs 7 2 (by decide) 20 true 20 rfl (by decide) u20))
  have D4 := Lib.hid (fun (W W1 : World) (b : Nat) (F : List Nat) (hl : LiveTo w W W1 b F LH2 4) => hl.read (fun F1 qa qsa hs hqa => hat11 hs 4 0 (by decide) 0 false 0 rfl (by decide) U_zero))
  obtain ⟨r1, e1⟩ : ∃ x, x = LH1 := ⟨_, rfl⟩
  obtain ⟨r2, e2⟩ : ∃ x, x = LH2 := ⟨_, rfl⟩
  rw [← e1] at D1 D2
  rw [← e2] at D2 D6 D7 D4
  clear e1 e2
  have q10 := fun w => eqU 10 0 0 0 10 0 0 0 w
  have q20 := fun w => eqU 20 0 0 0 20 0 0 0 w
  go_enter Try.func12, Try.ntmps12
  go_wp2_with (first
    | (go_at_call 15; have g5 := h5; clear g5; refine (D4.out _ _ _ _ (h5.out.al (.cells #[.int .u64 20, .int .u64 0, .int .u64 0, .int .u64 0] 29))).mono ?_; rintro e w6 ⟨rfl, hs6, hb6⟩; have h6 := Lib.hid hs6; have R6 := Lib.hid ((hb6.block w4.heap.size (hp_lt ((heap_alloc_old w5 (.cells #[.int .u64 20, .int .u64 0, .int .u64 0, .int .u64 0] 29) (hp_lt R5.out)).trans R5.out))).trans ((heap_alloc_old w5 (.cells #[.int .u64 20, .int .u64 0, .int .u64 0, .int .u64 0] 29) (hp_lt R5.out)).trans R5.out)); have R6b := Lib.hid ((hb6.block w5.heap.size (by simp)).trans (heap_alloc_new w5 (.cells #[.int .u64 20, .int .u64 0, .int .u64 0, .int .u64 0] 29))); have a0 := (hp_cell (i := 0) R6.out).trans rfl; have a1 := (hp_cell (i := 1) R6.out).trans rfl; have a2 := (hp_cell (i := 2) R6.out).trans rfl; have a3 := (hp_cell (i := 3) R6.out).trans rfl; have b0 := (hp_cell (i := 0) R6b.out).trans rfl; have b1 := (hp_cell (i := 1) R6b.out).trans rfl; have b2 := (hp_cell (i := 2) R6b.out).trans rfl; have b3 := (hp_cell (i := 3) R6b.out).trans rfl; have L6 := hp_lt R6.out; have L6b := hp_lt R6b.out; clear hs6 hb6)
    | (go_at_call 15; have g5 := h4; clear g5; refine (D7.out _ _ _ _ (h4.out.al (.cells #[.int .u64 10, .int .u64 0, .int .u64 0, .int .u64 0] 29))).mono ?_; rintro e w5 ⟨rfl, hs5, hb5⟩; have h5 := Lib.hid hs5; have R5 := Lib.hid ((hb5.block w4.heap.size (by simp)).trans (heap_alloc_new w4 (.cells #[.int .u64 10, .int .u64 0, .int .u64 0, .int .u64 0] 29))); clear hs5 hb5)
    | (go_at_call 15; refine (D6.out _ _ _ _ h3.out).mono ?_; rintro e w4 ⟨rfl, hs4, _⟩; have h4 := Lib.hid hs4; clear hs4)
    | (go_at_call 14; have g5 := h2; clear g5; refine (D2.out _ _ _ _ h2.out).mono ?_; rintro e w3 ⟨rfl, hs3⟩; have h3 := Lib.hid hs3; clear hs3)
    | (go_at_call 14; refine (D1.out _ _ _ _ h1.out.start).mono ?_; rintro e w2 ⟨rfl, hs2⟩; have h2 := Lib.hid hs2; clear hs2)
    | (go_at_call 13; refine (SNew.new w _ (Below.refl _ _)).mono ?_; rintro e w1 ⟨b, F1, rfl, hs1, _, _⟩; have h1 := Lib.hid hs1; clear hs1))
  go_ret
  exact ⟨rfl, (h6.out.al _).l⟩
end Go.Proofs.Ytedkhpnlhkjjgaa
