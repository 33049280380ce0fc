/- cell: SetRow of any row; Add of too much. -/
import Derived.Test.YtnjcnlbphaodcaaGreatG19
import Derived.Test.YtnjcnlbphaodcaaGreatG10
import Derived.Test.YtnjcnlbphaodcaaGreatG09
import Derived.Test.YtnjcnlbphaodcaaGreatG07
namespace Go.Proofs.YtnjcnlbphaodcaaGreat
open Go.RowKit Go.Maps Go.Sort

set_option maxRecDepth 100000 in
set_option maxHeartbeats 2000000 in
theorem csetRow_nil {w W : World} {b : Nat} {F : List Nat} {L : SL} {q : Nat} {qs : List Value} (h : SNew w W b F L q qs) (k : ByteArray) (A : Option Addr) (n c : Nat) (f : Nat → Int) (hl : Il W A n f) (hn0 : n = 0) (hf : ∀ i, i < n → 0 ≤ f i)
    (hk : k.size ≤ maxLen) (hk0 : k ≠ ⟨#[]⟩) (hN : L.length < 1000000) (hq : q < 1000000) :
    Calls Tryz.prog 25 #[.pointer (some ⟨b, 0, none⟩), .string k, .slice A n c] W fun e W' => e = .returned (.tuple #[]) ∧ LiveTo w W W' b F (sdel L k) (q + 1) := by
  have hn : n ≤ 100 := by omega
  have hnI : (n : Int) ≤ 100 := by omega
  have hrn : rowV f n = ⟨#[]⟩ := by rw [hn0]; rfl
  have hb1 := (Below.refl W.heap.size W).alloc (Nat.le_refl _) (.cells #[.pointer none, .slice none 0 0] 84)
  have hB1 : Bld W.heap.size W.heap.size [] (W.alloc (.cells #[.pointer none, .slice none 0 0] 84)) := .inl ⟨Nat.le_refl _, .slice none 0 0, heap_alloc_new _ _, ⟨rfl, .inl ⟨rfl, rfl⟩⟩, by simp [Value.ownBlock]⟩
  have HB1 := Lib.hid hb1
  have HBl := Lib.hid hB1
  have HF := Lib.hid hf
  have HS := Lib.hid (fun (W1 : World) (hb : Below W.heap.size W W1) => (show Calls Tryz.prog 36 #[.pointer (some ⟨b, 0, none⟩), .string k, .string (rowV f n)] W1 fun e W' => e = .returned (.tuple #[]) ∧ LiveTo w W1 W' b F (sdel L k) (q + 1) from by rw [hrn]; exact cput_del (h.below hb) k hk (by omega) hq).mono fun e W' hp => (⟨hp.1, hp.2.pre hb⟩ : e = .returned (.tuple #[]) ∧ LiveTo w W W' b F (sdel L k) (q + 1)))
  obtain ⟨rv, hrv⟩ : ∃ x, x = rowV f n := ⟨_, rfl⟩
  rw [← hrv] at HS hrn
  have HRV := Lib.hid hrv
  clear hb1 hB1 hf h hk hk0 hN hq hrv hrn hn0
  go_enter Tryz.func25, Tryz.ntmps25
  go_wp2
  go_loopw [11] (fun i wr => ∃ j : Nat, j ≤ n ∧ i = .int .i64 (j : Nat) ∧ Bld W.heap.size W.heap.size (Lib.byteCells (u8l (tl f 0 j))) wr ∧ Below W.heap.size W wr) (fun i _ => n - (intOf i).toNat)
  case atStart => exact ⟨0, by omega, rfl, HBl.out, HB1.out⟩
  case round =>
    obtain ⟨j, hj, rfl, hbl, hbe⟩ := hrel
    have HBd := Lib.hid hbl
    have HBe := Lib.hid hbe
    clear hbl hbe
    have kI : (j : Int) ≤ n := by omega
    by_cases hlt : j < n
    · have p1 : (j : Int) < (n : Int) := by omega
      obtain ⟨g, o, rfl, hg, hc⟩ := hl.at_ (by omega)
      have hm := hl.most j
      have h0 := HF.out j hlt
      have hck : wr.cell? ⟨g, o + j, none⟩ = some (.int .i64 (f j)) := by rw [HBe.out.cell (p := ⟨g, o + j, none⟩) hg]; exact hc j hlt
      have hnc := numStr_cells h0
      obtain ⟨x, hx⟩ : ∃ x, x = f j := ⟨_, rfl⟩
      rw [← hx] at hm h0 hck hnc
      have HX := Lib.hid hx
      have HNum := Lib.hid (fun w => knum_walk x w hm)
      have n1 : ¬ x < 0 := by omega
      have HM := Lib.hid hm
      have HNC := Lib.hid hnc
      clear hc hl hx hm hnc
      go_wp2_with (first
        | (go_at_call 48; refine (bld_write W.heap.size W.heap.size _ (numStr x) w2 (HB2b.out) (by rw [Lib.byteCells_length, u8l_len, tl_len, numStr_sizeA]; omega) HB2.out.size).mono ?_; rintro e w3 ⟨rfl, hb3, hbe3⟩; have HB3b := Lib.hid hb3; have HB3 := Lib.hid (HB2.out.trans hbe3); clear hb3 hbe3)
        | (go_at_call 37; refine (HNum.out _).mono ?_; rintro e w2 ⟨rfl, hb2⟩; have HB2 := Lib.hid (HBe.out.trans (hb2.mono HBe.out.size)); have HB2b := Lib.hid (bld_below HBd.out hb2); clear hb2))
      refine ⟨⟨j + 1, by omega, by simp, ?_, HB3.out⟩, by simp [intOf]; omega⟩
      have := HB3b.out
      rw [HNC.out, byteCells_app, ← u8l_append, HX.out] at this
      rw [tl_snoc, Nat.zero_add]
      exact this
    · obtain rfl : j = n := by omega
      have p1 : ¬ (j : Int) < (j : Int) := by omega
      have HStr := Lib.hid (Tryz.Builder_String_any W.heap.size W.heap.size (u8l (tl f 0 j)) wr HBd.out HBe.out.size)
      have HRV2 := HRV.out
      unfold rowV at HRV2
      rw [← HRV2] at HStr
      clear HRV2
      go_wp2_with (first
        | (go_at_call 36; refine (HS.out w5 HB5.out).mono ?_; rintro e w6 ⟨rfl, h6⟩; have H6 := Lib.hid h6; clear h6)
        | (go_at_call 49; refine HStr.out.mono ?_; rintro e w5 ⟨rfl, hb5⟩; have HB5 := Lib.hid (HBe.out.trans hb5); clear hb5))
      go_end0
      exact ⟨rfl, H6.out⟩
set_option maxRecDepth 100000 in
set_option maxHeartbeats 2000000 in
theorem csetRow_neg {w W : World} {b : Nat} {F : List Nat} {L : SL} {q : Nat} {qs : List Value} (h : SNew w W b F L q qs) (k : ByteArray) (A : Option Addr) (n c : Nat) (f : Nat → Int) (hl : Il W A n f) (hn : n ≤ 100) (p : Nat) (hpn : p < n) (hf : ∀ i, i < p → 0 ≤ f i) (hfp : f p < 0)
    (hk : k.size ≤ maxLen) (hk0 : k ≠ ⟨#[]⟩) (hN : L.length < 1000000) (hq : q < 1000000) :
    Calls Tryz.prog 25 #[.pointer (some ⟨b, 0, none⟩), .string k, .slice A n c] W fun e W' => e = .returned (.tuple #[]) ∧ LiveTo w W W' b F L (q + 1) := by
  have hnI : (n : Int) ≤ 100 := by omega
  have hb1 := (Below.refl W.heap.size W).alloc (Nat.le_refl _) (.cells #[.pointer none, .slice none 0 0] 84)
  have hB1 : Bld W.heap.size W.heap.size [] (W.alloc (.cells #[.pointer none, .slice none 0 0] 84)) := .inl ⟨Nat.le_refl _, .slice none 0 0, heap_alloc_new _ _, ⟨rfl, .inl ⟨rfl, rfl⟩⟩, by simp [Value.ownBlock]⟩
  have HB1 := Lib.hid hb1
  have HBl := Lib.hid hB1
  have HF := Lib.hid hf
  have HS := Lib.hid (fun (W1 : World) (hb : Below W.heap.size W W1) => (show LiveTo w W W1 b F L (q + 1) from by obtain ⟨F', q', qs', h1, h2, h3⟩ := h.same hb; exact ⟨F', q', qs', h1, by omega, h3⟩))
  have HFp := Lib.hid hfp
  clear hb1 hB1 hf hfp h hk hk0 hN hq
  go_enter Tryz.func25, Tryz.ntmps25
  go_wp2
  go_loopw [11] (fun i wr => ∃ j : Nat, j ≤ p ∧ i = .int .i64 (j : Nat) ∧ Bld W.heap.size W.heap.size (Lib.byteCells (u8l (tl f 0 j))) wr ∧ Below W.heap.size W wr) (fun i _ => n - (intOf i).toNat)
  case atStart => exact ⟨0, by omega, rfl, HBl.out, HB1.out⟩
  case round =>
    obtain ⟨j, hj, rfl, hbl, hbe⟩ := hrel
    have HBd := Lib.hid hbl
    have HBe := Lib.hid hbe
    clear hbl hbe
    have kI : (j : Int) ≤ n := by omega
    by_cases hlt : j < p
    · have p1 : (j : Int) < (n : Int) := by omega
      obtain ⟨g, o, rfl, hg, hc⟩ := hl.at_ (by omega)
      have hm := hl.most j
      have h0 := HF.out j hlt
      have hck : wr.cell? ⟨g, o + j, none⟩ = some (.int .i64 (f j)) := by rw [HBe.out.cell (p := ⟨g, o + j, none⟩) hg]; exact hc j (by omega)
      have hnc := numStr_cells h0
      obtain ⟨x, hx⟩ : ∃ x, x = f j := ⟨_, rfl⟩
      rw [← hx] at hm h0 hck hnc
      have HX := Lib.hid hx
      have HNum := Lib.hid (fun w => knum_walk x w hm)
      have n1 : ¬ x < 0 := by omega
      have HM := Lib.hid hm
      have HNC := Lib.hid hnc
      clear hc hl hx hm hnc
      go_wp2_with (first
        | (go_at_call 48; refine (bld_write W.heap.size W.heap.size _ (numStr x) w2 (HB2b.out) (by rw [Lib.byteCells_length, u8l_len, tl_len, numStr_sizeA]; omega) HB2.out.size).mono ?_; rintro e w3 ⟨rfl, hb3, hbe3⟩; have HB3b := Lib.hid hb3; have HB3 := Lib.hid (HB2.out.trans hbe3); clear hb3 hbe3)
        | (go_at_call 37; refine (HNum.out _).mono ?_; rintro e w2 ⟨rfl, hb2⟩; have HB2 := Lib.hid (HBe.out.trans (hb2.mono HBe.out.size)); have HB2b := Lib.hid (bld_below HBd.out hb2); clear hb2))
      refine ⟨⟨j + 1, by omega, by simp, ?_, HB3.out⟩, by simp [intOf]; omega⟩
      have := HB3b.out
      rw [HNC.out, byteCells_app, ← u8l_append, HX.out] at this
      rw [tl_snoc, Nat.zero_add]
      exact this
    · obtain rfl : j = p := by omega
      have p1 : (j : Int) < (n : Int) := by omega
      obtain ⟨g, o, rfl, hg, hc⟩ := hl.at_ (by omega)
      have hck : wr.cell? ⟨g, o + j, none⟩ = some (.int .i64 (f j)) := by rw [HBe.out.cell (p := ⟨g, o + j, none⟩) hg]; exact hc j (by omega)
      have hx := HFp.out
      obtain ⟨x, ex⟩ : ∃ x, x = f j := ⟨_, rfl⟩
      rw [← ex] at hck hx
      clear hc hl ex
      go_wp2
      refine bodyPost_ret (v := .tuple #[]) (by simp [results, Tryz.results25, go_sem]) rfl ⟨rfl, HS.out _ HBe.out⟩
set_option maxRecDepth 100000 in
set_option maxHeartbeats 2000000 in
theorem morec_noA (was a g : Nat) (hw : was < 2 ^ 256) (ha : a < 2 ^ 256) (hlt : ¬ was + a < 2 ^ 256) (w : World) (hg : w.heap[g]? = some (.cells #[.int .u64 (limb a 0 : Nat), .int .u64 (limb a 1 : Nat), .int .u64 (limb a 2 : Nat), .int .u64 (limb a 3 : Nat)] 24 (0, 0))) :
    Calls Tryz.prog 56 #[U was, .pointer (some ⟨g, 0, none⟩)] w fun e w' => e = .returned (.tuple #[U 0, .int .i64 6]) ∧ Below w.heap.size w w' := by
  have hb0 := ((Below.refl w.heap.size w).alloc (Nat.le_refl _) (.cells #[.int .u64 (limb was 0 : Nat), .int .u64 (limb was 1 : Nat), .int .u64 (limb was 2 : Nat), .int .u64 (limb was 3 : Nat)] 24)).alloc (by simp) (.cells #[.int .u64 0, .int .u64 0, .int .u64 0, .int .u64 0] 24)
  have r0 := heap_alloc_new (w.alloc (.cells #[.int .u64 (limb was 0 : Nat), .int .u64 (limb was 1 : Nat), .int .u64 (limb was 2 : Nat), .int .u64 (limb was 3 : Nat)] 24)) (.cells #[.int .u64 0, .int .u64 0, .int .u64 0, .int .u64 0] 24)
  rw [World.size_alloc] at r0
  have hA : ∀ W, Calls Tryz.prog 57 #[U was, U a] W fun e w' => e = .returned (.tuple #[.agg #[.int .u64 0, .int .u64 0, .int .u64 0, .int .u64 0], .bool false]) ∧ Below W.heap.size W w' := fun W => (add_walk was a W hw ha).mono fun e w' hh => by
    obtain ⟨he, hb⟩ := hh
    rw [if_neg hlt, decide_eq_false hlt, U_zero] at he
    exact ⟨he, hb⟩
  rw [U_zero]
  unfold U at hA
  have HA := Lib.hid hA
  have H0 := Lib.hid (And.intro hb0 r0)
  have rg := (hb0.block g (hp_lt hg)).trans hg
  have lg := hp_lt hg
  have c0 := (hp_cell (i := 0) rg).trans rfl
  have c1 := (hp_cell (i := 1) rg).trans rfl
  have c2 := (hp_cell (i := 2) rg).trans rfl
  have c3 := (hp_cell (i := 3) rg).trans rfl
  clear hb0 r0 hA rg hlt hw ha hg
  unfold U
  go_enter Tryz.func56, Tryz.ntmps56
  go_wp2_with (first
    | (go_at_call 57; refine (HA.out _).mono ?_; rintro e w2 ⟨rfl, hb2⟩; have hbx := (Below.refl w2.heap.size w2).alloc (Nat.le_refl _) (.cells #[.int .u64 0, .int .u64 0, .int .u64 0, .int .u64 0] 24); have hby := hb2.trans (hbx.mono hb2.size); have rx := (hby.block (w.heap.size + 1) (by simp)).trans H0.out.2; have RX := Lib.hid rx; have H2 := Lib.hid (H0.out.1.trans (hby.mono H0.out.1.size)); have d0 := (hp_cell (i := 0) rx).trans rfl; have d1 := (hp_cell (i := 1) rx).trans rfl; have d2 := (hp_cell (i := 2) rx).trans rfl; have d3 := (hp_cell (i := 3) rx).trans rfl; have g0 := hp_free (i := 0) rx; have g1 := hp_free (i := 1) rx; have g2 := hp_free (i := 2) rx; have g3 := hp_free (i := 3) rx; clear hb2 hbx hby rx))
  have rr := heap_setCell_row (o := 3) (heap_setCell_row (o := 2) (heap_setCell_row (o := 1) (heap_setCell_row (o := 0) RX.out (.int .u64 0)) (.int .u64 0)) (.int .u64 0)) (.int .u64 0)
  have e0 := (hp_cell (i := 0) rr).trans rfl
  have e1 := (hp_cell (i := 1) rr).trans rfl
  have e2 := (hp_cell (i := 2) rr).trans rfl
  have e3 := (hp_cell (i := 3) rr).trans rfl
  refine bodyPost_ret (v := .tuple #[.agg #[.int .u64 0, .int .u64 0, .int .u64 0, .int .u64 0], .int .i64 6]) (by simp [results, Tryz.results56, go_sem, e0, e1, e2, e3]) rfl ⟨rfl, below_set4 H2.out (by omega)⟩
set_option maxRecDepth 100000 in
set_option maxHeartbeats 2000000 in
theorem morec_noB (was a g : Nat) (hw : was < 2 ^ 256) (ha : a < 2 ^ 256) (hlt : was + a < 2 ^ 256) (hmo : MOST < was + a) (r : Nat) (hr : was + a = r) (w : World) (hg : w.heap[g]? = some (.cells #[.int .u64 (limb a 0 : Nat), .int .u64 (limb a 1 : Nat), .int .u64 (limb a 2 : Nat), .int .u64 (limb a 3 : Nat)] 24 (0, 0))) :
    Calls Tryz.prog 56 #[U was, .pointer (some ⟨g, 0, none⟩)] w fun e w' => e = .returned (.tuple #[U 0, .int .i64 6]) ∧ Below w.heap.size w w' := by
  have hb0 := ((Below.refl w.heap.size w).alloc (Nat.le_refl _) (.cells #[.int .u64 (limb was 0 : Nat), .int .u64 (limb was 1 : Nat), .int .u64 (limb was 2 : Nat), .int .u64 (limb was 3 : Nat)] 24)).alloc (by simp) (.cells #[.int .u64 0, .int .u64 0, .int .u64 0, .int .u64 0] 24)
  have r0 := heap_alloc_new (w.alloc (.cells #[.int .u64 (limb was 0 : Nat), .int .u64 (limb was 1 : Nat), .int .u64 (limb was 2 : Nat), .int .u64 (limb was 3 : Nat)] 24)) (.cells #[.int .u64 0, .int .u64 0, .int .u64 0, .int .u64 0] 24)
  rw [World.size_alloc] at r0
  have hA : ∀ W, Calls Tryz.prog 57 #[U was, U a] W fun e w' => e = .returned (.tuple #[U r, .bool true]) ∧ Below W.heap.size W w' := fun W => (add_walk was a W hw ha).mono fun e w' hh => by
    obtain ⟨he, hb⟩ := hh
    rw [if_pos hlt, decide_eq_true hlt, hr] at he
    exact ⟨he, hb⟩
  have hM : ∀ W, Calls Tryz.prog 58 #[U r] W fun e w' => e = .returned (.bool false) ∧ Below W.heap.size W w' := fun W => (amount_walk r W (by rw [← hr]; exact hlt)).mono fun e w' hh => by
    obtain ⟨he, hb⟩ := hh
    rw [decide_eq_false (by rw [← hr]; omega)] at he
    exact ⟨he, hb⟩
  rw [U_zero]
  unfold U at hA hM
  have HM := Lib.hid hM
  clear hM
  have HA := Lib.hid hA
  have H0 := Lib.hid (And.intro hb0 r0)
  have rg := (hb0.block g (hp_lt hg)).trans hg
  have lg := hp_lt hg
  have c0 := (hp_cell (i := 0) rg).trans rfl
  have c1 := (hp_cell (i := 1) rg).trans rfl
  have c2 := (hp_cell (i := 2) rg).trans rfl
  have c3 := (hp_cell (i := 3) rg).trans rfl
  clear hb0 r0 hA rg hlt hw ha hg hmo hr
  unfold U
  go_enter Tryz.func56, Tryz.ntmps56
  go_wp2_with (first
    | (go_at_call 58; refine (HM.out _).mono ?_; rintro e w3 ⟨rfl, hb3⟩; have hbx := (Below.refl w2.heap.size w2).alloc (Nat.le_refl _) (.cells #[.int .u64 (limb r 0 : Nat), .int .u64 (limb r 1 : Nat), .int .u64 (limb r 2 : Nat), .int .u64 (limb r 3 : Nat)] 24); have ry := (hb3.block w2.heap.size (by simp)).trans (heap_alloc_new w2 (.cells #[.int .u64 (limb r 0 : Nat), .int .u64 (limb r 1 : Nat), .int .u64 (limb r 2 : Nat), .int .u64 (limb r 3 : Nat)] 24)); have rx := (hb3.block _ (hp_lt RX.out)).trans RX.out; have RX3 := Lib.hid rx; have H3 := Lib.hid (H2.out.trans (hb3.mono H2.out.size)); have LY := hp_lt ry; have LZ := Lib.hid (hp_lt H0.out.2); have d0 := (hp_cell (i := 0) rx).trans rfl; have d1 := (hp_cell (i := 1) rx).trans rfl; have d2 := (hp_cell (i := 2) rx).trans rfl; have d3 := (hp_cell (i := 3) rx).trans rfl; have g0 := hp_free (i := 0) rx; have g1 := hp_free (i := 1) rx; have g2 := hp_free (i := 2) rx; have g3 := hp_free (i := 3) rx; have y0 := (hp_cell (i := 0) ry).trans rfl; have y1 := (hp_cell (i := 1) ry).trans rfl; have y2 := (hp_cell (i := 2) ry).trans rfl; have y3 := (hp_cell (i := 3) ry).trans rfl; clear hb3 hbx rx ry)
    | (go_at_call 57; refine (HA.out _).mono ?_; rintro e w2 ⟨rfl, hb2⟩; have hbx := (Below.refl w2.heap.size w2).alloc (Nat.le_refl _) (.cells #[.int .u64 (limb r 0 : Nat), .int .u64 (limb r 1 : Nat), .int .u64 (limb r 2 : Nat), .int .u64 (limb r 3 : Nat)] 24); have hby := hb2.trans (hbx.mono hb2.size); have rx := (hby.block (w.heap.size + 1) (by simp)).trans H0.out.2; have RX := Lib.hid rx; have H2 := Lib.hid (H0.out.1.trans (hby.mono H0.out.1.size)); have d0 := (hp_cell (i := 0) rx).trans rfl; have d1 := (hp_cell (i := 1) rx).trans rfl; have d2 := (hp_cell (i := 2) rx).trans rfl; have d3 := (hp_cell (i := 3) rx).trans rfl; have g0 := hp_free (i := 0) rx; have g1 := hp_free (i := 1) rx; have g2 := hp_free (i := 2) rx; have g3 := hp_free (i := 3) rx; clear hb2 hbx hby rx))
  have rr := heap_setCell_row (o := 3) (heap_setCell_row (o := 2) (heap_setCell_row (o := 1) (heap_setCell_row (o := 0) RX3.out (.int .u64 0)) (.int .u64 0)) (.int .u64 0)) (.int .u64 0)
  have e0 := (hp_cell (i := 0) rr).trans rfl
  have e1 := (hp_cell (i := 1) rr).trans rfl
  have e2 := (hp_cell (i := 2) rr).trans rfl
  have e3 := (hp_cell (i := 3) rr).trans rfl
  refine bodyPost_ret (v := .tuple #[.agg #[.int .u64 0, .int .u64 0, .int .u64 0, .int .u64 0], .int .i64 6]) (by simp [results, Tryz.results56, go_sem, e0, e1, e2, e3]) rfl ⟨rfl, below_set4 H3.out (by omega)⟩
theorem morec_no (was a g : Nat) (hw : was < 2 ^ 256) (ha : a < 2 ^ 256) (hlt : MOST < was + a) (w : World) (hg : w.heap[g]? = some (.cells #[.int .u64 (limb a 0 : Nat), .int .u64 (limb a 1 : Nat), .int .u64 (limb a 2 : Nat), .int .u64 (limb a 3 : Nat)] 24 (0, 0))) :
    Calls Tryz.prog 56 #[U was, .pointer (some ⟨g, 0, none⟩)] w fun e w' => e = .returned (.tuple #[U 0, .int .i64 6]) ∧ Below w.heap.size w w' := by
  by_cases h : was + a < 2 ^ 256
  · exact morec_noB was a g hw ha h hlt _ rfl w hg
  · exact morec_noA was a g hw ha h w hg
set_option maxRecDepth 100000 in
set_option maxHeartbeats 2000000 in
/-- Add of too much: nothing changes -/
theorem cadd_no (P : Option Addr) (k : ByteArray) (was a : Nat) (hw : was < 2 ^ 256) (ha : a < 2 ^ 256) (hlt : MOST < was + a) (w : World) (HAm : ∀ W, Below w.heap.size w W → Calls Tryz.prog 9 #[.pointer P, .string k] W fun e w' => e = .returned (U was) ∧ Below W.heap.size W w') :
    Calls Tryz.prog 14 #[.pointer P, .string k, U a] w fun e w' => e = .returned (.int .i64 6) ∧ Below w.heap.size w w' := by
  have hC : ∀ (W : World) (g : Nat), Below w.heap.size w W → W.heap[g]? = some (.cells #[.int .u64 (limb a 0 : Nat), .int .u64 (limb a 1 : Nat), .int .u64 (limb a 2 : Nat), .int .u64 (limb a 3 : Nat)] 24 (0, 0)) → Calls Tryz.prog 33 #[.pointer P, .string k, .func (.func 56) #[] #[.pointer (some ⟨g, 0, none⟩)]] W fun e w' => e = .returned (.int .i64 6) ∧ Below W.heap.size W w' := by
    intro W g hbW hg
    have hA := HAm W hbW
    have hT := fun (W2 : World) (hb2 : Below W.heap.size W W2) => morec_no was a g hw ha hlt W2 ((hb2.block g (hp_lt hg)).trans hg)
    rw [U_zero] at hT
    unfold U at hA hT
    have HA := Lib.hid hA
    have HTs := Lib.hid hT
    clear HAm hbW hg ha hw hlt hA hT
    go_enter Tryz.func33, Tryz.ntmps33
    go_wp2_with (first
      | (go_at_call 56; refine (HTs.out _ H1.out).mono ?_; rintro e w2 ⟨rfl, hb2⟩; have H2 := Lib.hid (H1.out.trans (hb2.mono H1.out.size)); clear hb2)
      | (go_at_call 9; refine HA.out.mono ?_; rintro e w1 ⟨rfl, hb1⟩; have H1 := Lib.hid hb1; clear hb1))
    go_ret
    exact ⟨rfl, H2.out.alloc H2.out.size _⟩
  have hb0 := (Below.refl w.heap.size w).alloc (Nat.le_refl _) (.cells #[.int .u64 (limb a 0 : Nat), .int .u64 (limb a 1 : Nat), .int .u64 (limb a 2 : Nat), .int .u64 (limb a 3 : Nat)] 24)
  have hM := fun W1 => more_walk a W1
  unfold U at hM
  have HM := Lib.hid hM
  have HC := Lib.hid hC
  have HB0 := Lib.hid hb0
  clear HAm ha hw hlt hb0 hM hC
  unfold U
  go_enter Tryz.func14, Tryz.ntmps14
  go_wp2_with (first
    | (go_at_call 33; refine (HC.out _ _ H1.out.1 H1.out.2).mono ?_; rintro e w2 ⟨rfl, hb2⟩; have H2 := Lib.hid (H1.out.1.trans (hb2.mono H1.out.1.size)); clear hb2)
    | (go_at_call 35; refine (HM.out _).mono ?_; rintro e w1 ⟨rfl, hg1, hb1⟩; rw [World.size_alloc] at hg1; have H1 := Lib.hid (And.intro (HB0.out.trans (hb1.mono HB0.out.size)) hg1); clear hg1 hb1))
  go_ret
  exact ⟨rfl, H2.out⟩
end Go.Proofs.YtnjcnlbphaodcaaGreat

namespace Go.Proofs.YtnjcnlbphaodcaaGreat
open Go.RowKit Go.Maps Go.Sort

/-- the cells of pairs -/
def pcs (l : SL) : List Value := l.flatMap fun p => [.string p.1, .string p.2]
theorem pcs_snoc (l : SL) (p : ByteArray × ByteArray) : pcs (l ++ [p]) = pcs l ++ [.string p.1, .string p.2] := by simp [pcs]
def hpre (x : ByteArray) (p : ByteArray × ByteArray) : Bool := Lib.hasPrefix p.1.data.toList x.data.toList
/-- what stands under x -/
def under (L : SL) (x : ByteArray) : SL := (L.drop (klo (skeys L) x)).takeWhile (hpre x)
theorem takeWhile_here {α : Type} (P : α → Bool) : ∀ (l : List α) (k : Nat), k ≤ l.length → (∀ j (h : j < l.length), j < k → P l[j] = true) → (∀ h : k < l.length, P l[k] = false) → l.takeWhile P = l.take k
  | [], k, _, _, _ => by simp
  | a :: r, 0, _, _, h => by
    have := h (by simp)
    simp only [List.getElem_cons_zero] at this
    simp [this]
  | a :: r, k + 1, hk, ha, h => by
    have h0 := ha 0 (by simp) (by omega)
    simp only [List.getElem_cons_zero] at h0
    rw [List.takeWhile_cons, h0, List.take_succ_cons]
    simp only [if_true]
    congr 1
    refine takeWhile_here P r k (by simpa using hk) (fun j hj hlt => ?_) (fun hh => ?_)
    · have := ha (j + 1) (by simpa using hj) (by omega)
      simpa using this
    · have := h (by simpa using hh)
      simpa using this
theorem infoPair : (Tryz.prog.info? 125).map (fun i => (i.zero, i.size, i.bytes)) = some (some (.agg #[.string { data := #[] }, .string { data := #[] }]), 2, 32) := by kernel_rfl
/-- 'm[k]' -/
theorem MapAt.plain {w : World} {bm : Nat} {L : SL} (h : MapAt w bm L) (k : ByteArray) (hk : k.size ≤ maxLen) :
    (Instr.lookup 31 (.map (some bm)) (.string k) false).run Tryz.prog w = .ok (.agg #[.string ((sget L k).getD { data := #[] })]) w := by
  obtain ⟨D, ho, hR⟩ := h
  obtain ⟨v, ps, hrun, hv⟩ := ho.lookup skeyed Tryz.underlying31 (zeroEntry w) (entR_mk (s := { data := #[] }) (by decide)) (keyOf_s hk)
  obtain ⟨s, rfl, hz⟩ := entR_inv hv
  have e := hR.get (k := k) (s := s) (by have := congrArg Prod.fst hz; simpa using this)
  rw [hrun, e]
theorem sget_at : ∀ (L : SL), Rising (skeys L) → ∀ i (h : i < L.length), sget L L[i].1 = some L[i].2
  | [], _, i, h => absurd h (Nat.not_lt_zero _)
  | p :: r, hr, i, h => by
    cases i with
    | zero => simp [sget, keq_self]
    | succ i =>
      have hi : i < r.length := by simpa using h
      have hr' := List.pairwise_cons.1 hr
      have hlt : p.1.data.toList < r[i].1.data.toList := hr'.1 r[i].1 (List.mem_map.2 ⟨r[i], List.getElem_mem _, rfl⟩)
      have hne : keq p.1 r[i].1 = false := keq_ne fun e => by rw [e] at hlt; exact List.lt_irrefl _ hlt
      have ih := sget_at r hr'.2 i hi
      unfold sget at ih ⊢
      simp only [List.getElem_cons_succ]
      rw [List.find?_cons, hne]
      exact ih
/-- key t of block I is key number .. of all -/
theorem flat_at {G : List Seg} {I t : Nat} (hI : I < G.length) (ht : t < (G[I]).ks.length) : (flat G)[(flat (G.take I)).length + t]? = some (G[I]).ks[t] := by
  have e : G = G.take I ++ G[I] :: G.drop (I + 1) := by rw [← List.drop_eq_getElem_cons hI, List.take_append_drop]
  conv => lhs; rw [e, flat_app, flat_cons]
  rw [List.getElem?_append_right (by rw [List.take_append_of_le_length (by simp; omega), List.take_take, Nat.min_self]; omega), List.take_append_of_le_length (by simp; omega), List.take_take, Nat.min_self, Nat.add_sub_cancel_left, List.getElem?_append_left ht, List.getElem?_eq_getElem ht]
theorem flat_take_succ {G : List Seg} {I : Nat} (hI : I < G.length) : (flat (G.take (I + 1))).length = (flat (G.take I)).length + (G[I]).ks.length := by
  rw [List.take_succ_eq_append_getElem hI, flat_app, flat_cons, List.length_append, List.length_append]
  simp [flat]
def UnPost (L : SL) (x : ByteArray) (w : World) (e : Ending) (w' : World) : Prop :=
  (∃ v, e = .returned v ∧ w'.ownsRow w.heap.size 125 2 v (under L x).length (pcs (under L x))) ∧ Below w.heap.size w w'
theorem un_nil {L : SL} {x : ByteArray} {w w' : World} (h : under L x = []) (hb : Below w.heap.size w w') : UnPost L x w (Ending.returned (.slice none 0 0)) w' := by
  refine ⟨⟨_, rfl, ?_⟩, hb⟩
  rw [h]
  exact World.ownsRow_nil _ _ _ _
theorem fieldE (v : ByteArray) (w : World) : (Instr.field 93 (.agg #[.string v]) 0).run Tryz.prog w = .ok (.string v) w := by kernel_rfl
/-- the outer rounds: d pairs so far -/
def UnOut (G : List Seg) (L : SL) (l : Nat) (x : ByteArray) (w : World) (v i j : Value) (wr : World) : Prop :=
  ∃ I J d : Nat, I ≤ G.length ∧ i = .int .i64 (I : Nat) ∧ j = .int .i64 (J : Nat) ∧ (flat (G.take I)).length + J = l + d ∧ (∀ h : I < G.length, J < (G[I]).ks.length) ∧ (I = G.length → J = 0) ∧ d ≤ (L.drop l).length ∧
    wr.ownsRow w.heap.size 125 2 v d (pcs ((L.drop l).take d)) ∧ (∀ j (h : j < (L.drop l).length), j < d → hpre x (L.drop l)[j] = true) ∧ Below w.heap.size w wr
/-- the inner ones -/
def UnRel (D : SL) (d m : Nat) (x : ByteArray) (w : World) (v i : Value) (wr : World) : Prop :=
  ∃ k : Nat, k ≤ m ∧ d + k ≤ D.length ∧ i = .int .i64 (k : Nat) ∧ wr.ownsRow w.heap.size 125 2 v (d + k) (pcs (D.take (d + k))) ∧ (∀ j (h : j < D.length), j < d + k → hpre x D[j] = true) ∧ Below w.heap.size w wr
end Go.Proofs.YtnjcnlbphaodcaaGreat

namespace Go.Proofs.YtnjcnlbphaodcaaGreat
open Go.RowKit Go.Maps Go.Sort

theorem pcs_at : ∀ (l : SL) (j : Nat) (h : j < l.length), (pcs l)[j * 2]? = some (.string l[j].1) ∧ (pcs l)[j * 2 + 1]? = some (.string l[j].2)
  | [], j, h => absurd h (Nat.not_lt_zero _)
  | p :: r, 0, _ => ⟨rfl, rfl⟩
  | p :: r, j + 1, h => by
    have ih := pcs_at r j (by simpa using h)
    have e : pcs (p :: r) = .string p.1 :: .string p.2 :: pcs r := rfl
    rw [e]
    refine ⟨?_, ?_⟩
    · rw [show (j + 1) * 2 = j * 2 + 1 + 1 by omega, List.getElem?_cons_succ, List.getElem?_cons_succ]
      simpa using ih.1
    · rw [show (j + 1) * 2 + 1 = j * 2 + 1 + 1 + 1 by omega, List.getElem?_cons_succ, List.getElem?_cons_succ]
      simpa using ih.2
/-- a row of pairs that was made: how it is read -/
theorem row_pairs {w : World} {B : Nat} {v : Value} {l : SL} (h : w.ownsRow B 125 2 v l.length (pcs l)) :
    ∃ A c, v = .slice A l.length c ∧ (0 < l.length → ∃ g, A = some ⟨g, 0, none⟩ ∧ B ≤ g ∧ g < w.heap.size ∧ ∀ j (h : j < l.length), w.cell? ⟨g, j * 2, none⟩ = some (.string l[j].1) ∧ w.cell? ⟨g, j * 2 + 1, none⟩ = some (.string l[j].2)) := by
  rcases h.2 with ⟨rfl, h0⟩ | ⟨g, cap, cur, rfl, hb, hg, r⟩
  · exact ⟨none, 0, by rw [h0], fun hp => by omega⟩
  · exact ⟨_, cap, rfl, fun _ => ⟨g, rfl, hb, hp_lt hg, fun j hj => ⟨ownsRow_cell h rfl (pcs_at l j hj).1, ownsRow_cell h rfl (pcs_at l j hj).2⟩⟩⟩
end Go.Proofs.YtnjcnlbphaodcaaGreat
