/- cell: SetRow of any row; Add of too much. -/
import Derived.Test.YtbfmhafmncnhfaaG19
import Derived.Test.YtbfmhafmncnhfaaG10
import Derived.Test.YtbfmhafmncnhfaaG09
import Derived.Test.YtbfmhafmncnhfaaG07
namespace Go.Proofs.Ytbfmhafmncnhfaa
open Go.RowKit Go.Maps Go.Sort

set_option maxRecDepth 100000 in
set_option maxHeartbeats 2000000 in
theorem csetRow_nil {w W : World} {b : Nat} {F : List Nat} {L : SL} {q : Nat} {qs : List Value} (h : SNew w W b F L q qs) (k : ByteArray) (A : Option Addr) (n c : Nat) (f : Nat → Int) (hl : Il W A n f) (hn0 : n = 0) (hf : ∀ i, i < n → 0 ≤ f i)
    (hk : k.size ≤ maxLen) (hk0 : k ≠ ⟨#[]⟩) (hN : L.length < 1000000) (hq : q < 1000000) :
    Calls Try.prog 33 #[.pointer (some ⟨b, 0, none⟩), .string k, .slice A n c] W fun e W' => e = .returned (.tuple #[]) ∧ LiveTo w W W' b F (sdel L k) (q + 1) := by
  have hn : n ≤ 100 := by omega
  have hnI : (n : Int) ≤ 100 := by omega
  have hrn : rowV f n = ⟨#[]⟩ := by rw [hn0]; rfl
  have hb1 := (Below.refl W.heap.size W).alloc (Nat.le_refl _) (.cells #[.pointer none, .slice none 0 0] 108)
  have hB1 : Bld W.heap.size W.heap.size [] (W.alloc (.cells #[.pointer none, .slice none 0 0] 108)) := .inl ⟨Nat.le_refl _, .slice none 0 0, heap_alloc_new _ _, ⟨rfl, .inl ⟨rfl, rfl⟩⟩, by simp [Value.ownBlock]⟩
  have HB1 := Lib.hid hb1
  have HBl := Lib.hid hB1
  have HF := Lib.hid hf
  have HS := Lib.hid (fun (W1 : World) (hb : Below W.heap.size W W1) => (show Calls Try.prog 51 #[.pointer (some ⟨b, 0, none⟩), .string k, .string (rowV f n)] W1 fun e W' => e = .returned (.tuple #[]) ∧ LiveTo w W1 W' b F (sdel L k) (q + 1) from by rw [hrn]; exact cput_del (h.below hb) k hk (by omega) hq).mono fun e W' hp => (⟨hp.1, hp.2.pre hb⟩ : e = .returned (.tuple #[]) ∧ LiveTo w W W' b F (sdel L k) (q + 1)))
  obtain ⟨rv, hrv⟩ : ∃ x, x = rowV f n := ⟨_, rfl⟩
  rw [← hrv] at HS hrn
  have HRV := Lib.hid hrv
  clear hb1 hB1 hf h hk hk0 hN hq hrv hrn hn0
  go_enter Try.func33, Try.ntmps33
  go_wp2
  go_loopw [11] (fun i wr => ∃ j : Nat, j ≤ n ∧ i = .int .i64 (j : Nat) ∧ Bld W.heap.size W.heap.size (Lib.byteCells (u8l (tl f 0 j))) wr ∧ Below W.heap.size W wr) (fun i _ => n - (intOf i).toNat)
  case atStart => exact ⟨0, by omega, rfl, HBl.out, HB1.out⟩
  case round =>
    obtain ⟨j, hj, rfl, hbl, hbe⟩ := hrel
    have HBd := Lib.hid hbl
    have HBe := Lib.hid hbe
    clear hbl hbe
    have kI : (j : Int) ≤ n := by omega
    by_cases hlt : j < n
    · have p1 : (j : Int) < (n : Int) := by omega
      obtain ⟨g, o, rfl, hg, hc⟩ := hl.at_ (by omega)
      have hm := hl.most j
      have h0 := HF.out j hlt
      have hck : wr.cell? ⟨g, o + j, none⟩ = some (.int .i64 (f j)) := by rw [HBe.out.cell (p := ⟨g, o + j, none⟩) hg]; exact hc j hlt
      have hnc := numStr_cells h0
      obtain ⟨x, hx⟩ : ∃ x, x = f j := ⟨_, rfl⟩
      rw [← hx] at hm h0 hck hnc
      have HX := Lib.hid hx
      have HNum := Lib.hid (fun w => knum_walk x w hm)
      have n1 : ¬ x < 0 := by omega
      have HM := Lib.hid hm
      have HNC := Lib.hid hnc
      clear hc hl hx hm hnc
      go_wp2_with (first
        | (go_at_call 60; refine (bld_write W.heap.size W.heap.size _ (numStr x) w2 (HB2b.out) (by rw [Lib.byteCells_length, u8l_len, tl_len, numStr_sizeA]; omega) HB2.out.size).mono ?_; rintro e w3 ⟨rfl, hb3, hbe3⟩; have HB3b := Lib.hid hb3; have HB3 := Lib.hid (HB2.out.trans hbe3); clear hb3 hbe3)
        | (go_at_call 59; refine (HNum.out _).mono ?_; rintro e w2 ⟨rfl, hb2⟩; have HB2 := Lib.hid (HBe.out.trans (hb2.mono HBe.out.size)); have HB2b := Lib.hid (bld_below HBd.out hb2); clear hb2))
      refine ⟨⟨j + 1, by omega, by simp, ?_, HB3.out⟩, by simp [intOf]; omega⟩
      have := HB3b.out
      rw [HNC.out, byteCells_app, ← u8l_append, HX.out] at this
      rw [tl_snoc, Nat.zero_add]
      exact this
    · obtain rfl : j = n := by omega
      have p1 : ¬ (j : Int) < (j : Int) := by omega
      have HStr := Lib.hid (Try.Builder_String_any W.heap.size W.heap.size (u8l (tl f 0 j)) wr HBd.out HBe.out.size)
      have HRV2 := HRV.out
      unfold rowV at HRV2
      rw [← HRV2] at HStr
      clear HRV2
      go_wp2_with (first
        | (go_at_call 51; refine (HS.out w5 HB5.out).mono ?_; rintro e w6 ⟨rfl, h6⟩; have H6 := Lib.hid h6; clear h6)
        | (go_at_call 61; refine HStr.out.mono ?_; rintro e w5 ⟨rfl, hb5⟩; have HB5 := Lib.hid (HBe.out.trans hb5); clear hb5))
      go_end0
      exact ⟨rfl, H6.out⟩
set_option maxRecDepth 100000 in
set_option maxHeartbeats 2000000 in
theorem csetRow_neg {w W : World} {b : Nat} {F : List Nat} {L : SL} {q : Nat} {qs : List Value} (h : SNew w W b F L q qs) (k : ByteArray) (A : Option Addr) (n c : Nat) (f : Nat → Int) (hl : Il W A n f) (hn : n ≤ 100) (p : Nat) (hpn : p < n) (hf : ∀ i, i < p → 0 ≤ f i) (hfp : f p < 0)
    (hk : k.size ≤ maxLen) (hk0 : k ≠ ⟨#[]⟩) (hN : L.length < 1000000) (hq : q < 1000000) :
    Calls Try.prog 33 #[.pointer (some ⟨b, 0, none⟩), .string k, .slice A n c] W fun e W' => e = .returned (.tuple #[]) ∧ LiveTo w W W' b F L (q + 1) := by
  have hnI : (n : Int) ≤ 100 := by omega
  have hb1 := (Below.refl W.heap.size W).alloc (Nat.le_refl _) (.cells #[.pointer none, .slice none 0 0] 108)
  have hB1 : Bld W.heap.size W.heap.size [] (W.alloc (.cells #[.pointer none, .slice none 0 0] 108)) := .inl ⟨Nat.le_refl _, .slice none 0 0, heap_alloc_new _ _, ⟨rfl, .inl ⟨rfl, rfl⟩⟩, by simp [Value.ownBlock]⟩
  have HB1 := Lib.hid hb1
  have HBl := Lib.hid hB1
  have HF := Lib.hid hf
  have HS := Lib.hid (fun (W1 : World) (hb : Below W.heap.size W W1) => (show LiveTo w W W1 b F L (q + 1) from by obtain ⟨F', q', qs', h1, h2, h3⟩ := h.same hb; exact ⟨F', q', qs', h1, by omega, h3⟩))
  have HFp := Lib.hid hfp
  clear hb1 hB1 hf hfp h hk hk0 hN hq
  go_enter Try.func33, Try.ntmps33
  go_wp2
  go_loopw [11] (fun i wr => ∃ j : Nat, j ≤ p ∧ i = .int .i64 (j : Nat) ∧ Bld W.heap.size W.heap.size (Lib.byteCells (u8l (tl f 0 j))) wr ∧ Below W.heap.size W wr) (fun i _ => n - (intOf i).toNat)
  case atStart => exact ⟨0, by omega, rfl, HBl.out, HB1.out⟩
  case round =>
    obtain ⟨j, hj, rfl, hbl, hbe⟩ := hrel
    have HBd := Lib.hid hbl
    have HBe := Lib.hid hbe
    clear hbl hbe
    have kI : (j : Int) ≤ n := by omega
    by_cases hlt : j < p
    · have p1 : (j : Int) < (n : Int) := by omega
      obtain ⟨g, o, rfl, hg, hc⟩ := hl.at_ (by omega)
      have hm := hl.most j
      have h0 := HF.out j hlt
      have hck : wr.cell? ⟨g, o + j, none⟩ = some (.int .i64 (f j)) := by rw [HBe.out.cell (p := ⟨g, o + j, none⟩) hg]; exact hc j (by omega)
      have hnc := numStr_cells h0
      obtain ⟨x, hx⟩ : ∃ x, x = f j := ⟨_, rfl⟩
      rw [← hx] at hm h0 hck hnc
      have HX := Lib.hid hx
      have HNum := Lib.hid (fun w => knum_walk x w hm)
      have n1 : ¬ x < 0 := by omega
      have HM := Lib.hid hm
      have HNC := Lib.hid hnc
      clear hc hl hx hm hnc
      go_wp2_with (first
        | (go_at_call 60; refine (bld_write W.heap.size W.heap.size _ (numStr x) w2 (HB2b.out) (by rw [Lib.byteCells_length, u8l_len, tl_len, numStr_sizeA]; omega) HB2.out.size).mono ?_; rintro e w3 ⟨rfl, hb3, hbe3⟩; have HB3b := Lib.hid hb3; have HB3 := Lib.hid (HB2.out.trans hbe3); clear hb3 hbe3)
        | (go_at_call 59; refine (HNum.out _).mono ?_; rintro e w2 ⟨rfl, hb2⟩; have HB2 := Lib.hid (HBe.out.trans (hb2.mono HBe.out.size)); have HB2b := Lib.hid (bld_below HBd.out hb2); clear hb2))
      refine ⟨⟨j + 1, by omega, by simp, ?_, HB3.out⟩, by simp [intOf]; omega⟩
      have := HB3b.out
      rw [HNC.out, byteCells_app, ← u8l_append, HX.out] at this
      rw [tl_snoc, Nat.zero_add]
      exact this
    · obtain rfl : j = p := by omega
      have p1 : (j : Int) < (n : Int) := by omega
      obtain ⟨g, o, rfl, hg, hc⟩ := hl.at_ (by omega)
      have hck : wr.cell? ⟨g, o + j, none⟩ = some (.int .i64 (f j)) := by rw [HBe.out.cell (p := ⟨g, o + j, none⟩) hg]; exact hc j (by omega)
      have hx := HFp.out
      obtain ⟨x, ex⟩ : ∃ x, x = f j := ⟨_, rfl⟩
      rw [← ex] at hck hx
      clear hc hl ex
      go_wp2
      refine bodyPost_ret (v := .tuple #[]) (by simp [results, Try.results33, go_sem]) rfl ⟨rfl, HS.out _ HBe.out⟩
set_option maxRecDepth 100000 in
set_option maxHeartbeats 2000000 in
theorem morec_noA (was a g : Nat) (hw : was < 2 ^ 256) (ha : a < 2 ^ 256) (hlt : ¬ was + a < 2 ^ 256) (w : World) (hg : w.heap[g]? = some (.cells #[.int .u64 (limb a 0 : Nat), .int .u64 (limb a 1 : Nat), .int .u64 (limb a 2 : Nat), .int .u64 (limb a 3 : Nat)] 55 (0, 0))) :
    Calls Try.prog 82 #[U was, .pointer (some ⟨g, 0, none⟩)] w fun e w' => e = .returned (.tuple #[U 0, .int .i64 6]) ∧ Below w.heap.size w w' := by
  have hb0 := ((Below.refl w.heap.size w).alloc (Nat.le_refl _) (.cells #[.int .u64 (limb was 0 : Nat), .int .u64 (limb was 1 : Nat), .int .u64 (limb was 2 : Nat), .int .u64 (limb was 3 : Nat)] 55)).alloc (by simp) (.cells #[.int .u64 0, .int .u64 0, .int .u64 0, .int .u64 0] 55)
  have r0 := heap_alloc_new (w.alloc (.cells #[.int .u64 (limb was 0 : Nat), .int .u64 (limb was 1 : Nat), .int .u64 (limb was 2 : Nat), .int .u64 (limb was 3 : Nat)] 55)) (.cells #[.int .u64 0, .int .u64 0, .int .u64 0, .int .u64 0] 55)
  rw [World.size_alloc] at r0
  have hA : ∀ W, Calls Try.prog 83 #[U was, U a] W fun e w' => e = .returned (.tuple #[.agg #[.int .u64 0, .int .u64 0, .int .u64 0, .int .u64 0], .bool false]) ∧ Below W.heap.size W w' := fun W => (add_walk was a W hw ha).mono fun e w' hh => by
    obtain ⟨he, hb⟩ := hh
    rw [if_neg hlt, decide_eq_false hlt, U_zero] at he
    exact ⟨he, hb⟩
  rw [U_zero]
  unfold U at hA
  have HA := Lib.hid hA
  have H0 := Lib.hid (And.intro hb0 r0)
  have rg := (hb0.block g (hp_lt hg)).trans hg
  have lg := hp_lt hg
  have c0 := (hp_cell (i := 0) rg).trans rfl
  have c1 := (hp_cell (i := 1) rg).trans rfl
  have c2 := (hp_cell (i := 2) rg).trans rfl
  have c3 := (hp_cell (i := 3) rg).trans rfl
  clear hb0 r0 hA rg hlt hw ha hg
  unfold U
  go_enter Try.func82, Try.ntmps82
  go_wp2_with (first
    | (go_at_call 83; refine (HA.out _).mono ?_; rintro e w2 ⟨rfl, hb2⟩; have hbx := (Below.refl w2.heap.size w2).alloc (Nat.le_refl _) (.cells #[.int .u64 0, .int .u64 0, .int .u64 0, .int .u64 0] 55); have hby := hb2.trans (hbx.mono hb2.size); have rx := (hby.block (w.heap.size + 1) (by simp)).trans H0.out.2; have RX := Lib.hid rx; have H2 := Lib.hid (H0.out.1.trans (hby.mono H0.out.1.size)); have d0 := (hp_cell (i := 0) rx).trans rfl; have d1 := (hp_cell (i := 1) rx).trans rfl; have d2 := (hp_cell (i := 2) rx).trans rfl; have d3 := (hp_cell (i := 3) rx).trans rfl; have g0 := hp_free (i := 0) rx; have g1 := hp_free (i := 1) rx; have g2 := hp_free (i := 2) rx; have g3 := hp_free (i := 3) rx; clear hb2 hbx hby rx))
  have rr := heap_setCell_row (o := 3) (heap_setCell_row (o := 2) (heap_setCell_row (o := 1) (heap_setCell_row (o := 0) RX.out (.int .u64 0)) (.int .u64 0)) (.int .u64 0)) (.int .u64 0)
  have e0 := (hp_cell (i := 0) rr).trans rfl
  have e1 := (hp_cell (i := 1) rr).trans rfl
  have e2 := (hp_cell (i := 2) rr).trans rfl
  have e3 := (hp_cell (i := 3) rr).trans rfl
  refine bodyPost_ret (v := .tuple #[.agg #[.int .u64 0, .int .u64 0, .int .u64 0, .int .u64 0], .int .i64 6]) (by simp [results, Try.results82, go_sem, e0, e1, e2, e3]) rfl ⟨rfl, below_set4 H2.out (by omega)⟩
set_option maxRecDepth 100000 in
set_option maxHeartbeats 2000000 in
theorem morec_noB (was a g : Nat) (hw : was < 2 ^ 256) (ha : a < 2 ^ 256) (hlt : was + a < 2 ^ 256) (hmo : MOST < was + a) (r : Nat) (hr : was + a = r) (w : World) (hg : w.heap[g]? = some (.cells #[.int .u64 (limb a 0 : Nat), .int .u64 (limb a 1 : Nat), .int .u64 (limb a 2 : Nat), .int .u64 (limb a 3 : Nat)] 55 (0, 0))) :
    Calls Try.prog 82 #[U was, .pointer (some ⟨g, 0, none⟩)] w fun e w' => e = .returned (.tuple #[U 0, .int .i64 6]) ∧ Below w.heap.size w w' := by
  have hb0 := ((Below.refl w.heap.size w).alloc (Nat.le_refl _) (.cells #[.int .u64 (limb was 0 : Nat), .int .u64 (limb was 1 : Nat), .int .u64 (limb was 2 : Nat), .int .u64 (limb was 3 : Nat)] 55)).alloc (by simp) (.cells #[.int .u64 0, .int .u64 0, .int .u64 0, .int .u64 0] 55)
  have r0 := heap_alloc_new (w.alloc (.cells #[.int .u64 (limb was 0 : Nat), .int .u64 (limb was 1 : Nat), .int .u64 (limb was 2 : Nat), .int .u64 (limb was 3 : Nat)] 55)) (.cells #[.int .u64 0, .int .u64 0, .int .u64 0, .int .u64 0] 55)
  rw [World.size_alloc] at r0
  have hA : ∀ W, Calls Try.prog 83 #[U was, U a] W fun e w' => e = .returned (.tuple #[U r, .bool true]) ∧ Below W.heap.size W w' := fun W => (add_walk was a W hw ha).mono fun e w' hh => by
    obtain ⟨he, hb⟩ := hh
    rw [if_pos hlt, decide_eq_true hlt, hr] at he
    exact ⟨he, hb⟩
  have hM : ∀ W, Calls Try.prog 84 #[U r] W fun e w' => e = .returned (.bool false) ∧ Below W.heap.size W w' := fun W => (amount_walk r W (by rw [← hr]; exact hlt)).mono fun e w' hh => by
    obtain ⟨he, hb⟩ := hh
    rw [decide_eq_false (by rw [← hr]; omega)] at he
    exact ⟨he, hb⟩
  rw [U_zero]
  unfold U at hA hM
  have HM := Lib.hid hM
  clear hM
  have HA := Lib.hid hA
  have H0 := Lib.hid (And.intro hb0 r0)
  have rg := (hb0.block g (hp_lt hg)).trans hg
  have lg := hp_lt hg
  have c0 := (hp_cell (i := 0) rg).trans rfl
  have c1 := (hp_cell (i := 1) rg).trans rfl
  have c2 := (hp_cell (i := 2) rg).trans rfl
  have c3 := (hp_cell (i := 3) rg).trans rfl
  clear hb0 r0 hA rg hlt hw ha hg hmo hr
  unfold U
  go_enter Try.func82, Try.ntmps82
  go_wp2_with (first
    | (go_at_call 84; refine (HM.out _).mono ?_; rintro e w3 ⟨rfl, hb3⟩; have hbx := (Below.refl w2.heap.size w2).alloc (Nat.le_refl _) (.cells #[.int .u64 (limb r 0 : Nat), .int .u64 (limb r 1 : Nat), .int .u64 (limb r 2 : Nat), .int .u64 (limb r 3 : Nat)] 55); have ry := (hb3.block w2.heap.size (by simp)).trans (heap_alloc_new w2 (.cells #[.int .u64 (limb r 0 : Nat), .int .u64 (limb r 1 : Nat), .int .u64 (limb r 2 : Nat), .int .u64 (limb r 3 : Nat)] 55)); have rx := (hb3.block _ (hp_lt RX.out)).trans RX.out; have RX3 := Lib.hid rx; have H3 := Lib.hid (H2.out.trans (hb3.mono H2.out.size)); have LY := hp_lt ry; have LZ := Lib.hid (hp_lt H0.out.2); have d0 := (hp_cell (i := 0) rx).trans rfl; have d1 := (hp_cell (i := 1) rx).trans rfl; have d2 := (hp_cell (i := 2) rx).trans rfl; have d3 := (hp_cell (i := 3) rx).trans rfl; have g0 := hp_free (i := 0) rx; have g1 := hp_free (i := 1) rx; have g2 := hp_free (i := 2) rx; have g3 := hp_free (i := 3) rx; have y0 := (hp_cell (i := 0) ry).trans rfl; have y1 := (hp_cell (i := 1) ry).trans rfl; have y2 := (hp_cell (i := 2) ry).trans rfl; have y3 := (hp_cell (i := 3) ry).trans rfl; clear hb3 hbx rx ry)
    | (go_at_call 83; refine (HA.out _).mono ?_; rintro e w2 ⟨rfl, hb2⟩; have hbx := (Below.refl w2.heap.size w2).alloc (Nat.le_refl _) (.cells #[.int .u64 (limb r 0 : Nat), .int .u64 (limb r 1 : Nat), .int .u64 (limb r 2 : Nat), .int .u64 (limb r 3 : Nat)] 55); have hby := hb2.trans (hbx.mono hb2.size); have rx := (hby.block (w.heap.size + 1) (by simp)).trans H0.out.2; have RX := Lib.hid rx; have H2 := Lib.hid (H0.out.1.trans (hby.mono H0.out.1.size)); have d0 := (hp_cell (i := 0) rx).trans rfl; have d1 := (hp_cell (i := 1) rx).trans rfl; have d2 := (hp_cell (i := 2) rx).trans rfl; have d3 := (hp_cell (i := 3) rx).trans rfl; have g0 := hp_free (i := 0) rx; have g1 := hp_free (i := 1) rx; have g2 := hp_free (i := 2) rx; have g3 := hp_free (i := 3) rx; clear hb2 hbx hby rx))
  have rr := heap_setCell_row (o := 3) (heap_setCell_row (o := 2) (heap_setCell_row (o := 1) (heap_setCell_row (o := 0) RX3.out (.int .u64 0)) (.int .u64 0)) (.int .u64 0)) (.int .u64 0)
  have e0 := (hp_cell (i := 0) rr).trans rfl
  have e1 := (hp_cell (i := 1) rr).trans rfl
  have e2 := (hp_cell (i := 2) rr).trans rfl
  have e3 := (hp_cell (i := 3) rr).trans rfl
  refine bodyPost_ret (v := .tuple #[.agg #[.int .u64 0, .int .u64 0, .int .u64 0, .int .u64 0], .int .i64 6]) (by simp [results, Try.results82, go_sem, e0, e1, e2, e3]) rfl ⟨rfl, below_set4 H3.out (by omega)⟩
theorem morec_no (was a g : Nat) (hw : was < 2 ^ 256) (ha : a < 2 ^ 256) (hlt : MOST < was + a) (w : World) (hg : w.heap[g]? = some (.cells #[.int .u64 (limb a 0 : Nat), .int .u64 (limb a 1 : Nat), .int .u64 (limb a 2 : Nat), .int .u64 (limb a 3 : Nat)] 55 (0, 0))) :
    Calls Try.prog 82 #[U was, .pointer (some ⟨g, 0, none⟩)] w fun e w' => e = .returned (.tuple #[U 0, .int .i64 6]) ∧ Below w.heap.size w w' := by
  by_cases h : was + a < 2 ^ 256
  · exact morec_noB was a g hw ha h hlt _ rfl w hg
  · exact morec_noA was a g hw ha h w hg
set_option maxRecDepth 100000 in
set_option maxHeartbeats 2000000 in
/-- Add of too much: nothing changes -/
theorem cadd_no (P : Option Addr) (k : ByteArray) (was a : Nat) (hw : was < 2 ^ 256) (ha : a < 2 ^ 256) (hlt : MOST < was + a) (w : World) (HAm : ∀ W, Below w.heap.size w W → Calls Try.prog 31 #[.pointer P, .string k] W fun e w' => e = .returned (U was) ∧ Below W.heap.size W w') :
    Calls Try.prog 37 #[.pointer P, .string k, U a] w fun e w' => e = .returned (.int .i64 6) ∧ Below w.heap.size w w' := by
  have hC : ∀ (W : World) (g : Nat), Below w.heap.size w W → W.heap[g]? = some (.cells #[.int .u64 (limb a 0 : Nat), .int .u64 (limb a 1 : Nat), .int .u64 (limb a 2 : Nat), .int .u64 (limb a 3 : Nat)] 55 (0, 0)) → Calls Try.prog 63 #[.pointer P, .string k, .func (.func 82) #[] #[.pointer (some ⟨g, 0, none⟩)]] W fun e w' => e = .returned (.int .i64 6) ∧ Below W.heap.size W w' := by
    intro W g hbW hg
    have hA := HAm W hbW
    have hT := fun (W2 : World) (hb2 : Below W.heap.size W W2) => morec_no was a g hw ha hlt W2 ((hb2.block g (hp_lt hg)).trans hg)
    rw [U_zero] at hT
    unfold U at hA hT
    have HA := Lib.hid hA
    have HTs := Lib.hid hT
    clear HAm hbW hg ha hw hlt hA hT
    go_enter Try.func63, Try.ntmps63
    go_wp2_with (first
      | (go_at_call 82; refine (HTs.out _ H1.out).mono ?_; rintro e w2 ⟨rfl, hb2⟩; have H2 := Lib.hid (H1.out.trans (hb2.mono H1.out.size)); clear hb2)
      | (go_at_call 31; refine HA.out.mono ?_; rintro e w1 ⟨rfl, hb1⟩; have H1 := Lib.hid hb1; clear hb1))
    go_ret
    exact ⟨rfl, H2.out.alloc H2.out.size _⟩
  have hb0 := (Below.refl w.heap.size w).alloc (Nat.le_refl _) (.cells #[.int .u64 (limb a 0 : Nat), .int .u64 (limb a 1 : Nat), .int .u64 (limb a 2 : Nat), .int .u64 (limb a 3 : Nat)] 55)
  have hM := fun W1 => more_walk a W1
  unfold U at hM
  have HM := Lib.hid hM
  have HC := Lib.hid hC
  have HB0 := Lib.hid hb0
  clear HAm ha hw hlt hb0 hM hC
  unfold U
  go_enter Try.func37, Try.ntmps37
  go_wp2_with (first
    | (go_at_call 63; refine (HC.out _ _ H1.out.1 H1.out.2).mono ?_; rintro e w2 ⟨rfl, hb2⟩; have H2 := Lib.hid (H1.out.1.trans (hb2.mono H1.out.1.size)); clear hb2)
    | (go_at_call 64; refine (HM.out _).mono ?_; rintro e w1 ⟨rfl, hg1, hb1⟩; rw [World.size_alloc] at hg1; have H1 := Lib.hid (And.intro (HB0.out.trans (hb1.mono HB0.out.size)) hg1); clear hg1 hb1))
  go_ret
  exact ⟨rfl, H2.out⟩
end Go.Proofs.Ytbfmhafmncnhfaa

namespace Go.Proofs.Ytbfmhafmncnhfaa
open Go.RowKit Go.Maps Go.Sort

/-- the cells of pairs -/
def pcs (l : SL) : List Value := l.flatMap fun p => [.string p.1, .string p.2]
theorem pcs_snoc (l : SL) (p : ByteArray × ByteArray) : pcs (l ++ [p]) = pcs l ++ [.string p.1, .string p.2] := by simp [pcs]
def hpre (x : ByteArray) (p : ByteArray × ByteArray) : Bool := Lib.hasPrefix p.1.data.toList x.data.toList
/-- what stands under x -/
def under (L : SL) (x : ByteArray) : SL := (L.drop (klo (skeys L) x)).takeWhile (hpre x)
theorem takeWhile_here {α : Type} (P : α → Bool) : ∀ (l : List α) (k : Nat), k ≤ l.length → (∀ j (h : j < l.length), j < k → P l[j] = true) → (∀ h : k < l.length, P l[k] = false) → l.takeWhile P = l.take k
  | [], k, _, _, _ => by simp
  | a :: r, 0, _, _, h => by
    have := h (by simp)
    simp only [List.getElem_cons_zero] at this
    simp [this]
  | a :: r, k + 1, hk, ha, h => by
    have h0 := ha 0 (by simp) (by omega)
    simp only [List.getElem_cons_zero] at h0
    rw [List.takeWhile_cons, h0, List.take_succ_cons]
    simp only [if_true]
    congr 1
    refine takeWhile_here P r k (by simpa using hk) (fun j hj hlt => ?_) (fun hh => ?_)
    · have := ha (j + 1) (by simpa using hj) (by omega)
      simpa using this
    · have := h (by simpa using hh)
      simpa using this
theorem infoPair : (Try.prog.info? 43).map (fun i => (i.zero, i.size, i.bytes)) = some (some (.agg #[.string { data := #[] }, .string { data := #[] }]), 2, 32) := by kernel_rfl
/-- 'm[k]' -/
theorem MapAt.plain {w : World} {bm : Nat} {L : SL} (h : MapAt w bm L) (k : ByteArray) (hk : k.size ≤ maxLen) :
    (Instr.lookup 73 (.map (some bm)) (.string k) false).run Try.prog w = .ok (.agg #[.string ((sget L k).getD { data := #[] })]) w := by
  obtain ⟨D, ho, hR⟩ := h
  obtain ⟨v, ps, hrun, hv⟩ := ho.lookup skeyed Try.underlying73 (zeroEntry w) (entR_mk (s := { data := #[] }) (by decide)) (keyOf_s hk)
  obtain ⟨s, rfl, hz⟩ := entR_inv hv
  have e := hR.get (k := k) (s := s) (by have := congrArg Prod.fst hz; simpa using this)
  rw [hrun, e]
theorem sget_at : ∀ (L : SL), Rising (skeys L) → ∀ i (h : i < L.length), sget L L[i].1 = some L[i].2
  | [], _, i, h => absurd h (Nat.not_lt_zero _)
  | p :: r, hr, i, h => by
    cases i with
    | zero => simp [sget, keq_self]
    | succ i =>
      have hi : i < r.length := by simpa using h
      have hr' := List.pairwise_cons.1 hr
      have hlt : p.1.data.toList < r[i].1.data.toList := hr'.1 r[i].1 (List.mem_map.2 ⟨r[i], List.getElem_mem _, rfl⟩)
      have hne : keq p.1 r[i].1 = false := keq_ne fun e => by rw [e] at hlt; exact List.lt_irrefl _ hlt
      have ih := sget_at r hr'.2 i hi
      unfold sget at ih ⊢
      simp only [List.getElem_cons_succ]
      rw [List.find?_cons, hne]
      exact ih
/-- key t of block I is key number .. of all -/
theorem flat_at {G : List Seg} {I t : Nat} (hI : I < G.length) (ht : t < (G[I]).ks.length) : (flat G)[(flat (G.take I)).length + t]? = some (G[I]).ks[t] := by
  have e : G = G.take I ++ G[I] :: G.drop (I + 1) := by rw [← List.drop_eq_getElem_cons hI, List.take_append_drop]
  conv => lhs; rw [e, flat_app, flat_cons]
  rw [List.getElem?_append_right (by rw [List.take_append_of_le_length (by simp; omega), List.take_take, Nat.min_self]; omega), List.take_append_of_le_length (by simp; omega), List.take_take, Nat.min_self, Nat.add_sub_cancel_left, List.getElem?_append_left ht, List.getElem?_eq_getElem ht]
theorem flat_take_succ {G : List Seg} {I : Nat} (hI : I < G.length) : (flat (G.take (I + 1))).length = (flat (G.take I)).length + (G[I]).ks.length := by
  rw [List.take_succ_eq_append_getElem hI, flat_app, flat_cons, List.length_append, List.length_append]
  simp [flat]
def UnPost (L : SL) (x : ByteArray) (w : World) (e : Ending) (w' : World) : Prop :=
  (∃ v, e = .returned v ∧ w'.ownsRow w.heap.size 43 2 v (under L x).length (pcs (under L x))) ∧ Below w.heap.size w w'
theorem un_nil {L : SL} {x : ByteArray} {w w' : World} (h : under L x = []) (hb : Below w.heap.size w w') : UnPost L x w (Ending.returned (.slice none 0 0)) w' := by
  refine ⟨⟨_, rfl, ?_⟩, hb⟩
  rw [h]
  exact World.ownsRow_nil _ _ _ _
set_option maxRecDepth 100000 in
set_option maxHeartbeats 2000000 in
/-- no keys: no blocks -/
theorem under_none (b : Nat) (F : List Nat) (q : Nat) (qs : List Value) (W : World) (h : StP W b F [] q qs) (x : ByteArray) :
    Calls Try.prog 24 #[.pointer (some ⟨b, 0, none⟩), .string x] W fun e w' => UnPost [] x W e w' := by
  have HM := Lib.hid (made_live b F [] q qs W h)
  obtain ⟨bm, vb, vk, vq, rfl, hS⟩ := h
  obtain ⟨A, c, rfl⟩ : ∃ A c, vb = .slice A 0 c := by
    have hkb := hS.keys.kb
    have hl : vk.length = 0 := by have := hS.keys.len; simp [skeys] at this; simpa using this
    rw [hl] at hkb
    rcases hkb.2 with ⟨rfl, _⟩ | ⟨g, cap, cur, rfl, _⟩
    · exact ⟨_, _, rfl⟩
    · exact ⟨_, _, rfl⟩
  have HP := Lib.hid (place_none b bm A c vq x W hS.r)
  have HR := Lib.hid (fun w' (hB : Below W.heap.size W w') => (hp_cell (i := 1) ((hB.block b (hp_lt hS.r)).trans hS.r)).trans rfl)
  clear hS
  go_enter Try.func24, Try.ntmps24
  go_wp2_with (first | (go_at_call 18; refine HM.out.mono ?_; rintro e w1 ⟨rfl, rfl⟩) | (go_at_call 49; refine HP.out.mono ?_; rintro e w2 ⟨rfl, hb2⟩; have B2 := Lib.hid hb2; have r1 := HR.out _ hb2; clear hb2))
  go_loopw [5, 6, 7] (fun v i j wr => v = .slice none 0 0 ∧ i = .int .i64 0 ∧ j = .int .i64 0 ∧ w2 = wr) (fun _ _ _ _ => 0)
  case atStart => exact ⟨rfl, rfl, rfl, rfl⟩
  case round =>
    obtain ⟨rfl, rfl, rfl, rfl⟩ := hrel
    go_wp2
    go_ret
    exact un_nil (by simp [under]) B2.out
theorem fieldE (v : ByteArray) (w : World) : (Instr.field 80 (.agg #[.string v]) 0).run Try.prog w = .ok (.string v) w := by kernel_rfl
/-- the outer rounds: d pairs so far -/
def UnOut (G : List Seg) (L : SL) (l : Nat) (x : ByteArray) (w : World) (v i j : Value) (wr : World) : Prop :=
  ∃ I J d : Nat, I ≤ G.length ∧ i = .int .i64 (I : Nat) ∧ j = .int .i64 (J : Nat) ∧ (flat (G.take I)).length + J = l + d ∧ (∀ h : I < G.length, J < (G[I]).ks.length) ∧ (I = G.length → J = 0) ∧ d ≤ (L.drop l).length ∧
    wr.ownsRow w.heap.size 43 2 v d (pcs ((L.drop l).take d)) ∧ (∀ j (h : j < (L.drop l).length), j < d → hpre x (L.drop l)[j] = true) ∧ Below w.heap.size w wr
/-- the inner ones -/
def UnRel (D : SL) (d m : Nat) (x : ByteArray) (w : World) (v i : Value) (wr : World) : Prop :=
  ∃ k : Nat, k ≤ m ∧ d + k ≤ D.length ∧ i = .int .i64 (k : Nat) ∧ wr.ownsRow w.heap.size 43 2 v (d + k) (pcs (D.take (d + k))) ∧ (∀ j (h : j < D.length), j < d + k → hpre x D[j] = true) ∧ Below w.heap.size w wr
set_option maxRecDepth 100000 in
set_option maxHeartbeats 4000000 in
theorem under_some (b : Nat) (F : List Nat) (L : SL) (q : Nat) (qs : List Value) (W : World) (h : StP W b F L q qs) (x : ByteArray) (hL : L ≠ []) (hks : ∀ p ∈ L, p.1.size ≤ maxLen) (hN : L.length < 1000000) :
    Calls Try.prog 24 #[.pointer (some ⟨b, 0, none⟩), .string x] W fun e w' => UnPost L x W e w' := by
  obtain ⟨i0, hi, hz0, hz1, hz2⟩ := info_parts infoPair
  have HM := Lib.hid (made_live b F L q qs W h)
  obtain ⟨bm, vb, G, vq, rfl, hS⟩ := h
  have hlen : (skeys L).length = L.length := by simp [skeys]
  have hGl := hS.keys.len
  have hfl := hS.keys.fl
  have hG0 : 0 < G.length := by
    rcases Nat.eq_zero_or_pos G.length with h0 | h0
    · have := List.length_eq_zero_iff.1 h0
      subst this
      have : (skeys L).length = 0 := by rw [← hfl]; rfl
      exact absurd (List.length_eq_zero_iff.1 (by omega)) hL
    · exact h0
  obtain ⟨ba, bc, rfl, hba⟩ := ownsRow_form hS.keys.kb hG0
  have hcell : ∀ w', Below W.heap.size W w' → ∀ i (hi : i < G.length), w'.cell? ⟨ba, i, none⟩ = some G[i].val := fun w' hB i hi => ownsRow_cell (hS.below hB).keys.kb rfl (by rw [List.getElem?_map, List.getElem?_eq_getElem hi]; rfl)
  have hs : Rising (flat G) := by rw [hfl]; exact hS.so
  have hne : ∀ s ∈ G, 0 < s.ks.length := fun s hm => (hS.keys.kk.ne s hm).1
  have hP := place_some b bm ba bc G vq x W hG0 (by omega) hs hS.keys.kk hS.r (hcell W (Below.refl _ _))
  obtain ⟨l, hl⟩ : ∃ l, l = klo (skeys L) x := ⟨_, rfl⟩
  have hle : l ≤ L.length := by have := klo_le (skeys L) x; omega
  have hund : under L x = (L.drop l).takeWhile (hpre x) := by rw [hl]; rfl
  obtain ⟨I0, J0, hpl, hI0, hlj, hJ0, hJN⟩ : ∃ I0 J0, plcI G x = (I0, J0) ∧ I0 ≤ G.length ∧ (flat (G.take I0)).length + J0 = l ∧ (∀ h : I0 < G.length, J0 < (G[I0]).ks.length) ∧ (I0 = G.length → J0 = 0) := by
    rcases plc_parts x G hs hne with ⟨h1, h2⟩ | ⟨P, s, S, rfl, h1, h2, h3⟩
    · refine ⟨G.length, 0, by unfold plcI; rw [if_pos h1], Nat.le_refl _, ?_, fun h => absurd h (Nat.lt_irrefl _), fun _ => rfl⟩
      rw [List.take_length, ← h2, hfl, hl]; rfl
    · refine ⟨P.length, klo s.ks x, ?_, by simp, ?_, fun _ => ?_, fun h => by simp at h⟩
      · unfold plcI
        rw [if_neg (by rw [h1]; simp), h1, List.getD_eq_getElem?_getD, List.getElem?_append_right (Nat.le_refl _), Nat.sub_self]
        rfl
      · rw [List.take_left' rfl, hl, ← hfl, h2]
      · simpa using h3
  rw [hpl] at hP
  have HP := Lib.hid hP
  have HR := Lib.hid (fun w' (hB : Below W.heap.size W w') => And.intro ((hp_cell (i := 0) (hS.below hB).r).trans rfl) ((hp_cell (i := 1) (hS.below hB).r).trans rfl))
  have HGc := Lib.hid hcell
  have HKc := Lib.hid (fun w' (hB : Below W.heap.size W w') (s : Seg) (hm : s ∈ G) (t : Nat) (ht : t < s.ks.length) => ((hS.below hB).keys.kk.at_ s hm).cell (List.getElem?_eq_getElem ht))
  have HLe := Lib.hid (fun (s : Seg) (hm : s ∈ G) => And.intro (hS.keys.kk.at_ s hm).le (hS.keys.kk.ne s hm).2)
  have HLk := Lib.hid (fun w' (hB : Below W.heap.size W w') (i : Nat) (hi : i < L.length) => show (Instr.lookup 73 (.map (some bm)) (.string L[i].1) false).run Try.prog w' = .ok (.agg #[.string L[i].2]) w' by
    have := (hS.below hB).m.plain L[i].1 (hks _ (List.getElem_mem _))
    rw [sget_at L hS.so i hi] at this
    exact this)
  have HFl := Lib.hid (fun I t (hI : I < G.length) (ht : t < (G[I]).ks.length) => show (skeys L)[(flat (G.take I)).length + t]? = some (G[I]).ks[t] by rw [← hfl]; exact flat_at hI ht)
  have HFa := Lib.hid (show (flat (G.take G.length)).length = L.length by rw [List.take_length, hfl, hlen])
  have HSt := Lib.hid (And.intro hI0 (And.intro hlj (And.intro hJ0 hJN)))
  have HS := Lib.hid hund
  have HNl := Lib.hid (And.intro hN (And.intro hle hGl))
  have HNe := Lib.hid hne
  have hGN : (G.length : Int) ≤ 1000000 := by omega
  clear hS hks hcell hs hne hP hl hle hund hpl hI0 hlj hJ0 hJN hL hN hGl hfl hlen hG0 hba
  go_enter Try.func24, Try.ntmps24
  go_wp2_with (first | (go_at_call 18; refine HM.out.mono ?_; rintro e w1 ⟨rfl, rfl⟩) | (go_at_call 49; refine HP.out.mono ?_; rintro e w2 ⟨rfl, hb2⟩; have B2 := Lib.hid hb2; clear hb2))
  go_loopw [5, 6, 7] (UnOut G L l x W) (fun _ i _ _ => G.length - (intOf i).toNat)
  case atStart => exact ⟨I0, J0, 0, HSt.out.1, rfl, rfl, HSt.out.2.1, HSt.out.2.2.1, HSt.out.2.2.2, Nat.zero_le _, by simpa [pcs] using World.ownsRow_nil _ _ _ _, fun j h h' => absurd h' (Nat.not_lt_zero _), B2.out⟩
  case round =>
    obtain ⟨I, J, d, hI, rfl, rfl, hpos, hJ, hJ2, hd, hown0, hpr0, hb0⟩ := hrel
    have r1 := (HR.out _ hb0).2
    by_cases hlt : I < G.length
    · have p1 : (I : Int) < (G.length : Int) := by omega
      have hm := List.getElem_mem hlt
      have a1 := HGc.out _ hb0 I hlt
      unfold Seg.val at a1
      obtain ⟨s, es⟩ : ∃ s, s = G[I] := ⟨_, rfl⟩
      have hJn := hJ hlt
      have hle := HLe.out _ hm
      rw [← es] at a1 hJn hle hm
      obtain ⟨n, en⟩ : ∃ n, n = s.ks.length := ⟨_, rfl⟩
      rw [← en] at a1 hJn hle
      have HX := Lib.hid (And.intro es (And.intro en (And.intro hpos (And.intro hd (And.intro hm hlt)))))
      have HO0 := Lib.hid (And.intro hown0 (And.intro hpr0 hb0))
      obtain ⟨c, ec⟩ : ∃ c, c = s.c := ⟨_, rfl⟩
      rw [← ec] at a1 hle
      have q1 : (J : Int) < (n : Int) := by omega
      have q2 : (J : Int) ≤ (n : Int) := by omega
      have q3 : (n : Int) ≤ (c : Int) := by omega
      have q4 : (J : Int) < (c : Int) := by omega
      have q5 : (n : Int) ≤ 128 := by omega
      have q6 : ¬ c = J := by omega
      have q7 : J ≤ n := by omega
      have q8 : n ≤ c := by omega
      clear hI hpos hJ hJ2 hd hown0 hpr0 hb0 hm es en ec hle
      go_wp2
      go_loopw [5, 38] (UnRel (L.drop l) d (n - J) x W) (fun _ i _ => n - (intOf i).toNat)
      case atStart => exact ⟨0, Nat.zero_le _, HX.out.2.2.2.1, rfl, HO0.out.1, HO0.out.2.1, HO0.out.2.2⟩
      case round =>
        obtain ⟨k, hkm, hk, rfl, hown, hpr, hbel⟩ := hrel
        have HPr := Lib.hid hpr
        have HO := Lib.hid hown
        have HBl := Lib.hid hbel
        by_cases hkl : k < n - J
        · have hIx := HFl.out I (J + k) HX.out.2.2.2.2.2 (by rw [← HX.out.1, ← HX.out.2.1]; omega)
          rw [show (flat (G.take I)).length + (J + k) = l + (d + k) by have := HX.out.2.2.1; omega] at hIx
          have hlk : l + (d + k) < L.length := by have := (List.getElem?_eq_some_iff.1 hIx).1; simpa [skeys] using this
          have r0 := (HR.out _ hbel).1
          have lk := HLk.out _ hbel _ hlk
          have hkD : d + k < (L.drop l).length := by rw [List.length_drop]; omega
          have hDk : ∀ h : d + k < (L.drop l).length, (L.drop l)[d + k]'h = L[l + (d + k)] := fun _ => List.getElem_drop
          have ck := HKc.out _ hbel s HX.out.2.2.2.2.1 (J + k) (by rw [← HX.out.2.1]; omega)
          have hkey : s.ks[J + k]'(by rw [← HX.out.2.1]; omega) = (L[l + (d + k)]).1 := by
            have e1 : (skeys L)[l + (d + k)]? = some (L[l + (d + k)]).1 := by simp [skeys, List.getElem?_eq_getElem hlk]
            rw [e1] at hIx
            have e2 := Option.some.inj hIx
            rw [e2]
            simp only [HX.out.1]
          rw [hkey, ← Nat.add_assoc] at ck
          obtain ⟨⟨ky, vl⟩, hkv⟩ : ∃ p, p = L[l + (d + k)] := ⟨_, rfl⟩
          rw [← hkv] at ck lk hDk
          have hx := Lib.hid (Try.strings_HasPrefix ky x)
          have HD := Lib.hid hDk
          have HKD := Lib.hid hkD
          have hdk63 : d + k < 1000000 := by have := HNl.out.1; omega
          have hk63 : (k : Int) < 128 := by omega
          have hkn : (k : Int) < (n : Int) - (J : Int) := by omega
          have hkn2 : (k : Int) < ((n - J : Nat) : Int) := by omega
          have hbs := hbel.size
          have hfd := fieldE vl
          have hpd : hpre x (ky, vl) = Lib.hasPrefix ky.data.toList x.data.toList := rfl
          clear hDk hkv hk hpr hbel hIx hlk hkD hkey
          cases hpx : hpre x (ky, vl) with
          | true =>
            rw [hpd] at hpx
            have HPX := Lib.hid hpx
            rw [hpx] at hx
            clear hpd
            go_wp2_with (first | (go_at_call 50; refine (hx.out _).mono ?_; rintro e w3 ⟨rfl, hw3⟩; have hw4 := hw3.symm; clear hw3; subst hw4) | (at_builtin; refine wpList_append_own _ rfl _ _ _ rfl W.heap.size 43 i0 _ 2 32 Try.underlying28 hi hz0 hz1 hz2 rfl (by omega) _ (d + k) (pcs ((L.drop l).take (d + k))) rfl (hown.alloc _) ⟨wr.heap.size, 0, none⟩ 1 1 [.string ky, .string vl] rfl rfl (World.news_of_block (cs := #[.string ky, .string vl]) (t := 43) (fr := (0, 0)) (heap_alloc_new wr _)) (by simp [Value.oneCell']) (by unfold maxLen; omega) (by omega) (by simp; omega) ?_; intro v2 w5 hown2 hgrow _; have HB2 := Lib.hid (((HBl.out.alloc HBl.out.size (.cells #[.string ky, .string vl] 43)).grown hgrow (by simp only [World.size_alloc]; omega) (fun q hq => ((HO.out).lt q hq).1) : Below W.heap.size W w5)); have HO2 := Lib.hid hown2; clear hown2 hgrow hown))
            refine ⟨⟨k + 1, by omega, HKD.out, by simp, ?_, fun j hj hjk => ?_, HB2.out⟩, by simp [intOf]; omega⟩
            · have e : (L.drop l).take (d + (k + 1)) = (L.drop l).take (d + k) ++ [(ky, vl)] := by rw [← Nat.add_assoc, List.take_succ_eq_append_getElem HKD.out, HD.out HKD.out]
              rw [e, pcs_snoc]
              exact HO2.out
            · rcases (by omega : j < d + k ∨ j = d + k) with h1 | rfl
              · exact HPr.out j hj h1
              · rw [HD.out HKD.out]; exact HPX.out
          | false =>
            rw [hpd] at hpx
            rw [hpx] at hx
            go_wp2_with (go_at_call 50; refine (hx.out _).mono ?_; rintro e w3 ⟨rfl, hw3⟩; have hw4 := hw3.symm; clear hw3; subst hw4)
            go_ret
            have e : under L x = (L.drop l).take (d + k) := by rw [HS.out]; exact takeWhile_here _ _ _ (Nat.le_of_lt HKD.out) HPr.out (fun h => by rw [HD.out HKD.out, hpd]; exact hpx)
            refine ⟨⟨_, rfl, ?_⟩, HBl.out⟩
            rw [e, List.length_take, Nat.min_eq_left (Nat.le_of_lt HKD.out)]
            exact HO.out
        · have hkn : ¬ (k : Int) < ((n - J : Nat) : Int) := by omega
          obtain rfl : k = n - J := by omega
          have HEn := Lib.hid hk
          clear hk hpr hbel hown hkl hkm
          go_wp2
          refine ⟨⟨I + 1, 0, d + (n - J), by omega, by go_num, rfl, ?_, fun h => HNe.out _ (List.getElem_mem h), fun _ => rfl, HEn.out, HO.out, HPr.out, HBl.out⟩, by simp [intOf]; omega⟩
          have e1 := flat_take_succ hlt
          have e2 := HX.out.2.2.1
          have e3 : n = (G[I]).ks.length := by rw [HX.out.2.1, HX.out.1]
          omega
    · obtain rfl : I = G.length := by omega
      obtain rfl := hJ2 rfl
      have p1 : ¬ (G.length : Int) < (G.length : Int) := by omega
      have HV := Lib.hid (And.intro hown0 (And.intro hpr0 hb0))
      have hdl : d = (L.drop l).length := by have := HFa.out; have := HNl.out.2.1; rw [List.length_drop]; omega
      have HDl := Lib.hid hdl
      clear hI hpos hJ hJ2 hd hown0 hpr0 hb0 hdl
      go_wp2
      go_ret
      refine ⟨⟨_, rfl, ?_⟩, HV.out.2.2⟩
      have e : under L x = (L.drop l).take d := by rw [HS.out]; exact takeWhile_here _ _ _ (Nat.le_of_eq HDl.out) HV.out.2.1 (fun h => absurd h (by have := HDl.out; omega))
      rw [e, List.length_take, Nat.min_eq_left (Nat.le_of_eq HDl.out)]
      exact HV.out.1
/-- Under on a live store -/
theorem under_live (b : Nat) (F : List Nat) (L : SL) (q : Nat) (qs : List Value) (W : World) (h : StP W b F L q qs) (x : ByteArray) (hks : ∀ p ∈ L, p.1.size ≤ maxLen) (hN : L.length < 1000000) :
    Calls Try.prog 24 #[.pointer (some ⟨b, 0, none⟩), .string x] W fun e w' => UnPost L x W e w' := by
  by_cases hL : L = []
  · subst hL; exact under_none b F q qs W h x
  · exact under_some b F L q qs W h x hL hks hN
end Go.Proofs.Ytbfmhafmncnhfaa

namespace Go.Proofs.Ytbfmhafmncnhfaa
open Go.RowKit Go.Maps Go.Sort

theorem pcs_at : ∀ (l : SL) (j : Nat) (h : j < l.length), (pcs l)[j * 2]? = some (.string l[j].1) ∧ (pcs l)[j * 2 + 1]? = some (.string l[j].2)
  | [], j, h => absurd h (Nat.not_lt_zero _)
  | p :: r, 0, _ => ⟨rfl, rfl⟩
  | p :: r, j + 1, h => by
    have ih := pcs_at r j (by simpa using h)
    have e : pcs (p :: r) = .string p.1 :: .string p.2 :: pcs r := rfl
    rw [e]
    refine ⟨?_, ?_⟩
    · rw [show (j + 1) * 2 = j * 2 + 1 + 1 by omega, List.getElem?_cons_succ, List.getElem?_cons_succ]
      simpa using ih.1
    · rw [show (j + 1) * 2 + 1 = j * 2 + 1 + 1 + 1 by omega, List.getElem?_cons_succ, List.getElem?_cons_succ]
      simpa using ih.2
/-- a row of pairs that was made: how it is read -/
theorem row_pairs {w : World} {B : Nat} {v : Value} {l : SL} (h : w.ownsRow B 43 2 v l.length (pcs l)) :
    ∃ A c, v = .slice A l.length c ∧ (0 < l.length → ∃ g, A = some ⟨g, 0, none⟩ ∧ B ≤ g ∧ g < w.heap.size ∧ ∀ j (h : j < l.length), w.cell? ⟨g, j * 2, none⟩ = some (.string l[j].1) ∧ w.cell? ⟨g, j * 2 + 1, none⟩ = some (.string l[j].2)) := by
  rcases h.2 with ⟨rfl, h0⟩ | ⟨g, cap, cur, rfl, hb, hg, r⟩
  · exact ⟨none, 0, by rw [h0], fun hp => by omega⟩
  · exact ⟨_, cap, rfl, fun _ => ⟨g, rfl, hb, hp_lt hg, fun j hj => ⟨ownsRow_cell h rfl (pcs_at l j hj).1, ownsRow_cell h rfl (pcs_at l j hj).2⟩⟩⟩
end Go.Proofs.Ytbfmhafmncnhfaa
