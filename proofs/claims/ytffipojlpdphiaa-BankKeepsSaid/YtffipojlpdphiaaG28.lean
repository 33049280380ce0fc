/- cell: SetRow of any row; Add of too much. -/
import Derived.Test.YtffipojlpdphiaaG27
import Derived.Test.YtffipojlpdphiaaG10
import Derived.Test.YtffipojlpdphiaaG09
import Derived.Test.YtffipojlpdphiaaG24
namespace Go.Proofs.Ytffipojlpdphiaa
open Go.RowKit Go.Maps Go.Sort

set_option maxRecDepth 100000 in
set_option maxHeartbeats 2000000 in
theorem csetRow_nil {w W : World} {b : Nat} {F : List Nat} {L : SL} {q : Nat} {qs : List Value} (h : SNew w W b F L q qs) (k : ByteArray) (A : Option Addr) (n c : Nat) (f : Nat → Int) (hl : Il W A n f) (hn0 : n = 0) (hf : ∀ i, i < n → 0 ≤ f i)
    (hk : k.size ≤ maxLen) (hk0 : k ≠ ⟨#[]⟩) (hN : L.length < 1000000) (hq : q < 1000000) :
    Calls Try.prog 73 #[.pointer (some ⟨b, 0, none⟩), .string k, .slice A n c] W fun e W' => e = .returned (.tuple #[]) ∧ LiveTo w W W' b F (sdel L k) (q + 1) := by
  have hn : n ≤ 100 := by omega
  have hnI : (n : Int) ≤ 100 := by omega
  have hrn : rowV f n = ⟨#[]⟩ := by rw [hn0]; rfl
  have hb1 := (Below.refl W.heap.size W).alloc (Nat.le_refl _) (.cells #[.pointer none, .slice none 0 0] 198)
  have hB1 : Bld W.heap.size W.heap.size [] (W.alloc (.cells #[.pointer none, .slice none 0 0] 198)) := .inl ⟨Nat.le_refl _, .slice none 0 0, heap_alloc_new _ _, ⟨rfl, .inl ⟨rfl, rfl⟩⟩, by simp [Value.ownBlock]⟩
  have HB1 := Lib.hid hb1
  have HBl := Lib.hid hB1
  have HF := Lib.hid hf
  have HS := Lib.hid (fun (W1 : World) (hb : Below W.heap.size W W1) => (show Calls Try.prog 131 #[.pointer (some ⟨b, 0, none⟩), .string k, .string (rowV f n)] W1 fun e W' => e = .returned (.tuple #[]) ∧ LiveTo w W1 W' b F (sdel L k) (q + 1) from by rw [hrn]; exact cput_del (h.below hb) k hk (by omega) hq).mono fun e W' hp => (⟨hp.1, hp.2.pre hb⟩ : e = .returned (.tuple #[]) ∧ LiveTo w W W' b F (sdel L k) (q + 1)))
  obtain ⟨rv, hrv⟩ : ∃ x, x = rowV f n := ⟨_, rfl⟩
  rw [← hrv] at HS hrn
  have HRV := Lib.hid hrv
  clear hb1 hB1 hf h hk hk0 hN hq hrv hrn hn0
  go_enter Try.func73, Try.ntmps73
  go_wp2
  go_loopw [11] (fun i wr => ∃ j : Nat, j ≤ n ∧ i = .int .i64 (j : Nat) ∧ Bld W.heap.size W.heap.size (Lib.byteCells (u8l (tl f 0 j))) wr ∧ Below W.heap.size W wr) (fun i _ => n - (intOf i).toNat)
  case atStart => exact ⟨0, by omega, rfl, HBl.out, HB1.out⟩
  case round =>
    obtain ⟨j, hj, rfl, hbl, hbe⟩ := hrel
    have HBd := Lib.hid hbl
    have HBe := Lib.hid hbe
    clear hbl hbe
    have kI : (j : Int) ≤ n := by omega
    by_cases hlt : j < n
    · have p1 : (j : Int) < (n : Int) := by omega
      obtain ⟨g, o, rfl, hg, hc⟩ := hl.at_ (by omega)
      have hm := hl.most j
      have h0 := HF.out j hlt
      have hck : wr.cell? ⟨g, o + j, none⟩ = some (.int .i64 (f j)) := by rw [HBe.out.cell (p := ⟨g, o + j, none⟩) hg]; exact hc j hlt
      have hnc := numStr_cells h0
      obtain ⟨x, hx⟩ : ∃ x, x = f j := ⟨_, rfl⟩
      rw [← hx] at hm h0 hck hnc
      have HX := Lib.hid hx
      have HNum := Lib.hid (fun w => knum_walk x w hm)
      have n1 : ¬ x < 0 := by omega
      have HM := Lib.hid hm
      have HNC := Lib.hid hnc
      clear hc hl hx hm hnc
      go_wp2_with (first
        | (go_at_call 139; refine (bld_write W.heap.size W.heap.size _ (numStr x) w2 (HB2b.out) (by rw [Lib.byteCells_length, u8l_len, tl_len, numStr_sizeA]; omega) HB2.out.size).mono ?_; rintro e w3 ⟨rfl, hb3, hbe3⟩; have HB3b := Lib.hid hb3; have HB3 := Lib.hid (HB2.out.trans hbe3); clear hb3 hbe3)
        | (go_at_call 132; refine (HNum.out _).mono ?_; rintro e w2 ⟨rfl, hb2⟩; have HB2 := Lib.hid (HBe.out.trans (hb2.mono HBe.out.size)); have HB2b := Lib.hid (bld_below HBd.out hb2); clear hb2))
      refine ⟨⟨j + 1, by omega, by simp, ?_, HB3.out⟩, by simp [intOf]; omega⟩
      have := HB3b.out
      rw [HNC.out, byteCells_app, ← u8l_append, HX.out] at this
      rw [tl_snoc, Nat.zero_add]
      exact this
    · obtain rfl : j = n := by omega
      have p1 : ¬ (j : Int) < (j : Int) := by omega
      have HStr := Lib.hid (Try.Builder_String_any W.heap.size W.heap.size (u8l (tl f 0 j)) wr HBd.out HBe.out.size)
      have HRV2 := HRV.out
      unfold rowV at HRV2
      rw [← HRV2] at HStr
      clear HRV2
      go_wp2_with (first
        | (go_at_call 131; refine (HS.out w5 HB5.out).mono ?_; rintro e w6 ⟨rfl, h6⟩; have H6 := Lib.hid h6; clear h6)
        | (go_at_call 140; refine HStr.out.mono ?_; rintro e w5 ⟨rfl, hb5⟩; have HB5 := Lib.hid (HBe.out.trans hb5); clear hb5))
      go_end0
      exact ⟨rfl, H6.out⟩
set_option maxRecDepth 100000 in
set_option maxHeartbeats 2000000 in
theorem csetRow_neg {w W : World} {b : Nat} {F : List Nat} {L : SL} {q : Nat} {qs : List Value} (h : SNew w W b F L q qs) (k : ByteArray) (A : Option Addr) (n c : Nat) (f : Nat → Int) (hl : Il W A n f) (hn : n ≤ 100) (p : Nat) (hpn : p < n) (hf : ∀ i, i < p → 0 ≤ f i) (hfp : f p < 0)
    (hk : k.size ≤ maxLen) (hk0 : k ≠ ⟨#[]⟩) (hN : L.length < 1000000) (hq : q < 1000000) :
    Calls Try.prog 73 #[.pointer (some ⟨b, 0, none⟩), .string k, .slice A n c] W fun e W' => e = .returned (.tuple #[]) ∧ LiveTo w W W' b F L (q + 1) := by
  have hnI : (n : Int) ≤ 100 := by omega
  have hb1 := (Below.refl W.heap.size W).alloc (Nat.le_refl _) (.cells #[.pointer none, .slice none 0 0] 198)
  have hB1 : Bld W.heap.size W.heap.size [] (W.alloc (.cells #[.pointer none, .slice none 0 0] 198)) := .inl ⟨Nat.le_refl _, .slice none 0 0, heap_alloc_new _ _, ⟨rfl, .inl ⟨rfl, rfl⟩⟩, by simp [Value.ownBlock]⟩
  have HB1 := Lib.hid hb1
  have HBl := Lib.hid hB1
  have HF := Lib.hid hf
  have HS := Lib.hid (fun (W1 : World) (hb : Below W.heap.size W W1) => (show LiveTo w W W1 b F L (q + 1) from by obtain ⟨F', q', qs', h1, h2, h3⟩ := h.same hb; exact ⟨F', q', qs', h1, by omega, h3⟩))
  have HFp := Lib.hid hfp
  clear hb1 hB1 hf hfp h hk hk0 hN hq
  go_enter Try.func73, Try.ntmps73
  go_wp2
  go_loopw [11] (fun i wr => ∃ j : Nat, j ≤ p ∧ i = .int .i64 (j : Nat) ∧ Bld W.heap.size W.heap.size (Lib.byteCells (u8l (tl f 0 j))) wr ∧ Below W.heap.size W wr) (fun i _ => n - (intOf i).toNat)
  case atStart => exact ⟨0, by omega, rfl, HBl.out, HB1.out⟩
  case round =>
    obtain ⟨j, hj, rfl, hbl, hbe⟩ := hrel
    have HBd := Lib.hid hbl
    have HBe := Lib.hid hbe
    clear hbl hbe
    have kI : (j : Int) ≤ n := by omega
    by_cases hlt : j < p
    · have p1 : (j : Int) < (n : Int) := by omega
      obtain ⟨g, o, rfl, hg, hc⟩ := hl.at_ (by omega)
      have hm := hl.most j
      have h0 := HF.out j hlt
      have hck : wr.cell? ⟨g, o + j, none⟩ = some (.int .i64 (f j)) := by rw [HBe.out.cell (p := ⟨g, o + j, none⟩) hg]; exact hc j (by omega)
      have hnc := numStr_cells h0
      obtain ⟨x, hx⟩ : ∃ x, x = f j := ⟨_, rfl⟩
      rw [← hx] at hm h0 hck hnc
      have HX := Lib.hid hx
      have HNum := Lib.hid (fun w => knum_walk x w hm)
      have n1 : ¬ x < 0 := by omega
      have HM := Lib.hid hm
      have HNC := Lib.hid hnc
      clear hc hl hx hm hnc
      go_wp2_with (first
        | (go_at_call 139; refine (bld_write W.heap.size W.heap.size _ (numStr x) w2 (HB2b.out) (by rw [Lib.byteCells_length, u8l_len, tl_len, numStr_sizeA]; omega) HB2.out.size).mono ?_; rintro e w3 ⟨rfl, hb3, hbe3⟩; have HB3b := Lib.hid hb3; have HB3 := Lib.hid (HB2.out.trans hbe3); clear hb3 hbe3)
        | (go_at_call 132; refine (HNum.out _).mono ?_; rintro e w2 ⟨rfl, hb2⟩; have HB2 := Lib.hid (HBe.out.trans (hb2.mono HBe.out.size)); have HB2b := Lib.hid (bld_below HBd.out hb2); clear hb2))
      refine ⟨⟨j + 1, by omega, by simp, ?_, HB3.out⟩, by simp [intOf]; omega⟩
      have := HB3b.out
      rw [HNC.out, byteCells_app, ← u8l_append, HX.out] at this
      rw [tl_snoc, Nat.zero_add]
      exact this
    · obtain rfl : j = p := by omega
      have p1 : (j : Int) < (n : Int) := by omega
      obtain ⟨g, o, rfl, hg, hc⟩ := hl.at_ (by omega)
      have hck : wr.cell? ⟨g, o + j, none⟩ = some (.int .i64 (f j)) := by rw [HBe.out.cell (p := ⟨g, o + j, none⟩) hg]; exact hc j (by omega)
      have hx := HFp.out
      obtain ⟨x, ex⟩ : ∃ x, x = f j := ⟨_, rfl⟩
      rw [← ex] at hck hx
      clear hc hl ex
      go_wp2
      refine bodyPost_ret (v := .tuple #[]) (by simp [results, Try.results73, go_sem]) rfl ⟨rfl, HS.out _ HBe.out⟩
set_option maxRecDepth 100000 in
set_option maxHeartbeats 2000000 in
theorem morec_noA (was a g : Nat) (hw : was < 2 ^ 256) (ha : a < 2 ^ 256) (hlt : ¬ was + a < 2 ^ 256) (w : World) (hg : w.heap[g]? = some (.cells #[.int .u64 (limb a 0 : Nat), .int .u64 (limb a 1 : Nat), .int .u64 (limb a 2 : Nat), .int .u64 (limb a 3 : Nat)] 52 (0, 0))) :
    Calls Try.prog 179 #[U was, .pointer (some ⟨g, 0, none⟩)] w fun e w' => e = .returned (.tuple #[U 0, .int .i64 6]) ∧ Below w.heap.size w w' := by
  have hb0 := ((Below.refl w.heap.size w).alloc (Nat.le_refl _) (.cells #[.int .u64 (limb was 0 : Nat), .int .u64 (limb was 1 : Nat), .int .u64 (limb was 2 : Nat), .int .u64 (limb was 3 : Nat)] 52)).alloc (by simp) (.cells #[.int .u64 0, .int .u64 0, .int .u64 0, .int .u64 0] 52)
  have r0 := heap_alloc_new (w.alloc (.cells #[.int .u64 (limb was 0 : Nat), .int .u64 (limb was 1 : Nat), .int .u64 (limb was 2 : Nat), .int .u64 (limb was 3 : Nat)] 52)) (.cells #[.int .u64 0, .int .u64 0, .int .u64 0, .int .u64 0] 52)
  rw [World.size_alloc] at r0
  have hA : ∀ W, Calls Try.prog 94 #[U was, U a] W fun e w' => e = .returned (.tuple #[.agg #[.int .u64 0, .int .u64 0, .int .u64 0, .int .u64 0], .bool false]) ∧ Below W.heap.size W w' := fun W => (add_walk was a W hw ha).mono fun e w' hh => by
    obtain ⟨he, hb⟩ := hh
    rw [if_neg hlt, decide_eq_false hlt, U_zero] at he
    exact ⟨he, hb⟩
  rw [U_zero]
  unfold U at hA
  have HA := Lib.hid hA
  have H0 := Lib.hid (And.intro hb0 r0)
  have rg := (hb0.block g (hp_lt hg)).trans hg
  have lg := hp_lt hg
  have c0 := (hp_cell (i := 0) rg).trans rfl
  have c1 := (hp_cell (i := 1) rg).trans rfl
  have c2 := (hp_cell (i := 2) rg).trans rfl
  have c3 := (hp_cell (i := 3) rg).trans rfl
  clear hb0 r0 hA rg hlt hw ha hg
  unfold U
  go_enter Try.func179, Try.ntmps179
  go_wp2_with (first
    | (go_at_call 94; refine (HA.out _).mono ?_; rintro e w2 ⟨rfl, hb2⟩; have hbx := (Below.refl w2.heap.size w2).alloc (Nat.le_refl _) (.cells #[.int .u64 0, .int .u64 0, .int .u64 0, .int .u64 0] 52); have hby := hb2.trans (hbx.mono hb2.size); have rx := (hby.block (w.heap.size + 1) (by simp)).trans H0.out.2; have RX := Lib.hid rx; have H2 := Lib.hid (H0.out.1.trans (hby.mono H0.out.1.size)); have d0 := (hp_cell (i := 0) rx).trans rfl; have d1 := (hp_cell (i := 1) rx).trans rfl; have d2 := (hp_cell (i := 2) rx).trans rfl; have d3 := (hp_cell (i := 3) rx).trans rfl; have g0 := hp_free (i := 0) rx; have g1 := hp_free (i := 1) rx; have g2 := hp_free (i := 2) rx; have g3 := hp_free (i := 3) rx; clear hb2 hbx hby rx))
  have rr := heap_setCell_row (o := 3) (heap_setCell_row (o := 2) (heap_setCell_row (o := 1) (heap_setCell_row (o := 0) RX.out (.int .u64 0)) (.int .u64 0)) (.int .u64 0)) (.int .u64 0)
  have e0 := (hp_cell (i := 0) rr).trans rfl
  have e1 := (hp_cell (i := 1) rr).trans rfl
  have e2 := (hp_cell (i := 2) rr).trans rfl
  have e3 := (hp_cell (i := 3) rr).trans rfl
  refine bodyPost_ret (v := .tuple #[.agg #[.int .u64 0, .int .u64 0, .int .u64 0, .int .u64 0], .int .i64 6]) (by simp [results, Try.results179, go_sem, e0, e1, e2, e3]) rfl ⟨rfl, below_set4 H2.out (by omega)⟩
set_option maxRecDepth 100000 in
set_option maxHeartbeats 2000000 in
theorem morec_noB (was a g : Nat) (hw : was < 2 ^ 256) (ha : a < 2 ^ 256) (hlt : was + a < 2 ^ 256) (hmo : MOST < was + a) (r : Nat) (hr : was + a = r) (w : World) (hg : w.heap[g]? = some (.cells #[.int .u64 (limb a 0 : Nat), .int .u64 (limb a 1 : Nat), .int .u64 (limb a 2 : Nat), .int .u64 (limb a 3 : Nat)] 52 (0, 0))) :
    Calls Try.prog 179 #[U was, .pointer (some ⟨g, 0, none⟩)] w fun e w' => e = .returned (.tuple #[U 0, .int .i64 6]) ∧ Below w.heap.size w w' := by
  have hb0 := ((Below.refl w.heap.size w).alloc (Nat.le_refl _) (.cells #[.int .u64 (limb was 0 : Nat), .int .u64 (limb was 1 : Nat), .int .u64 (limb was 2 : Nat), .int .u64 (limb was 3 : Nat)] 52)).alloc (by simp) (.cells #[.int .u64 0, .int .u64 0, .int .u64 0, .int .u64 0] 52)
  have r0 := heap_alloc_new (w.alloc (.cells #[.int .u64 (limb was 0 : Nat), .int .u64 (limb was 1 : Nat), .int .u64 (limb was 2 : Nat), .int .u64 (limb was 3 : Nat)] 52)) (.cells #[.int .u64 0, .int .u64 0, .int .u64 0, .int .u64 0] 52)
  rw [World.size_alloc] at r0
  have hA : ∀ W, Calls Try.prog 94 #[U was, U a] W fun e w' => e = .returned (.tuple #[U r, .bool true]) ∧ Below W.heap.size W w' := fun W => (add_walk was a W hw ha).mono fun e w' hh => by
    obtain ⟨he, hb⟩ := hh
    rw [if_pos hlt, decide_eq_true hlt, hr] at he
    exact ⟨he, hb⟩
  have hM : ∀ W, Calls Try.prog 82 #[U r] W fun e w' => e = .returned (.bool false) ∧ Below W.heap.size W w' := fun W => (amount_walk r W (by rw [← hr]; exact hlt)).mono fun e w' hh => by
    obtain ⟨he, hb⟩ := hh
    rw [decide_eq_false (by rw [← hr]; omega)] at he
    exact ⟨he, hb⟩
  rw [U_zero]
  unfold U at hA hM
  have HM := Lib.hid hM
  clear hM
  have HA := Lib.hid hA
  have H0 := Lib.hid (And.intro hb0 r0)
  have rg := (hb0.block g (hp_lt hg)).trans hg
  have lg := hp_lt hg
  have c0 := (hp_cell (i := 0) rg).trans rfl
  have c1 := (hp_cell (i := 1) rg).trans rfl
  have c2 := (hp_cell (i := 2) rg).trans rfl
  have c3 := (hp_cell (i := 3) rg).trans rfl
  clear hb0 r0 hA rg hlt hw ha hg hmo hr
  unfold U
  go_enter Try.func179, Try.ntmps179
  go_wp2_with (first
    | (go_at_call 82; refine (HM.out _).mono ?_; rintro e w3 ⟨rfl, hb3⟩; have hbx := (Below.refl w2.heap.size w2).alloc (Nat.le_refl _) (.cells #[.int .u64 (limb r 0 : Nat), .int .u64 (limb r 1 : Nat), .int .u64 (limb r 2 : Nat), .int .u64 (limb r 3 : Nat)] 52); have ry := (hb3.block w2.heap.size (by simp)).trans (heap_alloc_new w2 (.cells #[.int .u64 (limb r 0 : Nat), .int .u64 (limb r 1 : Nat), .int .u64 (limb r 2 : Nat), .int .u64 (limb r 3 : Nat)] 52)); have rx := (hb3.block _ (hp_lt RX.out)).trans RX.out; have RX3 := Lib.hid rx; have H3 := Lib.hid (H2.out.trans (hb3.mono H2.out.size)); have LY := hp_lt ry; have LZ := Lib.hid (hp_lt H0.out.2); have d0 := (hp_cell (i := 0) rx).trans rfl; have d1 := (hp_cell (i := 1) rx).trans rfl; have d2 := (hp_cell (i := 2) rx).trans rfl; have d3 := (hp_cell (i := 3) rx).trans rfl; have g0 := hp_free (i := 0) rx; have g1 := hp_free (i := 1) rx; have g2 := hp_free (i := 2) rx; have g3 := hp_free (i := 3) rx; have y0 := (hp_cell (i := 0) ry).trans rfl; have y1 := (hp_cell (i := 1) ry).trans rfl; have y2 := (hp_cell (i := 2) ry).trans rfl; have y3 := (hp_cell (i := 3) ry).trans rfl; clear hb3 hbx rx ry)
    | (go_at_call 94; refine (HA.out _).mono ?_; rintro e w2 ⟨rfl, hb2⟩; have hbx := (Below.refl w2.heap.size w2).alloc (Nat.le_refl _) (.cells #[.int .u64 (limb r 0 : Nat), .int .u64 (limb r 1 : Nat), .int .u64 (limb r 2 : Nat), .int .u64 (limb r 3 : Nat)] 52); have hby := hb2.trans (hbx.mono hb2.size); have rx := (hby.block (w.heap.size + 1) (by simp)).trans H0.out.2; have RX := Lib.hid rx; have H2 := Lib.hid (H0.out.1.trans (hby.mono H0.out.1.size)); have d0 := (hp_cell (i := 0) rx).trans rfl; have d1 := (hp_cell (i := 1) rx).trans rfl; have d2 := (hp_cell (i := 2) rx).trans rfl; have d3 := (hp_cell (i := 3) rx).trans rfl; have g0 := hp_free (i := 0) rx; have g1 := hp_free (i := 1) rx; have g2 := hp_free (i := 2) rx; have g3 := hp_free (i := 3) rx; clear hb2 hbx hby rx))
  have rr := heap_setCell_row (o := 3) (heap_setCell_row (o := 2) (heap_setCell_row (o := 1) (heap_setCell_row (o := 0) RX3.out (.int .u64 0)) (.int .u64 0)) (.int .u64 0)) (.int .u64 0)
  have e0 := (hp_cell (i := 0) rr).trans rfl
  have e1 := (hp_cell (i := 1) rr).trans rfl
  have e2 := (hp_cell (i := 2) rr).trans rfl
  have e3 := (hp_cell (i := 3) rr).trans rfl
  refine bodyPost_ret (v := .tuple #[.agg #[.int .u64 0, .int .u64 0, .int .u64 0, .int .u64 0], .int .i64 6]) (by simp [results, Try.results179, go_sem, e0, e1, e2, e3]) rfl ⟨rfl, below_set4 H3.out (by omega)⟩
theorem morec_no (was a g : Nat) (hw : was < 2 ^ 256) (ha : a < 2 ^ 256) (hlt : MOST < was + a) (w : World) (hg : w.heap[g]? = some (.cells #[.int .u64 (limb a 0 : Nat), .int .u64 (limb a 1 : Nat), .int .u64 (limb a 2 : Nat), .int .u64 (limb a 3 : Nat)] 52 (0, 0))) :
    Calls Try.prog 179 #[U was, .pointer (some ⟨g, 0, none⟩)] w fun e w' => e = .returned (.tuple #[U 0, .int .i64 6]) ∧ Below w.heap.size w w' := by
  by_cases h : was + a < 2 ^ 256
  · exact morec_noB was a g hw ha h hlt _ rfl w hg
  · exact morec_noA was a g hw ha h w hg
set_option maxRecDepth 100000 in
set_option maxHeartbeats 2000000 in
/-- Add of too much: nothing changes -/
theorem cadd_no (P : Option Addr) (k : ByteArray) (was a : Nat) (hw : was < 2 ^ 256) (ha : a < 2 ^ 256) (hlt : MOST < was + a) (w : World) (HAm : ∀ W, Below w.heap.size w W → Calls Try.prog 144 #[.pointer P, .string k] W fun e w' => e = .returned (U was) ∧ Below W.heap.size W w') :
    Calls Try.prog 84 #[.pointer P, .string k, U a] w fun e w' => e = .returned (.int .i64 6) ∧ Below w.heap.size w w' := by
  have hC : ∀ (W : World) (g : Nat), Below w.heap.size w W → W.heap[g]? = some (.cells #[.int .u64 (limb a 0 : Nat), .int .u64 (limb a 1 : Nat), .int .u64 (limb a 2 : Nat), .int .u64 (limb a 3 : Nat)] 52 (0, 0)) → Calls Try.prog 147 #[.pointer P, .string k, .func (.func 179) #[] #[.pointer (some ⟨g, 0, none⟩)]] W fun e w' => e = .returned (.int .i64 6) ∧ Below W.heap.size W w' := by
    intro W g hbW hg
    have hA := HAm W hbW
    have hT := fun (W2 : World) (hb2 : Below W.heap.size W W2) => morec_no was a g hw ha hlt W2 ((hb2.block g (hp_lt hg)).trans hg)
    rw [U_zero] at hT
    unfold U at hA hT
    have HA := Lib.hid hA
    have HTs := Lib.hid hT
    clear HAm hbW hg ha hw hlt hA hT
    go_enter Try.func147, Try.ntmps147
    go_wp2_with (first
      | (go_at_call 179; refine (HTs.out _ H1.out).mono ?_; rintro e w2 ⟨rfl, hb2⟩; have H2 := Lib.hid (H1.out.trans (hb2.mono H1.out.size)); clear hb2)
      | (go_at_call 144; refine HA.out.mono ?_; rintro e w1 ⟨rfl, hb1⟩; have H1 := Lib.hid hb1; clear hb1))
    go_ret
    exact ⟨rfl, H2.out.alloc H2.out.size _⟩
  have hb0 := (Below.refl w.heap.size w).alloc (Nat.le_refl _) (.cells #[.int .u64 (limb a 0 : Nat), .int .u64 (limb a 1 : Nat), .int .u64 (limb a 2 : Nat), .int .u64 (limb a 3 : Nat)] 52)
  have hM := fun W1 => more_walk a W1
  unfold U at hM
  have HM := Lib.hid hM
  have HC := Lib.hid hC
  have HB0 := Lib.hid hb0
  clear HAm ha hw hlt hb0 hM hC
  unfold U
  go_enter Try.func84, Try.ntmps84
  go_wp2_with (first
    | (go_at_call 147; refine (HC.out _ _ H1.out.1 H1.out.2).mono ?_; rintro e w2 ⟨rfl, hb2⟩; have H2 := Lib.hid (H1.out.1.trans (hb2.mono H1.out.1.size)); clear hb2)
    | (go_at_call 148; refine (HM.out _).mono ?_; rintro e w1 ⟨rfl, hg1, hb1⟩; rw [World.size_alloc] at hg1; have H1 := Lib.hid (And.intro (HB0.out.trans (hb1.mono HB0.out.size)) hg1); clear hg1 hb1))
  go_ret
  exact ⟨rfl, H2.out⟩
end Go.Proofs.Ytffipojlpdphiaa

namespace Go.Proofs.Ytffipojlpdphiaa
open Go.RowKit Go.Maps Go.Sort

set_option maxRecDepth 100000 in
set_option maxHeartbeats 4000000 in
theorem cmove_less {w W : World} {b : Nat} {F : List Nat} {L : SL} {q : Nat} {qs : List Value} (h : SNew w W b F L q qs) (k1 k2 : ByteArray) (x a : Nat) (hk1 : k1.size ≤ maxLen) (he1 : amtAt L k1 x) (hx : x < 2 ^ 256) (ha : a < 2 ^ 256) (hlt : x < a) :
    Calls Try.prog 90 #[.pointer (some ⟨b, 0, none⟩), .string k1, .string k2, U a] W fun e W' => e = .returned (.int .i64 13) ∧ Below W.heap.size W W' := by
  have hb0 := (Below.refl W.heap.size W).alloc (Nat.le_refl _) (.cells #[.int .u64 (limb a 0 : Nat), .int .u64 (limb a 1 : Nat), .int .u64 (limb a 2 : Nat), .int .u64 (limb a 3 : Nat)] 52)
  have r0 := heap_alloc_new W (.cells #[.int .u64 (limb a 0 : Nat), .int .u64 (limb a 1 : Nat), .int .u64 (limb a 2 : Nat), .int .u64 (limb a 3 : Nat)] 52)
  have hL := fun W1 => less_walk a W1
  have hA := fun (W1 : World) (hb : Below W.heap.size W W1) => camount_at (h.below hb) k1 x hk1 he1 hx
  have hT := fun (W1 : World) (g : Nat) (hg : W1.heap[g]? = some (.cells #[.int .u64 (limb a 0 : Nat), .int .u64 (limb a 1 : Nat), .int .u64 (limb a 2 : Nat), .int .u64 (limb a 3 : Nat)] 52 (0, 0))) => lessc_no x a g hx ha hlt W1 hg
  rw [U_zero] at hT
  unfold U at hL hA hT
  have HL := Lib.hid hL
  have HA := Lib.hid hA
  have HT := Lib.hid hT
  have H0 := Lib.hid (And.intro hb0 r0)
  clear h hk1 he1 hx ha hlt hb0 r0 hL hA hT
  unfold U
  go_enter Try.func90, Try.ntmps90
  go_wp2_with (first
    | (go_at_call 181; refine (HT.out _ _ H2.out.2).mono ?_; rintro e w3 ⟨rfl, hb3⟩; have H3 := Lib.hid (And.intro (H2.out.1.trans (hb3.mono H2.out.1.size)) ((hb3.block _ (hp_lt H2.out.2)).trans H2.out.2)); clear hb3)
    | (go_at_call 144; refine (HA.out _ H1.out.1).mono ?_; rintro e w2 ⟨rfl, hb2⟩; have H2 := Lib.hid (And.intro (H1.out.1.trans (hb2.mono H1.out.1.size)) ((hb2.block _ (hp_lt H1.out.2)).trans H1.out.2)); clear hb2)
    | (go_at_call 152; refine (HL.out _).mono ?_; rintro e w1 ⟨rfl, hg1, hb1⟩; rw [World.size_alloc] at hg1; have H1 := Lib.hid (And.intro (H0.out.1.trans (hb1.mono H0.out.1.size)) hg1); clear hg1 hb1))
  go_ret
  exact ⟨rfl, H3.out.1.alloc H3.out.1.size _⟩
set_option maxRecDepth 100000 in
set_option maxHeartbeats 4000000 in
theorem cmove_same {w W : World} {b : Nat} {F : List Nat} {L : SL} {q : Nat} {qs : List Value} (h : SNew w W b F L q qs) (k1 k2 : ByteArray) (x a : Nat) (hk1 : k1.size ≤ maxLen) (he1 : amtAt L k1 x) (hx : x < 2 ^ 256) (ha : a < 2 ^ 256) (hle : a ≤ x) (hs : k1 = k2) :
    Calls Try.prog 90 #[.pointer (some ⟨b, 0, none⟩), .string k1, .string k2, U a] W fun e W' => e = .returned (.int .i64 0) ∧ Below W.heap.size W W' := by
  have hb0 := (Below.refl W.heap.size W).alloc (Nat.le_refl _) (.cells #[.int .u64 (limb a 0 : Nat), .int .u64 (limb a 1 : Nat), .int .u64 (limb a 2 : Nat), .int .u64 (limb a 3 : Nat)] 52)
  have r0 := heap_alloc_new W (.cells #[.int .u64 (limb a 0 : Nat), .int .u64 (limb a 1 : Nat), .int .u64 (limb a 2 : Nat), .int .u64 (limb a 3 : Nat)] 52)
  have hL := fun W1 => less_walk a W1
  have hA := fun (W1 : World) (hb : Below W.heap.size W W1) => camount_at (h.below hb) k1 x hk1 he1 hx
  have hT := fun (W1 : World) (g : Nat) (hg : W1.heap[g]? = some (.cells #[.int .u64 (limb a 0 : Nat), .int .u64 (limb a 1 : Nat), .int .u64 (limb a 2 : Nat), .int .u64 (limb a 3 : Nat)] 52 (0, 0))) => lessc_ok x a (x - a) g hx ha hle rfl W1 hg
  have q1 : (k1.toList == k2.toList) = true := by rw [hs]; exact beq_self_eq_true _
  unfold U at hL hA hT
  have HL := Lib.hid hL
  have HA := Lib.hid hA
  have HT := Lib.hid hT
  have H0 := Lib.hid (And.intro hb0 r0)
  clear h hk1 he1 hx ha hle hs hb0 r0 hL hA hT
  unfold U
  go_enter Try.func90, Try.ntmps90
  go_wp2_with (first
    | (go_at_call 181; refine (HT.out _ _ H2.out.2).mono ?_; rintro e w3 ⟨rfl, hb3⟩; have H3 := Lib.hid (And.intro (H2.out.1.trans (hb3.mono H2.out.1.size)) ((hb3.block _ (hp_lt H2.out.2)).trans H2.out.2)); clear hb3)
    | (go_at_call 144; refine (HA.out _ H1.out.1).mono ?_; rintro e w2 ⟨rfl, hb2⟩; have H2 := Lib.hid (And.intro (H1.out.1.trans (hb2.mono H1.out.1.size)) ((hb2.block _ (hp_lt H1.out.2)).trans H1.out.2)); clear hb2)
    | (go_at_call 152; refine (HL.out _).mono ?_; rintro e w1 ⟨rfl, hg1, hb1⟩; rw [World.size_alloc] at hg1; have H1 := Lib.hid (And.intro (H0.out.1.trans (hb1.mono H0.out.1.size)) hg1); clear hg1 hb1))
  go_ret
  exact ⟨rfl, H3.out.1.alloc H3.out.1.size _⟩
set_option maxRecDepth 100000 in
set_option maxHeartbeats 4000000 in
theorem cmove_over {w W : World} {b : Nat} {F : List Nat} {L : SL} {q : Nat} {qs : List Value} (h : SNew w W b F L q qs) (k1 k2 : ByteArray) (x a : Nat) (hk1 : k1.size ≤ maxLen) (he1 : amtAt L k1 x) (hx : x < 2 ^ 256) (ha : a < 2 ^ 256) (y : Nat) (hk2 : k2.size ≤ maxLen) (hne : k1 ≠ k2) (he2 : amtAt L k2 y) (hy : y < 2 ^ 256) (hle : a ≤ x) (hov : MOST < y + a) :
    Calls Try.prog 90 #[.pointer (some ⟨b, 0, none⟩), .string k1, .string k2, U a] W fun e W' => e = .returned (.int .i64 6) ∧ Below W.heap.size W W' := by
  have hb0 := (Below.refl W.heap.size W).alloc (Nat.le_refl _) (.cells #[.int .u64 (limb a 0 : Nat), .int .u64 (limb a 1 : Nat), .int .u64 (limb a 2 : Nat), .int .u64 (limb a 3 : Nat)] 52)
  have r0 := heap_alloc_new W (.cells #[.int .u64 (limb a 0 : Nat), .int .u64 (limb a 1 : Nat), .int .u64 (limb a 2 : Nat), .int .u64 (limb a 3 : Nat)] 52)
  have hL := fun W1 => less_walk a W1
  have hA := fun (W1 : World) (hb : Below W.heap.size W W1) => camount_at (h.below hb) k1 x hk1 he1 hx
  have hT := fun (W1 : World) (g : Nat) (hg : W1.heap[g]? = some (.cells #[.int .u64 (limb a 0 : Nat), .int .u64 (limb a 1 : Nat), .int .u64 (limb a 2 : Nat), .int .u64 (limb a 3 : Nat)] 52 (0, 0))) => lessc_ok x a (x - a) g hx ha hle rfl W1 hg
  have hAd := fun (W1 : World) (hb : Below W.heap.size W W1) => cadd_no (some ⟨b, 0, none⟩) k2 y a hy ha hov W1 (fun W2 hb2 => camount_at ((h.below hb).below hb2) k2 y hk2 he2 hy)
  have q1 := str_ne2 hne
  unfold U at hL hA hT hAd
  have HL := Lib.hid hL
  have HA := Lib.hid hA
  have HT := Lib.hid hT
  have H0 := Lib.hid (And.intro hb0 r0)
  have HAd := Lib.hid hAd
  clear h hk1 he1 hx ha hle hov hy he2 hne hk2 hAd hb0 r0 hL hA hT
  unfold U
  go_enter Try.func90, Try.ntmps90
  go_upto_region 2 with (first
    | (go_at_call 181; refine (HT.out _ _ H2.out.2).mono ?_; rintro e w3 ⟨rfl, hb3⟩; have H3 := Lib.hid (H2.out.1.trans (hb3.mono H2.out.1.size)); have B3 := Lib.hid (B2.out.trans (hb3.mono B2.out.size)); have HX := Lib.hid (fun (W4 : World) (hW4 : W4 = w3.alloc (.cells #[.int .u64 (limb (x - a) 0 : Nat), .int .u64 (limb (x - a) 1 : Nat), .int .u64 (limb (x - a) 2 : Nat), .int .u64 (limb (x - a) 3 : Nat)] 52)) => show Below (W.alloc (.cells #[.int .u64 (limb a 0 : Nat), .int .u64 (limb a 1 : Nat), .int .u64 (limb a 2 : Nat), .int .u64 (limb a 3 : Nat)] 52)).heap.size (W.alloc (.cells #[.int .u64 (limb a 0 : Nat), .int .u64 (limb a 1 : Nat), .int .u64 (limb a 2 : Nat), .int .u64 (limb a 3 : Nat)] 52)) W4 from by rw [hW4]; exact B3.out.alloc B3.out.size _); clear hb3)
    | (go_at_call 144; refine (HA.out _ H1.out.1).mono ?_; rintro e w2 ⟨rfl, hb2⟩; have H2 := Lib.hid (And.intro (H1.out.1.trans (hb2.mono H1.out.1.size)) ((hb2.block _ (hp_lt H1.out.2)).trans H1.out.2)); have B2 := Lib.hid (B1.out.trans (hb2.mono B1.out.size)); clear hb2)
    | (go_at_call 152; refine (HL.out _).mono ?_; rintro e w1 ⟨rfl, hg1, hb1⟩; rw [World.size_alloc] at hg1; have H1 := Lib.hid (And.intro (H0.out.1.trans (hb1.mono H0.out.1.size)) hg1); have B1 := Lib.hid hb1; clear hg1 hb1))
  have hbx := H3.out.alloc H3.out.size (.cells #[.int .u64 (limb (x - a) 0 : Nat), .int .u64 (limb (x - a) 1 : Nat), .int .u64 (limb (x - a) 2 : Nat), .int .u64 (limb (x - a) 3 : Nat)] 52)
  obtain ⟨W4, hW4⟩ : ∃ W4, W4 = w3.alloc (.cells #[.int .u64 (limb (x - a) 0 : Nat), .int .u64 (limb (x - a) 1 : Nat), .int .u64 (limb (x - a) 2 : Nat), .int .u64 (limb (x - a) 3 : Nat)] 52) := ⟨_, rfl⟩
  rw [← hW4] at hbx ⊢
  have r4 : W4.heap[W.heap.size]? = some (.cells #[.int .u64 (limb a 0 : Nat), .int .u64 (limb a 1 : Nat), .int .u64 (limb a 2 : Nat), .int .u64 (limb a 3 : Nat)] 52 (0, 0)) := by
    have h03 : Below (W.alloc (.cells #[.int .u64 (limb a 0 : Nat), .int .u64 (limb a 1 : Nat), .int .u64 (limb a 2 : Nat), .int .u64 (limb a 3 : Nat)] 52)).heap.size (W.alloc (.cells #[.int .u64 (limb a 0 : Nat), .int .u64 (limb a 1 : Nat), .int .u64 (limb a 2 : Nat), .int .u64 (limb a 3 : Nat)] 52)) W4 := HX.out W4 hW4
    exact (h03.block _ (hp_lt H0.out.2)).trans H0.out.2
  have H4 := Lib.hid (And.intro hbx r4)
  clear hbx hW4
  have c0 := (hp_cell (i := 0) r4).trans rfl
  have c1 := (hp_cell (i := 1) r4).trans rfl
  have c2 := (hp_cell (i := 2) r4).trans rfl
  have c3 := (hp_cell (i := 3) r4).trans rfl
  clear r4
  go_wp2_with (go_at_call 84; refine (HAd.out _ H4.out.1).mono ?_; rintro e w5 ⟨rfl, hb5⟩; have H5 := Lib.hid (H4.out.1.trans (hb5.mono H4.out.1.size)); clear hb5)
  go_ret
  exact ⟨rfl, H5.out⟩
end Go.Proofs.Ytffipojlpdphiaa

namespace Go.Proofs.Ytffipojlpdphiaa
open Go.RowKit Go.Maps Go.Sort

theorem mint_go {w W : World} {b : Nat} {F : List Nat} {L : SL} {q : Nat} {qs : List Value} (h : SNew w W b F L q qs) (t a : Int) (n S B : Nat) (K2 K1 : ByteArray) (hg : (1 ≤ t ∧ t ≤ 1000) ∧ 1 ≤ a ∧ a ≤ 4294967295) (hS : S + n ≤ MOST) (hB : B + n ≤ MOST) (hK2 : keyStr 2 (fun _ => t) 1 = K2) (hK1 : keyStr 1 (two2 t a) 2 = K1)
    (hk2 : K2.size ≤ maxLen) (hk1 : K1.size ≤ maxLen) (hk20 : K2 ≠ ⟨#[]⟩) (hk10 : K1 ≠ ⟨#[]⟩) (he2 : amtAt L K2 S) (he1 : amtAt (setA L K2 (S + n)) K1 B) (hN : L.length < 1000000) (hN1 : (setA L K2 (S + n)).length < 1000000) (hq : q + 2 < 1000000) :
    Calls Try.prog 24 #[.pointer (some ⟨b, 0, none⟩), .int .i64 t, .int .i64 a, U n] W fun e W' => e = .returned (.int .i64 0) ∧ LiveTo w W W' b F (setA (setA L K2 (S + n)) K1 (B + n)) (q + 2) := by
  have hm := MOST_lt
  have hF : W.heap.size ∉ F := fun hm => by have := h.s.lt _ hm; omega
  have r0 := heap_alloc_new W (.cells #[.int .u64 (limb n 0 : Nat), .int .u64 (limb n 1 : Nat), .int .u64 (limb n 2 : Nat), .int .u64 (limb n 3 : Nat)] 52)
  refine mint_walk (some ⟨b, 0, none⟩) t a n W K2 K1 hg (by omega) hK2 hK1 (fun X => Below W.heap.size W X ∧ X.heap[W.heap.size]? = some (.cells #[.int .u64 (limb n 0 : Nat), .int .u64 (limb n 1 : Nat), .int .u64 (limb n 2 : Nat), .int .u64 (limb n 3 : Nat)] 52 (0, 0))) (fun X => LiveTo w W X b F (setA L K2 (S + n)) (q + 1) ∧ X.heap[W.heap.size]? = some (.cells #[.int .u64 (limb n 0 : Nat), .int .u64 (limb n 1 : Nat), .int .u64 (limb n 2 : Nat), .int .u64 (limb n 3 : Nat)] 52 (0, 0))) (fun X => LiveTo w W X b F (setA (setA L K2 (S + n)) K1 (B + n)) (q + 2))
    ⟨(Below.refl _ _).alloc (Nat.le_refl _) _, r0⟩ (fun X X' hx hb => ⟨hx.1.trans (hb.mono hx.1.size), (hb.block _ (hp_lt hx.2)).trans hx.2⟩) (fun X X' hx hb => ⟨hx.1.post hb, (hb.block _ (hp_lt hx.2)).trans hx.2⟩) (fun X hx => hx.2) (fun X hx => hx.2) (fun X hx => ?_) (fun X hx => ?_) (fun X hx => ?_)
  · exact (mark_live b F L q qs X (h.below hx.1).s).mono fun e w' hh => ⟨⟨_, hh.1⟩, hh.2⟩
  · refine (cadd_live (h.below hx.1) K2 S n hk2 hk20 he2 (by omega) (by omega) hS hN (by omega)).mono fun e w' hh => ⟨hh.1, hh.2.pre hx.1, ?_⟩
    obtain ⟨_, _, _, _, _, ht, _⟩ := hh.2
    exact (ht.block _ (hp_lt hx.2) hF).trans hx.2
  · exact hx.1.seq 1 (fun F1 qa qsa hs hqa => cadd_live hs K1 B n hk1 hk10 he1 (by omega) (by omega) hB hN1 (by omega))
set_option maxRecDepth 100000 in
set_option maxHeartbeats 4000000 in
theorem mint_over {w W : World} {b : Nat} {F : List Nat} {L : SL} {q : Nat} {qs : List Value} (h : SNew w W b F L q qs) (t a : Int) (n S : Nat) (K2 : ByteArray) (hg : (1 ≤ t ∧ t ≤ 1000) ∧ 1 ≤ a ∧ a ≤ 4294967295) (hn : n ≤ MOST) (hS : MOST < S + n) (hS2 : S < 2 ^ 256) (hK2 : keyStr 2 (fun _ => t) 1 = K2)
    (hk2 : K2.size ≤ maxLen) (he2 : amtAt L K2 S) :
    Calls Try.prog 24 #[.pointer (some ⟨b, 0, none⟩), .int .i64 t, .int .i64 a, U n] W fun e W' => e = .returned (.int .i64 6) ∧ Below W.heap.size W W' := by
  have hn2 : n < 2 ^ 256 := Nat.lt_of_le_of_lt hn MOST_lt
  have hG := fun W => bgood_any t a W
  rw [decide_eq_true hg] at hG
  have hAm := fun W => amount_walk n W hn2
  rw [decide_eq_true hn] at hAm
  have hA1 := fun (X : World) (hb : Below W.heap.size W X) => cadd_no (some ⟨b, 0, none⟩) K2 S n hS2 hn2 hS X (fun W1 hb1 => camount_at (h.below (hb.trans (hb1.mono hb.size))) K2 S hk2 he2 hS2)
  unfold U at hAm hA1
  have HG := Lib.hid hG
  have HAm := Lib.hid hAm
  have HMk := Lib.hid (fun (X : World) (hb : Below W.heap.size W X) => (mark_live b F L q qs X (h.below hb).s).mono fun e w' hh => (⟨⟨_, hh.1⟩, hh.2⟩ : (∃ m : Int, e = .returned (.int .i64 m)) ∧ X = w'))
  have HAd1 := Lib.hid hA1
  have HS := Lib.hid (fun W => supply_is t K2 hK2 W (by omega))
  have hb0 := (Below.refl W.heap.size W).alloc (Nat.le_refl _) (.cells #[.int .u64 (limb n 0 : Nat), .int .u64 (limb n 1 : Nat), .int .u64 (limb n 2 : Nat), .int .u64 (limb n 3 : Nat)] 52)
  have e0 := heap_alloc_new W (.cells #[.int .u64 (limb n 0 : Nat), .int .u64 (limb n 1 : Nat), .int .u64 (limb n 2 : Nat), .int .u64 (limb n 3 : Nat)] 52)
  have H0 := Lib.hid (And.intro hb0 e0)
  have c0 := (hp_cell (i := 0) e0).trans rfl
  have c1 := (hp_cell (i := 1) e0).trans rfl
  have c2 := (hp_cell (i := 2) e0).trans rfl
  have c3 := (hp_cell (i := 3) e0).trans rfl
  clear h hg hn hS hS2 hK2 hk2 he2 hn2 hG hAm hA1 hb0 e0
  unfold U
  go_enter Try.func24, Try.ntmps24
  go_upto_region 4 with (first
    | (go_at_call 83; with_reducible refine (HMk.out _ H2.out.1).mono ?_; rintro e w3 ⟨⟨m, rfl⟩, rfl⟩)
    | (go_at_call 82; with_reducible refine (HAm.out _).mono ?_; rintro e w2 ⟨rfl, hb2⟩; have H2 := Lib.hid (And.intro (H0.out.1.trans (hb2.mono H0.out.1.size)) ((hb2.block _ (hp_lt H0.out.2)).trans H0.out.2)); clear hb2)
    | (go_at_call 81; with_reducible refine (HG.out _).mono ?_; rintro e w1 ⟨rfl, rfl⟩))
  have e2 := H2.out.2
  have f0 := fun (dq : Nat) (osq : Array Obj) => cell_regrown ((hp_cell (i := 0) e2).trans rfl) dq osq
  have f1 := fun (dq : Nat) (osq : Array Obj) => cell_regrown ((hp_cell (i := 1) e2).trans rfl) dq osq
  have f2 := fun (dq : Nat) (osq : Array Obj) => cell_regrown ((hp_cell (i := 2) e2).trans rfl) dq osq
  have f3 := fun (dq : Nat) (osq : Array Obj) => cell_regrown ((hp_cell (i := 3) e2).trans rfl) dq osq
  clear c0 c1 c2 c3 e2
  refine wp_region_quiet_tail 4 (by kernel_rfl) (by kernel_rfl) ?_
  simp only [List.take_succ_cons, List.take_zero]
  repeat (quiet_step (first | (go_at_call 29; with_reducible exact Calls.regrown_of (HS.out _))))
  refine wpQuiet_nil ?_
  intro _ hw'
  obtain ⟨⟨dq, osq⟩, hw''⟩ := hw'
  subst hw''
  have H4 := Lib.hid (H2.out.1.trans ((below_regrown _ dq osq).mono H2.out.1.size))
  clear f0 f1 f2 f3
  simp only [List.drop_succ_cons, List.drop_zero]
  go_wp2_with (first | (go_at_call 84; with_reducible refine (HAd1.out _ H4.out).mono ?_; rintro e w5 ⟨rfl, hb5⟩; have H5 := Lib.hid (H4.out.trans (hb5.mono H4.out.size)); clear hb5))
  go_ret
  exact ⟨rfl, H5.out⟩
set_option maxRecDepth 100000 in
set_option maxHeartbeats 4000000 in
/-- Pay, whatever Move tells -/
theorem pay_with (P : Option Addr) (W : World) (t a c : Int) (n : Nat) (r : Int) (K1 K2 : ByteArray) (R : World → Prop) (hg : (1 ≤ t ∧ t ≤ 1000) ∧ 1 ≤ a ∧ a ≤ 4294967295) (hg2 : (1 ≤ t ∧ t ≤ 1000) ∧ 1 ≤ c ∧ c ≤ 4294967295) (hK1 : keyStr 1 (two2 t a) 2 = K1) (hK2 : keyStr 1 (two2 t c) 2 = K2)
    (hMv : ∀ X : World, Below W.heap.size W X → Calls Try.prog 90 #[.pointer P, .string K1, .string K2, U n] X fun e W' => e = .returned (.int .i64 r) ∧ R W') :
    Calls Try.prog 26 #[.pointer P, .int .i64 t, .int .i64 a, .int .i64 c, U n] W fun e W' => e = .returned (.int .i64 r) ∧ R W' := by
  have hG1 := fun W => bgood_any t a W
  rw [decide_eq_true hg] at hG1
  have hG2 := fun W => bgood_any t c W
  rw [decide_eq_true hg2] at hG2
  unfold U at hMv
  have HG1 := Lib.hid hG1
  have HG2 := Lib.hid hG2
  have HMv := Lib.hid hMv
  have HA1 := Lib.hid (fun W => account_is t a K1 hK1 W (by omega) (by omega))
  have HA2 := Lib.hid (fun W => account_is t c K2 hK2 W (by omega) (by omega))
  have hb0 := (Below.refl W.heap.size W).alloc (Nat.le_refl _) (.cells #[.int .u64 (limb n 0 : Nat), .int .u64 (limb n 1 : Nat), .int .u64 (limb n 2 : Nat), .int .u64 (limb n 3 : Nat)] 52)
  have e0 := heap_alloc_new W (.cells #[.int .u64 (limb n 0 : Nat), .int .u64 (limb n 1 : Nat), .int .u64 (limb n 2 : Nat), .int .u64 (limb n 3 : Nat)] 52)
  obtain ⟨W1, hW1⟩ : ∃ X, X = W.alloc (.cells #[.int .u64 (limb n 0 : Nat), .int .u64 (limb n 1 : Nat), .int .u64 (limb n 2 : Nat), .int .u64 (limb n 3 : Nat)] 52) := ⟨_, rfl⟩
  rw [← hW1] at hb0 e0
  have HB0 := Lib.hid hb0
  have HW := Lib.hid hW1
  have f0 := fun (dq : Nat) (osq : Array Obj) => cell_regrown ((hp_cell (i := 0) e0).trans rfl) dq osq
  have f1 := fun (dq : Nat) (osq : Array Obj) => cell_regrown ((hp_cell (i := 1) e0).trans rfl) dq osq
  have f2 := fun (dq : Nat) (osq : Array Obj) => cell_regrown ((hp_cell (i := 2) e0).trans rfl) dq osq
  have f3 := fun (dq : Nat) (osq : Array Obj) => cell_regrown ((hp_cell (i := 3) e0).trans rfl) dq osq
  clear hG1 hG2 hMv hb0 hW1 hg hg2 hK1 hK2 e0
  unfold U
  go_enter Try.func26, Try.ntmps26
  go_upto_region 3 with (first
    | (go_at_call 81; with_reducible refine (HG1.out _).mono ?_; rintro e w1 ⟨rfl, rfl⟩)
    | (go_at_call 81; with_reducible refine (HG2.out _).mono ?_; rintro e w1 ⟨rfl, rfl⟩))
  rw [← HW.out]
  refine wp_region_quiet_tail 8 (by kernel_rfl) (by kernel_rfl) ?_
  simp only [List.take_succ_cons, List.take_zero]
  repeat (quiet_step (first
    | (go_at_call 85; with_reducible exact Calls.regrown_of (HA1.out _))
    | (go_at_call 85; with_reducible exact Calls.regrown_of (HA2.out _))))
  refine wpQuiet_nil ?_
  intro _ hw'
  obtain ⟨⟨dq, osq⟩, hw''⟩ := hw'
  subst hw''
  have H4 := Lib.hid (HB0.out.trans ((below_regrown W1 dq osq).mono HB0.out.size))
  clear f0 f1 f2 f3
  simp only [List.drop_succ_cons, List.drop_zero]
  go_wp2_with (first | (go_at_call 90; with_reducible refine (HMv.out _ H4.out).mono ?_; rintro e w5 ⟨rfl, h5⟩; have H5 := Lib.hid h5; clear h5))
  go_ret
  exact ⟨rfl, H5.out⟩
set_option maxRecDepth 100000 in
set_option maxHeartbeats 1000000 in
theorem pay_no (P : Value) (W : World) (t a c : Int) (n : Nat) (h : ¬ (((1 ≤ t ∧ t ≤ 1000) ∧ 1 ≤ a ∧ a ≤ 4294967295) ∧ (1 ≤ t ∧ t ≤ 1000) ∧ 1 ≤ c ∧ c ≤ 4294967295)) :
    Calls Try.prog 26 #[P, .int .i64 t, .int .i64 a, .int .i64 c, U n] W fun e W' => e = .returned (.int .i64 2) ∧ Below W.heap.size W W' := by
  have hG1 := fun W => bgood_any t a W
  have hG2 := fun W => bgood_any t c W
  have HB0 := Lib.hid ((Below.refl W.heap.size W).alloc (Nat.le_refl _) (.cells #[.int .u64 (limb n 0 : Nat), .int .u64 (limb n 1 : Nat), .int .u64 (limb n 2 : Nat), .int .u64 (limb n 3 : Nat)] 52))
  by_cases hg : (1 ≤ t ∧ t ≤ 1000) ∧ 1 ≤ a ∧ a ≤ 4294967295
  · rw [decide_eq_true hg] at hG1
    rw [decide_eq_false (fun hh => h ⟨hg, hh⟩)] at hG2
    have HG1 := Lib.hid hG1
    have HG2 := Lib.hid hG2
    clear hG1 hG2 h hg
    unfold U
    go_enter Try.func26, Try.ntmps26
    go_wp2_with (first
      | (go_at_call 81; have g5 := HX1; clear g5; with_reducible refine (HG2.out _).mono ?_; rintro e w1 ⟨rfl, rfl⟩)
      | (go_at_call 81; with_reducible refine (HG1.out _).mono ?_; rintro e w1 ⟨rfl, rfl⟩; have HX1 := Lib.hid trivial))
    go_ret
    exact ⟨rfl, HB0.out⟩
  · rw [decide_eq_false hg] at hG1
    have HG1 := Lib.hid hG1
    clear hG1 hG2 h hg
    unfold U
    go_enter Try.func26, Try.ntmps26
    go_wp2_with (go_at_call 81; with_reducible refine (HG1.out _).mono ?_; rintro e w1 ⟨rfl, rfl⟩)
    go_ret
    exact ⟨rfl, HB0.out⟩
end Go.Proofs.Ytffipojlpdphiaa
