/- The document's source: Amount, walked. -/
import Derived.Test.YtcodlbfomfjmfaaPX
import Derived.Test.YtcodlbfomfjmfaaF4
import Derived.Test.YtcodlbfomfjmfaaOctetOnce
namespace Go.Proofs.Ytcodlbfomfjmfaa
open Go.RowKit

theorem made_bys (r : Nat) : (madeCells #[Value.int .u8 0] r).toList = bys (fun _ => 0) r := by
  unfold madeCells bys
  simp only [Array.toList_map, Array.toList_range]
  refine List.map_congr_left fun i _ => ?_
  show (#[Value.int .u8 0] : Array Value)[i % 1]! = _
  rw [Nat.mod_one]; rfl
def RAmtPost (w : World) (q n : Nat) (f : Nat → Nat) (k : Nat) (en : Ending) (w' : World) : Prop :=
  ∃ a e k' : Nat, en = .returned (U a) ∧ AmtGot f n k a e k' ∧ DState w' q n f k' e ∧ But w.heap.size q w w'
theorem bnum_congr8 {f g : Nat → Nat} (h : ∀ j, j ≤ 31 → f j = g j) : ∀ k, bnum f k = bnum g k
  | 0 => rfl
  | k + 1 => by simp only [bnum]; rw [bnum_congr8 h k, h (31 - k) (by omega)]
theorem u_zero4 (w : World) (b : Nat) : Below b w ((((w.setCell ⟨b, 0, none⟩ (.int .u64 0)).setCell ⟨b, 1, none⟩ (.int .u64 0)).setCell ⟨b, 2, none⟩ (.int .u64 0)).setCell ⟨b, 3, none⟩ (.int .u64 0)) := below_set4 (Below.refl b w) (Nat.le_refl _)
set_option maxRecDepth 100000 in
set_option maxHeartbeats 2000000 in
theorem ramount_err {w : World} {q e : Nat} (h : DErr w q e) : Calls Try.prog 113 #[.pointer (some ⟨q, 0, none⟩)] w fun en w' => en = .returned (U 0) ∧ Below w.heap.size w w' := by
  have h0 := h.below (u0_below w)
  have HB := Lib.hid (rbyte_err h0)
  have c1 : (u0 w).cell? ⟨q, 1, none⟩ = some (.int .i64 (e : Nat)) := cell_in h0.heap
  have C1 := Lib.hid c1
  have p1 : ¬ ((e : Int) = 0) := by have := h.bad; omega
  have ha := u0_arr w
  have HU := Lib.hid (u0_below w)
  clear h h0 c1
  rw [U_zero]
  go_enter Try.func113, Try.ntmps113
  go_wp2_with fail
  show Calls Try.prog _ _ (u0 w) _
  refine HB.out.mono ?_
  rintro en w1 ⟨rfl, rfl⟩
  obtain ⟨z0, z1, z2, z3⟩ := ha.cells4
  obtain ⟨y0, y1, y2, y3⟩ := ha.frees4
  have c1 := C1.out
  go_wp2
  refine bodyPost_ret (v := .agg #[.int .u64 0, .int .u64 0, .int .u64 0, .int .u64 0]) (by simp [results, Try.results113, go_sem, z0, z1, z2, z3]) rfl ?_
  exact ⟨rfl, below_set4 HU.out (Nat.le_refl _)⟩
set_option maxRecDepth 100000 in
set_option maxHeartbeats 4000000 in
theorem ramount_live {w : World} {q m cc k n : Nat} {B : Option Addr} {f : Nat → Nat} (h : DSrc w q B m cc f k) (hn : k + m = n) : Calls Try.prog 113 #[.pointer (some ⟨q, 0, none⟩)] w (RAmtPost w q n f k) := by
  have HB := Lib.hid (rbyte_live (h.below (u0_below w)) hn)
  have HQ := Lib.hid h.lt
  have HQ2 := Lib.hid (show q < (u0 w).heap.size from Nat.lt_of_lt_of_le h.lt (u0_below w).size)
  have Hf := Lib.hid (fun i => (h.sl.small i : f (k + i) < 256))
  clear h
  go_enter Try.func113, Try.ntmps113
  go_wp2_with fail
  show Calls Try.prog _ _ (u0 w) _
  refine HB.out.mono ?_
  rintro en w1 ⟨x, e, k1, rfl, hg, hs, hb⟩
  have ha := (u0_arr w).but hb (by rw [u0_size]; omega) (by have := HQ.out; omega)
  have hb1 := (But.of_below (u0_below w)).cons (by rw [u0_size]; omega) hb
  have hz : w.heap.size < w1.heap.size := World.block_lt_of_cell? _ _ (ha.cell 0 (by omega))
  have HA := Lib.hid ha
  have HB1 := Lib.hid hb1
  rcases hg with ⟨hk, rfl, rfl⟩ | ⟨hk, hx, rfl, rfl⟩
  · have hs3 : DErr w1 q 3 := by
      rcases hs with ⟨h0, _⟩ | h
      · omega
      · exact h
    have c1 : w1.cell? ⟨q, 1, none⟩ = some (.int .i64 3) := cell_in hs3.heap
    obtain ⟨z0, z1, z2, z3⟩ := ha.cells4
    obtain ⟨y0, y1, y2, y3⟩ := ha.frees4
    have HS3 := Lib.hid hs3
    have Hk := Lib.hid hk
    clear hs hb ha hb1 hs3 hk
    go_wp2
    refine bodyPost_ret (v := .agg #[.int .u64 0, .int .u64 0, .int .u64 0, .int .u64 0]) (by simp [results, Try.results113, go_sem, z0, z1, z2, z3]) rfl ?_
    exact ⟨0, 3, 0, by rw [U_zero], .inl ⟨Hk.out, rfl, rfl⟩, .inr (HS3.out.far (u_zero4 _ _) HQ.out), HB1.out.trans (But.of_below (u_zero4 _ _))⟩
  · obtain ⟨B1, m1, cc1, hs1, hn1⟩ : ∃ B1 m1 cc1, DSrc w1 q B1 m1 cc1 f (k + 1) ∧ k + 1 + m1 = n := by
      rcases hs with ⟨_, B1, m1, cc1, h1, h2⟩ | h
      · exact ⟨B1, m1, cc1, h1, h2⟩
      · exact absurd rfl h.bad
    have c0 : w1.cell? ⟨q, 0, none⟩ = some (.slice B1 m1 cc1) := cell_in hs1.heap
    have c1 : w1.cell? ⟨q, 1, none⟩ = some (.int .i64 0) := cell_in hs1.heap
    have HS1 := Lib.hid hs1
    have Hn1 := Lib.hid hn1
    have Hx := Lib.hid hx
    have Hk := Lib.hid hk
    have hx2 : x < 256 := by rw [hx]; exact Hf.out 0
    clear hs hb ha hb1 hs1 hn1 hx hk
    by_cases hbad : AmtBad f n k
    · have HBad := Lib.hid hbad
      have HW := Lib.hid (wrong_walk HS1.out.heap 4 (by omega))
      have Hfin : ∀ w2, DErr w2 q 4 → But w1.heap.size q w1 w2 → Arr .u64 w2 w.heap.size 4 (fun _ => 0) ∧ w.heap.size < w2.heap.size := fun w2 _ hb2 => by
        have h := HA.out.but hb2 hz (by have := HQ.out; omega)
        exact ⟨h, World.block_lt_of_cell? _ _ (h.cell 0 (by omega))⟩
      have HFin := Lib.hid Hfin
      clear hbad Hfin
      by_cases h32 : 32 < x
      · have p1 : (32 : Int) < x := by omega
        go_wp2_with (go_at_call 118; refine HW.out.mono ?_; rintro en w2 ⟨rfl, hs2, hb2⟩; obtain ⟨ha2, hz2⟩ := HFin.out w2 hs2 hb2; obtain ⟨z0, z1, z2, z3⟩ := ha2.cells4; obtain ⟨y0, y1, y2, y3⟩ := ha2.frees4; have HS2 := Lib.hid hs2; have HB2 := Lib.hid (HB1.out.cons (Nat.le_of_lt hz) hb2); clear hs2 hb2 ha2)
        refine bodyPost_ret (v := .agg #[.int .u64 0, .int .u64 0, .int .u64 0, .int .u64 0]) (by simp [results, Try.results113, go_sem, z0, z1, z2, z3]) rfl ?_
        exact ⟨0, 4, 0, by rw [U_zero], .inr (.inl ⟨Hk.out, HBad.out, rfl, rfl⟩), .inr (HS2.out.far (u_zero4 _ _) HQ.out), HB2.out.trans (But.of_below (u_zero4 _ _))⟩
      · have p1 : ¬ (32 : Int) < x := by omega
        have hb3 : 0 < x ∧ k + 1 < n ∧ f (k + 1) = 0 := by
          rcases HBad.out with h | h
          · rw [← Hx.out] at h; omega
          · rw [← Hx.out] at h; exact h
        obtain ⟨g1, o1, rfl, hg1, hc1⟩ := HS1.out.sl.at_ (by have := Hn1.out; omega)
        have x0 := hc1 0 (by have := Hn1.out; omega)
        simp only [Nat.add_zero, hb3.2.2] at x0
        have p2 : decide ((0 : Int) < x) = true := decide_eq_true (by omega)
        have p3 : decide ((0 : Int) < m1) = true := decide_eq_true (by have := Hn1.out; omega)
        have p4 : (0 : Int) < m1 := by have := Hn1.out; omega
        have p5 : (0 : Int) < x := by omega
        clear hc1
        go_wp2_with (go_at_call 118; refine HW.out.mono ?_; rintro en w2 ⟨rfl, hs2, hb2⟩; obtain ⟨ha2, hz2⟩ := HFin.out w2 hs2 hb2; obtain ⟨z0, z1, z2, z3⟩ := ha2.cells4; obtain ⟨y0, y1, y2, y3⟩ := ha2.frees4; have HS2 := Lib.hid hs2; have HB2 := Lib.hid (HB1.out.cons (Nat.le_of_lt hz) hb2); clear hs2 hb2 ha2)
        refine bodyPost_ret (v := .agg #[.int .u64 0, .int .u64 0, .int .u64 0, .int .u64 0]) (by simp [results, Try.results113, go_sem, z0, z1, z2, z3]) rfl ?_
        exact ⟨0, 4, 0, by rw [U_zero], .inr (.inl ⟨Hk.out, HBad.out, rfl, rfl⟩), .inr (HS2.out.far (u_zero4 _ _) HQ.out), HB2.out.trans (But.of_below (u_zero4 _ _))⟩
    · have hx32 : x ≤ 32 := Nat.le_of_not_lt fun h => hbad (.inl (by rw [← Hx.out]; exact h))
      have p1 : ¬ (32 : Int) < x := by omega
      have HBad := Lib.hid hbad
      clear hbad
      go_upto_region 7 with fail
      go_cut [39] from 16 to 61 (fun z wx => z = .bool false ∧ w1 = wx)
      case first =>
        by_cases h0 : x = 0
        · have p2 : decide ((0 : Int) < x) = false := decide_eq_false (by omega)
          have p3 : ¬ (0 : Int) < x := by omega
          have H0 := Lib.hid h0
          clear h0
          go_wp2
          go_meet
          exact ⟨rfl, rfl⟩
        · have p2 : decide ((0 : Int) < x) = true := decide_eq_true (by omega)
          have p3 : (0 : Int) < x := by omega
          by_cases hm1 : m1 = 0
          · have p4 : decide ((0 : Int) < m1) = false := decide_eq_false (by omega)
            have p5 : ¬ (0 : Int) < m1 := by omega
            have HM1 := Lib.hid hm1
            clear hm1
            go_wp2
            go_meet
            exact ⟨rfl, rfl⟩
          · obtain ⟨g1, o1, rfl, hg1, hc1⟩ := HS1.out.sl.at_ (by omega)
            have x0 := hc1 0 (by omega)
            obtain ⟨y, hy⟩ : ∃ y, y = f (k + 1) := ⟨_, rfl⟩
            have hyz : ¬ y = 0 := fun h => HBad.out (.inr ⟨by rw [← Hx.out]; omega, by have := Hn1.out; omega, by rw [← hy]; exact h⟩)
            simp only [Nat.add_zero, ← hy] at x0
            have p4 : decide ((0 : Int) < m1) = true := decide_eq_true (by omega)
            have p5 : (0 : Int) < m1 := by omega
            have p6 : ((y : Int) == 0) = false := beq_eq_false_iff_ne.2 (by omega)
            have p7 : ¬ (y : Int) = 0 := by omega
            clear hc1 hy hyz
            go_wp2
            go_meet
            exact ⟨rfl, rfl⟩
      case rest =>
        obtain ⟨rfl, rfl⟩ := hcut
        by_cases hok : x ≤ m1
        · have HT := Lib.hid (rtake_ok HS1.out x hok)
          have Hok := Lib.hid hok
          clear hok
          obtain ⟨i0, hi, hz0, hz1, hz2⟩ := info_parts oinfoU8
          obtain ⟨r, hr⟩ : ∃ r, r = 32 - x := ⟨_, rfl⟩
          have e2 : 32 - (x : Int) = (r : Int) := by omega
          have hr32 : r ≤ 32 := by omega
          have Hr := Lib.hid hr
          clear hr
          go_wp2_with fail
          refine HT.out.mono ?_
          rintro en w2 ⟨⟨v2, rfl, hv2⟩, ⟨B2, cc2, hs2⟩, hb2⟩
          obtain ⟨A2, c2, rfl, hsl2, hz2'⟩ := own_sl hv2 (fun i => by have := Hf.out (1 + i); rw [← Nat.add_assoc] at this; exact this)
          have d1 : w2.cell? ⟨q, 1, none⟩ = some (.int .i64 0) := cell_in hs2.heap
          have HS2 := Lib.hid hs2
          have HB2 := Lib.hid (HB1.out.cons (Nat.le_of_lt hz) hb2)
          have HA2 := Lib.hid (HA.out.but hb2 hz (by have := HQ.out; omega))
          have HSl2 := Lib.hid hsl2
          have HZ2 := Lib.hid hz2'
          have hzz : w.heap.size < w2.heap.size := Nat.lt_of_lt_of_le hz hb2.size
          have HZZ := Lib.hid hzz
          clear hs2 hb2 hv2 hsl2 hz2' c0 c1 hz hzz
          go_wp2_with (at_make; refine wpList_make_full _ rfl _ _ _ rfl w2.heap.size 5 i0 (.int .u8 0) 1 Try.underlying33 hi hz0 hz1 .i64 .i64 _ _ r rfl rfl rfl rfl (by rw [hz2]; omega) (by unfold maxLen; omega) (Nat.le_refl _) ?_)
          intro w3 hown3 hgrow3
          rw [made_bys] at hown3
          have hb3 := (Below.refl w2.heap.size w2).grown hgrow3 (Nat.le_refl _) (fun k hk => by cases hk)
          have Hown3 := Lib.hid hown3
          have Hb3 := Lib.hid hb3
          have Hrx := Lib.hid (show r + x = 32 from by have := Hr.out; omega)
          have Hword := Lib.hid (show cat (fun _ => 0) r (fun i => f (k + 1 + i)) = word f (k + 1) x from by unfold word; rw [Hr.out])
          clear hown3 hgrow3 hb3 d1
          cases A2 with
          | none =>
            obtain ⟨rfl, rfl⟩ := HZ2.out rfl
            have Hr0 := Lib.hid (show r = 32 by have := Hrx.out; omega)
            obtain ⟨A4, c4, e4, hsl4, hz4⟩ := own_sl Hown3.out (fun _ => Nat.zero_lt_succ _)
            cases e4
            go_wp2_with (at_builtin; refine wpList_append_own_none rfl _ _ _ rfl w2.heap.size 5 i0 1 Try.underlying33 hi _ _ _ rfl Hown3.out rfl ?_)
            have HF := Lib.hid (rfb_walk _ r r _ w3 hsl4)
            have ha4 := HA2.out.below Hb3.out HZZ.out
            obtain ⟨v, hv⟩ : ∃ v, v = bnum (word f (k + 1) 0) 32 := ⟨_, rfl⟩
            have hbn : bnum (fun _ => 0) 32 = bnum (word f (k + 1) 0) 32 := by
              rw [← Hword.out, Hr0.out]; exact bnum_congr8 (fun j hj => (if_pos (by omega)).symm) 32
            have Hbn := Lib.hid hbn
            have Hv := Lib.hid hv
            have HA4 := Lib.hid ha4
            have HS4 := Lib.hid (HS2.out.below Hb3.out)
            have HB4 := Lib.hid (HB2.out.cons (Nat.le_of_lt HZZ.out) (But.of_below Hb3.out))
            have HZ4 := Lib.hid (Nat.lt_of_lt_of_le HZZ.out Hb3.out.size)
            clear hsl4 hz4 ha4 hv hbn
            refine HF.out.mono ?_
            rintro en we ⟨rfl, hbe⟩
            rw [if_pos Hr0.out, decide_eq_true Hr0.out, Hr0.out, Hbn.out, ← Hv.out]
            have hae := HA4.out.below hbe HZ4.out
            obtain ⟨z0, z1, z2, z3⟩ := hae.cells4
            obtain ⟨y0, y1, y2, y3⟩ := hae.frees4
            have zw : w.heap.size < we.heap.size := World.block_lt_of_cell? _ _ z0
            have Hbe := Lib.hid hbe
            clear hbe hae
            unfold U
            go_wp2
            refine bodyPost_ret (v := .agg #[.int .u64 (limb v 0 : Nat), .int .u64 (limb v 1 : Nat), .int .u64 (limb v 2 : Nat), .int .u64 (limb v 3 : Nat)]) (by simp [results, Try.results113, go_sem, z0, z1, z2, z3, zw]) rfl ?_
            have h4 := below_set4 (b := w.heap.size) (x0 := .int .u64 (limb v 0 : Nat)) (x1 := .int .u64 (limb v 1 : Nat)) (x2 := .int .u64 (limb v 2 : Nat)) (x3 := .int .u64 (limb v 3 : Nat)) (Below.refl w.heap.size we) (Nat.le_refl _)
            have h5 := (h4.alloc (Nat.le_trans (Nat.le_of_lt zw) (by simp [World.setCell])) (.cells #[.int .u64 (limb v 0 : Nat), .int .u64 (limb v 1 : Nat), .int .u64 (limb v 2 : Nat), .int .u64 (limb v 3 : Nat)] 24))
            have h6 := (Hbe.out.mono (Nat.le_of_lt HZ4.out)).trans h5
            exact ⟨v, 0, k + 1 + 0, rfl, .inr (.inr (.inr ⟨Hk.out, HBad.out, by rw [← Hx.out]; have := Hn1.out; omega, rfl, by rw [← Hx.out]; exact Hv.out, by rw [← Hx.out]⟩)), .inl ⟨rfl, _, _, _, HS4.out.far h6 HQ.out, by have := Hn1.out; omega⟩, HB4.out.trans (But.of_below h6)⟩
          | some ad =>
            have Hnews := Lib.hid ((HSl2.out.below Hb3.out).news)
            have Hs3 := Lib.hid Hb3.out.size
            go_wp2_with (at_builtin; refine wpList_append_own _ rfl _ _ _ rfl w2.heap.size 5 i0 (.int .u8 0) 1 1 Try.underlying33 hi hz0 hz1 hz2 rfl (by omega) _ r _ rfl Hown3.out ad x c2 (bys (fun i => f (k + 1 + i)) x) rfl (by rw [bys_length]; omega) Hnews.out (bys_one _ _) (by unfold maxLen; omega) (by omega) Hs3.out ?_)
            intro v4 w4 hown4 hgrow4 _
            rw [bys_cat] at hown4
            have Hown4 := Lib.hid hown4
            have Hb4 := Lib.hid (Hb3.out.grown hgrow4 Hs3.out (fun q hq => (Hown3.out.lt q hq).1))
            clear hown4 hgrow4
            obtain ⟨A4, c4, rfl, hsl4, hz4⟩ := own_sl Hown4.out (cat_small (fun _ => Nat.zero_lt_succ _) HSl2.out.small)
            rw [Hrx.out] at hsl4 ⊢
            have HF := Lib.hid (rfb_walk A4 32 c4 _ w4 hsl4)
            have ha4 := HA2.out.below Hb4.out HZZ.out
            obtain ⟨v, hv⟩ : ∃ v, v = bnum (word f (k + 1) x) 32 := ⟨_, rfl⟩
            have Hv := Lib.hid hv
            have HA4 := Lib.hid ha4
            have HS4 := Lib.hid (HS2.out.below Hb4.out)
            have HB4 := Lib.hid (HB2.out.cons (Nat.le_of_lt HZZ.out) (But.of_below Hb4.out))
            have HZ4 := Lib.hid (Nat.lt_of_lt_of_le HZZ.out Hb4.out.size)
            clear hsl4 hz4 ha4 hv
            go_wp2_with fail
            refine HF.out.mono ?_
            rintro en we ⟨rfl, hbe⟩
            rw [if_pos rfl, decide_eq_true rfl, Hword.out, ← Hv.out]
            have hae := HA4.out.below hbe HZ4.out
            obtain ⟨z0, z1, z2, z3⟩ := hae.cells4
            obtain ⟨y0, y1, y2, y3⟩ := hae.frees4
            have zw : w.heap.size < we.heap.size := World.block_lt_of_cell? _ _ z0
            have Hbe := Lib.hid hbe
            clear hbe hae
            unfold U
            go_wp2
            refine bodyPost_ret (v := .agg #[.int .u64 (limb v 0 : Nat), .int .u64 (limb v 1 : Nat), .int .u64 (limb v 2 : Nat), .int .u64 (limb v 3 : Nat)]) (by simp [results, Try.results113, go_sem, z0, z1, z2, z3, zw]) rfl ?_
            have h4 := below_set4 (b := w.heap.size) (x0 := .int .u64 (limb v 0 : Nat)) (x1 := .int .u64 (limb v 1 : Nat)) (x2 := .int .u64 (limb v 2 : Nat)) (x3 := .int .u64 (limb v 3 : Nat)) (Below.refl w.heap.size we) (Nat.le_refl _)
            have h5 := (h4.alloc (Nat.le_trans (Nat.le_of_lt zw) (by simp [World.setCell])) (.cells #[.int .u64 (limb v 0 : Nat), .int .u64 (limb v 1 : Nat), .int .u64 (limb v 2 : Nat), .int .u64 (limb v 3 : Nat)] 24))
            have h6 := (Hbe.out.mono (Nat.le_of_lt HZ4.out)).trans h5
            exact ⟨v, 0, k + 1 + x, rfl, .inr (.inr (.inr ⟨Hk.out, HBad.out, by rw [← Hx.out]; have := Hn1.out; have := Hok.out; omega, rfl, by rw [← Hx.out]; exact Hv.out, by rw [← Hx.out]⟩)), .inl ⟨rfl, _, _, _, HS4.out.far h6 HQ.out, by have := Hn1.out; have := Hok.out; omega⟩, HB4.out.trans (But.of_below h6)⟩
        · have HT := Lib.hid (rtake_short HS1.out x (by omega))
          have Hok := Lib.hid hok
          clear hok
          go_wp2_with (go_at_call 148; refine HT.out.mono ?_; rintro en w2 ⟨rfl, hs2, hb2⟩; have d1 : w2.cell? ⟨q, 1, none⟩ = some (.int .i64 3) := cell_in hs2.heap; have ha2 := HA.out.but hb2 hz (by have := HQ.out; omega); obtain ⟨z0, z1, z2, z3⟩ := ha2.cells4; obtain ⟨y0, y1, y2, y3⟩ := ha2.frees4; have HS2 := Lib.hid hs2; have HB2 := Lib.hid (HB1.out.cons (Nat.le_of_lt hz) hb2); have hz3 := World.block_lt_of_cell? _ _ z0; clear hs2 hb2 ha2)
          refine bodyPost_ret (v := .agg #[.int .u64 0, .int .u64 0, .int .u64 0, .int .u64 0]) (by simp [results, Try.results113, go_sem, z0, z1, z2, z3]) rfl ?_
          exact ⟨0, 3, 0, by rw [U_zero], .inr (.inr (.inl ⟨Hk.out, HBad.out, by rw [← Hx.out]; have := Hn1.out; have := Hok.out; omega, rfl, rfl⟩)), .inr (HS2.out.far (u_zero4 _ _) HQ.out), HB2.out.trans (But.of_below (u_zero4 _ _))⟩
end Go.Proofs.Ytcodlbfomfjmfaa

namespace Go.Proofs.Ytcodlbfomfjmfaa
open Go.RowKit

def TakeGot (n k e m x e2 k2 : Nat) : Prop := (e ≠ 0 ∧ x = 0 ∧ e2 = e) ∨ (e = 0 ∧ n < k + m ∧ x = 0 ∧ e2 = 3) ∨ (e = 0 ∧ k + m ≤ n ∧ x = m ∧ e2 = 0 ∧ k2 = k + m)
def RTakeAny (w : World) (q n : Nat) (f : Nat → Nat) (k e m : Nat) (en : Ending) (w' : World) : Prop :=
  ∃ A2 x c2 e2 k2, en = .returned (.slice A2 x c2) ∧ TakeGot n k e m x e2 k2 ∧ Sl w' A2 x (fun i => f (k + i)) ∧ (∀ a, A2 = some a → w.heap.size ≤ a.block) ∧ DState w' q n f k2 e2 ∧ But w.heap.size q w w'
theorem rtake_any {w : World} {q n k e : Nat} {f : Nat → Nat} (h : DState w q n f k e) (hf : ∀ i, f i < 256) (m : Nat) : Calls Try.prog 148 #[.pointer (some ⟨q, 0, none⟩), .int .i64 (m : Nat)] w (RTakeAny w q n f k e m) := by
  rcases h with ⟨rfl, B, m2, cc, hs, hn⟩ | hs
  · by_cases hm : m ≤ m2
    · refine (rtake_ok hs m hm).mono ?_
      rintro en w' ⟨⟨v, rfl, hv⟩, ⟨B2, cc2, hs2⟩, hb⟩
      obtain ⟨A2, c2, rfl, hsl, _, _, hwh⟩ := own_sl2 hv (fun i => hf _)
      exact ⟨A2, m, c2, 0, k + m, rfl, .inr (.inr ⟨rfl, by omega, rfl, rfl, rfl⟩), hsl, fun a h => (hwh a h).1, .inl ⟨rfl, B2, _, cc2, hs2, by omega⟩, hb⟩
    · refine (rtake_short hs m (by omega)).mono ?_
      rintro en w' ⟨rfl, hs2, hb⟩
      exact ⟨none, 0, 0, 3, k, rfl, .inr (.inl ⟨rfl, by omega, rfl, rfl⟩), ⟨fun i => hf _, fun h => absurd h (by omega)⟩, (fun _ h => by cases h), .inr hs2, hb⟩
  · refine (rtake_err hs m).mono ?_
    rintro en w' ⟨rfl, rfl⟩
    exact ⟨none, 0, 0, e, k, rfl, .inl ⟨hs.bad, rfl, rfl⟩, ⟨fun i => hf _, fun h => absurd h (by omega)⟩, (fun _ h => by cases h), .inr hs, But.refl _ _ _⟩
/-- the bytes that stand in h so far -/
def prt (f : Nat → Nat) (k j i : Nat) : Nat := if i < j then f (k + i) else 0
theorem bys_set (g : Nat → Nat) {n j : Nat} (x : Nat) (hj : j < n) : (bys g n).toArray.setIfInBounds j (.int .u8 (x : Nat)) = (bys (upd g j x) n).toArray := by
  apply Array.ext'
  rw [Array.toList_setIfInBounds]
  refine List.ext_getElem? fun i => ?_
  rw [List.getElem?_set]
  by_cases h : i < n
  · by_cases hij : j = i
    · subst hij
      rw [if_pos rfl, if_pos (by simpa [bys_length] using h), bys_get _ h, upd_same]
    · rw [if_neg hij]
      simp only [bys_get _ h, upd_ne _ (fun e => hij e.symm)]
  · have h1 : ∀ g' : Nat → Nat, (bys g' n)[i]? = none := fun g' => List.getElem?_eq_none (by rw [bys_length]; omega)
    have hij : ¬ j = i := by omega
    simp only [h1, if_neg hij]
theorem prt_succ (f : Nat → Nat) (k j : Nat) : upd (prt f k j) j (f (k + j)) = prt f k (j + 1) := by
  funext i
  unfold upd prt
  by_cases h : i = j
  · subst h; simp
  · rw [if_neg h]
    by_cases h2 : i < j
    · rw [if_pos h2, if_pos (by omega)]
    · rw [if_neg h2, if_neg (by omega)]
def HashAny (f : Nat → Nat) (n k e : Nat) (g : Nat → Nat) (e2 k2 : Nat) : Prop := (e ≠ 0 ∧ (g = fun _ => 0) ∧ e2 = e) ∨ (e = 0 ∧ HashGot f n k g e2 k2)
def RHashPost (w : World) (q n : Nat) (f : Nat → Nat) (k e : Nat) (en : Ending) (w' : World) : Prop :=
  ∃ cs g e2 k2, en = .returned (.agg cs) ∧ cs = (bys g 32).toArray ∧ HashAny f n k e g e2 k2 ∧ DState w' q n f k2 e2 ∧ But w.heap.size q w w'
theorem take_hash {f : Nat → Nat} {n k e x e2 k2 : Nat} (h : TakeGot n k e 32 x e2 k2) : ∃ g, (bys (prt f k x) 32 = bys g 32) ∧ HashAny f n k e g e2 k2 := by
  rcases h with ⟨h0, rfl, rfl⟩ | ⟨h0, h1, rfl, rfl⟩ | ⟨h0, h1, rfl, rfl, rfl⟩
  · exact ⟨fun _ => 0, bys_congr fun i _ => by simp [prt], .inl ⟨h0, rfl, rfl⟩⟩
  · exact ⟨fun _ => 0, bys_congr fun i _ => by simp [prt], .inr ⟨h0, .inl ⟨h1, rfl, rfl⟩⟩⟩
  · exact ⟨fun i => f (k + i), bys_congr fun i hi => by simp [prt, hi], .inr ⟨h0, .inr ⟨h1, rfl, rfl, rfl⟩⟩⟩
theorem take_le {n k e m x e2 k2 : Nat} (h : TakeGot n k e m x e2 k2) : x ≤ m := by
  rcases h with ⟨_, rfl, _⟩ | ⟨_, _, rfl, _⟩ | ⟨_, _, rfl, _⟩ <;> omega
set_option maxRecDepth 100000 in
set_option maxHeartbeats 2000000 in
theorem rhash_any {w : World} {q n k e : Nat} {f : Nat → Nat} (h : DState w q n f k e) (hf : ∀ i, f i < 256) : Calls Try.prog 114 #[.pointer (some ⟨q, 0, none⟩)] w (RHashPost w q n f k e) := by
  have HT := Lib.hid (rtake_any (h.below (hw32_below w)) hf 32)
  have HQ := Lib.hid h.lt
  clear h
  go_enter Try.func114, Try.ntmps114
  go_wp2_with fail
  show Calls Try.prog _ _ (hw32 w) _
  refine HT.out.mono ?_
  rintro en w1 ⟨A2, x, c2, e2, k2, rfl, hg, hsl, hwh, hs, hb⟩
  rw [hw32_size] at hwh
  have hx : x ≤ 32 := take_le hg
  have r0 : w1.heap[w.heap.size]? = some (.cells z32 44 (0, 0)) := (hb.block _ (by rw [hw32_size]; omega) (by have := HQ.out; omega)).trans (hw32_0 w)
  have r1 : w1.heap[w.heap.size + 1]? = some (.cells (bys (prt f k 0) 32).toArray 44 (0, 0)) := (hb.block _ (by rw [hw32_size]; omega) (by have := HQ.out; omega)).trans ((hw32_1 w).trans (by rw [z32_bys, show bys (prt f k 0) 32 = bys (fun _ => 0) 32 from bys_congr fun i _ => by simp [prt]]))
  have HG := Lib.hid hg
  have HSl := Lib.hid hsl
  have HWh := Lib.hid hwh
  have HS := Lib.hid hs
  have HB := Lib.hid ((But.of_below (hw32_below w)).cons (by rw [hw32_size]; omega) hb)
  have R0 := Lib.hid r0
  have R1 := Lib.hid r1
  have HZ := Lib.hid (heap_lt r1)
  clear hg hsl hwh hs hb r0 r1
  go_wp2
  go_loopw [9] (fun i wr => ∃ j : Nat, j ≤ x ∧ i = .int .i64 (j : Nat) ∧ wr.heap[w.heap.size + 1]? = some (.cells (bys (prt f k j) 32).toArray 44 (0, 0)) ∧ But w1.heap.size (w.heap.size + 1) w1 wr) (fun i _ => x - (intOf i).toNat)
  case atStart => exact ⟨0, Nat.zero_le _, rfl, R1.out, But.refl _ _ _⟩
  case round =>
    obtain ⟨j, hj, rfl, hr, hbr⟩ := hrel
    by_cases hlt : j < x
    · have p1 : (j : Int) < x := by omega
      have p2 : (j : Int) < 32 := by omega
      obtain ⟨g, o, rfl, hgl, hc⟩ := HSl.out.at_ (by omega)
      have hgn := HWh.out _ rfl
      have c0 : wr.cell? ⟨g, o + j, none⟩ = some (.int .u8 (f (k + j) : Nat)) := (hbr.cell hgl (by simp only at hgn; omega)).trans (hc j hlt)
      have c1 : wr.cell? ⟨w.heap.size + 1, j, none⟩ = some (.int .u8 (prt f k j j : Nat)) := (cell_in hr).trans (by rw [List.getElem?_toArray]; exact bys_get _ (by omega))
      have g1 : wr.frozen? ⟨w.heap.size + 1, j, none⟩ = false := free_in hr
      have HR := Lib.hid hr
      have HBr := Lib.hid hbr
      clear hr hbr hc hgn
      go_wp2
      refine ⟨⟨j + 1, by omega, by simp, ?_, HBr.out.set _ _⟩, by simp [intOf]; omega⟩
      rw [heap_set HR.out, bys_set _ _ (by omega), prt_succ]
    · obtain rfl : j = x := by omega
      have p1 : ¬ (j : Int) < j := by omega
      obtain ⟨g, hgg, hany⟩ := take_hash HG.out
      rw [hgg] at hr
      obtain ⟨cs, hcs⟩ : ∃ cs, cs = (bys g 32).toArray := ⟨_, rfl⟩
      have hi := hinfo g
      have hone := bys_all g 32
      have hsz : z32.size = (bys g 32).toArray.size := by simp [bys_length]; rfl
      rw [← hcs] at hr hi hone hsz
      have R1' := Lib.hid hr
      have R0' := Lib.hid ((hbr.block w.heap.size (by have := HZ.out; omega) (by omega)).trans R0.out)
      have HBr := Lib.hid hbr
      have Hi := Lib.hid hi
      have Hone := Lib.hid hone
      have Hsz := Lib.hid hsz
      have Hcs := Lib.hid hcs
      have HAny := Lib.hid hany
      clear hr hi hone hsz hbr hcs hgg hany
      go_upto_region 7 with fail
      refine wp_region_lit (wpList_load_row rfl 44 (.tmp 3) rfl (w.heap.size + 1) rfl _ cs (0, 0) _ R1'.out Try.underlying44 rfl Hi.out ?_)
      refine wpList_store_row rfl 44 (.tmp 2) (.tmp 18) rfl w.heap.size cs rfl rfl _ z32 R0'.out Hi.out Hsz.out Hone.out ?_
      refine wpList_nil ?_
      go_wp2
      refine bodyPost_ret (v := .agg cs) (results_cell_row rfl _ _ w.heap.size 44 cs (0, 0) _ rfl (setRow_heap _ _ z32 _ _ _ R0'.out) Try.underlying44 rfl Hi.out) rfl ?_
      have hb3 : Below w.heap.size w1 wr := HBr.out.below (by omega) (by have := HZ.out; omega)
      have hb4 := below_setRow (g := w.heap.size) hb3 (Nat.le_refl _) cs
      exact ⟨cs, g, e2, k2, rfl, Hcs.out, HAny.out, HS.out.far hb4 HQ.out, HB.out.trans (But.of_below hb4)⟩
end Go.Proofs.Ytcodlbfomfjmfaa

namespace Go.Proofs.Ytcodlbfomfjmfaa
open Go.RowKit

def VarAny (f : Nat → Nat) (n k e : Nat) (most : Int) (v e2 k2 : Nat) : Prop := (e ≠ 0 ∧ v = 0 ∧ e2 = e) ∨ (e = 0 ∧ VarGot f n k most v e2 k2)
def AmtAny (f : Nat → Nat) (n k e a e2 k2 : Nat) : Prop := (e ≠ 0 ∧ a = 0 ∧ e2 = e) ∨ (e = 0 ∧ AmtGot f n k a e2 k2)
def ByteAny (f : Nat → Nat) (n k e v e2 k2 : Nat) : Prop := (e ≠ 0 ∧ v = 0 ∧ e2 = e) ∨ (e = 0 ∧ ByteGot f n k v e2 k2)
def TextAny (f : Nat → Nat) (n k e : Nat) (most : Int) (q m e2 k2 : Nat) : Prop := (e ≠ 0 ∧ m = 0 ∧ e2 = e) ∨ (e = 0 ∧ TextGot f n k most q m e2 k2)
theorem VarGot.one {f : Nat → Nat} {n k : Nat} {most : Int} {v e k2 v' e' k2' : Nat} (h : VarGot f n k most v e k2) (h' : VarGot f n k most v' e' k2') : v = v' ∧ e = e' ∧ (e = 0 → k2 = k2') := by
  obtain ⟨i, s1, a1, b1, c1⟩ := h
  obtain ⟨j, s2, a2, b2, c2⟩ := h'
  obtain rfl := s1.one s2
  exact ⟨b1.trans b2.symm, a1.trans a2.symm, fun h0 => (c1 h0).trans (c2 (a2.trans (a1.symm.trans h0))).symm⟩
theorem VarAny.one {f : Nat → Nat} {n k e : Nat} {most : Int} {v e2 k2 v' e2' k2' : Nat} (h : VarAny f n k e most v e2 k2) (h' : VarAny f n k e most v' e2' k2') : v = v' ∧ e2 = e2' ∧ (e2 = 0 → k2 = k2') := by
  rcases h with ⟨h0, rfl, rfl⟩ | ⟨h0, h⟩ <;> rcases h' with ⟨h1, rfl, rfl⟩ | ⟨h1, h'⟩
  · exact ⟨rfl, rfl, fun h => absurd h h0⟩
  · exact absurd h1 h0
  · exact absurd h0 h1
  · exact h.one h'
theorem AmtAny.one {f : Nat → Nat} {n k e v e2 k2 v' e2' k2' : Nat} (h : AmtAny f n k e v e2 k2) (h' : AmtAny f n k e v' e2' k2') : v = v' ∧ e2 = e2' ∧ (e2 = 0 → k2 = k2') := by
  unfold AmtAny AmtGot at h h'
  rcases h with ⟨h0, rfl, rfl⟩ | ⟨h0, h⟩ <;> rcases h' with ⟨h1, rfl, rfl⟩ | ⟨h1, h'⟩
  · exact ⟨rfl, rfl, fun h => absurd h h0⟩
  · exact absurd h1 h0
  · exact absurd h0 h1
  · rcases h with ⟨a, b, c⟩ | ⟨a, g, b, c⟩ | ⟨a, g, z, b, c⟩ | ⟨a, g, z, b, c, d⟩ <;> rcases h' with ⟨a', b', c'⟩ | ⟨a', g', b', c'⟩ | ⟨a', g', z', b', c'⟩ | ⟨a', g', z', b', c', d'⟩ <;>
      first
        | exact absurd g g'
        | exact absurd g' g
        | omega
        | exact ⟨c.trans c'.symm, b.trans b'.symm, fun h => by omega⟩
theorem ByteAny.one {f : Nat → Nat} {n k e v e2 k2 v' e2' k2' : Nat} (h : ByteAny f n k e v e2 k2) (h' : ByteAny f n k e v' e2' k2') : v = v' ∧ e2 = e2' ∧ (e2 = 0 → k2 = k2') := by
  unfold ByteAny ByteGot at h h'
  omega
theorem TextAny.one {f : Nat → Nat} {n k e : Nat} {most : Int} {q m e2 k2 q' m' e2' k2' : Nat} (h : TextAny f n k e most q m e2 k2) (h' : TextAny f n k e most q' m' e2' k2') : m = m' ∧ e2 = e2' ∧ (e2 = 0 → k2 = k2') ∧ (0 < m → q = q') := by
  rcases h with ⟨h0, rfl, rfl⟩ | ⟨h0, h⟩ <;> rcases h' with ⟨h1, rfl, rfl⟩ | ⟨h1, h'⟩
  · exact ⟨rfl, rfl, fun h => absurd h h0, fun h => absurd h (by omega)⟩
  · exact absurd h1 h0
  · exact absurd h0 h1
  · obtain ⟨v, e1, k1, g, h⟩ := h
    obtain ⟨v', e1', k1', g', h'⟩ := h'
    obtain ⟨rfl, rfl, hk⟩ := g.one g'
    by_cases he : e1 = 0
    · obtain rfl := hk he
      omega
    · omega
theorem HashAny.one {f : Nat → Nat} {n k e e2 k2 e2' k2' : Nat} {g g' : Nat → Nat} (h : HashAny f n k e g e2 k2) (h' : HashAny f n k e g' e2' k2') : g = g' ∧ e2 = e2' ∧ (e2 = 0 → k2 = k2') := by
  unfold HashAny HashGot at h h'
  rcases h with ⟨h0, rfl, rfl⟩ | ⟨h0, h⟩ <;> rcases h' with ⟨h1, rfl, rfl⟩ | ⟨h1, h'⟩
  · exact ⟨rfl, rfl, fun h => absurd h h0⟩
  · exact absurd h1 h0
  · exact absurd h0 h1
  · rcases h with ⟨a, b, c⟩ | ⟨a, b, c, d⟩ <;> rcases h' with ⟨a', b', c'⟩ | ⟨a', b', c', d'⟩ <;>
      first
        | (exfalso; omega)
        | exact ⟨c.trans c'.symm, b.trans b'.symm, fun h => by omega⟩
/-! what the calls tell, one by one: the program's source -/
section
variable {w : World} {p : Nat} {A : Option Addr} {n c : Nat} {f : Nat → Nat} {k e : Nat}
theorem svar_any (h : Src w p A n c f k e) (most : Int) : Calls Try.prog 57 #[.pointer (some ⟨p, 0, none⟩), .int .i64 most] w (fun en w' => ∃ v e2 k2, en = .returned (.int .i64 (v : Nat)) ∧ VarAny f n k e most v e2 k2 ∧ Src w' p A n c f k2 e2 ∧ But w.heap.size p w w') := by
  by_cases he : e = 0
  · subst he
    exact (lvar_walk h most).mono fun en w' ⟨v, e2, k2, h1, h2, h3, h4⟩ => ⟨v, e2, k2, h1, .inr ⟨rfl, h2⟩, h3, h4⟩
  · exact (lvar_err h he most).mono fun en w' ⟨h1, h2⟩ => ⟨0, e, k, h1, .inl ⟨he, rfl, rfl⟩, h.below h2, But.of_below h2⟩
theorem samt_any (h : Src w p A n c f k e) : Calls Try.prog 58 #[.pointer (some ⟨p, 0, none⟩)] w (fun en w' => ∃ a e2 k2, en = .returned (U a) ∧ AmtAny f n k e a e2 k2 ∧ Src w' p A n c f k2 e2 ∧ But w.heap.size p w w') := by
  by_cases he : e = 0
  · subst he
    exact (lamount_any h).mono fun en w' ⟨v, e2, k2, h1, h2, h3, h4⟩ => ⟨v, e2, k2, h1, .inr ⟨rfl, h2⟩, h3, h4⟩
  · exact (lamount_err h he).mono fun en w' ⟨h1, h2⟩ => ⟨0, e, k, h1, .inl ⟨he, rfl, rfl⟩, h.below h2, But.of_below h2⟩
theorem sbyte_any (h : Src w p A n c f k e) : Calls Try.prog 61 #[.pointer (some ⟨p, 0, none⟩)] w (fun en w' => ∃ v e2 k2, en = .returned (.int .u8 (v : Nat)) ∧ ByteAny f n k e v e2 k2 ∧ Src w' p A n c f k2 e2 ∧ But w.heap.size p w w') := by
  by_cases he : e = 0
  · subst he
    by_cases hk : k < n
    · exact (byte_ok h hk).mono fun en w' ⟨h1, h3, h4⟩ => ⟨_, 0, k + 1, h1, .inr ⟨rfl, .inr ⟨hk, rfl, rfl, rfl⟩⟩, h3, h4⟩
    · exact (byte_end h (by omega)).mono fun en w' ⟨h1, h3, h4⟩ => ⟨0, 3, k, h1, .inr ⟨rfl, .inl ⟨by omega, rfl, rfl⟩⟩, h3, h4⟩
  · exact (byte_err h he).mono fun en w' ⟨h1, h2⟩ => ⟨0, e, k, h1, .inl ⟨he, rfl, rfl⟩, h.below h2, But.of_below h2⟩
theorem stext_any (h : Src w p A n c f k e) (most : Int) : Calls Try.prog 59 #[.pointer (some ⟨p, 0, none⟩), .int .i64 most] w (fun en w' => ∃ A2 c2 q m e2 k2, en = .returned (.slice A2 m c2) ∧ TextAny f n k e most q m e2 k2 ∧ Sl w' A2 m (fun i => f (q + i)) ∧ Src w' p A n c f k2 e2 ∧ But w.heap.size p w w') := by
  by_cases he : e = 0
  · subst he
    exact (ltext_walk h most).mono fun en w' ⟨A2, c2, q, m, e2, k2, h1, h2, hs, h3, h4⟩ => ⟨A2, c2, q, m, e2, k2, h1, .inr ⟨rfl, h2⟩, hs, h3, h4⟩
  · exact (ltext_err h he most).mono fun en w' ⟨h1, h2⟩ => ⟨none, 0, 0, 0, e, k, h1, .inl ⟨he, rfl, rfl⟩, ⟨fun i => h.sl.small _, fun h => absurd h (by omega)⟩, h.below h2, But.of_below h2⟩
theorem shash_any (h : Src w p A n c f k e) : Calls Try.prog 60 #[.pointer (some ⟨p, 0, none⟩)] w (fun en w' => ∃ cs g e2 k2, en = .returned (.agg cs) ∧ cs = (bys g 32).toArray ∧ HashAny f n k e g e2 k2 ∧ Src w' p A n c f k2 e2 ∧ But w.heap.size p w w') := by
  by_cases he : e = 0
  · subst he
    by_cases hk : k + 32 ≤ n
    · exact (lhash_ok h hk).mono fun en w' ⟨cs, g, e2, k2, h1, hc, h2, h3, h4⟩ => ⟨cs, g, e2, k2, h1, hc, .inr ⟨rfl, h2⟩, h3, h4⟩
    · exact (lhash_short h (by omega)).mono fun en w' ⟨cs, g, e2, k2, h1, hc, h2, h3, h4⟩ => ⟨cs, g, e2, k2, h1, hc, .inr ⟨rfl, h2⟩, h3, h4⟩
  · exact (lhash_err h he).mono fun en w' ⟨h1, h2⟩ => ⟨z32, fun _ => 0, e, k, h1, z32_bys, .inl ⟨he, rfl, rfl⟩, h.below h2, But.of_below h2⟩
end
/-! the document's -/
section
variable {w : World} {q n : Nat} {f : Nat → Nat} {k e : Nat}
theorem rvar_any (h : DState w q n f k e) (most : Int) : Calls Try.prog 112 #[.pointer (some ⟨q, 0, none⟩), .int .i64 most] w (fun en w' => ∃ v e2 k2, en = .returned (.int .i64 (v : Nat)) ∧ VarAny f n k e most v e2 k2 ∧ DState w' q n f k2 e2 ∧ But w.heap.size q w w') := by
  rcases h with ⟨rfl, B, m, cc, hs, hn⟩ | hs
  · exact (rvar_live hs hn most).mono fun en w' ⟨v, e2, k2, h1, h2, h3, h4⟩ => ⟨v, e2, k2, h1, .inr ⟨rfl, h2⟩, h3, h4⟩
  · exact (rvar_err hs most).mono fun en w' ⟨h1, h2⟩ => ⟨0, e, k, h1, .inl ⟨hs.bad, rfl, rfl⟩, h2 ▸ .inr hs, h2 ▸ But.refl _ _ _⟩
theorem ramt_any (h : DState w q n f k e) : Calls Try.prog 113 #[.pointer (some ⟨q, 0, none⟩)] w (fun en w' => ∃ a e2 k2, en = .returned (U a) ∧ AmtAny f n k e a e2 k2 ∧ DState w' q n f k2 e2 ∧ But w.heap.size q w w') := by
  rcases h with ⟨rfl, B, m, cc, hs, hn⟩ | hs
  · exact (ramount_live hs hn).mono fun en w' ⟨v, e2, k2, h1, h2, h3, h4⟩ => ⟨v, e2, k2, h1, .inr ⟨rfl, h2⟩, h3, h4⟩
  · exact (ramount_err hs).mono fun en w' ⟨h1, h2⟩ => ⟨0, e, k, h1, .inl ⟨hs.bad, rfl, rfl⟩, .inr (hs.below h2), But.of_below h2⟩
theorem rbyte_any (h : DState w q n f k e) : Calls Try.prog 116 #[.pointer (some ⟨q, 0, none⟩)] w (fun en w' => ∃ v e2 k2, en = .returned (.int .u8 (v : Nat)) ∧ ByteAny f n k e v e2 k2 ∧ DState w' q n f k2 e2 ∧ But w.heap.size q w w') := by
  rcases h with ⟨rfl, B, m, cc, hs, hn⟩ | hs
  · exact (rbyte_live hs hn).mono fun en w' ⟨v, e2, k2, h1, h2, h3, h4⟩ => ⟨v, e2, k2, h1, .inr ⟨rfl, h2⟩, h3, h4⟩
  · exact (rbyte_err hs).mono fun en w' ⟨h1, h2⟩ => ⟨0, e, k, h1, .inl ⟨hs.bad, rfl, rfl⟩, h2 ▸ .inr hs, h2 ▸ But.refl _ _ _⟩
theorem rtext_any (h : DState w q n f k e) (hf : ∀ i, f i < 256) (most : Int) : Calls Try.prog 115 #[.pointer (some ⟨q, 0, none⟩), .int .i64 most] w (fun en w' => ∃ A2 c2 p m e2 k2, en = .returned (.slice A2 m c2) ∧ TextAny f n k e most p m e2 k2 ∧ Sl w' A2 m (fun i => f (p + i)) ∧ DState w' q n f k2 e2 ∧ But w.heap.size q w w') := by
  rcases h with ⟨rfl, B, m, cc, hs, hn⟩ | hs
  · exact (rtext_live hs hn most).mono fun en w' ⟨A2, c2, p, m, e2, k2, h1, h2, hsl, h3, h4⟩ => ⟨A2, c2, p, m, e2, k2, h1, .inr ⟨rfl, h2⟩, hsl, h3, h4⟩
  · exact (rtext_err hs most).mono fun en w' ⟨h1, h2⟩ => ⟨none, 0, 0, 0, e, k, h1, .inl ⟨hs.bad, rfl, rfl⟩, ⟨fun i => hf _, fun h => absurd h (by omega)⟩, h2 ▸ .inr hs, h2 ▸ But.refl _ _ _⟩
end
/-! the two do not touch each other -/
theorem DState.heap {w : World} {q n k e : Nat} {f : Nat → Nat} (h : DState w q n f k e) : ∃ B m cc, w.heap[q]? = some (.cells #[.slice B m cc, .int .i64 (e : Nat)] 55 (0, 0)) ∧ (e = 0 → k + m = n) ∧ (e ≠ 0 → m = 0) := by
  rcases h with ⟨rfl, B, m, cc, hs, hn⟩ | hs
  · exact ⟨B, m, cc, hs.heap, fun _ => hn, fun h => absurd rfl h⟩
  · exact ⟨none, 0, 0, hs.heap, fun h => absurd h hs.bad, fun _ => rfl⟩
theorem Src.other {w w' : World} {p q : Nat} {A : Option Addr} {n c : Nat} {f : Nat → Nat} {k e : Nat} (h : Src w p A n c f k e) {B : Option Addr} {m cc : Nat} {x : Int} {t : TypeId} (hq : w.heap[q]? = some (.cells #[.slice B m cc, .int .i64 x] t (0, 0))) (hb : But w.heap.size q w w') (hpq : p ≠ q) : Src w' p A n c f k e := by
  refine ⟨by rw [hb.block p h.lt hpq]; exact h.heap, ⟨h.sl.small, fun hn => ?_⟩, h.le, h.cap, h.most, h.nil, h.apart⟩
  obtain ⟨g, o, e, hg, hc⟩ := h.sl.at_ hn
  have hgq : g ≠ q := by
    rintro rfl
    have h0 := hc 0 hn
    rw [cell_in hq] at h0
    rcases o with _ | _ | o <;> simp at h0
  refine ⟨g, o, e, Nat.lt_of_lt_of_le hg hb.size, fun i hi => ?_⟩
  rw [hb.cell hg hgq]; exact hc i hi
theorem DState.other {w w' : World} {p q n k e : Nat} {f : Nat → Nat} (h : DState w q n f k e) {A : Option Addr} {n' c' : Nat} {x y : Int} {t : TypeId} (hp : w.heap[p]? = some (.cells #[.bool true, .slice A n' c', .int .i64 x, .int .i64 y] t (0, 0))) (hb : But w.heap.size p w w') (hpq : q ≠ p) : DState w' q n f k e := by
  rcases h with ⟨h0, B, m, cc, hs, hn⟩ | hs
  · refine .inl ⟨h0, B, m, cc, ⟨by rw [hb.block q hs.lt hpq]; exact hs.heap, ⟨hs.sl.small, fun hn => ?_⟩, hs.cap, hs.most, hs.nil, hs.apart⟩, hn⟩
    obtain ⟨g, o, e, hg, hc⟩ := hs.sl.at_ hn
    have hgq : g ≠ p := by
      rintro rfl
      have h0 := hc 0 hn
      rw [cell_in hp] at h0
      rcases o with _ | _ | _ | _ | o <;> simp at h0
    refine ⟨g, o, e, Nat.lt_of_lt_of_le hg hb.size, fun i hi => ?_⟩
    rw [hb.cell hg hgq]; exact hc i hi
  · exact .inr ⟨by rw [hb.block q hs.lt hpq]; exact hs.heap, hs.bad⟩
theorem DState.move {w : World} {q n k k' e : Nat} {f : Nat → Nat} (h : DState w q n f k e) (he : e = 0 → k = k') : DState w q n f k' e := by
  rcases h with ⟨h0, B, m, cc, hs, hn⟩ | hs
  · obtain rfl := he h0
    exact .inl ⟨h0, B, m, cc, hs, hn⟩
  · exact .inr hs
end Go.Proofs.Ytcodlbfomfjmfaa
