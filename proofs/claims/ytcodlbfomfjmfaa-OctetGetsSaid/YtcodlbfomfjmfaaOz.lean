/- A source's Amount, walked live. -/
import Derived.Test.YtcodlbfomfjmfaaOy
import Derived.Test.YtcodlbfomfjmfaaUC
import Derived.Deep.DeepCutAuto
import Derived.Lib.QuietBelow
namespace Go.Proofs.Ytcodlbfomfjmfaa
open Go.RowKit

/-- what is wrong with the count -/
def AmtBad (f : Nat → Nat) (n k : Nat) : Prop := 32 < f k ∨ (0 < f k ∧ k + 1 < n ∧ f (k + 1) = 0)
instance (f : Nat → Nat) (n k : Nat) : Decidable (AmtBad f n k) := by unfold AmtBad; infer_instance
/-- x bytes from q on, behind noughts: 32 in all -/
def word (f : Nat → Nat) (q x : Nat) : Nat → Nat := cat (fun _ => 0) (32 - x) (fun i => f (q + i))
theorem bys_take (f : Nat → Nat) {m n : Nat} (h : m ≤ n) : (bys f n).take m = bys f m := by
  unfold bys; rw [← List.map_take, List.take_range, Nat.min_eq_left h]
theorem word_splice (f : Nat → Nat) (q x : Nat) (hx : x ≤ 32) : splice (bys (fun _ => 0) 32) (32 - x) (bys (fun i => f (q + i)) x) = bys (word f q x) 32 := by
  unfold splice
  rw [bys_take _ (by omega), bys_length, List.drop_eq_nil_of_le (by rw [bys_length]; omega), List.append_nil, bys_cat, show 32 - x + x = 32 by omega]
  rfl
theorem word_small {f : Nat → Nat} (hf : ∀ i, f i < 256) (q x : Nat) : ∀ i, word f q x i < 256 := cat_small (fun _ => by decide) (fun _ => hf _)
/-- what Amount tells, and where it leaves the source -/
def AmtGot (f : Nat → Nat) (n k a e k' : Nat) : Prop :=
  (n ≤ k ∧ e = 3 ∧ a = 0) ∨ (k < n ∧ AmtBad f n k ∧ e = 4 ∧ a = 0) ∨ (k < n ∧ ¬ AmtBad f n k ∧ n < k + 1 + f k ∧ e = 3 ∧ a = 0) ∨
  (k < n ∧ ¬ AmtBad f n k ∧ k + 1 + f k ≤ n ∧ e = 0 ∧ a = bnum (word f (k + 1) (f k)) 32 ∧ k' = k + 1 + f k)
def LAmtPost (w : World) (p : Nat) (A : Option Addr) (n c : Nat) (f : Nat → Nat) (k : Nat) (en : Ending) (w' : World) : Prop :=
  ∃ a e k', en = .returned (U a) ∧ AmtGot f n k a e k' ∧ Src w' p A n c f k' e ∧ But w.heap.size p w w'
def u0 (w : World) : World := w.alloc (.cells #[.int .u64 0, .int .u64 0, .int .u64 0, .int .u64 0] 24)
theorem u0_below (w : World) : Below w.heap.size w (u0 w) := (Below.refl _ _).alloc (Nat.le_refl _) _
theorem u0_size (w : World) : (u0 w).heap.size = w.heap.size + 1 := by unfold u0; simp
theorem u0_arr (w : World) : Arr .u64 (u0 w) w.heap.size 4 (fun _ => 0) := Arr.new4 (f := fun _ => 0) rfl
theorem Arr.but {κ : IntKind} {w w' : World} {b n p B : Nat} {f : Nat → Nat} (h : Arr κ w b n f) (hb : But B p w w') (hB : b < B) (hp : b ≠ p) : Arr κ w' b n f :=
  ⟨fun i hi => (hb.cell hB hp).trans (h.cell i hi), fun i hi => by
    have e := hb.block b hB hp
    have h1 := h.free i hi
    simp only [World.frozen?] at h1 ⊢
    rw [e]; exact h1⟩
set_option maxRecDepth 100000 in
set_option maxHeartbeats 2000000 in
theorem lamount_err {w : World} {p : Nat} {A : Option Addr} {n c : Nat} {f : Nat → Nat} {k e : Nat} (h : Src w p A n c f k e) (he : e ≠ 0) : Calls Try.prog 58 #[.pointer (some ⟨p, 0, none⟩)] w fun en w' => en = .returned (U 0) ∧ Below w.heap.size w w' := by
  have HT := Lib.hid (take_err (h.below (u0_below w)) he 1 (.func (Fn.func 117) #[.pointer (some ⟨p, 0, none⟩)] #[]))
  have ha := u0_arr w
  have hs : w.heap.size < (u0 w).heap.size := by rw [u0_size]; omega
  have HB := Lib.hid (u0_below w)
  clear h
  rw [U_zero]
  go_enter Try.func58, Try.ntmps58
  go_wp2_with fail
  show Calls Try.prog _ _ (u0 w) _
  refine HT.out.mono ?_
  rintro en w1 ⟨rfl, rfl⟩
  obtain ⟨z0, z1, z2, z3⟩ := ha.cells4
  obtain ⟨y0, y1, y2, y3⟩ := ha.frees4
  go_wp2
  refine bodyPost_ret (v := .agg #[.int .u64 0, .int .u64 0, .int .u64 0, .int .u64 0]) (by simp [results, Try.results58, go_sem, z0, z1, z2, z3]) rfl ?_
  exact ⟨rfl, below_set4 HB.out (Nat.le_refl _)⟩
set_option maxRecDepth 100000 in
set_option maxHeartbeats 2000000 in
theorem lamount_end {w : World} {p : Nat} {A : Option Addr} {n c : Nat} {f : Nat → Nat} {k : Nat} (h : Src w p A n c f k 0) (hk : n ≤ k) : Calls Try.prog 58 #[.pointer (some ⟨p, 0, none⟩)] w (LAmtPost w p A n c f k) := by
  have HT := Lib.hid (take_short (h.below (u0_below w)) 1 (by omega))
  have hp := h.lt
  have HH := Lib.hid h.home
  have HP := Lib.hid hp
  have Hk := Lib.hid hk
  unfold keepOf at HT
  clear h hk hp
  go_enter Try.func58, Try.ntmps58
  go_wp2_with fail
  show Calls Try.prog _ _ (u0 w) _
  refine HT.out.mono ?_
  rintro en w1 ⟨rfl, hs, hb⟩
  have ha := (u0_arr w).but hb (by rw [u0_size]; omega) (by have := HP.out; omega)
  obtain ⟨z0, z1, z2, z3⟩ := ha.cells4
  obtain ⟨y0, y1, y2, y3⟩ := ha.frees4
  have Hs := Lib.hid hs
  have Hb := Lib.hid ((But.of_below (u0_below w)).cons (by rw [u0_size]; omega) hb)
  have hz : w.heap.size < w1.heap.size := World.block_lt_of_cell? _ _ z0
  clear hs hb ha
  go_wp2
  refine bodyPost_ret (v := .agg #[.int .u64 0, .int .u64 0, .int .u64 0, .int .u64 0]) (by simp [results, Try.results58, go_sem, z0, z1, z2, z3]) rfl ?_
  have h4 := below_set4 (b := w.heap.size) (x0 := .int .u64 0) (x1 := .int .u64 0) (x2 := .int .u64 0) (x3 := .int .u64 0) (Below.refl w.heap.size w1) (Nat.le_refl _)
  exact ⟨0, 3, k, by rw [U_zero], .inl ⟨Hk.out, rfl, rfl⟩, Hs.out.far h4 HP.out HH.out, Hb.out.trans (But.of_below h4)⟩
/-- the word stands in the block q -/
def AmtMid (w : World) (p : Nat) (A : Option Addr) (n c : Nat) (f : Nat → Nat) (k q : Nat) (wx : World) : Prop :=
  ∃ G e k', (∀ i, G i < 256) ∧ AmtGot f n k (bnum G 32) e k' ∧ wx.heap[q]? = some (.cells (bys G 32).toArray 43 (0, 0)) ∧ Src wx p A n c f k' e ∧ But w.heap.size p w wx ∧ Arr .u64 wx w.heap.size 4 (fun _ => 0)
theorem bnum_zero : ∀ k, bnum (fun _ => 0) k = 0
  | 0 => rfl
  | k + 1 => by simp [bnum, bnum_zero k]
set_option maxRecDepth 100000 in
set_option maxHeartbeats 4000000 in
theorem lamount_walk {w : World} {p : Nat} {A : Option Addr} {n c : Nat} {f : Nat → Nat} {k : Nat} (h : Src w p A n c f k 0) (hk : k < n) : Calls Try.prog 58 #[.pointer (some ⟨p, 0, none⟩)] w (LAmtPost w p A n c f k) := by
  have HT := Lib.hid (take_ok (h.below (u0_below w)) 1 (by omega) (.func (Fn.func 117) #[.pointer (some ⟨p, 0, none⟩)] #[]))
  have hp := h.lt
  have HH := Lib.hid h.home
  have HP := Lib.hid hp
  have Hk := Lib.hid hk
  have Hsm := Lib.hid h.sl.small
  have hle := h.most
  obtain ⟨ga, oa, rfl, hga, _⟩ := h.sl.at_ (by omega)
  obtain ⟨x, hx⟩ : ∃ x, x = f k := ⟨_, rfl⟩
  have hx2 := h.sl.small k
  rw [← hx] at hx2
  have Hx := Lib.hid hx
  clear h hp hx hga
  go_enter Try.func58, Try.ntmps58
  go_upto_region 6 with fail
  show Calls Try.prog _ _ (u0 w) _
  refine HT.out.mono ?_
  rintro en w1 ⟨⟨A2, rfl, hs, hn, ha⟩, hS, hB1⟩
  obtain ⟨g, o, rfl, hg, hc⟩ := hs.at_ (by omega)
  have c0 := hc 0 (by omega)
  rw [Nat.add_zero, Nat.add_zero, ← Hx.out] at c0
  have ha4 := (u0_arr w).but hB1 (by rw [u0_size]; omega) (by have := HP.out; omega)
  have HA := Lib.hid ha4
  have HS := Lib.hid hS
  have HB := Lib.hid ((But.of_below (u0_below w)).cons (by rw [u0_size]; omega) hB1)
  have hz : w.heap.size < w1.heap.size := World.block_lt_of_cell? _ _ (ha4.cell 0 (by omega))
  clear hs hn ha hS hB1 hc hg ha4
  go_upto_region 6 with fail
  go_cut [45] from 6 to 62 (fun q wx => q = .bool (decide (AmtBad f n k)) ∧ Below w1.heap.size w1 wx)
  case first =>
    obtain ⟨d, hd⟩ : ∃ d, d = n - (k + 1) := ⟨_, rfl⟩
    have HLL := Lib.hid (fun (d' : Nat) (os : Array Obj) => (by have h := left_live (HS.out.below (below_regrown w1 d' os)); rw [if_pos rfl, ← hd] at h; exact h : Calls Try.prog 54 #[.pointer (some ⟨p, 0, none⟩)] (Sort.grow (redrawn w1 d') os) fun en w' => en = .returned (.int .i64 (d : Nat)) ∧ Below (Sort.grow (redrawn w1 d') os).heap.size (Sort.grow (redrawn w1 d') os) w'))
    have Hd := Lib.hid hd
    clear hd
    by_cases h32 : 32 < x
    · have b1 : decide ((32 : Int) < x) = true := decide_eq_true (by omega)
      have Hb := Lib.hid (show AmtBad f n k from .inl (by rw [← Hx.out]; exact h32))
      refine wp_region_quiet_below (by kernel_rfl) (by kernel_rfl) ?_
      repeat ((with_reducible refine wpQuiet_step (fun K hK => ?_)); go_simp; (try (rw [if_neg]; rotate_left; focus (intro h; cases h))); first | (with_reducible refine hK _ ?_; clear hK K) | (apply Exists.intro; refine ⟨fun _ => ?_, hK _ ?_⟩; (go_at_call 54; exact Calls.regrown_of (HLL.out _ _)); clear hK K))
      with_reducible refine wpQuiet_nil ?_
      intro _ hw'
      obtain ⟨⟨dq, osq⟩, hw''⟩ := hw'
      subst hw''
      have hb5 := below_regrown w1 dq osq
      go_wp2
      go_meet
      exact ⟨congrArg Value.bool (decide_eq_true Hb.out).symm, hb5⟩
    · have b1 : decide ((32 : Int) < x) = false := decide_eq_false (by omega)
      by_cases h0 : x = 0
      · have b2 : decide (0 < x) = false := decide_eq_false (by omega)
        have hx0 := Lib.hid h0
        clear h0
        have Hb := Lib.hid (show ¬ AmtBad f n k from fun h => by unfold AmtBad at h; rw [← Hx.out] at h; have := hx0.out; omega)
        refine wp_region_quiet_below (by kernel_rfl) (by kernel_rfl) ?_
        repeat ((with_reducible refine wpQuiet_step (fun K hK => ?_)); go_simp; (try (rw [if_neg]; rotate_left; focus (intro h; cases h))); first | (with_reducible refine hK _ ?_; clear hK K) | (apply Exists.intro; refine ⟨fun _ => ?_, hK _ ?_⟩; (go_at_call 54; exact Calls.regrown_of (HLL.out _ _)); clear hK K))
        with_reducible refine wpQuiet_nil ?_
        intro _ hw'
        obtain ⟨⟨dq, osq⟩, hw''⟩ := hw'
        subst hw''
        have hb5 := below_regrown w1 dq osq
        go_wp2
        go_meet
        exact ⟨congrArg Value.bool (decide_eq_false Hb.out).symm, hb5⟩
      · have b2 : decide (0 < x) = true := decide_eq_true (by omega)
        by_cases hd0 : d = 0
        · have b3 : decide (0 < d) = false := decide_eq_false (by omega)
          have hd1 := Lib.hid hd0
          clear hd0
          have Hb := Lib.hid (show ¬ AmtBad f n k from fun h => by have h1 := Hd.out; have := hd1.out; unfold AmtBad at h; rw [← Hx.out] at h; omega)
          refine wp_region_quiet_below (by kernel_rfl) (by kernel_rfl) ?_
          repeat ((with_reducible refine wpQuiet_step (fun K hK => ?_)); go_simp; (try (rw [if_neg]; rotate_left; focus (intro h; cases h))); first | (with_reducible refine hK _ ?_; clear hK K) | (apply Exists.intro; refine ⟨fun _ => ?_, hK _ ?_⟩; (go_at_call 54; exact Calls.regrown_of (HLL.out _ _)); clear hK K))
          with_reducible refine wpQuiet_nil ?_
          intro _ hw'
          obtain ⟨⟨dq, osq⟩, hw''⟩ := hw'
          subst hw''
          have hb5 := below_regrown w1 dq osq
          go_wp2
          go_meet
          exact ⟨congrArg Value.bool (decide_eq_false Hb.out).symm, hb5⟩
        · have b3 : decide (0 < d) = true := decide_eq_true (by omega)
          obtain ⟨r, hr⟩ : ∃ r, r = k + 1 := ⟨_, rfl⟩
          obtain ⟨y, hy⟩ : ∃ y, y = f r := ⟨_, rfl⟩
          have q1 : (r : Int) < (n : Int) := by have := Hd.out; omega
          obtain ⟨_, _, e, _, hcs⟩ := HS.out.sl.at_ (by omega)
          cases e
          have sy := hcs r (by omega)
          have s2 := HS.out.c2
          rw [← hr] at s2
          rw [← hy] at sy
          have k1 := fun d os => cell_regrown HS.out.c1 d os
          have k2 := fun d os => cell_regrown s2 d os
          have k3 := fun d os => cell_regrown sy d os
          have Hr := Lib.hid hr
          have Hy := Lib.hid hy
          clear hr hy hcs sy s2
          by_cases hy0 : y = 0
          · have b4 : ((y : Int) == 0) = true := by rw [hy0]; rfl
            have Hb := Lib.hid (show AmtBad f n k from .inr (by rw [← Hx.out, ← Hr.out, ← Hy.out]; exact ⟨by omega, by omega, hy0⟩))
            clear hy0
            refine wp_region_quiet_below (by kernel_rfl) (by kernel_rfl) ?_
            repeat ((with_reducible refine wpQuiet_step (fun K hK => ?_)); go_simp; (try (rw [if_neg]; rotate_left; focus (intro h; cases h))); first | (with_reducible refine hK _ ?_; clear hK K) | (apply Exists.intro; refine ⟨fun _ => ?_, hK _ ?_⟩; (go_at_call 54; exact Calls.regrown_of (HLL.out _ _)); clear hK K))
            with_reducible refine wpQuiet_nil ?_
            intro _ hw'
            obtain ⟨⟨dq, osq⟩, hw''⟩ := hw'
            subst hw''
            have hb5 := below_regrown w1 dq osq
            go_wp2
            go_meet
            exact ⟨congrArg Value.bool (decide_eq_true Hb.out).symm, hb5⟩
          · have b4 : ((y : Int) == 0) = false := beq_eq_false_iff_ne.2 (by omega)
            have Hb := Lib.hid (show ¬ AmtBad f n k from fun h => by have h1 := Hr.out; unfold AmtBad at h; rw [← Hx.out, ← Hr.out, ← Hy.out] at h; omega)
            refine wp_region_quiet_below (by kernel_rfl) (by kernel_rfl) ?_
            repeat ((with_reducible refine wpQuiet_step (fun K hK => ?_)); go_simp; (try (rw [if_neg]; rotate_left; focus (intro h; cases h))); first | (with_reducible refine hK _ ?_; clear hK K) | (apply Exists.intro; refine ⟨fun _ => ?_, hK _ ?_⟩; (go_at_call 54; exact Calls.regrown_of (HLL.out _ _)); clear hK K))
            with_reducible refine wpQuiet_nil ?_
            intro _ hw'
            obtain ⟨⟨dq, osq⟩, hw''⟩ := hw'
            subst hw''
            have hb5 := below_regrown w1 dq osq
            go_wp2
            go_meet
            exact ⟨congrArg Value.bool (decide_eq_false Hb.out).symm, hb5⟩
  case rest =>
    rename World => wk
    obtain ⟨rfl, hbc⟩ := hcut
    have HSc := Lib.hid (HS.out.below hbc)
    have HAc := Lib.hid (HA.out.below hbc hz)
    have HBc := Lib.hid (HB.out.cons HB.out.size (But.of_below hbc))
    have hzc := Nat.lt_of_lt_of_le hz hbc.size
    have Hzc := Lib.hid hzc
    clear hbc hz
    by_cases hbad : AmtBad f n k
    · rw [decide_eq_true hbad]
      have Hbad := Lib.hid hbad
      clear hbad
      have HK := Lib.hid (keep_live HSc.out 4)
      go_wp2_with (go_at_call 117; refine HK.out.mono ?_; rintro en w2 ⟨rfl, hs2, hb2⟩; rw [if_pos rfl] at hs2; have Hs2 := Lib.hid hs2; have ha2 := HAc.out.but hb2 Hzc.out (by have := HP.out; omega); obtain ⟨z0, z1, z2, z3⟩ := ha2.cells4; obtain ⟨y0, y1, y2, y3⟩ := ha2.frees4; have Hb2 := Lib.hid (HBc.out.cons (Nat.le_of_lt Hzc.out) hb2); have z5 := World.block_lt_of_cell? _ _ z0; clear hs2 hb2 ha2)
      refine bodyPost_ret (v := .agg #[.int .u64 0, .int .u64 0, .int .u64 0, .int .u64 0]) (by simp [results, Try.results58, go_sem, z0, z1, z2, z3]) rfl ?_
      have h4 := below_set4 (b := w.heap.size) (x0 := .int .u64 0) (x1 := .int .u64 0) (x2 := .int .u64 0) (x3 := .int .u64 0) (Below.refl w.heap.size w2) (Nat.le_refl _)
      exact ⟨0, 4, k + 1, by rw [U_zero], .inr (.inl ⟨Hk.out, Hbad.out, rfl, rfl⟩), Hs2.out.far h4 HP.out HH.out, Hb2.out.trans (But.of_below h4)⟩
    · rw [decide_eq_false hbad]
      have Hbad := Lib.hid hbad
      clear hbad
      have hx32 : x ≤ 32 := Nat.le_of_not_lt fun h => Hbad.out (.inl (by rw [← Hx.out]; exact h))
      have Hx32 := Lib.hid hx32
      obtain ⟨r, hr⟩ : ∃ r, r = 32 - x := ⟨_, rfl⟩
      have e2 : 32 - (x : Int) = (r : Int) := by omega
      have e3 : (r : Int) ≤ 32 := by omega
      have e5 : IntKind.i64.wrap (r : Int) = (r : Int) := wrap_nat63 (by omega)
      have hb10 := (Below.refl wk.heap.size wk).alloc (Nat.le_refl _) (.cells z32 43)
      have HS10 := Lib.hid (HSc.out.below hb10.drew)
      have HA10 := Lib.hid (HAc.out.below hb10.drew Hzc.out)
      have HB10 := Lib.hid (HBc.out.cons (Nat.le_of_lt Hzc.out) (But.of_below hb10.drew))
      have HPZ := Lib.hid (show (wk.alloc (.cells z32 43)).drew.heap.size = wk.heap.size + 1 from by simp)
      have HR10 := Lib.hid (show (wk.alloc (.cells z32 43)).drew.heap[wk.heap.size]? = some (.cells z32 43 (0, 0)) from heap_alloc_new _ _)
      have Hr := Lib.hid hr
      clear hb10 hr
      go_upto_region 10 with fail
      show Code.wp _ _ _ _ (wk.alloc (.cells z32 43))
      go_cut [56] from 49 to 62 (fun _ wx => AmtMid w p (some ⟨ga, oa, none⟩) n c f k wk.heap.size wx)
      case first =>
        by_cases hok : k + 1 + x ≤ n
        · have Hok := Lib.hid hok
          have HT2 := Lib.hid (take_ok HS10.out x hok (.func (Fn.func 117) #[.pointer (some ⟨p, 0, none⟩)] #[]))
          by_cases hx0 : x = 0
          · have Hx0 := Lib.hid hx0
            clear hx0 hok
            go_region_law (first
              | (go_simp; go_at_call 121; refine HT2.out.mono ?_; rintro en w2 ⟨⟨A3, rfl, hs, hn, ha⟩, hS, hB2⟩; have HS2 := Lib.hid hs; have HSrc := Lib.hid hS; have HB2 := Lib.hid hB2; have R2 := Lib.hid ((hB2.block wk.heap.size (by rw [HPZ.out]; omega) (by have := HP.out; omega)).trans HR10.out); clear hs hn ha hS hB2)
              | (refine step_copy_splice rfl (.tmp 51) (.tmp 55) 33 33 rfl 5 Try.underlying33 u8_size (some ⟨wk.heap.size, 0, none⟩) A3 0 0 x x (by have := Hr.out; have := Hx0.out; have := Hx32.out; simp [Act.eval] <;> omega) (by simp [Act.eval]) wk.heap.size (32 - x) (bys (fun _ => 0) 32) 43 (by rw [← z32_bys]; exact R2.out) (bys (fun i => f (k + 1 + i)) x) (by have := Hr.out; have := Hx32.out; have := Hx0.out; show _ = min x (0); first | (rw [bys_length]; omega) | (simp)) (fun h => by have := Hx0.out; rw [bys_length] at h; omega) (by have := Hx32.out; simp only [bys_length]; first | omega | (simp only [List.length_nil]; omega)) (by first | exact bys_one _ _ | simp) wk.heap.size _ (Below.refl _ _) (Nat.le_refl _) ?_; intro w3 hg3 hb3))
            have r1 := hg3.out
            rw [word_splice _ _ _ Hx32.out] at r1
            have ha3 := (HA10.out.but HB2.out (by rw [HPZ.out]; have := Hzc.out; omega) (by have := HP.out; omega)).below hb3 Hzc.out
            have hb4 := (HB10.out.cons (by rw [HPZ.out]; have := Hzc.out; omega) HB2.out).trans (But.of_below (hb3.mono (Nat.le_of_lt Hzc.out)))
            have hs4 := HSrc.out.far hb3 (Nat.lt_trans HP.out Hzc.out) (fun a ha hn => Nat.lt_trans (HH.out a ha hn) Hzc.out)
            go_wp2
            all_goals (go_meet; exact ⟨word f (k + 1) x, 0, k + 1 + x, word_small Hsm.out _ _, .inr (.inr (.inr ⟨Hk.out, Hbad.out, by rw [← Hx.out]; exact Hok.out, rfl, by rw [← Hx.out], by rw [← Hx.out]⟩)), r1, hs4, hb4, ha3⟩)
          · have Hx0 := Lib.hid hx0
            clear hx0 hok
            go_region_law (first
              | (go_simp; go_at_call 121; refine HT2.out.mono ?_; rintro en w2 ⟨⟨A3, rfl, hs, hn, ha⟩, hS, hB2⟩; have HS2 := Lib.hid hs; have HSrc := Lib.hid hS; have HB2 := Lib.hid hB2; have R2 := Lib.hid ((hB2.block wk.heap.size (by rw [HPZ.out]; omega) (by have := HP.out; omega)).trans HR10.out); clear hs hn ha hS hB2)
              | (refine step_copy_splice rfl (.tmp 51) (.tmp 55) 33 33 rfl 5 Try.underlying33 u8_size (some ⟨wk.heap.size, r, none⟩) A3 (32 - r) (32 - r) x x (by have := Hr.out; have := Hx0.out; have := Hx32.out; simp [Act.eval] <;> omega) (by simp [Act.eval]) wk.heap.size (32 - x) (bys (fun _ => 0) 32) 43 (by rw [← z32_bys]; exact R2.out) (bys (fun i => f (k + 1 + i)) x) (by have := Hr.out; have := Hx32.out; have := Hx0.out; show _ = min x ((32 - r)); first | (rw [bys_length]; omega) | (simp)) (fun _ => by obtain ⟨g3, o3, rfl, _, _⟩ := HS2.out.at_ (by have := Hx0.out; omega); exact ⟨by have := Hr.out; rw [this], _, rfl, HS2.out.news⟩) (by have := Hx32.out; simp only [bys_length]; first | omega | (simp only [List.length_nil]; omega)) (by first | exact bys_one _ _ | simp) wk.heap.size _ (Below.refl _ _) (Nat.le_refl _) ?_; intro w3 hg3 hb3))
            have r1 := hg3.out
            rw [word_splice _ _ _ Hx32.out] at r1
            have ha3 := (HA10.out.but HB2.out (by rw [HPZ.out]; have := Hzc.out; omega) (by have := HP.out; omega)).below hb3 Hzc.out
            have hb4 := (HB10.out.cons (by rw [HPZ.out]; have := Hzc.out; omega) HB2.out).trans (But.of_below (hb3.mono (Nat.le_of_lt Hzc.out)))
            have hs4 := HSrc.out.far hb3 (Nat.lt_trans HP.out Hzc.out) (fun a ha hn => Nat.lt_trans (HH.out a ha hn) Hzc.out)
            go_wp2
            all_goals (go_meet; exact ⟨word f (k + 1) x, 0, k + 1 + x, word_small Hsm.out _ _, .inr (.inr (.inr ⟨Hk.out, Hbad.out, by rw [← Hx.out]; exact Hok.out, rfl, by rw [← Hx.out], by rw [← Hx.out]⟩)), r1, hs4, hb4, ha3⟩)
        · have Hok := Lib.hid hok
          have HT2 := Lib.hid (take_short HS10.out x (by omega))
          unfold keepOf at HT2
          have Hx0 := Lib.hid (show ¬ x = 0 from fun h => hok (by have := Hk.out; omega))
          clear hok
          go_region_law (first
            | (go_simp; go_at_call 121; refine HT2.out.mono ?_; rintro en w2 ⟨rfl, hS, hB2⟩; have HSrc := Lib.hid hS; have HB2 := Lib.hid hB2; have R2 := Lib.hid ((hB2.block wk.heap.size (by rw [HPZ.out]; omega) (by have := HP.out; omega)).trans HR10.out); clear hS hB2)
            | (refine step_copy_splice rfl (.tmp 51) (.tmp 55) 33 33 rfl 5 Try.underlying33 u8_size (some ⟨wk.heap.size, r, none⟩) none (32 - r) (32 - r) 0 0 (by have := Hr.out; have := Hx0.out; have := Hx32.out; simp [Act.eval] <;> omega) (by simp [Act.eval]) wk.heap.size (32 - x) (bys (fun _ => 0) 32) 43 (by rw [← z32_bys]; exact R2.out) ([]) (by have := Hr.out; have := Hx32.out; have := Hx0.out; show _ = min 0 ((32 - r)); first | (rw [bys_length]; omega) | (simp)) (fun h => absurd h (by simp)) (by have := Hx32.out; simp only [bys_length]; first | omega | (simp only [List.length_nil]; omega)) (by first | exact bys_one _ _ | simp) wk.heap.size _ (Below.refl _ _) (Nat.le_refl _) ?_; intro w3 hg3 hb3))
          have r1 := hg3.out
          rw [splice_nil] at r1
          have ha3 := (HA10.out.but HB2.out (by rw [HPZ.out]; have := Hzc.out; omega) (by have := HP.out; omega)).below hb3 Hzc.out
          have hb4 := (HB10.out.cons (by rw [HPZ.out]; have := Hzc.out; omega) HB2.out).trans (But.of_below (hb3.mono (Nat.le_of_lt Hzc.out)))
          have hs4 := HSrc.out.far hb3 (Nat.lt_trans HP.out Hzc.out) (fun a ha hn => Nat.lt_trans (HH.out a ha hn) Hzc.out)
          go_wp2
          all_goals (go_meet; exact ⟨fun _ => 0, 3, k + 1, (fun _ => Nat.zero_lt_succ _), .inr (.inr (.inl ⟨Hk.out, Hbad.out, by rw [← Hx.out]; exact Nat.lt_of_not_le Hok.out, rfl, bnum_zero 32⟩)), r1, hs4, hb4, ha3⟩)
      case rest =>
        obtain ⟨G, e, k', hG, hgot, hrow, hs, hb, ha⟩ := hcut
        have hlt := heap_lt hrow
        have hsl : Sl wc (some ⟨wk.heap.size, 0, none⟩) 32 G := ⟨hG, fun _ => ⟨wk.heap.size, 0, rfl, hlt, fun i hi => by rw [Nat.zero_add, cell_in hrow, List.getElem?_toArray]; exact bys_get G hi⟩⟩
        have HF := fb_walk _ 32 32 G wc hsl
        have HFF := Lib.hid HF
        have Hgot := Lib.hid hgot
        have Hs := Lib.hid hs
        have Hb := Lib.hid hb
        have Ha := Lib.hid ha
        clear hG hgot hrow hs hb ha hsl HF
        go_wp2_with fail
        refine HFF.out.mono ?_
        rintro en we ⟨rfl, hbe⟩
        rw [if_pos rfl, decide_eq_true rfl]
        obtain ⟨v, hv⟩ : ∃ v, v = bnum G 32 := ⟨_, rfl⟩
        rw [← hv]
        have Hv := Lib.hid hv
        have hw : w.heap.size < wc.heap.size := World.block_lt_of_cell? _ _ (Ha.out.cell 0 (by omega))
        have hae := Ha.out.below hbe hw
        obtain ⟨z0, z1, z2, z3⟩ := hae.cells4
        obtain ⟨y0, y1, y2, y3⟩ := hae.frees4
        have zw : w.heap.size < we.heap.size := World.block_lt_of_cell? _ _ z0
        have Hbe := Lib.hid hbe
        have Hw := Lib.hid hw
        clear hbe hw hae hv
        unfold U
        go_wp2
        refine bodyPost_ret (v := .agg #[.int .u64 (limb v 0 : Nat), .int .u64 (limb v 1 : Nat), .int .u64 (limb v 2 : Nat), .int .u64 (limb v 3 : Nat)]) (by simp [results, Try.results58, go_sem, z0, z1, z2, z3, zw]) rfl ?_
        have h4 := below_set4 (b := w.heap.size) (x0 := .int .u64 (limb v 0 : Nat)) (x1 := .int .u64 (limb v 1 : Nat)) (x2 := .int .u64 (limb v 2 : Nat)) (x3 := .int .u64 (limb v 3 : Nat)) (Below.refl w.heap.size we) (Nat.le_refl _)
        have h5 := (h4.alloc (Nat.le_trans (Nat.le_of_lt zw) (by simp [World.setCell])) (.cells #[.int .u64 (limb v 0 : Nat), .int .u64 (limb v 1 : Nat), .int .u64 (limb v 2 : Nat), .int .u64 (limb v 3 : Nat)] 24))
        have h6 := (Hbe.out.mono (Nat.le_of_lt Hw.out)).trans h5
        exact ⟨v, e, k', rfl, by rw [Hv.out]; exact Hgot.out, Hs.out.far h6 HP.out HH.out, Hb.out.trans (But.of_below h6)⟩
end Go.Proofs.Ytcodlbfomfjmfaa
