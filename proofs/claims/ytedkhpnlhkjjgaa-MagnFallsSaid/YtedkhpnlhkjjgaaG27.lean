/- magn.Changes, Cut: on a dead store, and of the document's example; lives of layer 22. -/
import Derived.Test.YtedkhpnlhkjjgaaG26
import Derived.Test.YtedkhpnlhkjjgaaG14
import Derived.StillTailTactics
import Derived.Test.YtedkhpnlhkjjgaaG19
import Derived.Test.YtedkhpnlhkjjgaaG01
import Derived.Test.YtedkhpnlhkjjgaaG13
namespace Go.Proofs.Ytedkhpnlhkjjgaa
open Go.RowKit Go.Maps Go.Sort

theorem U_sm (n : Nat) (h : n < 2 ^ 64) : U n = .agg #[.int .u64 (n : Nat), .int .u64 0, .int .u64 0, .int .u64 0] := by
  unfold U
  have e0 : limb n 0 = n := by unfold limb; simp; omega
  have e1 : limb n 1 = 0 := by unfold limb; rw [Nat.div_eq_of_lt (by simpa using h)]
  have e2 : limb n 2 = 0 := by unfold limb; rw [Nat.div_eq_of_lt (Nat.lt_of_lt_of_le h (by decide))]
  have e3 : limb n 3 = 0 := by unfold limb; rw [Nat.div_eq_of_lt (Nat.lt_of_lt_of_le h (by decide))]
  rw [e0, e1, e2, e3]
  rfl
theorem sub_v (a b : Nat) (h : b ≤ a) (ha : a < 2 ^ 64) (w : World) : Calls Try.prog 103 #[.agg #[.int .u64 (a : Nat), .int .u64 0, .int .u64 0, .int .u64 0], .agg #[.int .u64 (b : Nat), .int .u64 0, .int .u64 0, .int .u64 0]] w fun e w' => e = .returned (.tuple #[.agg #[.int .u64 ((a - b : Nat) : Int), .int .u64 0, .int .u64 0, .int .u64 0], .bool true]) ∧ Below w.heap.size w w' := by
  have hs := sub_walk a b w (Nat.lt_of_lt_of_le ha (by decide)) (Nat.lt_of_lt_of_le (Nat.lt_of_le_of_lt h ha) (by decide))
  rw [U_sm a ha, U_sm b (Nat.lt_of_le_of_lt h ha)] at hs
  refine hs.mono ?_
  rintro e w' ⟨he, hb⟩
  rw [if_pos h, decide_eq_true h, U_sm (a - b) (by omega)] at he
  exact ⟨he, hb⟩
theorem changes_walk (P : Option Addr) (o s : Int) (ho : o < 2 ^ 63) (hs : s < 2 ^ 63) (m : Nat) (w : World)
    (HL : ∀ (W : World) (g : Nat), Below w.heap.size w W → Il W (some ⟨g, 0, none⟩) 2 (two2 o s) → Calls Try.prog 17 #[.pointer P, .int .i64 13, .slice (some ⟨g, 0, none⟩) 2 2] W fun e w' => e = .returned (.int .i64 (m : Nat)) ∧ Below W.heap.size W w') :
    Calls Try.prog 100 #[.pointer P, .int .i64 o, .int .i64 s] w fun e w' => e = .returned (.int .i64 (m : Nat)) ∧ Below w.heap.size w w' := by
  have hb1 := (Below.refl w.heap.size w).alloc (Nat.le_refl _) (.cells #[.int .i64 o, .int .i64 s] 3)
  have HLs := Lib.hid (HL (w.alloc (.cells #[.int .i64 o, .int .i64 s] 3)) w.heap.size hb1 (il2 o s w 3 ho hs))
  have H1 := Lib.hid hb1
  clear HL ho hs hb1
  go_enter Try.func100, Try.ntmps100
  go_wp2_with (go_at_call 17; refine HLs.out.mono ?_; rintro e w2 ⟨rfl, hb2⟩; have H2 := Lib.hid (H1.out.trans (hb2.mono H1.out.size)); clear hb2)
  go_ret
  exact ⟨rfl, H2.out⟩
/-! ### a dead store -/
theorem mmax_dead (P : Option Addr) (o s : Int) (ho : o < 2 ^ 63) (hs : s < 2 ^ 63) (w : World) (h : SDead w (.pointer P)) : Calls Try.prog 50 #[.pointer P, .int .i64 o, .int .i64 s] w fun e w' => e = .returned (.agg #[.int .u64 1000000000000000000, .int .u64 0, .int .u64 0, .int .u64 0]) ∧ Below w.heap.size w w' :=
  mmax_walk P o s ho hs 0 false 1000000000000000000 w (fun W g hb hl => by
    have := hlast_dead P 13 (some ⟨g, 0, none⟩) 2 2 (two2 o s) W (h.below hb) hl (fun h => by cases h) (by omega)
    rw [U_zero] at this
    exact this) (orOne_none o)
theorem mat_dead (P : Option Addr) (o s k : Int) (ho : o < 2 ^ 63) (hs : s < 2 ^ 63) (w : World) (h : SDead w (.pointer P)) : Calls Try.prog 54 #[.pointer P, .int .i64 o, .int .i64 s, .int .i64 k] w fun e w' => e = .returned (.agg #[.int .u64 1000000000000000000, .int .u64 0, .int .u64 0, .int .u64 0]) ∧ Below w.heap.size w w' :=
  mat_walk P o s k ho hs 0 false 1000000000000000000 w (fun W g hb hl => by
    have := hat_dead P 13 (some ⟨g, 0, none⟩) 2 2 (two2 o s) k W (h.below hb) hl (fun h => by cases h) (by omega)
    rw [U_zero] at this
    exact this) (orOne_none o)
theorem changes_dead (P : Option Addr) (o s : Int) (ho : o < 2 ^ 63) (hs : s < 2 ^ 63) (w : World) (h : SDead w (.pointer P)) : Calls Try.prog 100 #[.pointer P, .int .i64 o, .int .i64 s] w fun e w' => e = .returned (.int .i64 0) ∧ Below w.heap.size w w' :=
  changes_walk P o s ho hs 0 w (fun W g hb hl => hlen_dead P 13 (some ⟨g, 0, none⟩) 2 2 (two2 o s) W (h.below hb) hl (by omega))
set_option maxRecDepth 100000 in
set_option maxHeartbeats 4000000 in
theorem mcut_dead (P : Option Addr) (blk : Int) (w : World) (h : SDead w (.pointer P)) :
    Calls Try.prog 51 #[.pointer P, .int .i64 7, .int .i64 1, .int .i64 blk, .agg #[.int .u64 1, .int .u64 0, .int .u64 0, .int .u64 0]] w fun e w' => e = .returned (.tuple #[.agg #[.int .u64 0, .int .u64 0, .int .u64 0, .int .u64 0], .agg #[.int .u64 0, .int .u64 0, .int .u64 0, .int .u64 0], .int .i64 1]) ∧ Below w.heap.size w w' := by
  obtain ⟨W0, hW0⟩ : ∃ W0, W0 = ((w.alloc (.cells #[.int .u64 1, .int .u64 0, .int .u64 0, .int .u64 0] 29)).alloc (.cells #[.int .u64 0, .int .u64 0, .int .u64 0, .int .u64 0] 29)).alloc (.cells #[.int .u64 0, .int .u64 0, .int .u64 0, .int .u64 0] 29) := ⟨_, rfl⟩
  have hb0 : Below w.heap.size w W0 := by rw [hW0]; exact (((Below.refl _ _).alloc (Nat.le_refl _) _).alloc (by simp) _).alloc (by simp; omega) _
  have ra : W0.heap[w.heap.size]? = some (.cells #[.int .u64 1, .int .u64 0, .int .u64 0, .int .u64 0] 29 (0, 0)) := by rw [hW0]; exact (heap_alloc_old _ _ (by simp; omega)).trans ((heap_alloc_old _ _ (by simp)).trans (heap_alloc_new _ _))
  have rb : W0.heap[w.heap.size + 1]? = some (.cells #[.int .u64 0, .int .u64 0, .int .u64 0, .int .u64 0] 29 (0, 0)) := by
    rw [hW0]
    refine (heap_alloc_old _ _ (by simp)).trans ?_
    have := heap_alloc_new (w.alloc (.cells #[.int .u64 1, .int .u64 0, .int .u64 0, .int .u64 0] 29)) (.cells #[.int .u64 0, .int .u64 0, .int .u64 0, .int .u64 0] 29)
    rwa [World.size_alloc] at this
  have rc : W0.heap[w.heap.size + 1 + 1]? = some (.cells #[.int .u64 0, .int .u64 0, .int .u64 0, .int .u64 0] 29 (0, 0)) := by
    rw [hW0]
    have := heap_alloc_new ((w.alloc (.cells #[.int .u64 1, .int .u64 0, .int .u64 0, .int .u64 0] 29)).alloc (.cells #[.int .u64 0, .int .u64 0, .int .u64 0, .int .u64 0] 29)) (.cells #[.int .u64 0, .int .u64 0, .int .u64 0, .int .u64 0] 29)
    rwa [World.size_alloc, World.size_alloc] at this
  have h0 := h.below hb0
  have HMx := Lib.hid (mmax_dead P 7 1 (by decide) (by decide) W0 h0)
  have HPu := Lib.hid (fun (W1 : World) (g : Nat) (hb : Below W0.heap.size W0 W1) => show Calls Try.prog 14 #[.pointer P, .int .i64 13, .slice (some ⟨g, 0, none⟩) 2 2, .int .i64 blk, .agg #[.int .u64 999999999999999999, .int .u64 0, .int .u64 0, .int .u64 0]] W1 fun e W2 => e = .returned (.int .i64 1) ∧ Below W1.heap.size W1 W2 from by
    have := hpush_dead P 13 (some ⟨g, 0, none⟩) 2 2 blk 999999999999999999 W1 (h0.below hb)
    rw [U_sm _ (by decide)] at this
    exact this)
  have HSu := Lib.hid (fun W1 => show Calls Try.prog 103 #[.agg #[.int .u64 1000000000000000000, .int .u64 0, .int .u64 0, .int .u64 0], .agg #[.int .u64 1, .int .u64 0, .int .u64 0, .int .u64 0]] W1 fun e w' => e = .returned (.tuple #[.agg #[.int .u64 999999999999999999, .int .u64 0, .int .u64 0, .int .u64 0], .bool true]) ∧ Below W1.heap.size W1 w' from sub_v 1000000000000000000 1 (by decide) (by decide) W1)
  have H0 := Lib.hid (And.intro hb0 (And.intro ra (And.intro rb rc)))
  have HW := Lib.hid hW0
  clear h h0
  clear hW0 hb0 ra rb rc
  go_enter Try.func51, Try.ntmps51
  go_upto_region 1 with fail
  rw [← HW.out]
  go_upto_region 7 with (first
    | (go_at_call 103; refine (HSu.out _).mono ?_; rintro e w5 ⟨rfl, hb5⟩; have hbx := (Below.refl w3.heap.size w3).alloc (Nat.le_refl _) (.cells #[.int .u64 1000000000000000000, .int .u64 0, .int .u64 0, .int .u64 0] 29); have hby := hbx.trans (hb5.mono hbx.size); have H5 := Lib.hid (H3.out.1.trans (hby.mono H3.out.1.size)); have R13 := Lib.hid ((hb5.block w3.heap.size (by simp)).trans (heap_alloc_new w3 (.cells #[.int .u64 1000000000000000000, .int .u64 0, .int .u64 0, .int .u64 0] 29))); clear hb5 hbx hby)
    | (go_at_call 50; refine HMx.out.mono ?_; rintro e w3 ⟨rfl, hb3⟩; have rx := (hb3.block _ (hp_lt H0.out.2.1)).trans H0.out.2.1; have c0 := (hp_cell (i := 0) rx).trans rfl; have c1 := (hp_cell (i := 1) rx).trans rfl; have c2 := (hp_cell (i := 2) rx).trans rfl; have c3 := (hp_cell (i := 3) rx).trans rfl; have L3 := hp_lt rx; have H3 := Lib.hid (And.intro hb3 rx); clear hb3 rx))
  obtain ⟨W7, hW7⟩ : ∃ W7, W7 = w5.alloc (.cells #[.int .u64 999999999999999999, .int .u64 0, .int .u64 0, .int .u64 0] 29) := ⟨_, rfl⟩
  have hb7 : Below w5.heap.size w5 W7 := by rw [hW7]; exact (Below.refl _ _).alloc (Nat.le_refl _) _
  have r14 : W7.heap[w5.heap.size]? = some (.cells #[.int .u64 999999999999999999, .int .u64 0, .int .u64 0, .int .u64 0] 29 (0, 0)) := by rw [hW7]; exact heap_alloc_new _ _
  have r13 := (hb7.block w3.heap.size (hp_lt R13.out)).trans R13.out
  have hb07 := H5.out.trans (hb7.mono H5.out.size)
  rw [← hW7]
  clear hW7 c0 c1 c2 c3 L3
  have hz7 : W0.heap.size ≤ w3.heap.size := H3.out.1.size
  have hz8 := hp_lt R13.out
  have hzb := hp_lt H0.out.2.2.2
  have L14 := hp_lt r14
  have HL7 := Lib.hid (And.intro hb07 (And.intro r13 (And.intro r14 (And.intro ((hb07.block _ (hp_lt H0.out.2.2.1)).trans H0.out.2.2.1) ((hb07.block _ (hp_lt H0.out.2.2.2)).trans H0.out.2.2.2)))))
  have HZ7 := Lib.hid (And.intro hz7 (And.intro hz8 hzb))
  have c0 := (hp_cell (i := 0) r14).trans rfl
  have c1 := (hp_cell (i := 1) r14).trans rfl
  have c2 := (hp_cell (i := 2) r14).trans rfl
  have c3 := (hp_cell (i := 3) r14).trans rfl
  clear hb7 r14 r13 hb07 hz7 hz8 hzb
  go_wp2_with (go_at_call 14; refine (HPu.out _ _ (HL7.out.1.trans (((Below.refl W7.heap.size W7).alloc (Nat.le_refl _) (.cells #[.int .i64 7, .int .i64 1] 3)).mono HL7.out.1.size))).mono ?_; rintro e w8 ⟨rfl, hb8⟩; have hbx := ((Below.refl W7.heap.size W7).alloc (Nat.le_refl _) (.cells #[.int .i64 7, .int .i64 1] 3)); have hby := hbx.trans (hb8.mono hbx.size); have qb := (hby.block _ (hp_lt HL7.out.2.2.2.1)).trans HL7.out.2.2.2.1; have qc := (hby.block _ (hp_lt HL7.out.2.2.2.2)).trans HL7.out.2.2.2.2; have H8 := Lib.hid (H0.out.1.trans ((HL7.out.1.trans (hby.mono HL7.out.1.size)).mono H0.out.1.size)); have d0 := (hp_cell (i := 0) qb).trans rfl; have d1 := (hp_cell (i := 1) qb).trans rfl; have d2 := (hp_cell (i := 2) qb).trans rfl; have d3 := (hp_cell (i := 3) qb).trans rfl; have g0 := hp_free (i := 0) qb; have g1 := hp_free (i := 1) qb; have g2 := hp_free (i := 2) qb; have g3 := hp_free (i := 3) qb; have e0 := (hp_cell (i := 0) qc).trans rfl; have e1 := (hp_cell (i := 1) qc).trans rfl; have e2 := (hp_cell (i := 2) qc).trans rfl; have e3 := (hp_cell (i := 3) qc).trans rfl; have k0 := hp_free (i := 0) qc; have k1 := hp_free (i := 1) qc; have k2 := hp_free (i := 2) qc; have k3 := hp_free (i := 3) qc; clear hb8 hbx hby qb qc)
  refine bodyPost_ret (v := .tuple #[.agg #[.int .u64 0, .int .u64 0, .int .u64 0, .int .u64 0], .agg #[.int .u64 0, .int .u64 0, .int .u64 0, .int .u64 0], .int .i64 1]) (by simp [results, Try.results51, go_sem, d0, d1, d2, d3, e0, e1, e2, e3]) rfl ⟨rfl, below_set4 (below_set4 H8.out (by omega)) (by omega)⟩
/-! ### the document's example -/
def KM0 : ByteArray := ⟨#[13, 0, 0, 0, 0, 0, 0, 0, 7, 0, 0, 0, 0, 0, 0, 0, 1]⟩
def KM1 : ByteArray := ⟨#[13, 0, 0, 0, 0, 0, 0, 0, 7, 0, 0, 0, 0, 0, 0, 0, 1, 0, 0, 0, 0, 0, 0, 0, 0]⟩
theorem keyM0 : keyStr 13 (two2 7 1) 2 = KM0 := by decide +kernel
theorem keyM1 : keyStr 13 (icat (two2 7 1) 2 fun _ => ((0 : Nat) : Int)) (2 + 1) = KM1 := by decide +kernel
theorem keyMm : keyStr 13 (icat (two2 7 1) 2 fun _ => ((0 : Nat) : Int) - 1) (2 + 1) = ⟨#[]⟩ := by decide +kernel
def LM : SL := setL (setL [] KM0 (numStr (((0 : Nat) : Int) + 1))) KM1 (numStr ((5 : Nat) : Int) ++ amtStr 750000000000000000)
set_option maxRecDepth 100000 in
set_option maxHeartbeats 4000000 in
theorem mcut_live {w W : World} {b : Nat} {F : List Nat} {q : Nat} {qs : List Value} (h : SNew w W b F [] q qs) (hq : q + 2 < 1000000) :
    Calls Try.prog 51 #[.pointer (some ⟨b, 0, none⟩), .int .i64 7, .int .i64 1, .int .i64 5, .agg #[.int .u64 250000000000000000, .int .u64 0, .int .u64 0, .int .u64 0]] W fun e W' => e = .returned (.tuple #[.agg #[.int .u64 1000000000000000000, .int .u64 0, .int .u64 0, .int .u64 0], .agg #[.int .u64 750000000000000000, .int .u64 0, .int .u64 0, .int .u64 0], .int .i64 0]) ∧ LiveTo w W W' b F LM (q + 2) := by
  obtain ⟨W0, hW0⟩ : ∃ W0, W0 = ((W.alloc (.cells #[.int .u64 250000000000000000, .int .u64 0, .int .u64 0, .int .u64 0] 29)).alloc (.cells #[.int .u64 0, .int .u64 0, .int .u64 0, .int .u64 0] 29)).alloc (.cells #[.int .u64 0, .int .u64 0, .int .u64 0, .int .u64 0] 29) := ⟨_, rfl⟩
  have hb0 : Below W.heap.size W W0 := by rw [hW0]; exact (((Below.refl _ _).alloc (Nat.le_refl _) _).alloc (by simp) _).alloc (by simp; omega) _
  have ra : W0.heap[W.heap.size]? = some (.cells #[.int .u64 250000000000000000, .int .u64 0, .int .u64 0, .int .u64 0] 29 (0, 0)) := by rw [hW0]; exact (heap_alloc_old _ _ (by simp; omega)).trans ((heap_alloc_old _ _ (by simp)).trans (heap_alloc_new _ _))
  have rb : W0.heap[W.heap.size + 1]? = some (.cells #[.int .u64 0, .int .u64 0, .int .u64 0, .int .u64 0] 29 (0, 0)) := by
    rw [hW0]
    refine (heap_alloc_old _ _ (by simp)).trans ?_
    have := heap_alloc_new (W.alloc (.cells #[.int .u64 250000000000000000, .int .u64 0, .int .u64 0, .int .u64 0] 29)) (.cells #[.int .u64 0, .int .u64 0, .int .u64 0, .int .u64 0] 29)
    rwa [World.size_alloc] at this
  have rc : W0.heap[W.heap.size + 1 + 1]? = some (.cells #[.int .u64 0, .int .u64 0, .int .u64 0, .int .u64 0] 29 (0, 0)) := by
    rw [hW0]
    have := heap_alloc_new ((W.alloc (.cells #[.int .u64 250000000000000000, .int .u64 0, .int .u64 0, .int .u64 0] 29)).alloc (.cells #[.int .u64 0, .int .u64 0, .int .u64 0, .int .u64 0] 29)) (.cells #[.int .u64 0, .int .u64 0, .int .u64 0, .int .u64 0] 29)
    rwa [World.size_alloc, World.size_alloc] at this
  have h0 := h.below hb0
  have hFl : ∀ k, W.heap.size ≤ k → k ∉ F := fun k hk hm => by have := h.s.lt _ hm; omega
  have HMx := Lib.hid (mmax_walk (some ⟨b, 0, none⟩) 7 1 (by decide) (by decide) 0 false 1000000000000000000 W0 (fun W1 g hb hl => by
    have := hlast_walk (some ⟨b, 0, none⟩) 13 (some ⟨g, 0, none⟩) 2 2 (two2 7 1) 0 0 0 false W1 hl (fun h => by cases h) (by omega) (by omega) (fun W2 hb2 => hlen_live ((h0.below hb).below hb2) 13 _ 2 2 (two2 7 1) (hl.below hb2) (by omega) KM0 keyM0 (by decide) 0 (.inl ⟨rfl, rfl⟩) (by decide)) (reads_none (h0.below hb) 13 _ 2 2 (two2 7 1) _ ⟨#[]⟩ keyMm (by decide) (by decide) rfl)
    rw [U_zero] at this
    exact this) (orOne_none 7))
  have HPu := Lib.hid (fun (W1 : World) (g : Nat) (hb : Below W0.heap.size W0 W1) (hg : g ∉ F) (hl : Il W1 (some ⟨g, 0, none⟩) 2 (two2 7 1)) => show Calls Try.prog 14 #[.pointer (some ⟨b, 0, none⟩), .int .i64 13, .slice (some ⟨g, 0, none⟩) 2 2, .int .i64 5, .agg #[.int .u64 750000000000000000, .int .u64 0, .int .u64 0, .int .u64 0]] W1 fun e W2 => e = .returned (.int .i64 0) ∧ LiveTo w W1 W2 b F LM (q + 2) from by
    have hs := h0.below hb
    have hI : ∀ W', Touch F W1 W' → Il W' (some ⟨g, 0, none⟩) 2 (two2 7 1) := fun W' ht => ⟨hl.most, fun hn => by
      obtain ⟨g', o', e, hlt, hc⟩ := hl.at_ hn
      cases e
      have hB := ht.block g hlt hg
      exact ⟨g, 0, rfl, Nat.lt_of_lt_of_le hlt ht.size, fun i hi => by rw [← hc i hi]; simp only [World.cell?, hB]⟩⟩
    have := hpush_more hs 13 (some ⟨g, 0, none⟩) 2 2 (two2 7 1) hI (fun h => by cases h) (by omega) 5 750000000000000000 (by decide) (by omega) 0 (by omega) 0 0 false (reads_none hs 13 _ 2 2 (two2 7 1) _ ⟨#[]⟩ keyMm (by decide) (by decide) rfl) (.inl rfl) KM0 KM1 keyM0 keyM1 (by decide) (by decide) (by decide) (by decide) (.inl ⟨rfl, rfl⟩) (by decide) (by decide +kernel) hq
    rw [U_sm _ (by decide)] at this
    exact this)
  have HSu := Lib.hid (fun W1 => show Calls Try.prog 103 #[.agg #[.int .u64 1000000000000000000, .int .u64 0, .int .u64 0, .int .u64 0], .agg #[.int .u64 250000000000000000, .int .u64 0, .int .u64 0, .int .u64 0]] W1 fun e w' => e = .returned (.tuple #[.agg #[.int .u64 750000000000000000, .int .u64 0, .int .u64 0, .int .u64 0], .bool true]) ∧ Below W1.heap.size W1 w' from sub_v 1000000000000000000 250000000000000000 (by decide) (by decide) W1)
  have H0 := Lib.hid (And.intro hb0 (And.intro ra (And.intro rb rc)))
  have HW := Lib.hid hW0
  have HF := Lib.hid hFl
  have HS := Lib.hid (And.intro h.l.size h.s.lt)
  obtain ⟨lm, elm⟩ : ∃ x, x = LM := ⟨_, rfl⟩
  rw [← elm] at HPu ⊢
  clear h h0 hFl hq elm
  clear hW0 hb0 ra rb rc
  go_enter Try.func51, Try.ntmps51
  go_upto_region 1 with fail
  rw [← HW.out]
  go_upto_region 7 with (first
    | (go_at_call 103; refine (HSu.out _).mono ?_; rintro e w5 ⟨rfl, hb5⟩; have hbx := (Below.refl w3.heap.size w3).alloc (Nat.le_refl _) (.cells #[.int .u64 1000000000000000000, .int .u64 0, .int .u64 0, .int .u64 0] 29); have hby := hbx.trans (hb5.mono hbx.size); have H5 := Lib.hid (H3.out.1.trans (hby.mono H3.out.1.size)); have R13 := Lib.hid ((hb5.block w3.heap.size (by simp)).trans (heap_alloc_new w3 (.cells #[.int .u64 1000000000000000000, .int .u64 0, .int .u64 0, .int .u64 0] 29))); clear hb5 hbx hby)
    | (go_at_call 50; refine HMx.out.mono ?_; rintro e w3 ⟨rfl, hb3⟩; have rx := (hb3.block _ (hp_lt H0.out.2.1)).trans H0.out.2.1; have c0 := (hp_cell (i := 0) rx).trans rfl; have c1 := (hp_cell (i := 1) rx).trans rfl; have c2 := (hp_cell (i := 2) rx).trans rfl; have c3 := (hp_cell (i := 3) rx).trans rfl; have L3 := hp_lt rx; have H3 := Lib.hid (And.intro hb3 rx); clear hb3 rx))
  obtain ⟨W7, hW7⟩ : ∃ W7, W7 = w5.alloc (.cells #[.int .u64 750000000000000000, .int .u64 0, .int .u64 0, .int .u64 0] 29) := ⟨_, rfl⟩
  have hb7 : Below w5.heap.size w5 W7 := by rw [hW7]; exact (Below.refl _ _).alloc (Nat.le_refl _) _
  have r14 : W7.heap[w5.heap.size]? = some (.cells #[.int .u64 750000000000000000, .int .u64 0, .int .u64 0, .int .u64 0] 29 (0, 0)) := by rw [hW7]; exact heap_alloc_new _ _
  have r13 := (hb7.block w3.heap.size (hp_lt R13.out)).trans R13.out
  have hb07 := H5.out.trans (hb7.mono H5.out.size)
  rw [← hW7]
  clear hW7 c0 c1 c2 c3 L3
  have hz7 : W0.heap.size ≤ w3.heap.size := H3.out.1.size
  have hz8 := hp_lt R13.out
  have hzb := hp_lt H0.out.2.2.2
  have L14 := hp_lt r14
  have HL7 := Lib.hid (And.intro hb07 (And.intro r13 (And.intro r14 (And.intro ((hb07.block _ (hp_lt H0.out.2.2.1)).trans H0.out.2.2.1) ((hb07.block _ (hp_lt H0.out.2.2.2)).trans H0.out.2.2.2)))))
  have HZ7 := Lib.hid (And.intro hz7 (And.intro hz8 hzb))
  have c0 := (hp_cell (i := 0) r14).trans rfl
  have c1 := (hp_cell (i := 1) r14).trans rfl
  have c2 := (hp_cell (i := 2) r14).trans rfl
  have c3 := (hp_cell (i := 3) r14).trans rfl
  clear hb7 r14 r13 hb07 hz7 hz8 hzb
  go_upto_region 10 with (go_at_call 14; refine (HPu.out _ _ (HL7.out.1.trans (((Below.refl W7.heap.size W7).alloc (Nat.le_refl _) (.cells #[.int .i64 7, .int .i64 1] 3)).mono HL7.out.1.size)) (HF.out _ (Nat.le_trans H0.out.1.size HL7.out.1.size)) (il2 7 1 W7 3 (by decide) (by decide))).mono ?_; rintro e w8 ⟨rfl, h8⟩; have H8 := Lib.hid h8; clear h8)
  have hT : Touch F (W7.alloc (.cells #[.int .i64 7, .int .i64 1] 3)) w8 := by obtain ⟨_, _, _, _, _, ht, _⟩ := H8.out; exact ht
  have tr : ∀ (k : Nat) (o : Obj), W.heap.size ≤ k → W7.heap[k]? = some o → w8.heap[k]? = some o := fun k o hk ho => (hT.block k (by have := hp_lt ho; simp; omega) (HF.out k hk)).trans ((heap_alloc_old W7 _ (hp_lt ho)).trans ho)
  have hWs := H0.out.1.size
  have q13 := tr _ _ (by have := HZ7.out.1; omega) HL7.out.2.1
  have q14 := tr _ _ (by have := HZ7.out.1; have := HZ7.out.2.1; omega) HL7.out.2.2.1
  have qb := tr _ _ (by omega) HL7.out.2.2.2.1
  have qc := tr _ _ (by omega) HL7.out.2.2.2.2
  clear tr hT hWs c0 c1 c2 c3
  have H9 := Lib.hid (And.intro q13 (And.intro q14 (And.intro qb qc)))
  have a0 := (hp_cell (i := 0) q13).trans rfl
  have a1 := (hp_cell (i := 1) q13).trans rfl
  have a2 := (hp_cell (i := 2) q13).trans rfl
  have a3 := (hp_cell (i := 3) q13).trans rfl
  have b0 := (hp_cell (i := 0) q14).trans rfl
  have b1 := (hp_cell (i := 1) q14).trans rfl
  have b2 := (hp_cell (i := 2) q14).trans rfl
  have b3 := (hp_cell (i := 3) q14).trans rfl
  have d0 := (hp_cell (i := 0) qb).trans rfl
  have d1 := (hp_cell (i := 1) qb).trans rfl
  have d2 := (hp_cell (i := 2) qb).trans rfl
  have d3 := (hp_cell (i := 3) qb).trans rfl
  have g0 := hp_free (i := 0) qb
  have g1 := hp_free (i := 1) qb
  have g2 := hp_free (i := 2) qb
  have g3 := hp_free (i := 3) qb
  have e0 := (hp_cell (i := 0) qc).trans rfl
  have e1 := (hp_cell (i := 1) qc).trans rfl
  have e2 := (hp_cell (i := 2) qc).trans rfl
  have e3 := (hp_cell (i := 3) qc).trans rfl
  have k0 := hp_free (i := 0) qc
  have k1 := hp_free (i := 1) qc
  have k2 := hp_free (i := 2) qc
  have k3 := hp_free (i := 3) qc
  have n1 : ¬ W.heap.size + 1 = w3.heap.size := by have := HZ7.out.1; have := HZ7.out.2.2; omega
  have n2 : ¬ W.heap.size + 1 = w5.heap.size := by have := HZ7.out.1; have := HZ7.out.2.1; have := HZ7.out.2.2; omega
  have n3 : ¬ W.heap.size + 1 + 1 = w3.heap.size := by have := HZ7.out.1; have := HZ7.out.2.2; omega
  have n4 : ¬ W.heap.size + 1 + 1 = w5.heap.size := by have := HZ7.out.1; have := HZ7.out.2.1; have := HZ7.out.2.2; omega
  clear q13 q14 qb qc
  go_region
  all_goals go_wp2
  all_goals refine bodyPost_ret (v := .tuple #[.agg #[.int .u64 1000000000000000000, .int .u64 0, .int .u64 0, .int .u64 0], .agg #[.int .u64 750000000000000000, .int .u64 0, .int .u64 0, .int .u64 0], .int .i64 0]) (by simp [results, Try.results51, go_sem, d0, d1, d2, d3, e0, e1, e2, e3]) rfl ⟨rfl, ?_⟩
  all_goals
    have hT8 : Touch [W.heap.size + 1, W.heap.size + 1 + 1] w8 _ := (touch_set4 (w := w8) (b := W.heap.size + 1) (x0 := .int .u64 1000000000000000000) (x1 := .int .u64 0) (x2 := .int .u64 0) (x3 := .int .u64 0) (by simp)).trans (fun _ hk => .inl hk) (touch_set4 (b := W.heap.size + 1 + 1) (x0 := .int .u64 750000000000000000) (x1 := .int .u64 0) (x2 := .int .u64 0) (x3 := .int .u64 0) (by simp))
    have hb8 := H0.out.1.trans ((HL7.out.1.trans (((Below.refl W7.heap.size W7).alloc (Nat.le_refl _) (.cells #[.int .i64 7, .int .i64 1] 3)).mono HL7.out.1.size)).mono H0.out.1.size)
    have hG8 : ∀ g ∈ [W.heap.size + 1, W.heap.size + 1 + 1], W.heap.size ≤ g ∧ g < (W7.alloc (.cells #[.int .i64 7, .int .i64 1] 3)).heap.size := fun g hg => by
      have h1 := hp_lt HL7.out.2.2.2.2
      simp only [List.mem_cons, List.not_mem_nil, or_false] at hg
      simp only [World.size_alloc]
      omega
    have hL8 := LiveTo.own H8.out HS.out.1 HS.out.2 hb8 [W.heap.size + 1, W.heap.size + 1 + 1] hG8 hT8
    with_reducible exact hL8.post ((Below.refl _ _).drew)
theorem lmA : intAt LM KM0 1 := .inr (by decide +kernel)
theorem lmB : sget LM KM1 = some (hpV 5 750000000000000000) := by decide +kernel
theorem lmC : sget LM ⟨#[]⟩ = none := by decide +kernel
def rx22 (k : Int) : Int := if k = 0 then 5 else 0
def ra22 (k : Int) : Nat := if k = 0 then 750000000000000000 else 0
def ro22 (k : Int) : Bool := decide (k = 0)
theorem reads22 {w W : World} {b : Nat} {F : List Nat} {q : Nat} {qs : List Value} (h : SNew w W b F LM q qs) (W1 : World) (g : Nat) (hb : Below W.heap.size W W1) (k : Int) (h1 : -1 ≤ k) (h2 : k < ((1 : Nat) : Int)) : Reads W1 (some ⟨b, 0, none⟩) 13 (some ⟨g, 0, none⟩) 2 2 (two2 7 1) k (rx22 k) (ra22 k) (ro22 k) := by
  rcases (by omega : k = -1 ∨ k = 0) with rfl | rfl
  · exact reads_none (h.below hb) 13 _ 2 2 (two2 7 1) (-1) ⟨#[]⟩ keyMm (by decide) (by decide) lmC
  · exact reads_some (h.below hb) 13 _ 2 2 (two2 7 1) 0 KM1 keyM1 5 750000000000000000 (by decide) (by decide) (by decide) (by decide) lmB
theorem mat22 {w W : World} {b : Nat} {F : List Nat} {q : Nat} {qs : List Value} (h : SNew w W b F LM q qs) (blk : Int) (Z : Nat) (hZ : hbs rx22 ro22 blk 1 0 1 = Z) (a : Nat) (o : Bool) (ha : ra22 ((Z : Int) - 1) = a) (ha2 : a < 2 ^ 64) (ho : ro22 ((Z : Int) - 1) = o) (y : Int)
    (HO : ∀ W, Calls Try.prog 102 #[.int .i64 7, .agg #[.int .u64 (a : Nat), .int .u64 0, .int .u64 0, .int .u64 0, .bool o]] W fun e w' => e = .returned (.agg #[.int .u64 y, .int .u64 0, .int .u64 0, .int .u64 0]) ∧ Below W.heap.size W w') :
    Calls Try.prog 54 #[.pointer (some ⟨b, 0, none⟩), .int .i64 7, .int .i64 1, .int .i64 blk] W fun e W' => e = .returned (.agg #[.int .u64 y, .int .u64 0, .int .u64 0, .int .u64 0]) ∧ Below W.heap.size W W' :=
  mat_walk (some ⟨b, 0, none⟩) 7 1 blk (by decide) (by decide) (a : Nat) o y W (fun W1 g hb hl => by
    have := hat_walk (some ⟨b, 0, none⟩) 13 (some ⟨g, 0, none⟩) 2 2 (two2 7 1) blk 1 rx22 ra22 ro22 W1 hl (fun h => by cases h) (by omega) (by omega) (fun W2 hb2 => hlen_live ((h.below hb).below hb2) 13 _ 2 2 (two2 7 1) (hl.below hb2) (by omega) KM0 keyM0 (by decide) 1 lmA (by decide)) (fun k h1 h2 => reads22 h W1 g hb k h1 h2) Z hZ
    rw [ha, ho, U_sm a ha2] at this
    exact this) HO
set_option maxRecDepth 100000 in
set_option maxHeartbeats 4000000 in
theorem lives22_walk (w : World) : Calls Try.prog 49 #[] w fun e w' => e = .returned (.bool true) ∧ Below w.heap.size w w' := by
  have D1 := Lib.hid (fun (W W1 : World) (b : Nat) (F : List Nat) (hl : LiveTo w W W1 b F [] 0) => hl.seq 2 (fun F1 qa qsa hs hqa => mcut_live hs (by omega)))
  have D4 := Lib.hid (fun (W W1 : World) (b : Nat) (F : List Nat) (hl : LiveTo w W W1 b F LM 2) => hl.read (fun F1 qa qsa hs hqa => mat22 hs 4 0 (by decide) 0 false (by decide) (by decide) (by decide) 1000000000000000000 (orOne_none 7)))
  have D5 := Lib.hid (fun (W W1 : World) (b : Nat) (F : List Nat) (hl : LiveTo w W W1 b F LM 2) => hl.read (fun F1 qa qsa hs hqa => mat22 hs 5 1 (by decide) 750000000000000000 true (by decide) (by decide) (by decide) 750000000000000000 orOne_some))
  have DC := Lib.hid (fun (W W1 : World) (b : Nat) (F : List Nat) (hl : LiveTo w W W1 b F LM 2) => hl.read (fun F1 qa qsa hs hqa => changes_walk (some ⟨b, 0, none⟩) 7 1 (by decide) (by decide) 1 W1 (fun W2 g hb hl2 => hlen_live (hs.below hb) 13 _ 2 2 (two2 7 1) hl2 (by omega) KM0 keyM0 (by decide) 1 lmA (by decide))))
  have hq1 := fun w => eqU 1000000000000000000 0 0 0 1000000000000000000 0 0 0 w
  have hq2 := fun w => eqU 750000000000000000 0 0 0 750000000000000000 0 0 0 w
  obtain ⟨lm, elm⟩ : ∃ x, x = LM := ⟨_, rfl⟩
  rw [← elm] at D1 D4 D5 DC
  clear elm
  go_enter Try.func49, Try.ntmps49
  go_wp2_with (first
    | (go_at_call 51; refine (D1.out _ _ _ _ h1.out.start).mono ?_; rintro e w2 ⟨rfl, hs2⟩; have h2 := Lib.hid hs2; clear hs2)
    | (go_at_call 13; refine (SNew.new w _ (Below.refl _ _)).mono ?_; rintro e w1 ⟨b, F1, rfl, hs1, _, _⟩; have h1 := Lib.hid hs1; clear hs1))
  obtain ⟨W3, hW3⟩ : ∃ W3, W3 = (w2.alloc (.cells #[.int .u64 1000000000000000000, .int .u64 0, .int .u64 0, .int .u64 0] 29)).alloc (.cells #[.int .u64 750000000000000000, .int .u64 0, .int .u64 0, .int .u64 0] 29) := ⟨_, rfl⟩
  have h3 := Lib.hid (show LiveTo w w1 W3 b F1 lm 2 from by rw [hW3]; exact (h2.out.al _).al _)
  have r3 : W3.heap[w2.heap.size + 1]? = some (.cells #[.int .u64 750000000000000000, .int .u64 0, .int .u64 0, .int .u64 0] 29 (0, 0)) := by
    rw [hW3]
    have := heap_alloc_new (w2.alloc (.cells #[.int .u64 1000000000000000000, .int .u64 0, .int .u64 0, .int .u64 0] 29)) (.cells #[.int .u64 750000000000000000, .int .u64 0, .int .u64 0, .int .u64 0] 29)
    rwa [World.size_alloc] at this
  rw [← hW3]
  clear hW3
  have f0 := fun (dq : Nat) (osq : Array Obj) => cell_regrown (w := W3) (a := ⟨w2.heap.size + 1, 0, none⟩) ((hp_cell (i := 0) r3).trans rfl) dq osq
  have f1 := fun (dq : Nat) (osq : Array Obj) => cell_regrown (w := W3) (a := ⟨w2.heap.size + 1, 1, none⟩) ((hp_cell (i := 1) r3).trans rfl) dq osq
  have f2 := fun (dq : Nat) (osq : Array Obj) => cell_regrown (w := W3) (a := ⟨w2.heap.size + 1, 2, none⟩) ((hp_cell (i := 2) r3).trans rfl) dq osq
  have f3 := fun (dq : Nat) (osq : Array Obj) => cell_regrown (w := W3) (a := ⟨w2.heap.size + 1, 3, none⟩) ((hp_cell (i := 3) r3).trans rfl) dq osq
  clear r3
  have E4 := Lib.hid (fun (dq : Nat) (osq : Array Obj) => (D4.out _ _ _ _ (h3.out.post (below_regrown W3 dq osq))).mono (R' := fun e w' => e = .returned (.agg #[.int .u64 1000000000000000000, .int .u64 0, .int .u64 0, .int .u64 0]) ∧ Below (grow (redrawn W3 dq) osq).heap.size (grow (redrawn W3 dq) osq) w') fun e w' hh => ⟨hh.1, hh.2.2⟩)
  have E5 := Lib.hid (fun (dq : Nat) (osq : Array Obj) => (D5.out _ _ _ _ (h3.out.post (below_regrown W3 dq osq))).mono (R' := fun e w' => e = .returned (.agg #[.int .u64 750000000000000000, .int .u64 0, .int .u64 0, .int .u64 0]) ∧ Below (grow (redrawn W3 dq) osq).heap.size (grow (redrawn W3 dq) osq) w') fun e w' hh => ⟨hh.1, hh.2.2⟩)
  have EC := Lib.hid (fun (dq : Nat) (osq : Array Obj) => (DC.out _ _ _ _ (h3.out.post (below_regrown W3 dq osq))).mono (R' := fun e w' => e = .returned (.int .i64 1) ∧ Below (grow (redrawn W3 dq) osq).heap.size (grow (redrawn W3 dq) osq) w') fun e w' hh => ⟨hh.1, hh.2.2⟩)
  have EO := Lib.hid one_v
  refine wp_region_quiet_below (by kernel_rfl) (by kernel_rfl) ?_
  repeat (quiet_step (first
    | (go_at_call 54; with_reducible exact Calls.regrown_of (E4.out _ _))
    | (go_at_call 54; with_reducible exact Calls.regrown_of (E5.out _ _))
    | (go_at_call 100; with_reducible exact Calls.regrown_of (EC.out _ _))
    | (go_at_call 53; with_reducible exact Calls.regrown_of (EO.out _))))
  refine wpQuiet_nil ?_
  intro _ hw'
  obtain ⟨⟨dq, osq⟩, hw''⟩ := hw'
  subst hw''
  have h9 := Lib.hid (h3.out.post (below_regrown W3 dq osq))
  go_wp2
  go_ret
  exact ⟨rfl, h9.out.l⟩
end Go.Proofs.Ytedkhpnlhkjjgaa

namespace Go.Proofs.Ytedkhpnlhkjjgaa
open Go.RowKit Go.Maps Go.Sort

set_option maxRecDepth 100000 in
set_option maxHeartbeats 1000000 in
/-- light of any row of acts -/
theorem light11_rows (A : Option Addr) (N C : Nat) (A0 : Nat → Option Addr) (k0 c0 : Nat → Nat) (x1 : Nat → Int) (a2 : Nat → Nat) (w : World) (hr : RowsV w A N 6 (fun i => [.slice (A0 i) (k0 i) (c0 i), .int .i64 (x1 i), .int .u64 (limb (a2 i) 0 : Nat), .int .u64 (limb (a2 i) 1 : Nat), .int .u64 (limb (a2 i) 2 : Nat), .int .u64 (limb (a2 i) 3 : Nat)])) (hN : (N : Int) ≤ 9223372036854775807) (hk : ∀ i, i < N → (k0 i : Int) ≤ 9223372036854775807)
    (B : Bool) (hB : B = true ↔ N ≤ 100 ∧ ∀ i, i < N → k0 i ≤ 5) :
    Calls Try.prog 11 #[.slice A N C] w fun e w' => e = .returned (.bool B) ∧ Below w.heap.size w w' := by
  have HB := Lib.hid hB
  have HR := Lib.hid hr
  have HK := Lib.hid hk
  clear hB hr hk
  by_cases h1 : N ≤ 100
  · have p1 : ¬ (100 : Int) < (N : Int) := by omega
    have h1' : (N : Int) ≤ 100 := by omega
    go_enter Try.func11, Try.ntmps11
    go_wp2
    go_loopw [10] (fun i wr => ∃ j : Nat, j ≤ N ∧ i = .int .i64 (j : Nat) ∧ Below w.heap.size w wr ∧ ∀ t, t < j → k0 t ≤ 5) (fun i _ => N - (intOf i).toNat)
    case atStart => exact ⟨0, by omega, rfl, Below.refl _ _, fun t h => absurd h (by omega)⟩
    case round =>
      obtain ⟨j, hj, rfl, hb, h5⟩ := hrel
      have HBl := Lib.hid hb
      have H5 := Lib.hid h5
      by_cases hlt : j < N
      · have p2 : (j : Int) < (N : Int) := by omega
        obtain ⟨g, o, rfl, hg, hc⟩ := (HR.out.below hb) (by omega)
        have d0 := hc j hlt 0 _ rfl
        have d1 := hc j hlt 1 _ rfl
        have d2 := hc j hlt 2 _ rfl
        have d3 := hc j hlt 3 _ rfl
        have d4 := hc j hlt 4 _ rfl
        have d5 := hc j hlt 5 _ rfl
        simp only [Nat.add_zero] at d0
        have hkj := HK.out j hlt
        obtain ⟨kj, ekj⟩ : ∃ z, z = k0 j := ⟨_, rfl⟩
        rw [← ekj] at d0 hkj
        have HE := Lib.hid ekj
        clear hb h5 hc ekj
        by_cases hn5 : kj ≤ 5
        · have p3 : ¬ (5 : Int) < (kj : Int) := by omega
          go_wp2
          exact ⟨⟨j + 1, by omega, by go_num, HBl.out.alloc HBl.out.size _, fun t ht => by
            rcases (by omega : t < j ∨ t = j) with h | rfl
            · exact H5.out t h
            · rw [← HE.out]; exact hn5⟩, by simp [intOf]; omega⟩
        · have p3 : (5 : Int) < (kj : Int) := by omega
          have e0 : B = false := by
            cases hBv : B with
            | false => rfl
            | true => exact absurd ((HB.out.1 hBv).2 j hlt) (by rw [← HE.out]; exact hn5)
          subst e0
          go_wp2
          go_ret
          exact ⟨rfl, HBl.out.alloc HBl.out.size _⟩
      · obtain rfl : j = N := by omega
        have e0 : B = true := HB.out.2 ⟨h1, H5.out⟩
        subst e0
        clear hb h5
        go_wp2
        go_ret
        exact ⟨rfl, HBl.out⟩
  · have p1 : (100 : Int) < (N : Int) := by omega
    have e0 : B = false := by
      cases hBv : B with
      | false => rfl
      | true => exact absurd (HB.out.1 hBv).1 h1
    subst e0
    go_enter Try.func11, Try.ntmps11
    go_wp2
    go_ret
    exact ⟨rfl, Below.refl _ _⟩
/-- the history of the laws: table 9, id [1] -/
def hK0 : ByteArray := keyStr 9 (fun _ => 1) 1
def hKp (k : Int) : ByteArray := keyStr 9 (icat (fun _ => 1) 1 fun _ => k) (1 + 1)
theorem hKp_last : ∀ k : Fin 128, (hKp (k.val : Int)).size = 17 ∧ (hKp (k.val : Int)).get! 16 = UInt8.ofNat k.val := by decide +kernel
theorem hKeysOk : KeysOk hK0 hKp := by
  have e0 : hK0.size = 9 := by decide +kernel
  have en : hKp (-1) = ⟨#[]⟩ := by decide +kernel
  refine ⟨⟨by rw [e0]; decide, fun e => by rw [e] at e0; exact absurd e0 (by decide)⟩, fun k hk => ?_, ⟨by rw [en]; decide, by rw [en]; intro e; rw [← e] at e0; exact absurd e0 (by decide)⟩, fun j k hj hk he => ?_⟩
  · have h := (hKp_last ⟨k, hk⟩).1
    simp only at h
    refine ⟨by rw [h]; decide, fun e => ?_, fun e => ?_, fun e => ?_⟩
    · rw [e] at h; exact absurd h (by decide)
    · rw [e, e0] at h; exact absurd h (by decide)
    · rw [e, en] at h; exact absurd h (by decide)
  · have h1 := (hKp_last ⟨j, hj⟩).2
    have h2 := (hKp_last ⟨k, hk⟩).2
    simp only at h1 h2
    rw [he, h2] at h1
    have := congrArg UInt8.toNat h1
    simp at this
    omega
end Go.Proofs.Ytedkhpnlhkjjgaa

namespace Go.Proofs.Ytedkhpnlhkjjgaa
open Go.RowKit

theorem set4_row {w : World} {g : Nat} {t : TypeId} {a b c d : Value} (x0 x1 x2 x3 : Value) (h : w.heap[g]? = some (.cells #[a, b, c, d] t (0, 0))) :
    ((((w.setCell ⟨g, 0, none⟩ x0).setCell ⟨g, 1, none⟩ x1).setCell ⟨g, 2, none⟩ x2).setCell ⟨g, 3, none⟩ x3).heap[g]? = some (.cells #[x0, x1, x2, x3] t (0, 0)) :=
  heap_setCell_row (heap_setCell_row (heap_setCell_row (heap_setCell_row h x0) x1) x2) x3
theorem set4_far {w : World} {g g' : Nat} (x0 x1 x2 x3 : Value) (hne : g ≠ g') {o : Obj} (h : w.heap[g']? = some o) :
    ((((w.setCell ⟨g, 0, none⟩ x0).setCell ⟨g, 1, none⟩ x1).setCell ⟨g, 2, none⟩ x2).setCell ⟨g, 3, none⟩ x3).heap[g']? = some o := by
  rw [Below.heap_setCell _ _ _ _ hne.symm, Below.heap_setCell _ _ _ _ hne.symm, Below.heap_setCell _ _ _ _ hne.symm, Below.heap_setCell _ _ _ _ hne.symm]
  exact h
end Go.Proofs.Ytedkhpnlhkjjgaa
