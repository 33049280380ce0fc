/- wad.Most, walked; the two great numbers of wad. -/
import Derived.Test.YtedkhpnlhkjjgaaG24
import Derived.Test.YtedkhpnlhkjjgaaG25
import Derived.Test.YtedkhpnlhkjjgaaG18
namespace Go.Proofs.Ytedkhpnlhkjjgaa
open Go.RowKit Go.Sort

def WAD : Nat := 1000000000000000000
def MOST : Nat := 340282366920938463463374607431768211455
theorem WAD_lt : WAD < 2 ^ 256 := by decide
theorem MOST_lt : MOST < 2 ^ 256 := by decide
theorem U_WAD : U WAD = .agg #[.int .u64 1000000000000000000, .int .u64 0, .int .u64 0, .int .u64 0] := U_small (n := 1000000000000000000) (by decide)
theorem U_MOST : U MOST = .agg #[.int .u64 18446744073709551615, .int .u64 18446744073709551615, .int .u64 0, .int .u64 0] := by
  unfold U
  rw [show limb MOST 0 = 18446744073709551615 by decide, show limb MOST 1 = 18446744073709551615 by decide, show limb MOST 2 = 0 by decide, show limb MOST 3 = 0 by decide]; rfl
set_option maxRecDepth 100000 in
theorem most_walk (w : World) : Calls Try.prog 128 #[] w fun e w' => e = .returned (U MOST) ∧ Below w.heap.size w w' := by
  rw [U_MOST]
  go_enter Try.func128, Try.ntmps128
  go_wp2
  refine bodyPost_ret (v := .agg #[.int .u64 18446744073709551615, .int .u64 18446744073709551615, .int .u64 0, .int .u64 0]) (by simp [results, Try.results128, go_sem]) rfl ⟨rfl, (Below.refl _ _).alloc (Nat.le_refl _) _⟩
end Go.Proofs.Ytedkhpnlhkjjgaa

namespace Go.Proofs.Ytedkhpnlhkjjgaa
open Go.RowKit Go.Sort

theorem ofWAD_c (w : World) : Calls Try.prog 105 #[.int .u64 1000000000000000000] w fun e w' => e = .returned (.agg #[.int .u64 1000000000000000000, .int .u64 0, .int .u64 0, .int .u64 0]) ∧ Below w.heap.size w w' := by
  have h := of_walk 1000000000000000000 w
  exact h.mono fun e w' ⟨he, hw⟩ => ⟨by rw [he]; rfl, hw⟩
set_option maxRecDepth 100000 in
theorem one_walk (w : World) : Calls Try.prog 53 #[] w fun e w' => e = .returned (U WAD) ∧ Below w.heap.size w w' := by
  rw [U_WAD]
  go_enter Try.func53, Try.ntmps53
  go_wp2_with (go_at_call 105; refine (ofWAD_c _).mono ?_; rintro e w1 ⟨rfl, hb1⟩; have hz : Arr .u64 w1 w.heap.size 4 (fun _ => 0) := Arr.below (Arr.new4 (f := fun _ => 0) rfl) hb1 (by rw [World.size_alloc]; omega); obtain ⟨y0, y1, y2, y3⟩ := hz.frees4; obtain ⟨z0, z1, z2, z3⟩ := hz.cells4)
  refine bodyPost_ret (v := .agg #[.int .u64 1000000000000000000, .int .u64 0, .int .u64 0, .int .u64 0]) (by simp [results, Try.results53, go_sem, z0, z1, z2, z3]) rfl ⟨rfl, below_set4 (((Below.refl _ _).alloc (Nat.le_refl _) _).trans (hb1.mono (by rw [World.size_alloc]; omega))) (by omega)⟩
end Go.Proofs.Ytedkhpnlhkjjgaa

namespace Go.Proofs.Ytedkhpnlhkjjgaa
open Go.RowKit Go.Maps Go.Sort

theorem eqF0 (w : World) : (Op.equalIn 10000 155 (.agg #[.int .u64 0, .int .u64 0, .int .u64 0, .int .u64 0, .bool false]) (.agg #[.int .u64 0, .int .u64 0, .int .u64 0, .int .u64 0, .bool false])).run Try.prog w = .ok true w := by kernel_rfl
theorem eqF1 (w : World) : (Op.equalIn 10000 155 (.agg #[.int .u64 750000000000000000, .int .u64 0, .int .u64 0, .int .u64 0, .bool true]) (.agg #[.int .u64 0, .int .u64 0, .int .u64 0, .int .u64 0, .bool false])).run Try.prog w = .ok false w := by kernel_rfl
/-- a number of one word -/
abbrev V1 (x : Int) : Value := .agg #[.int .u64 x, .int .u64 0, .int .u64 0, .int .u64 0]
theorem one_v (w : World) : Calls Try.prog 53 #[] w fun e w' => e = .returned (.agg #[.int .u64 1000000000000000000, .int .u64 0, .int .u64 0, .int .u64 0]) ∧ Below w.heap.size w w' := by
  have h := one_walk w
  rw [U_WAD] at h
  exact h
set_option maxRecDepth 100000 in
set_option maxHeartbeats 1000000 in
theorem orOne_none (o : Int) (w : World) : Calls Try.prog 102 #[.int .i64 o, .agg #[.int .u64 0, .int .u64 0, .int .u64 0, .int .u64 0, .bool false]] w fun e w' => e = .returned (.agg #[.int .u64 1000000000000000000, .int .u64 0, .int .u64 0, .int .u64 0]) ∧ Below w.heap.size w w' := by
  have hq := eqF0
  have hb0 := ((Below.refl w.heap.size w).alloc (Nat.le_refl _) (.cells #[.int .u64 0, .int .u64 0, .int .u64 0, .int .u64 0, .bool false] 155)).alloc (by simp) (.cells #[.int .u64 0, .int .u64 0, .int .u64 0, .int .u64 0] 29)
  have r0 := heap_alloc_new (w.alloc (.cells #[.int .u64 0, .int .u64 0, .int .u64 0, .int .u64 0, .bool false] 155)) (.cells #[.int .u64 0, .int .u64 0, .int .u64 0, .int .u64 0] 29)
  rw [World.size_alloc] at r0
  have H0 := Lib.hid (And.intro hb0 r0)
  clear hb0 r0
  by_cases ho : o = 0
  · subst ho
    go_enter Try.func102, Try.ntmps102
    go_wp2_with (go_at_call 53; refine (one_v _).mono ?_; rintro e w1 ⟨rfl, hb1⟩; have rx := (hb1.block (w.heap.size + 1) (by simp)).trans H0.out.2; have RX := Lib.hid rx; have HB := Lib.hid (H0.out.1.trans (hb1.mono H0.out.1.size)); have d0 := (hp_cell (i := 0) rx).trans rfl; have d1 := (hp_cell (i := 1) rx).trans rfl; have d2 := (hp_cell (i := 2) rx).trans rfl; have d3 := (hp_cell (i := 3) rx).trans rfl; have g0 := hp_free (i := 0) rx; have g1 := hp_free (i := 1) rx; have g2 := hp_free (i := 2) rx; have g3 := hp_free (i := 3) rx; clear hb1 rx)
    refine bodyPost_ret (v := .agg #[.int .u64 1000000000000000000, .int .u64 0, .int .u64 0, .int .u64 0]) (by simp [results, Try.results102, go_sem, d0, d1, d2, d3]) rfl ⟨rfl, below_set4 HB.out (by omega)⟩
  · go_enter Try.func102, Try.ntmps102
    go_wp2_with (go_at_call 53; refine (one_v _).mono ?_; rintro e w1 ⟨rfl, hb1⟩; have rx := (hb1.block (w.heap.size + 1) (by simp)).trans H0.out.2; have RX := Lib.hid rx; have HB := Lib.hid (H0.out.1.trans (hb1.mono H0.out.1.size)); have d0 := (hp_cell (i := 0) rx).trans rfl; have d1 := (hp_cell (i := 1) rx).trans rfl; have d2 := (hp_cell (i := 2) rx).trans rfl; have d3 := (hp_cell (i := 3) rx).trans rfl; have g0 := hp_free (i := 0) rx; have g1 := hp_free (i := 1) rx; have g2 := hp_free (i := 2) rx; have g3 := hp_free (i := 3) rx; clear hb1 rx)
    refine bodyPost_ret (v := .agg #[.int .u64 1000000000000000000, .int .u64 0, .int .u64 0, .int .u64 0]) (by simp [results, Try.results102, go_sem, d0, d1, d2, d3]) rfl ⟨rfl, below_set4 HB.out (by omega)⟩
set_option maxRecDepth 100000 in
set_option maxHeartbeats 1000000 in
theorem orOne_some (w : World) : Calls Try.prog 102 #[.int .i64 7, .agg #[.int .u64 750000000000000000, .int .u64 0, .int .u64 0, .int .u64 0, .bool true]] w fun e w' => e = .returned (.agg #[.int .u64 750000000000000000, .int .u64 0, .int .u64 0, .int .u64 0]) ∧ Below w.heap.size w w' := by
  have hq := eqF1
  go_enter Try.func102, Try.ntmps102
  go_wp2
  refine bodyPost_ret (v := .agg #[.int .u64 750000000000000000, .int .u64 0, .int .u64 0, .int .u64 0]) (by simp [results, Try.results102, go_sem]) rfl ⟨rfl, ?_⟩
  exact ((Below.refl _ _).alloc (Nat.le_refl _) _).alloc (by simp) _
set_option maxRecDepth 100000 in
set_option maxHeartbeats 1000000 in
theorem mmax_walk (P : Option Addr) (o s : Int) (ho : o < 2 ^ 63) (hs : s < 2 ^ 63) (x : Int) (ok : Bool) (y : Int) (w : World)
    (HL : ∀ (W : World) (g : Nat), Below w.heap.size w W → Il W (some ⟨g, 0, none⟩) 2 (two2 o s) → Calls Try.prog 101 #[.pointer P, .int .i64 13, .slice (some ⟨g, 0, none⟩) 2 2] W fun e w' => e = .returned (.tuple #[.agg #[.int .u64 x, .int .u64 0, .int .u64 0, .int .u64 0], .bool ok]) ∧ Below W.heap.size W w')
    (HO : ∀ W, Calls Try.prog 102 #[.int .i64 o, .agg #[.int .u64 x, .int .u64 0, .int .u64 0, .int .u64 0, .bool ok]] W fun e w' => e = .returned (.agg #[.int .u64 y, .int .u64 0, .int .u64 0, .int .u64 0]) ∧ Below W.heap.size W w') :
    Calls Try.prog 50 #[.pointer P, .int .i64 o, .int .i64 s] w fun e w' => e = .returned (.agg #[.int .u64 y, .int .u64 0, .int .u64 0, .int .u64 0]) ∧ Below w.heap.size w w' := by
  obtain ⟨W0, hW0⟩ : ∃ W0, W0 = w.alloc (.cells #[.int .u64 0, .int .u64 0, .int .u64 0, .int .u64 0] 29) := ⟨_, rfl⟩
  have hb0 : Below w.heap.size w W0 := by rw [hW0]; exact (Below.refl _ _).alloc (Nat.le_refl _) _
  have r0 : W0.heap[w.heap.size]? = some (.cells #[.int .u64 0, .int .u64 0, .int .u64 0, .int .u64 0] 29 (0, 0)) := by rw [hW0]; exact heap_alloc_new _ _
  have hb1 := (Below.refl W0.heap.size W0).alloc (Nat.le_refl _) (.cells #[.int .i64 o, .int .i64 s] 3)
  have HLs := Lib.hid (HL (W0.alloc (.cells #[.int .i64 o, .int .i64 s] 3)) W0.heap.size (hb0.trans (hb1.mono hb0.size)) (il2 o s W0 3 ho hs))
  have HOr := Lib.hid HO
  have H1 := Lib.hid (And.intro (hb0.trans (hb1.mono hb0.size)) ((hb1.block _ (hp_lt r0)).trans r0))
  have HW := Lib.hid hW0
  clear HL HO ho hs hW0 hb0 r0 hb1
  go_enter Try.func50, Try.ntmps50
  go_upto_region 1 with fail
  rw [← HW.out]
  go_wp2_with (first
    | (go_at_call 102; have g5 := H2; clear g5; refine (HOr.out _).mono ?_; rintro e w3 ⟨rfl, hb3⟩; have hbx := (Below.refl w2.heap.size w2).alloc (Nat.le_refl _) (.cells #[.int .u64 x, .int .u64 0, .int .u64 0, .int .u64 0] 29); have hby := hbx.trans (hb3.mono hbx.size); have rx := (hby.block w.heap.size (hp_lt H2.out.2)).trans H2.out.2; have RX := Lib.hid rx; have HB := Lib.hid (H2.out.1.trans (hby.mono H2.out.1.size)); have d0 := (hp_cell (i := 0) rx).trans rfl; have d1 := (hp_cell (i := 1) rx).trans rfl; have d2 := (hp_cell (i := 2) rx).trans rfl; have d3 := (hp_cell (i := 3) rx).trans rfl; have g0 := hp_free (i := 0) rx; have g1 := hp_free (i := 1) rx; have g2 := hp_free (i := 2) rx; have g3 := hp_free (i := 3) rx; clear hb3 rx hbx hby)
    | (go_at_call 101; refine HLs.out.mono ?_; rintro e w2 ⟨rfl, hb2⟩; have H2 := Lib.hid (And.intro (H1.out.1.trans (hb2.mono H1.out.1.size)) ((hb2.block _ (hp_lt H1.out.2)).trans H1.out.2)); clear hb2))
  refine bodyPost_ret (v := .agg #[.int .u64 y, .int .u64 0, .int .u64 0, .int .u64 0]) (by simp [results, Try.results50, go_sem, d0, d1, d2, d3]) rfl ⟨rfl, below_set4 HB.out (Nat.le_refl _)⟩
set_option maxRecDepth 100000 in
set_option maxHeartbeats 1000000 in
theorem mat_walk (P : Option Addr) (o s : Int) (k : Int) (ho : o < 2 ^ 63) (hs : s < 2 ^ 63) (x : Int) (ok : Bool) (y : Int) (w : World)
    (HL : ∀ (W : World) (g : Nat), Below w.heap.size w W → Il W (some ⟨g, 0, none⟩) 2 (two2 o s) → Calls Try.prog 15 #[.pointer P, .int .i64 13, .slice (some ⟨g, 0, none⟩) 2 2, .int .i64 k] W fun e w' => e = .returned (.tuple #[.agg #[.int .u64 x, .int .u64 0, .int .u64 0, .int .u64 0], .bool ok]) ∧ Below W.heap.size W w')
    (HO : ∀ W, Calls Try.prog 102 #[.int .i64 o, .agg #[.int .u64 x, .int .u64 0, .int .u64 0, .int .u64 0, .bool ok]] W fun e w' => e = .returned (.agg #[.int .u64 y, .int .u64 0, .int .u64 0, .int .u64 0]) ∧ Below W.heap.size W w') :
    Calls Try.prog 54 #[.pointer P, .int .i64 o, .int .i64 s, .int .i64 k] w fun e w' => e = .returned (.agg #[.int .u64 y, .int .u64 0, .int .u64 0, .int .u64 0]) ∧ Below w.heap.size w w' := by
  obtain ⟨W0, hW0⟩ : ∃ W0, W0 = w.alloc (.cells #[.int .u64 0, .int .u64 0, .int .u64 0, .int .u64 0] 29) := ⟨_, rfl⟩
  have hb0 : Below w.heap.size w W0 := by rw [hW0]; exact (Below.refl _ _).alloc (Nat.le_refl _) _
  have r0 : W0.heap[w.heap.size]? = some (.cells #[.int .u64 0, .int .u64 0, .int .u64 0, .int .u64 0] 29 (0, 0)) := by rw [hW0]; exact heap_alloc_new _ _
  have hb1 := (Below.refl W0.heap.size W0).alloc (Nat.le_refl _) (.cells #[.int .i64 o, .int .i64 s] 3)
  have HLs := Lib.hid (HL (W0.alloc (.cells #[.int .i64 o, .int .i64 s] 3)) W0.heap.size (hb0.trans (hb1.mono hb0.size)) (il2 o s W0 3 ho hs))
  have HOr := Lib.hid HO
  have H1 := Lib.hid (And.intro (hb0.trans (hb1.mono hb0.size)) ((hb1.block _ (hp_lt r0)).trans r0))
  have HW := Lib.hid hW0
  clear HL HO ho hs hW0 hb0 r0 hb1
  go_enter Try.func54, Try.ntmps54
  go_upto_region 1 with fail
  rw [← HW.out]
  go_wp2_with (first
    | (go_at_call 102; have g5 := H2; clear g5; refine (HOr.out _).mono ?_; rintro e w3 ⟨rfl, hb3⟩; have hbx := (Below.refl w2.heap.size w2).alloc (Nat.le_refl _) (.cells #[.int .u64 x, .int .u64 0, .int .u64 0, .int .u64 0] 29); have hby := hbx.trans (hb3.mono hbx.size); have rx := (hby.block w.heap.size (hp_lt H2.out.2)).trans H2.out.2; have RX := Lib.hid rx; have HB := Lib.hid (H2.out.1.trans (hby.mono H2.out.1.size)); have d0 := (hp_cell (i := 0) rx).trans rfl; have d1 := (hp_cell (i := 1) rx).trans rfl; have d2 := (hp_cell (i := 2) rx).trans rfl; have d3 := (hp_cell (i := 3) rx).trans rfl; have g0 := hp_free (i := 0) rx; have g1 := hp_free (i := 1) rx; have g2 := hp_free (i := 2) rx; have g3 := hp_free (i := 3) rx; clear hb3 rx hbx hby)
    | (go_at_call 15; refine HLs.out.mono ?_; rintro e w2 ⟨rfl, hb2⟩; have H2 := Lib.hid (And.intro (H1.out.1.trans (hb2.mono H1.out.1.size)) ((hb2.block _ (hp_lt H1.out.2)).trans H1.out.2)); clear hb2))
  refine bodyPost_ret (v := .agg #[.int .u64 y, .int .u64 0, .int .u64 0, .int .u64 0]) (by simp [results, Try.results54, go_sem, d0, d1, d2, d3]) rfl ⟨rfl, below_set4 HB.out (Nat.le_refl _)⟩
end Go.Proofs.Ytedkhpnlhkjjgaa
