/- wad.Most, walked; the two great numbers of wad. -/
import Derived.Test.YtedkhpnlhkjjgaaG25
import Derived.Test.YtedkhpnlhkjjgaaG16
import Derived.Test.YtedkhpnlhkjjgaaG13
import Derived.Test.YtedkhpnlhkjjgaaG17
import Derived.Test.YtedkhpnlhkjjgaaG22
import Derived.Test.YtedkhpnlhkjjgaaG23
import Derived.Test.YtedkhpnlhkjjgaaG15
namespace Go.Proofs.Ytedkhpnlhkjjgaa
open Go.RowKit Go.Sort

def WAD : Nat := 1000000000000000000
def MOST : Nat := 340282366920938463463374607431768211455
theorem WAD_lt : WAD < 2 ^ 256 := by decide
theorem MOST_lt : MOST < 2 ^ 256 := by decide
theorem U_WAD : U WAD = .agg #[.int .u64 1000000000000000000, .int .u64 0, .int .u64 0, .int .u64 0] := U_small (n := 1000000000000000000) (by decide)
theorem U_MOST : U MOST = .agg #[.int .u64 18446744073709551615, .int .u64 18446744073709551615, .int .u64 0, .int .u64 0] := by
  unfold U
  rw [show limb MOST 0 = 18446744073709551615 by decide, show limb MOST 1 = 18446744073709551615 by decide, show limb MOST 2 = 0 by decide, show limb MOST 3 = 0 by decide]; rfl
set_option maxRecDepth 100000 in
theorem most_walk (w : World) : Calls Try.prog 128 #[] w fun e w' => e = .returned (U MOST) ∧ Below w.heap.size w w' := by
  rw [U_MOST]
  go_enter Try.func128, Try.ntmps128
  go_wp2
  refine bodyPost_ret (v := .agg #[.int .u64 18446744073709551615, .int .u64 18446744073709551615, .int .u64 0, .int .u64 0]) (by simp [results, Try.results128, go_sem]) rfl ⟨rfl, (Below.refl _ _).alloc (Nat.le_refl _) _⟩
end Go.Proofs.Ytedkhpnlhkjjgaa

namespace Go.Proofs.Ytedkhpnlhkjjgaa
open Go.RowKit Go.Sort

theorem cmpU_le (a b : Nat) : cmpU a b ≤ 0 ↔ a ≤ b := by
  unfold cmpU
  by_cases h : a = b
  · rw [if_pos h]; omega
  · rw [if_neg h]
    by_cases h2 : b ≤ a
    · rw [if_pos h2]; omega
    · rw [if_neg h2]; omega
/-- a number in a box -/
structure One' (w wr : World) (a : Nat) : Prop where
  a : Arr .u64 wr w.heap.size 4 (limb a)
  l : Below w.heap.size w wr
  s : w.heap.size < wr.heap.size
theorem One'.below {w wr w' : World} {a : Nat} (h : One' w wr a) (hb : Below wr.heap.size wr w') : One' w w' a := by
  have := h.s; have := hb.size
  exact ⟨h.a.below hb h.s, h.l.trans (hb.mono (by omega)), by omega⟩
theorem One'.drew {w wr : World} {a : Nat} (h : One' w wr a) : One' w wr.drew a := ⟨h.a.drew, below_drewN h.l 1, h.s⟩
theorem one_first {a : Nat} {w : World} {t : TypeId} : One' w (w.alloc (.cells #[.int .u64 (limb a 0 : Nat), .int .u64 (limb a 1 : Nat), .int .u64 (limb a 2 : Nat), .int .u64 (limb a 3 : Nat)] t)) a :=
  ⟨Arr.new4 (f := limb a) rfl, (Below.refl _ _).alloc (Nat.le_refl _) _, by simp⟩
theorem held1 {w w' : World} {a : Nat} (h : One' w w' a) : w'.cell? ⟨w.heap.size, 0, none⟩ = some (.int .u64 (limb a 0 : Nat)) ∧ w'.cell? ⟨w.heap.size, 1, none⟩ = some (.int .u64 (limb a 1 : Nat)) ∧ w'.cell? ⟨w.heap.size, 2, none⟩ = some (.int .u64 (limb a 2 : Nat)) ∧ w'.cell? ⟨w.heap.size, 3, none⟩ = some (.int .u64 (limb a 3 : Nat)) ∧ One' w w' a := by
  obtain ⟨a0, a1, a2, a3⟩ := h.a.cells4
  exact ⟨a0, a1, a2, a3, h⟩
theorem un_held1 {w w' : World} {a : Nat} (h : w'.cell? ⟨w.heap.size, 0, none⟩ = some (.int .u64 (limb a 0 : Nat)) ∧ w'.cell? ⟨w.heap.size, 1, none⟩ = some (.int .u64 (limb a 1 : Nat)) ∧ w'.cell? ⟨w.heap.size, 2, none⟩ = some (.int .u64 (limb a 2 : Nat)) ∧ w'.cell? ⟨w.heap.size, 3, none⟩ = some (.int .u64 (limb a 3 : Nat)) ∧ One' w w' a) : One' w w' a := h.2.2.2.2

set_option maxRecDepth 100000 in
set_option maxHeartbeats 2000000 in
theorem amount_walk (a : Nat) (w : World) (ha : a < 2 ^ 256) : Calls Try.prog 86 #[U a] w fun e w' => e = .returned (.bool (decide (a ≤ MOST))) ∧ Below w.heap.size w w' := by
  have Ha := Lib.hid ha
  obtain ⟨c, hc⟩ : ∃ c, c = cmpU a MOST := ⟨_, rfl⟩
  obtain ⟨ok, hok⟩ : ∃ x, x = decide (a ≤ MOST) := ⟨_, rfl⟩
  rw [← hok]
  have hdec : decide (c ≤ 0) = ok := by rw [hok, hc]; exact decide_eq_decide.2 (cmpU_le a MOST)
  have Hc := Lib.hid hc
  have Hok := Lib.hid hok
  clear ha hc hok
  unfold U
  go_enter Try.func86, Try.ntmps86
  go_upto_region 1 with (fail)
  have T0 := Lib.hid (one_first (a := a) (w := w) (t := 29))
  go_region_held3 (fun w' => w'.cell? ⟨w.heap.size, 0, none⟩ = some (.int .u64 (limb a 0 : Nat)) ∧ w'.cell? ⟨w.heap.size, 1, none⟩ = some (.int .u64 (limb a 1 : Nat)) ∧ w'.cell? ⟨w.heap.size, 2, none⟩ = some (.int .u64 (limb a 2 : Nat)) ∧ w'.cell? ⟨w.heap.size, 3, none⟩ = some (.int .u64 (limb a 3 : Nat)) ∧ One' w w' a)
    ((refine held1 ?_; repeat (first | with_reducible exact u2 | with_reducible exact u1 | with_reducible exact T0.out | with_reducible refine One'.drew ?_ | with_reducible exact un_held1 (by with_reducible assumption))))
    (first
      | (go_at_call 127; refine (cmp_walk a MOST _ Ha.out MOST_lt).mono ?_; rintro e w2 ⟨rfl, hb2⟩; have u2 := u1.below hb2; rw [← Hc.out])
      | (go_at_call 128; refine (most_walk _).mono ?_; rintro e w1 ⟨rfl, hb1⟩; have u1 : One' w w1 a := One'.below (un_held1 (by with_reducible assumption)) hb1; unfold U))
  go_wp2
  refine bodyPost_ret (v := .bool ok) (by simp [results, Try.results86, go_sem]) rfl ⟨rfl, u2.l⟩
end Go.Proofs.Ytedkhpnlhkjjgaa

namespace Go.Proofs.Ytedkhpnlhkjjgaa
open Go.RowKit Go.Maps Go.Sort

/-- the amount at a key -/
def amtAt (L : SL) (k : ByteArray) (a : Nat) : Prop := (a = 0 ∧ sget L k = none) ∨ sget L k = some (amtStr a)
/-- what SetAmount leaves -/
def setA (L : SL) (k : ByteArray) (a : Nat) : SL := if a = 0 then sdel L k else setL L k (amtStr a)
theorem amtStr_ne (a : Nat) : amtStr a ≠ ⟨#[]⟩ := by
  intro e
  have := amtStr_size a
  rw [e] at this
  exact absurd this (by decide)
set_option maxRecDepth 100000 in
set_option maxHeartbeats 1000000 in
theorem camount_walk (P : Option Addr) (k V : ByteArray) (is ok : Bool) (a : Nat) (w : World) (hV : fbv V = a) (hok : decide (V.size = 32) = ok) (HG : Calls Try.prog 47 #[.pointer P, .string k] (w.alloc (.cells #[.int .u64 0, .int .u64 0, .int .u64 0, .int .u64 0] 29)) fun e w' => e = .returned (.tuple #[.string V, .bool is]) ∧ Below (w.alloc (.cells #[.int .u64 0, .int .u64 0, .int .u64 0, .int .u64 0] 29)).heap.size (w.alloc (.cells #[.int .u64 0, .int .u64 0, .int .u64 0, .int .u64 0] 29)) w') :
    Calls Try.prog 126 #[.pointer P, .string k] w fun e w' => e = .returned (.agg #[.int .u64 (limb a 0 : Nat), .int .u64 (limb a 1 : Nat), .int .u64 (limb a 2 : Nat), .int .u64 (limb a 3 : Nat)]) ∧ Below w.heap.size w w' := by
  have hb0 := (Below.refl w.heap.size w).alloc (Nat.le_refl _) (.cells #[.int .u64 0, .int .u64 0, .int .u64 0, .int .u64 0] 29)
  have r0 := heap_alloc_new w (.cells #[.int .u64 0, .int .u64 0, .int .u64 0, .int .u64 0] 29)
  have H0 := Lib.hid (And.intro hb0 r0)
  have HGs := Lib.hid HG
  have HT := Lib.hid (fun W => toAmount_walk V a ok W hV hok)
  clear hb0 r0 HG hV hok
  go_enter Try.func126, Try.ntmps126
  go_wp2_with (first
    | (go_at_call 114; refine (HT.out _).mono ?_; rintro e w2 ⟨rfl, hb2⟩; unfold U; have r2 := (hb2.block _ (hp_lt H1.out.2)).trans H1.out.2; have hbx := (Below.refl w2.heap.size w2).alloc (Nat.le_refl _) (.cells #[.int .u64 (limb a 0 : Nat), .int .u64 (limb a 1 : Nat), .int .u64 (limb a 2 : Nat), .int .u64 (limb a 3 : Nat)] 29); have rx := (hbx.block _ (hp_lt r2)).trans r2; have RX := Lib.hid rx; have H2 := Lib.hid (H1.out.1.trans ((hb2.trans (hbx.mono hb2.size)).mono H1.out.1.size)); have d0 := (hp_cell (i := 0) rx).trans rfl; have d1 := (hp_cell (i := 1) rx).trans rfl; have d2 := (hp_cell (i := 2) rx).trans rfl; have d3 := (hp_cell (i := 3) rx).trans rfl; have g0 := hp_free (i := 0) rx; have g1 := hp_free (i := 1) rx; have g2 := hp_free (i := 2) rx; have g3 := hp_free (i := 3) rx; clear hb2 r2 hbx rx)
    | (go_at_call 47; refine HGs.out.mono ?_; rintro e w1 ⟨rfl, hb1⟩; have H1 := Lib.hid (And.intro (H0.out.1.trans (hb1.mono H0.out.1.size)) ((hb1.block _ (hp_lt H0.out.2)).trans H0.out.2)); clear hb1))
  obtain ⟨e0, e1, e2, e3⟩ := ((arr_zero RX.out).put4 (n := a)).cells4
  refine bodyPost_ret (v := .agg #[.int .u64 (limb a 0 : Nat), .int .u64 (limb a 1 : Nat), .int .u64 (limb a 2 : Nat), .int .u64 (limb a 3 : Nat)]) (by simp [results, Try.results126, go_sem, e0, e1, e2, e3]) rfl ⟨rfl, below_set4 H2.out (Nat.le_refl _)⟩
theorem camount_at {w W : World} {b : Nat} {F : List Nat} {L : SL} {q : Nat} {qs : List Value} (h : SNew w W b F L q qs) (k : ByteArray) (a : Nat) (hk : k.size ≤ maxLen) (he : amtAt L k a) (ha : a < 2 ^ 256) :
    Calls Try.prog 126 #[.pointer (some ⟨b, 0, none⟩), .string k] W fun e W' => e = .returned (U a) ∧ Below W.heap.size W W' := by
  have hs := h.al (.cells #[.int .u64 0, .int .u64 0, .int .u64 0, .int .u64 0] 29)
  rcases he with ⟨rfl, he⟩ | he
  · exact camount_walk _ k ⟨#[]⟩ false false 0 W (by decide) (by decide) ((hs.get_none k hk he).mono fun e w' hh => ⟨hh.1, hh.2.2⟩)
  · exact camount_walk _ k (amtStr a) true true a W (amt_fbv a ha) (by rw [amtStr_size]; rfl) ((hs.get_some k _ hk he).mono fun e w' hh => ⟨hh.1, hh.2.2⟩)
theorem camount_dead (P : Option Addr) (k : ByteArray) (w : World) (h : SDead w (.pointer P)) : Calls Try.prog 126 #[.pointer P, .string k] w fun e w' => e = .returned (U 0) ∧ Below w.heap.size w w' :=
  camount_walk P k ⟨#[]⟩ false false 0 w (by decide) (by decide) ((sget_dead _ k _ (h.below ((Below.refl _ _).alloc (Nat.le_refl _) _))).mono fun e w' hh => ⟨hh.1, by rw [← hh.2]; exact Below.refl _ _⟩)
set_option maxRecDepth 100000 in
set_option maxHeartbeats 1000000 in
theorem csetAmount_live {w W : World} {b : Nat} {F : List Nat} {L : SL} {q : Nat} {qs : List Value} (h : SNew w W b F L q qs) (k : ByteArray) (a : Nat) (hk : k.size ≤ maxLen) (hk0 : k ≠ ⟨#[]⟩) (ha : a < 2 ^ 256) (hN : L.length < 128) (hq : q < 1000000) :
    Calls Try.prog 149 #[.pointer (some ⟨b, 0, none⟩), .string k, U a] W fun e W' => e = .returned (.tuple #[]) ∧ LiveTo w W W' b F (setA L k a) (q + 1) := by
  have hb0 := (Below.refl W.heap.size W).alloc (Nat.le_refl _) (.cells #[.int .u64 (limb a 0 : Nat), .int .u64 (limb a 1 : Nat), .int .u64 (limb a 2 : Nat), .int .u64 (limb a 3 : Nat)] 29)
  have hq0 := fun w => eq0_run ha w
  by_cases h0 : a = 0
  · have HP := Lib.hid ((cput_del (h.al (.cells #[.int .u64 (limb a 0 : Nat), .int .u64 (limb a 1 : Nat), .int .u64 (limb a 2 : Nat), .int .u64 (limb a 3 : Nat)] 29)) k hk (by omega) hq).mono fun e W' hp => (⟨hp.1, by unfold setA; rw [if_pos h0]; exact hp.2.pre hb0⟩ : e = .returned (.tuple #[]) ∧ LiveTo w W W' b F (setA L k a) (q + 1)))
    rw [decide_eq_true h0] at hq0
    clear h hk hk0 ha hN hq hb0 h0
    unfold U
    go_enter Try.func149, Try.ntmps149
    go_wp2_with (go_at_call 119; refine HP.out.mono ?_; rintro e w2 ⟨rfl, h1⟩; have H1 := Lib.hid h1; clear h1)
    refine bodyPost_ret (v := .tuple #[]) (by simp [results, Try.results149, go_sem]) rfl ⟨rfl, H1.out⟩
  · have HP := Lib.hid (fun (W1 : World) (hb : Below W.heap.size W W1) => (cput_set (h.below hb) k (amtStr a) hk (by rw [amtStr_size]; decide) hk0 (amtStr_ne a) hN hq).mono fun e W' hp => (⟨hp.1, by unfold setA; rw [if_neg h0]; exact hp.2.pre hb⟩ : e = .returned (.tuple #[]) ∧ LiveTo w W W' b F (setA L k a) (q + 1)))
    rw [decide_eq_false h0] at hq0
    have hAm := fun W1 => amount9_walk a W1
    unfold U at hAm
    have HA := Lib.hid hAm
    have HB0 := Lib.hid hb0
    clear hAm h hk hk0 ha hN hq hb0 h0
    unfold U
    go_enter Try.func149, Try.ntmps149
    go_wp2_with (first
      | (go_at_call 119; refine (HP.out _ HB1.out).mono ?_; rintro e w2 ⟨rfl, h1⟩; have H1 := Lib.hid h1; clear h1)
      | (go_at_call 67; refine (HA.out _).mono ?_; rintro e w1 ⟨rfl, hb1⟩; have HB1 := Lib.hid (HB0.out.trans (hb1.mono HB0.out.size)); clear hb1))
    go_end0
    exact ⟨rfl, H1.out⟩
theorem cput_dead (p : Value) (k v : ByteArray) (w : World) (h : SDead w p) : Calls Try.prog 119 #[p, .string k, .string v] w fun e w' => e = .returned (.tuple #[]) ∧ w = w' := by
  have HD := Lib.hid (delete_dead p k w h)
  have HS := Lib.hid (set_dead p k v w h)
  clear h
  by_cases hv : v = ⟨#[]⟩
  · subst hv
    go_enter Try.func119, Try.ntmps119
    go_wp2_with (go_at_call 76; refine HD.out.mono ?_; rintro e w1 ⟨rfl, rfl⟩)
    refine bodyPost_ret (v := .tuple #[]) (by simp [results, Try.results119, go_sem]) rfl ⟨rfl, rfl⟩
  · have hv1 := ba_nil hv
    go_enter Try.func119, Try.ntmps119
    go_wp2_with (go_at_call 64; refine HS.out.mono ?_; rintro e w1 ⟨rfl, rfl⟩)
    go_end0
    exact ⟨rfl, rfl⟩
set_option maxRecDepth 100000 in
set_option maxHeartbeats 1000000 in
theorem csetAmount_dead (p : Value) (k : ByteArray) (a : Nat) (ha : a < 2 ^ 256) (w : World) (h : SDead w p) : Calls Try.prog 149 #[p, .string k, U a] w fun e w' => e = .returned (.tuple #[]) ∧ Below w.heap.size w w' := by
  have hb0 := (Below.refl w.heap.size w).alloc (Nat.le_refl _) (.cells #[.int .u64 (limb a 0 : Nat), .int .u64 (limb a 1 : Nat), .int .u64 (limb a 2 : Nat), .int .u64 (limb a 3 : Nat)] 29)
  have hq0 := fun w => eq0_run ha w
  have HD := Lib.hid (fun (v : ByteArray) (W : World) (hb : Below w.heap.size w W) => cput_dead p k v W (h.below hb))
  have HB0 := Lib.hid hb0
  have hAm := fun W1 => amount9_walk a W1
  unfold U at hAm
  have HA := Lib.hid hAm
  clear h hb0 hAm
  by_cases h0 : a = 0
  · rw [decide_eq_true h0] at hq0
    clear h0 ha
    unfold U
    go_enter Try.func149, Try.ntmps149
    go_wp2_with (go_at_call 119; refine (HD.out _ _ HB0.out).mono ?_; rintro e w1 ⟨rfl, rfl⟩)
    refine bodyPost_ret (v := .tuple #[]) (by simp [results, Try.results149, go_sem]) rfl ⟨rfl, HB0.out⟩
  · rw [decide_eq_false h0] at hq0
    clear h0 ha
    unfold U
    go_enter Try.func149, Try.ntmps149
    go_wp2_with (first
      | (go_at_call 119; refine (HD.out _ _ HB1.out).mono ?_; rintro e w2 ⟨rfl, rfl⟩)
      | (go_at_call 67; refine (HA.out _).mono ?_; rintro e w1 ⟨rfl, hb1⟩; have HB1 := Lib.hid (HB0.out.trans (hb1.mono HB0.out.size)); clear hb1))
    go_end0
    exact ⟨rfl, HB1.out⟩
/-! ### the two turns -/
set_option maxRecDepth 100000 in
theorem more_walk (a : Nat) (w : World) : Calls Try.prog 130 #[U a] w fun e w' => e = .returned (.func (.func 150) #[] #[.pointer (some ⟨w.heap.size, 0, none⟩)]) ∧ w'.heap[w.heap.size]? = some (.cells #[.int .u64 (limb a 0 : Nat), .int .u64 (limb a 1 : Nat), .int .u64 (limb a 2 : Nat), .int .u64 (limb a 3 : Nat)] 29 (0, 0)) ∧ Below w.heap.size w w' := by
  unfold U
  go_enter Try.func130, Try.ntmps130
  go_wp2
  go_ret
  exact ⟨rfl, heap_alloc_new _ _, (Below.refl _ _).alloc (Nat.le_refl _) _⟩
set_option maxRecDepth 100000 in
theorem less_walk (a : Nat) (w : World) : Calls Try.prog 133 #[U a] w fun e w' => e = .returned (.func (.func 151) #[] #[.pointer (some ⟨w.heap.size, 0, none⟩)]) ∧ w'.heap[w.heap.size]? = some (.cells #[.int .u64 (limb a 0 : Nat), .int .u64 (limb a 1 : Nat), .int .u64 (limb a 2 : Nat), .int .u64 (limb a 3 : Nat)] 29 (0, 0)) ∧ Below w.heap.size w w' := by
  unfold U
  go_enter Try.func133, Try.ntmps133
  go_wp2
  go_ret
  exact ⟨rfl, heap_alloc_new _ _, (Below.refl _ _).alloc (Nat.le_refl _) _⟩
set_option maxRecDepth 100000 in
set_option maxHeartbeats 2000000 in
theorem lessc_ok (was a r g : Nat) (hw : was < 2 ^ 256) (ha : a < 2 ^ 256) (hle : a ≤ was) (hr : was - a = r) (w : World) (hg : w.heap[g]? = some (.cells #[.int .u64 (limb a 0 : Nat), .int .u64 (limb a 1 : Nat), .int .u64 (limb a 2 : Nat), .int .u64 (limb a 3 : Nat)] 29 (0, 0))) :
    Calls Try.prog 151 #[U was, .pointer (some ⟨g, 0, none⟩)] w fun e w' => e = .returned (.tuple #[U r, .int .i64 0]) ∧ Below w.heap.size w w' := by
  have hb0 := ((Below.refl w.heap.size w).alloc (Nat.le_refl _) (.cells #[.int .u64 (limb was 0 : Nat), .int .u64 (limb was 1 : Nat), .int .u64 (limb was 2 : Nat), .int .u64 (limb was 3 : Nat)] 29)).alloc (by simp) (.cells #[.int .u64 0, .int .u64 0, .int .u64 0, .int .u64 0] 29)
  have r0 := heap_alloc_new (w.alloc (.cells #[.int .u64 (limb was 0 : Nat), .int .u64 (limb was 1 : Nat), .int .u64 (limb was 2 : Nat), .int .u64 (limb was 3 : Nat)] 29)) (.cells #[.int .u64 0, .int .u64 0, .int .u64 0, .int .u64 0] 29)
  rw [World.size_alloc] at r0
  have hA : ∀ W, Calls Try.prog 103 #[U was, U a] W fun e w' => e = .returned (.tuple #[U r, .bool true]) ∧ Below W.heap.size W w' := fun W => (sub_walk was a W hw ha).mono fun e w' hh => by
    obtain ⟨he, hb⟩ := hh
    rw [if_pos hle, decide_eq_true hle, hr] at he
    exact ⟨he, hb⟩
  unfold U at hA
  have HA := Lib.hid hA
  have H0 := Lib.hid (And.intro hb0 r0)
  have rg := (hb0.block g (hp_lt hg)).trans hg
  have lg := hp_lt hg
  have c0 := (hp_cell (i := 0) rg).trans rfl
  have c1 := (hp_cell (i := 1) rg).trans rfl
  have c2 := (hp_cell (i := 2) rg).trans rfl
  have c3 := (hp_cell (i := 3) rg).trans rfl
  clear hb0 r0 hA rg hle hr hw ha hg
  unfold U
  go_enter Try.func151, Try.ntmps151
  go_wp2_with (first
    | (go_at_call 103; refine (HA.out _).mono ?_; rintro e w2 ⟨rfl, hb2⟩; have hbx := (Below.refl w2.heap.size w2).alloc (Nat.le_refl _) (.cells #[.int .u64 (limb r 0 : Nat), .int .u64 (limb r 1 : Nat), .int .u64 (limb r 2 : Nat), .int .u64 (limb r 3 : Nat)] 29); have hby := hb2.trans (hbx.mono hb2.size); have rx := (hby.block (w.heap.size + 1) (by simp)).trans H0.out.2; have RX := Lib.hid rx; have H2 := Lib.hid (H0.out.1.trans (hby.mono H0.out.1.size)); have d0 := (hp_cell (i := 0) rx).trans rfl; have d1 := (hp_cell (i := 1) rx).trans rfl; have d2 := (hp_cell (i := 2) rx).trans rfl; have d3 := (hp_cell (i := 3) rx).trans rfl; have g0 := hp_free (i := 0) rx; have g1 := hp_free (i := 1) rx; have g2 := hp_free (i := 2) rx; have g3 := hp_free (i := 3) rx; clear hb2 hbx hby rx))
  obtain ⟨e0, e1, e2, e3⟩ := ((arr_zero RX.out).put4 (n := r)).cells4
  refine bodyPost_ret (v := .tuple #[.agg #[.int .u64 (limb r 0 : Nat), .int .u64 (limb r 1 : Nat), .int .u64 (limb r 2 : Nat), .int .u64 (limb r 3 : Nat)], .int .i64 0]) (by simp [results, Try.results151, go_sem, e0, e1, e2, e3]) rfl ⟨rfl, below_set4 H2.out (by omega)⟩
set_option maxRecDepth 100000 in
set_option maxHeartbeats 2000000 in
theorem morec_ok (was a r g : Nat) (hw : was < 2 ^ 256) (ha : a < 2 ^ 256) (hle : was + a ≤ MOST) (hr : was + a = r) (w : World) (hg : w.heap[g]? = some (.cells #[.int .u64 (limb a 0 : Nat), .int .u64 (limb a 1 : Nat), .int .u64 (limb a 2 : Nat), .int .u64 (limb a 3 : Nat)] 29 (0, 0))) :
    Calls Try.prog 150 #[U was, .pointer (some ⟨g, 0, none⟩)] w fun e w' => e = .returned (.tuple #[U r, .int .i64 0]) ∧ Below w.heap.size w w' := by
  have hb0 := ((Below.refl w.heap.size w).alloc (Nat.le_refl _) (.cells #[.int .u64 (limb was 0 : Nat), .int .u64 (limb was 1 : Nat), .int .u64 (limb was 2 : Nat), .int .u64 (limb was 3 : Nat)] 29)).alloc (by simp) (.cells #[.int .u64 0, .int .u64 0, .int .u64 0, .int .u64 0] 29)
  have r0 := heap_alloc_new (w.alloc (.cells #[.int .u64 (limb was 0 : Nat), .int .u64 (limb was 1 : Nat), .int .u64 (limb was 2 : Nat), .int .u64 (limb was 3 : Nat)] 29)) (.cells #[.int .u64 0, .int .u64 0, .int .u64 0, .int .u64 0] 29)
  rw [World.size_alloc] at r0
  have hA : ∀ W, Calls Try.prog 97 #[U was, U a] W fun e w' => e = .returned (.tuple #[U r, .bool true]) ∧ Below W.heap.size W w' := fun W => (add_walk was a W hw ha).mono fun e w' hh => by
    obtain ⟨he, hb⟩ := hh
    rw [if_pos (Nat.lt_of_le_of_lt hle MOST_lt), decide_eq_true (Nat.lt_of_le_of_lt hle MOST_lt), hr] at he
    exact ⟨he, hb⟩
  have hM : ∀ W, Calls Try.prog 86 #[U r] W fun e w' => e = .returned (.bool true) ∧ Below W.heap.size W w' := fun W => (amount_walk r W (by rw [← hr]; exact Nat.lt_of_le_of_lt hle MOST_lt)).mono fun e w' hh => by
    obtain ⟨he, hb⟩ := hh
    rw [decide_eq_true (by rw [← hr]; exact hle)] at he
    exact ⟨he, hb⟩
  unfold U at hA hM
  have HA := Lib.hid hA
  have HM := Lib.hid hM
  clear hM
  have H0 := Lib.hid (And.intro hb0 r0)
  have rg := (hb0.block g (hp_lt hg)).trans hg
  have lg := hp_lt hg
  have c0 := (hp_cell (i := 0) rg).trans rfl
  have c1 := (hp_cell (i := 1) rg).trans rfl
  have c2 := (hp_cell (i := 2) rg).trans rfl
  have c3 := (hp_cell (i := 3) rg).trans rfl
  clear hb0 r0 hA rg hle hr hw ha hg
  unfold U
  go_enter Try.func150, Try.ntmps150
  go_wp2_with (first
    | (go_at_call 86; refine (HM.out _).mono ?_; rintro e w3 ⟨rfl, hb3⟩; have hbx := (Below.refl w2.heap.size w2).alloc (Nat.le_refl _) (.cells #[.int .u64 (limb r 0 : Nat), .int .u64 (limb r 1 : Nat), .int .u64 (limb r 2 : Nat), .int .u64 (limb r 3 : Nat)] 29); have ry := (hb3.block w2.heap.size (by simp)).trans (heap_alloc_new w2 (.cells #[.int .u64 (limb r 0 : Nat), .int .u64 (limb r 1 : Nat), .int .u64 (limb r 2 : Nat), .int .u64 (limb r 3 : Nat)] 29)); have rx := (hb3.block _ (hp_lt RX.out)).trans RX.out; have RX3 := Lib.hid rx; have H3 := Lib.hid (H2.out.trans (hb3.mono H2.out.size)); have LY := hp_lt ry; have LZ := Lib.hid (hp_lt H0.out.2); have d0 := (hp_cell (i := 0) rx).trans rfl; have d1 := (hp_cell (i := 1) rx).trans rfl; have d2 := (hp_cell (i := 2) rx).trans rfl; have d3 := (hp_cell (i := 3) rx).trans rfl; have g0 := hp_free (i := 0) rx; have g1 := hp_free (i := 1) rx; have g2 := hp_free (i := 2) rx; have g3 := hp_free (i := 3) rx; have y0 := (hp_cell (i := 0) ry).trans rfl; have y1 := (hp_cell (i := 1) ry).trans rfl; have y2 := (hp_cell (i := 2) ry).trans rfl; have y3 := (hp_cell (i := 3) ry).trans rfl; clear hb3 hbx rx ry)
    | (go_at_call 97; refine (HA.out _).mono ?_; rintro e w2 ⟨rfl, hb2⟩; have hbx := (Below.refl w2.heap.size w2).alloc (Nat.le_refl _) (.cells #[.int .u64 (limb r 0 : Nat), .int .u64 (limb r 1 : Nat), .int .u64 (limb r 2 : Nat), .int .u64 (limb r 3 : Nat)] 29); have hby := hb2.trans (hbx.mono hb2.size); have rx := (hby.block (w.heap.size + 1) (by simp)).trans H0.out.2; have RX := Lib.hid rx; have H2 := Lib.hid (H0.out.1.trans (hby.mono H0.out.1.size)); have d0 := (hp_cell (i := 0) rx).trans rfl; have d1 := (hp_cell (i := 1) rx).trans rfl; have d2 := (hp_cell (i := 2) rx).trans rfl; have d3 := (hp_cell (i := 3) rx).trans rfl; have g0 := hp_free (i := 0) rx; have g1 := hp_free (i := 1) rx; have g2 := hp_free (i := 2) rx; have g3 := hp_free (i := 3) rx; clear hb2 hbx hby rx))
  obtain ⟨e0, e1, e2, e3⟩ := ((arr_zero RX3.out).put4 (n := r)).cells4
  refine bodyPost_ret (v := .tuple #[.agg #[.int .u64 (limb r 0 : Nat), .int .u64 (limb r 1 : Nat), .int .u64 (limb r 2 : Nat), .int .u64 (limb r 3 : Nat)], .int .i64 0]) (by simp [results, Try.results150, go_sem, e0, e1, e2, e3]) rfl ⟨rfl, below_set4 H3.out (by omega)⟩
end Go.Proofs.Ytedkhpnlhkjjgaa
