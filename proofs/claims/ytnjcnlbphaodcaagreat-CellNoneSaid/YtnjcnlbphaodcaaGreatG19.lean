/- cell's amounts on a live store and on a dead one: Amount, SetAmount, more, less, change, Add, Sub. -/
import Derived.Test.YtnjcnlbphaodcaaGreatG11
import Derived.Test.YtnjcnlbphaodcaaGreatG14
import Derived.Test.YtnjcnlbphaodcaaGreatG15
import Derived.Test.YtnjcnlbphaodcaaGreatG18
import Derived.Test.YtnjcnlbphaodcaaGreatG12
namespace Go.Proofs.YtnjcnlbphaodcaaGreat
open Go.RowKit Go.Maps Go.Sort

/-- the amount at a key -/
def amtAt (L : SL) (k : ByteArray) (a : Nat) : Prop := (a = 0 ∧ sget L k = none) ∨ sget L k = some (amtStr a)
/-- what SetAmount leaves -/
def setA (L : SL) (k : ByteArray) (a : Nat) : SL := if a = 0 then sdel L k else setL L k (amtStr a)
theorem amtStr_ne (a : Nat) : amtStr a ≠ ⟨#[]⟩ := by
  intro e
  have := amtStr_size a
  rw [e] at this
  exact absurd this (by decide)
set_option maxRecDepth 100000 in
set_option maxHeartbeats 1000000 in
theorem camount_walk (P : Option Addr) (k V : ByteArray) (is ok : Bool) (a : Nat) (w : World) (hV : fbv V = a) (hok : decide (V.size = 32) = ok) (HG : Calls Tryz.prog 30 #[.pointer P, .string k] (w.alloc (.cells #[.int .u64 0, .int .u64 0, .int .u64 0, .int .u64 0] 24)) fun e w' => e = .returned (.tuple #[.string V, .bool is]) ∧ Below (w.alloc (.cells #[.int .u64 0, .int .u64 0, .int .u64 0, .int .u64 0] 24)).heap.size (w.alloc (.cells #[.int .u64 0, .int .u64 0, .int .u64 0, .int .u64 0] 24)) w') :
    Calls Tryz.prog 9 #[.pointer P, .string k] w fun e w' => e = .returned (.agg #[.int .u64 (limb a 0 : Nat), .int .u64 (limb a 1 : Nat), .int .u64 (limb a 2 : Nat), .int .u64 (limb a 3 : Nat)]) ∧ Below w.heap.size w w' := by
  have hb0 := (Below.refl w.heap.size w).alloc (Nat.le_refl _) (.cells #[.int .u64 0, .int .u64 0, .int .u64 0, .int .u64 0] 24)
  have r0 := heap_alloc_new w (.cells #[.int .u64 0, .int .u64 0, .int .u64 0, .int .u64 0] 24)
  have H0 := Lib.hid (And.intro hb0 r0)
  have HGs := Lib.hid HG
  have HT := Lib.hid (fun W => toAmount_walk V a ok W hV hok)
  clear hb0 r0 HG hV hok
  go_enter Tryz.func9, Tryz.ntmps9
  go_wp2_with (first
    | (go_at_call 32; refine (HT.out _).mono ?_; rintro e w2 ⟨rfl, hb2⟩; unfold U; have r2 := (hb2.block _ (hp_lt H1.out.2)).trans H1.out.2; have hbx := (Below.refl w2.heap.size w2).alloc (Nat.le_refl _) (.cells #[.int .u64 (limb a 0 : Nat), .int .u64 (limb a 1 : Nat), .int .u64 (limb a 2 : Nat), .int .u64 (limb a 3 : Nat)] 24); have rx := (hbx.block _ (hp_lt r2)).trans r2; have RX := Lib.hid rx; have H2 := Lib.hid (H1.out.1.trans ((hb2.trans (hbx.mono hb2.size)).mono H1.out.1.size)); have d0 := (hp_cell (i := 0) rx).trans rfl; have d1 := (hp_cell (i := 1) rx).trans rfl; have d2 := (hp_cell (i := 2) rx).trans rfl; have d3 := (hp_cell (i := 3) rx).trans rfl; have g0 := hp_free (i := 0) rx; have g1 := hp_free (i := 1) rx; have g2 := hp_free (i := 2) rx; have g3 := hp_free (i := 3) rx; clear hb2 r2 hbx rx)
    | (go_at_call 30; refine HGs.out.mono ?_; rintro e w1 ⟨rfl, hb1⟩; have H1 := Lib.hid (And.intro (H0.out.1.trans (hb1.mono H0.out.1.size)) ((hb1.block _ (hp_lt H0.out.2)).trans H0.out.2)); clear hb1))
  obtain ⟨e0, e1, e2, e3⟩ := ((arr_zero RX.out).put4 (n := a)).cells4
  refine bodyPost_ret (v := .agg #[.int .u64 (limb a 0 : Nat), .int .u64 (limb a 1 : Nat), .int .u64 (limb a 2 : Nat), .int .u64 (limb a 3 : Nat)]) (by simp [results, Tryz.results9, go_sem, e0, e1, e2, e3]) rfl ⟨rfl, below_set4 H2.out (Nat.le_refl _)⟩
theorem camount_at {w W : World} {b : Nat} {F : List Nat} {L : SL} {q : Nat} {qs : List Value} (h : SNew w W b F L q qs) (k : ByteArray) (a : Nat) (hk : k.size ≤ maxLen) (he : amtAt L k a) (ha : a < 2 ^ 256) :
    Calls Tryz.prog 9 #[.pointer (some ⟨b, 0, none⟩), .string k] W fun e W' => e = .returned (U a) ∧ Below W.heap.size W W' := by
  have hs := h.al (.cells #[.int .u64 0, .int .u64 0, .int .u64 0, .int .u64 0] 24)
  rcases he with ⟨rfl, he⟩ | he
  · exact camount_walk _ k ⟨#[]⟩ false false 0 W (by decide) (by decide) ((hs.get_none k hk he).mono fun e w' hh => ⟨hh.1, hh.2.2⟩)
  · exact camount_walk _ k (amtStr a) true true a W (amt_fbv a ha) (by rw [amtStr_size]; rfl) ((hs.get_some k _ hk he).mono fun e w' hh => ⟨hh.1, hh.2.2⟩)
theorem camount_dead (P : Option Addr) (k : ByteArray) (w : World) (h : SDead w (.pointer P)) : Calls Tryz.prog 9 #[.pointer P, .string k] w fun e w' => e = .returned (U 0) ∧ Below w.heap.size w w' :=
  camount_walk P k ⟨#[]⟩ false false 0 w (by decide) (by decide) ((sget_dead _ k _ (h.below ((Below.refl _ _).alloc (Nat.le_refl _) _))).mono fun e w' hh => ⟨hh.1, by rw [← hh.2]; exact Below.refl _ _⟩)
set_option maxRecDepth 100000 in
set_option maxHeartbeats 1000000 in
theorem csetAmount_live {w W : World} {b : Nat} {F : List Nat} {L : SL} {q : Nat} {qs : List Value} (h : SNew w W b F L q qs) (k : ByteArray) (a : Nat) (hk : k.size ≤ maxLen) (hk0 : k ≠ ⟨#[]⟩) (ha : a < 2 ^ 256) (hN : L.length < 1000000) (hq : q < 1000000) :
    Calls Tryz.prog 19 #[.pointer (some ⟨b, 0, none⟩), .string k, U a] W fun e W' => e = .returned (.tuple #[]) ∧ LiveTo w W W' b F (setA L k a) (q + 1) := by
  have hb0 := (Below.refl W.heap.size W).alloc (Nat.le_refl _) (.cells #[.int .u64 (limb a 0 : Nat), .int .u64 (limb a 1 : Nat), .int .u64 (limb a 2 : Nat), .int .u64 (limb a 3 : Nat)] 24)
  have hq0 := fun w => eq0_run ha w
  by_cases h0 : a = 0
  · have HP := Lib.hid ((cput_del (h.al (.cells #[.int .u64 (limb a 0 : Nat), .int .u64 (limb a 1 : Nat), .int .u64 (limb a 2 : Nat), .int .u64 (limb a 3 : Nat)] 24)) k hk (by omega) hq).mono fun e W' hp => (⟨hp.1, by unfold setA; rw [if_pos h0]; exact hp.2.pre hb0⟩ : e = .returned (.tuple #[]) ∧ LiveTo w W W' b F (setA L k a) (q + 1)))
    rw [decide_eq_true h0] at hq0
    clear h hk hk0 ha hN hq hb0 h0
    unfold U
    go_enter Tryz.func19, Tryz.ntmps19
    go_wp2_with (go_at_call 36; refine HP.out.mono ?_; rintro e w2 ⟨rfl, h1⟩; have H1 := Lib.hid h1; clear h1)
    refine bodyPost_ret (v := .tuple #[]) (by simp [results, Tryz.results19, go_sem]) rfl ⟨rfl, H1.out⟩
  · have HP := Lib.hid (fun (W1 : World) (hb : Below W.heap.size W W1) => (cput_set (h.below hb) k (amtStr a) hk (by rw [amtStr_size]; decide) hk0 (amtStr_ne a) hN hq).mono fun e W' hp => (⟨hp.1, by unfold setA; rw [if_neg h0]; exact hp.2.pre hb⟩ : e = .returned (.tuple #[]) ∧ LiveTo w W W' b F (setA L k a) (q + 1)))
    rw [decide_eq_false h0] at hq0
    have hAm := fun W1 => amount9_walk a W1
    unfold U at hAm
    have HA := Lib.hid hAm
    have HB0 := Lib.hid hb0
    clear hAm h hk hk0 ha hN hq hb0 h0
    unfold U
    go_enter Tryz.func19, Tryz.ntmps19
    go_wp2_with (first
      | (go_at_call 36; refine (HP.out _ HB1.out).mono ?_; rintro e w2 ⟨rfl, h1⟩; have H1 := Lib.hid h1; clear h1)
      | (go_at_call 42; refine (HA.out _).mono ?_; rintro e w1 ⟨rfl, hb1⟩; have HB1 := Lib.hid (HB0.out.trans (hb1.mono HB0.out.size)); clear hb1))
    go_end0
    exact ⟨rfl, H1.out⟩
theorem cput_dead (p : Value) (k v : ByteArray) (w : World) (h : SDead w p) : Calls Tryz.prog 36 #[p, .string k, .string v] w fun e w' => e = .returned (.tuple #[]) ∧ w = w' := by
  have HD := Lib.hid (delete_dead p k w h)
  have HS := Lib.hid (set_dead p k v w h)
  clear h
  by_cases hv : v = ⟨#[]⟩
  · subst hv
    go_enter Tryz.func36, Tryz.ntmps36
    go_wp2_with (go_at_call 59; refine HD.out.mono ?_; rintro e w1 ⟨rfl, rfl⟩)
    refine bodyPost_ret (v := .tuple #[]) (by simp [results, Tryz.results36, go_sem]) rfl ⟨rfl, rfl⟩
  · have hv1 := ba_nil hv
    go_enter Tryz.func36, Tryz.ntmps36
    go_wp2_with (go_at_call 60; refine HS.out.mono ?_; rintro e w1 ⟨rfl, rfl⟩)
    go_end0
    exact ⟨rfl, rfl⟩
set_option maxRecDepth 100000 in
set_option maxHeartbeats 1000000 in
theorem csetAmount_dead (p : Value) (k : ByteArray) (a : Nat) (ha : a < 2 ^ 256) (w : World) (h : SDead w p) : Calls Tryz.prog 19 #[p, .string k, U a] w fun e w' => e = .returned (.tuple #[]) ∧ Below w.heap.size w w' := by
  have hb0 := (Below.refl w.heap.size w).alloc (Nat.le_refl _) (.cells #[.int .u64 (limb a 0 : Nat), .int .u64 (limb a 1 : Nat), .int .u64 (limb a 2 : Nat), .int .u64 (limb a 3 : Nat)] 24)
  have hq0 := fun w => eq0_run ha w
  have HD := Lib.hid (fun (v : ByteArray) (W : World) (hb : Below w.heap.size w W) => cput_dead p k v W (h.below hb))
  have HB0 := Lib.hid hb0
  have hAm := fun W1 => amount9_walk a W1
  unfold U at hAm
  have HA := Lib.hid hAm
  clear h hb0 hAm
  by_cases h0 : a = 0
  · rw [decide_eq_true h0] at hq0
    clear h0 ha
    unfold U
    go_enter Tryz.func19, Tryz.ntmps19
    go_wp2_with (go_at_call 36; refine (HD.out _ _ HB0.out).mono ?_; rintro e w1 ⟨rfl, rfl⟩)
    refine bodyPost_ret (v := .tuple #[]) (by simp [results, Tryz.results19, go_sem]) rfl ⟨rfl, HB0.out⟩
  · rw [decide_eq_false h0] at hq0
    clear h0 ha
    unfold U
    go_enter Tryz.func19, Tryz.ntmps19
    go_wp2_with (first
      | (go_at_call 36; refine (HD.out _ _ HB1.out).mono ?_; rintro e w2 ⟨rfl, rfl⟩)
      | (go_at_call 42; refine (HA.out _).mono ?_; rintro e w1 ⟨rfl, hb1⟩; have HB1 := Lib.hid (HB0.out.trans (hb1.mono HB0.out.size)); clear hb1))
    go_end0
    exact ⟨rfl, HB1.out⟩
/-! ### the two turns -/
set_option maxRecDepth 100000 in
theorem more_walk (a : Nat) (w : World) : Calls Tryz.prog 35 #[U a] w fun e w' => e = .returned (.func (.func 56) #[] #[.pointer (some ⟨w.heap.size, 0, none⟩)]) ∧ w'.heap[w.heap.size]? = some (.cells #[.int .u64 (limb a 0 : Nat), .int .u64 (limb a 1 : Nat), .int .u64 (limb a 2 : Nat), .int .u64 (limb a 3 : Nat)] 24 (0, 0)) ∧ Below w.heap.size w w' := by
  unfold U
  go_enter Tryz.func35, Tryz.ntmps35
  go_wp2
  go_ret
  exact ⟨rfl, heap_alloc_new _ _, (Below.refl _ _).alloc (Nat.le_refl _) _⟩
set_option maxRecDepth 100000 in
theorem less_walk (a : Nat) (w : World) : Calls Tryz.prog 34 #[U a] w fun e w' => e = .returned (.func (.func 54) #[] #[.pointer (some ⟨w.heap.size, 0, none⟩)]) ∧ w'.heap[w.heap.size]? = some (.cells #[.int .u64 (limb a 0 : Nat), .int .u64 (limb a 1 : Nat), .int .u64 (limb a 2 : Nat), .int .u64 (limb a 3 : Nat)] 24 (0, 0)) ∧ Below w.heap.size w w' := by
  unfold U
  go_enter Tryz.func34, Tryz.ntmps34
  go_wp2
  go_ret
  exact ⟨rfl, heap_alloc_new _ _, (Below.refl _ _).alloc (Nat.le_refl _) _⟩
set_option maxRecDepth 100000 in
set_option maxHeartbeats 2000000 in
theorem lessc_ok (was a r g : Nat) (hw : was < 2 ^ 256) (ha : a < 2 ^ 256) (hle : a ≤ was) (hr : was - a = r) (w : World) (hg : w.heap[g]? = some (.cells #[.int .u64 (limb a 0 : Nat), .int .u64 (limb a 1 : Nat), .int .u64 (limb a 2 : Nat), .int .u64 (limb a 3 : Nat)] 24 (0, 0))) :
    Calls Tryz.prog 54 #[U was, .pointer (some ⟨g, 0, none⟩)] w fun e w' => e = .returned (.tuple #[U r, .int .i64 0]) ∧ Below w.heap.size w w' := by
  have hb0 := ((Below.refl w.heap.size w).alloc (Nat.le_refl _) (.cells #[.int .u64 (limb was 0 : Nat), .int .u64 (limb was 1 : Nat), .int .u64 (limb was 2 : Nat), .int .u64 (limb was 3 : Nat)] 24)).alloc (by simp) (.cells #[.int .u64 0, .int .u64 0, .int .u64 0, .int .u64 0] 24)
  have r0 := heap_alloc_new (w.alloc (.cells #[.int .u64 (limb was 0 : Nat), .int .u64 (limb was 1 : Nat), .int .u64 (limb was 2 : Nat), .int .u64 (limb was 3 : Nat)] 24)) (.cells #[.int .u64 0, .int .u64 0, .int .u64 0, .int .u64 0] 24)
  rw [World.size_alloc] at r0
  have hA : ∀ W, Calls Tryz.prog 55 #[U was, U a] W fun e w' => e = .returned (.tuple #[U r, .bool true]) ∧ Below W.heap.size W w' := fun W => (sub_walk was a W hw ha).mono fun e w' hh => by
    obtain ⟨he, hb⟩ := hh
    rw [if_pos hle, decide_eq_true hle, hr] at he
    exact ⟨he, hb⟩
  unfold U at hA
  have HA := Lib.hid hA
  have H0 := Lib.hid (And.intro hb0 r0)
  have rg := (hb0.block g (hp_lt hg)).trans hg
  have lg := hp_lt hg
  have c0 := (hp_cell (i := 0) rg).trans rfl
  have c1 := (hp_cell (i := 1) rg).trans rfl
  have c2 := (hp_cell (i := 2) rg).trans rfl
  have c3 := (hp_cell (i := 3) rg).trans rfl
  clear hb0 r0 hA rg hle hr hw ha hg
  unfold U
  go_enter Tryz.func54, Tryz.ntmps54
  go_wp2_with (first
    | (go_at_call 55; refine (HA.out _).mono ?_; rintro e w2 ⟨rfl, hb2⟩; have hbx := (Below.refl w2.heap.size w2).alloc (Nat.le_refl _) (.cells #[.int .u64 (limb r 0 : Nat), .int .u64 (limb r 1 : Nat), .int .u64 (limb r 2 : Nat), .int .u64 (limb r 3 : Nat)] 24); have hby := hb2.trans (hbx.mono hb2.size); have rx := (hby.block (w.heap.size + 1) (by simp)).trans H0.out.2; have RX := Lib.hid rx; have H2 := Lib.hid (H0.out.1.trans (hby.mono H0.out.1.size)); have d0 := (hp_cell (i := 0) rx).trans rfl; have d1 := (hp_cell (i := 1) rx).trans rfl; have d2 := (hp_cell (i := 2) rx).trans rfl; have d3 := (hp_cell (i := 3) rx).trans rfl; have g0 := hp_free (i := 0) rx; have g1 := hp_free (i := 1) rx; have g2 := hp_free (i := 2) rx; have g3 := hp_free (i := 3) rx; clear hb2 hbx hby rx))
  obtain ⟨e0, e1, e2, e3⟩ := ((arr_zero RX.out).put4 (n := r)).cells4
  refine bodyPost_ret (v := .tuple #[.agg #[.int .u64 (limb r 0 : Nat), .int .u64 (limb r 1 : Nat), .int .u64 (limb r 2 : Nat), .int .u64 (limb r 3 : Nat)], .int .i64 0]) (by simp [results, Tryz.results54, go_sem, e0, e1, e2, e3]) rfl ⟨rfl, below_set4 H2.out (by omega)⟩
set_option maxRecDepth 100000 in
set_option maxHeartbeats 2000000 in
theorem morec_ok (was a r g : Nat) (hw : was < 2 ^ 256) (ha : a < 2 ^ 256) (hle : was + a ≤ MOST) (hr : was + a = r) (w : World) (hg : w.heap[g]? = some (.cells #[.int .u64 (limb a 0 : Nat), .int .u64 (limb a 1 : Nat), .int .u64 (limb a 2 : Nat), .int .u64 (limb a 3 : Nat)] 24 (0, 0))) :
    Calls Tryz.prog 56 #[U was, .pointer (some ⟨g, 0, none⟩)] w fun e w' => e = .returned (.tuple #[U r, .int .i64 0]) ∧ Below w.heap.size w w' := by
  have hb0 := ((Below.refl w.heap.size w).alloc (Nat.le_refl _) (.cells #[.int .u64 (limb was 0 : Nat), .int .u64 (limb was 1 : Nat), .int .u64 (limb was 2 : Nat), .int .u64 (limb was 3 : Nat)] 24)).alloc (by simp) (.cells #[.int .u64 0, .int .u64 0, .int .u64 0, .int .u64 0] 24)
  have r0 := heap_alloc_new (w.alloc (.cells #[.int .u64 (limb was 0 : Nat), .int .u64 (limb was 1 : Nat), .int .u64 (limb was 2 : Nat), .int .u64 (limb was 3 : Nat)] 24)) (.cells #[.int .u64 0, .int .u64 0, .int .u64 0, .int .u64 0] 24)
  rw [World.size_alloc] at r0
  have hA : ∀ W, Calls Tryz.prog 57 #[U was, U a] W fun e w' => e = .returned (.tuple #[U r, .bool true]) ∧ Below W.heap.size W w' := fun W => (add_walk was a W hw ha).mono fun e w' hh => by
    obtain ⟨he, hb⟩ := hh
    rw [if_pos (Nat.lt_of_le_of_lt hle MOST_lt), decide_eq_true (Nat.lt_of_le_of_lt hle MOST_lt), hr] at he
    exact ⟨he, hb⟩
  have hM : ∀ W, Calls Tryz.prog 58 #[U r] W fun e w' => e = .returned (.bool true) ∧ Below W.heap.size W w' := fun W => (amount_walk r W (by rw [← hr]; exact Nat.lt_of_le_of_lt hle MOST_lt)).mono fun e w' hh => by
    obtain ⟨he, hb⟩ := hh
    rw [decide_eq_true (by rw [← hr]; exact hle)] at he
    exact ⟨he, hb⟩
  unfold U at hA hM
  have HA := Lib.hid hA
  have HM := Lib.hid hM
  clear hM
  have H0 := Lib.hid (And.intro hb0 r0)
  have rg := (hb0.block g (hp_lt hg)).trans hg
  have lg := hp_lt hg
  have c0 := (hp_cell (i := 0) rg).trans rfl
  have c1 := (hp_cell (i := 1) rg).trans rfl
  have c2 := (hp_cell (i := 2) rg).trans rfl
  have c3 := (hp_cell (i := 3) rg).trans rfl
  clear hb0 r0 hA rg hle hr hw ha hg
  unfold U
  go_enter Tryz.func56, Tryz.ntmps56
  go_wp2_with (first
    | (go_at_call 58; refine (HM.out _).mono ?_; rintro e w3 ⟨rfl, hb3⟩; have hbx := (Below.refl w2.heap.size w2).alloc (Nat.le_refl _) (.cells #[.int .u64 (limb r 0 : Nat), .int .u64 (limb r 1 : Nat), .int .u64 (limb r 2 : Nat), .int .u64 (limb r 3 : Nat)] 24); have ry := (hb3.block w2.heap.size (by simp)).trans (heap_alloc_new w2 (.cells #[.int .u64 (limb r 0 : Nat), .int .u64 (limb r 1 : Nat), .int .u64 (limb r 2 : Nat), .int .u64 (limb r 3 : Nat)] 24)); have rx := (hb3.block _ (hp_lt RX.out)).trans RX.out; have RX3 := Lib.hid rx; have H3 := Lib.hid (H2.out.trans (hb3.mono H2.out.size)); have LY := hp_lt ry; have LZ := Lib.hid (hp_lt H0.out.2); have d0 := (hp_cell (i := 0) rx).trans rfl; have d1 := (hp_cell (i := 1) rx).trans rfl; have d2 := (hp_cell (i := 2) rx).trans rfl; have d3 := (hp_cell (i := 3) rx).trans rfl; have g0 := hp_free (i := 0) rx; have g1 := hp_free (i := 1) rx; have g2 := hp_free (i := 2) rx; have g3 := hp_free (i := 3) rx; have y0 := (hp_cell (i := 0) ry).trans rfl; have y1 := (hp_cell (i := 1) ry).trans rfl; have y2 := (hp_cell (i := 2) ry).trans rfl; have y3 := (hp_cell (i := 3) ry).trans rfl; clear hb3 hbx rx ry)
    | (go_at_call 57; refine (HA.out _).mono ?_; rintro e w2 ⟨rfl, hb2⟩; have hbx := (Below.refl w2.heap.size w2).alloc (Nat.le_refl _) (.cells #[.int .u64 (limb r 0 : Nat), .int .u64 (limb r 1 : Nat), .int .u64 (limb r 2 : Nat), .int .u64 (limb r 3 : Nat)] 24); have hby := hb2.trans (hbx.mono hb2.size); have rx := (hby.block (w.heap.size + 1) (by simp)).trans H0.out.2; have RX := Lib.hid rx; have H2 := Lib.hid (H0.out.1.trans (hby.mono H0.out.1.size)); have d0 := (hp_cell (i := 0) rx).trans rfl; have d1 := (hp_cell (i := 1) rx).trans rfl; have d2 := (hp_cell (i := 2) rx).trans rfl; have d3 := (hp_cell (i := 3) rx).trans rfl; have g0 := hp_free (i := 0) rx; have g1 := hp_free (i := 1) rx; have g2 := hp_free (i := 2) rx; have g3 := hp_free (i := 3) rx; clear hb2 hbx hby rx))
  obtain ⟨e0, e1, e2, e3⟩ := ((arr_zero RX3.out).put4 (n := r)).cells4
  refine bodyPost_ret (v := .tuple #[.agg #[.int .u64 (limb r 0 : Nat), .int .u64 (limb r 1 : Nat), .int .u64 (limb r 2 : Nat), .int .u64 (limb r 3 : Nat)], .int .i64 0]) (by simp [results, Tryz.results56, go_sem, e0, e1, e2, e3]) rfl ⟨rfl, below_set4 H3.out (by omega)⟩
end Go.Proofs.YtnjcnlbphaodcaaGreat

namespace Go.Proofs.YtnjcnlbphaodcaaGreat
open Go.RowKit Go.Maps Go.Sort

set_option maxRecDepth 100000 in
set_option maxHeartbeats 2000000 in
theorem cchange_more {w W : World} {b : Nat} {F : List Nat} {L : SL} {q : Nat} {qs : List Value} (h : SNew w W b F L q qs) (k : ByteArray) (was r g : Nat) (hk : k.size ≤ maxLen) (hk0 : k ≠ ⟨#[]⟩) (he : amtAt L k was) (hw : was < 2 ^ 256) (hr : r < 2 ^ 256) (hN : L.length < 1000000) (hq : q < 1000000)
    (HT : ∀ W', Below W.heap.size W W' → Calls Tryz.prog 56 #[U was, .pointer (some ⟨g, 0, none⟩)] W' fun e w' => e = .returned (.tuple #[U r, .int .i64 0]) ∧ Below W'.heap.size W' w') :
    Calls Tryz.prog 33 #[.pointer (some ⟨b, 0, none⟩), .string k, .func (.func 56) #[] #[.pointer (some ⟨g, 0, none⟩)]] W fun e W' => e = .returned (.int .i64 0) ∧ LiveTo w W W' b F (setA L k r) (q + 1) := by
  have hA := camount_at h k was hk he hw
  have hT := HT
  have hS := fun (W1 : World) (hb : Below W.heap.size W W1) => (csetAmount_live (h.below hb) k r hk hk0 hr hN hq).mono fun e W' hp => (⟨hp.1, hp.2.pre hb⟩ : e = .returned (.tuple #[]) ∧ LiveTo w W W' b F (setA L k r) (q + 1))
  unfold U at hA hT hS
  have HA := Lib.hid hA
  have HTs := Lib.hid hT
  have HS := Lib.hid hS
  clear h hk hk0 he hw hr hN hq HT hA hT hS
  go_enter Tryz.func33, Tryz.ntmps33
  go_wp2_with (first
    | (go_at_call 19; refine (HS.out _ (H2.out.alloc H2.out.size (.cells #[.int .u64 (limb r 0 : Nat), .int .u64 (limb r 1 : Nat), .int .u64 (limb r 2 : Nat), .int .u64 (limb r 3 : Nat)] 24))).mono ?_; rintro e w3 ⟨rfl, h3⟩; have H3 := Lib.hid h3; clear h3)
    | (go_at_call 56; refine (HTs.out _ H1.out).mono ?_; rintro e w2 ⟨rfl, hb2⟩; have H2 := Lib.hid (H1.out.trans (hb2.mono H1.out.size)); clear hb2)
    | (go_at_call 9; refine HA.out.mono ?_; rintro e w1 ⟨rfl, hb1⟩; have H1 := Lib.hid hb1; clear hb1))
  go_ret
  exact ⟨rfl, H3.out⟩
set_option maxRecDepth 100000 in
set_option maxHeartbeats 2000000 in
theorem cchange_less {w W : World} {b : Nat} {F : List Nat} {L : SL} {q : Nat} {qs : List Value} (h : SNew w W b F L q qs) (k : ByteArray) (was r g : Nat) (hk : k.size ≤ maxLen) (hk0 : k ≠ ⟨#[]⟩) (he : amtAt L k was) (hw : was < 2 ^ 256) (hr : r < 2 ^ 256) (hN : L.length < 1000000) (hq : q < 1000000)
    (HT : ∀ W', Below W.heap.size W W' → Calls Tryz.prog 54 #[U was, .pointer (some ⟨g, 0, none⟩)] W' fun e w' => e = .returned (.tuple #[U r, .int .i64 0]) ∧ Below W'.heap.size W' w') :
    Calls Tryz.prog 33 #[.pointer (some ⟨b, 0, none⟩), .string k, .func (.func 54) #[] #[.pointer (some ⟨g, 0, none⟩)]] W fun e W' => e = .returned (.int .i64 0) ∧ LiveTo w W W' b F (setA L k r) (q + 1) := by
  have hA := camount_at h k was hk he hw
  have hT := HT
  have hS := fun (W1 : World) (hb : Below W.heap.size W W1) => (csetAmount_live (h.below hb) k r hk hk0 hr hN hq).mono fun e W' hp => (⟨hp.1, hp.2.pre hb⟩ : e = .returned (.tuple #[]) ∧ LiveTo w W W' b F (setA L k r) (q + 1))
  unfold U at hA hT hS
  have HA := Lib.hid hA
  have HTs := Lib.hid hT
  have HS := Lib.hid hS
  clear h hk hk0 he hw hr hN hq HT hA hT hS
  go_enter Tryz.func33, Tryz.ntmps33
  go_wp2_with (first
    | (go_at_call 19; refine (HS.out _ (H2.out.alloc H2.out.size (.cells #[.int .u64 (limb r 0 : Nat), .int .u64 (limb r 1 : Nat), .int .u64 (limb r 2 : Nat), .int .u64 (limb r 3 : Nat)] 24))).mono ?_; rintro e w3 ⟨rfl, h3⟩; have H3 := Lib.hid h3; clear h3)
    | (go_at_call 54; refine (HTs.out _ H1.out).mono ?_; rintro e w2 ⟨rfl, hb2⟩; have H2 := Lib.hid (H1.out.trans (hb2.mono H1.out.size)); clear hb2)
    | (go_at_call 9; refine HA.out.mono ?_; rintro e w1 ⟨rfl, hb1⟩; have H1 := Lib.hid hb1; clear hb1))
  go_ret
  exact ⟨rfl, H3.out⟩
set_option maxRecDepth 100000 in
set_option maxHeartbeats 2000000 in
theorem cadd_live {w W : World} {b : Nat} {F : List Nat} {L : SL} {q : Nat} {qs : List Value} (h : SNew w W b F L q qs) (k : ByteArray) (was a : Nat) (hk : k.size ≤ maxLen) (hk0 : k ≠ ⟨#[]⟩) (he : amtAt L k was) (hw : was < 2 ^ 256) (ha : a < 2 ^ 256) (hle : was + a ≤ MOST) (hN : L.length < 1000000) (hq : q < 1000000) :
    Calls Tryz.prog 14 #[.pointer (some ⟨b, 0, none⟩), .string k, U a] W fun e W' => e = .returned (.int .i64 0) ∧ LiveTo w W W' b F (setA L k (was + a)) (q + 1) := by
  have hb0 := (Below.refl W.heap.size W).alloc (Nat.le_refl _) (.cells #[.int .u64 (limb a 0 : Nat), .int .u64 (limb a 1 : Nat), .int .u64 (limb a 2 : Nat), .int .u64 (limb a 3 : Nat)] 24)
  have hM := fun W1 => more_walk a W1
  have HC := Lib.hid (fun (W1 : World) (g : Nat) (hb : Below W.heap.size W W1) (hg : W1.heap[g]? = some (.cells #[.int .u64 (limb a 0 : Nat), .int .u64 (limb a 1 : Nat), .int .u64 (limb a 2 : Nat), .int .u64 (limb a 3 : Nat)] 24 (0, 0))) => (cchange_more (h.below hb) k was (was + a) g hk hk0 he hw (by exact Nat.lt_of_le_of_lt hle MOST_lt) hN hq (fun W2 hb2 => morec_ok was a (was + a) g hw ha hle rfl W2 ((hb2.block g (hp_lt hg)).trans hg))).mono fun e W' hp => (⟨hp.1, hp.2.pre hb⟩ : e = .returned (.int .i64 0) ∧ LiveTo w W W' b F (setA L k (was + a)) (q + 1)))
  unfold U at hM
  have HM := Lib.hid hM
  have HB0 := Lib.hid hb0
  obtain ⟨lm, elm⟩ : ∃ z, z = setA L k (was + a) := ⟨_, rfl⟩
  rw [← elm] at HC ⊢
  clear h hk hk0 he hw ha hle hN hq hb0 hM elm
  unfold U
  go_enter Tryz.func14, Tryz.ntmps14
  go_wp2_with (first
    | (go_at_call 33; refine (HC.out _ _ H1.out.1 H1.out.2).mono ?_; rintro e w2 ⟨rfl, h2⟩; have H2 := Lib.hid h2; clear h2)
    | (go_at_call 35; refine (HM.out _).mono ?_; rintro e w1 ⟨rfl, hg1, hb1⟩; rw [World.size_alloc] at hg1; have H1 := Lib.hid (And.intro (HB0.out.trans (hb1.mono HB0.out.size)) hg1); clear hg1 hb1))
  go_ret
  exact ⟨rfl, H2.out⟩
set_option maxRecDepth 100000 in
set_option maxHeartbeats 2000000 in
theorem csub_live {w W : World} {b : Nat} {F : List Nat} {L : SL} {q : Nat} {qs : List Value} (h : SNew w W b F L q qs) (k : ByteArray) (was a : Nat) (hk : k.size ≤ maxLen) (hk0 : k ≠ ⟨#[]⟩) (he : amtAt L k was) (hw : was < 2 ^ 256) (ha : a < 2 ^ 256) (hle : a ≤ was) (hN : L.length < 1000000) (hq : q < 1000000) :
    Calls Tryz.prog 11 #[.pointer (some ⟨b, 0, none⟩), .string k, U a] W fun e W' => e = .returned (.int .i64 0) ∧ LiveTo w W W' b F (setA L k (was - a)) (q + 1) := by
  have hb0 := (Below.refl W.heap.size W).alloc (Nat.le_refl _) (.cells #[.int .u64 (limb a 0 : Nat), .int .u64 (limb a 1 : Nat), .int .u64 (limb a 2 : Nat), .int .u64 (limb a 3 : Nat)] 24)
  have hM := fun W1 => less_walk a W1
  have HC := Lib.hid (fun (W1 : World) (g : Nat) (hb : Below W.heap.size W W1) (hg : W1.heap[g]? = some (.cells #[.int .u64 (limb a 0 : Nat), .int .u64 (limb a 1 : Nat), .int .u64 (limb a 2 : Nat), .int .u64 (limb a 3 : Nat)] 24 (0, 0))) => (cchange_less (h.below hb) k was (was - a) g hk hk0 he hw (by omega) hN hq (fun W2 hb2 => lessc_ok was a (was - a) g hw ha hle rfl W2 ((hb2.block g (hp_lt hg)).trans hg))).mono fun e W' hp => (⟨hp.1, hp.2.pre hb⟩ : e = .returned (.int .i64 0) ∧ LiveTo w W W' b F (setA L k (was - a)) (q + 1)))
  unfold U at hM
  have HM := Lib.hid hM
  have HB0 := Lib.hid hb0
  obtain ⟨lm, elm⟩ : ∃ z, z = setA L k (was - a) := ⟨_, rfl⟩
  rw [← elm] at HC ⊢
  clear h hk hk0 he hw ha hle hN hq hb0 hM elm
  unfold U
  go_enter Tryz.func11, Tryz.ntmps11
  go_wp2_with (first
    | (go_at_call 33; refine (HC.out _ _ H1.out.1 H1.out.2).mono ?_; rintro e w2 ⟨rfl, h2⟩; have H2 := Lib.hid h2; clear h2)
    | (go_at_call 34; refine (HM.out _).mono ?_; rintro e w1 ⟨rfl, hg1, hb1⟩; rw [World.size_alloc] at hg1; have H1 := Lib.hid (And.intro (HB0.out.trans (hb1.mono HB0.out.size)) hg1); clear hg1 hb1))
  go_ret
  exact ⟨rfl, H2.out⟩
set_option maxRecDepth 100000 in
set_option maxHeartbeats 2000000 in
theorem cadd_dead (P : Option Addr) (k : ByteArray) (a : Nat) (ha : a ≤ MOST) (w : World) (h : SDead w (.pointer P)) :
    Calls Tryz.prog 14 #[.pointer P, .string k, U a] w fun e w' => e = .returned (.int .i64 0) ∧ Below w.heap.size w w' := by
  have ha2 : a < 2 ^ 256 := Nat.lt_of_le_of_lt ha MOST_lt
  have hC : ∀ (W : World) (g : Nat), Below w.heap.size w W → W.heap[g]? = some (.cells #[.int .u64 (limb a 0 : Nat), .int .u64 (limb a 1 : Nat), .int .u64 (limb a 2 : Nat), .int .u64 (limb a 3 : Nat)] 24 (0, 0)) → Calls Tryz.prog 33 #[.pointer P, .string k, .func (.func 56) #[] #[.pointer (some ⟨g, 0, none⟩)]] W fun e w' => e = .returned (.int .i64 0) ∧ Below W.heap.size W w' := by
    intro W g hbW hg
    have hA := camount_dead P k W (h.below hbW)
    have hT := fun (W2 : World) (hb2 : Below W.heap.size W W2) => morec_ok 0 a a g (by decide) ha2 (by rw [Nat.zero_add]; exact ha) (Nat.zero_add a) W2 ((hb2.block g (hp_lt hg)).trans hg)
    have hS := fun (W1 : World) (hb : Below W.heap.size W W1) => csetAmount_dead (.pointer P) k a ha2 W1 ((h.below hbW).below hb)
    unfold U at hA hT hS
    have HA := Lib.hid hA
    have HTs := Lib.hid hT
    have HS := Lib.hid hS
    clear h hbW hg ha ha2 hA hT hS
    go_enter Tryz.func33, Tryz.ntmps33
    go_wp2_with (first
      | (go_at_call 19; refine (HS.out _ (H2.out.alloc H2.out.size (.cells #[.int .u64 (limb a 0 : Nat), .int .u64 (limb a 1 : Nat), .int .u64 (limb a 2 : Nat), .int .u64 (limb a 3 : Nat)] 24))).mono ?_; rintro e w3 ⟨rfl, hb3⟩; have hbx := H2.out.alloc H2.out.size (.cells #[.int .u64 (limb a 0 : Nat), .int .u64 (limb a 1 : Nat), .int .u64 (limb a 2 : Nat), .int .u64 (limb a 3 : Nat)] 24); have H3 := Lib.hid (hbx.trans (hb3.mono hbx.size)); clear hb3 hbx)
      | (go_at_call 56; refine (HTs.out _ H1.out).mono ?_; rintro e w2 ⟨rfl, hb2⟩; have H2 := Lib.hid (H1.out.trans (hb2.mono H1.out.size)); clear hb2)
      | (go_at_call 9; refine HA.out.mono ?_; rintro e w1 ⟨rfl, hb1⟩; have H1 := Lib.hid hb1; clear hb1))
    go_ret
    exact ⟨rfl, H3.out⟩
  have hb0 := (Below.refl w.heap.size w).alloc (Nat.le_refl _) (.cells #[.int .u64 (limb a 0 : Nat), .int .u64 (limb a 1 : Nat), .int .u64 (limb a 2 : Nat), .int .u64 (limb a 3 : Nat)] 24)
  have hM := fun W1 => more_walk a W1
  unfold U at hM
  have HM := Lib.hid hM
  have HC := Lib.hid hC
  have HB0 := Lib.hid hb0
  clear h ha ha2 hb0 hM hC
  unfold U
  go_enter Tryz.func14, Tryz.ntmps14
  go_wp2_with (first
    | (go_at_call 33; refine (HC.out _ _ H1.out.1 H1.out.2).mono ?_; rintro e w2 ⟨rfl, hb2⟩; have H2 := Lib.hid (H1.out.1.trans (hb2.mono H1.out.1.size)); clear hb2)
    | (go_at_call 35; refine (HM.out _).mono ?_; rintro e w1 ⟨rfl, hg1, hb1⟩; rw [World.size_alloc] at hg1; have H1 := Lib.hid (And.intro (HB0.out.trans (hb1.mono HB0.out.size)) hg1); clear hg1 hb1))
  go_ret
  exact ⟨rfl, H2.out⟩
set_option maxRecDepth 100000 in
set_option maxHeartbeats 4000000 in
theorem cmove_live {w W : World} {b : Nat} {F : List Nat} {L : SL} {q : Nat} {qs : List Value} (h : SNew w W b F L q qs) (k1 k2 : ByteArray) (x y a : Nat) (hk1 : k1.size ≤ maxLen) (hk10 : k1 ≠ ⟨#[]⟩) (hk2 : k2.size ≤ maxLen) (hk20 : k2 ≠ ⟨#[]⟩) (hne : k1 ≠ k2) (he1 : amtAt L k1 x) (he2 : amtAt L k2 y) (he1' : amtAt (setA L k2 (y + a)) k1 x) (hx : x < 2 ^ 256) (hy : y < 2 ^ 256) (ha : a < 2 ^ 256) (hle : a ≤ x) (hle2 : y + a ≤ MOST) (hN : L.length < 1000000) (hN2 : (setA L k2 (y + a)).length < 1000000) (hq : q + 2 < 1000000) :
    Calls Tryz.prog 23 #[.pointer (some ⟨b, 0, none⟩), .string k1, .string k2, U a] W fun e W' => e = .returned (.int .i64 0) ∧ LiveTo w W W' b F (setA (setA L k2 (y + a)) k1 (x - a)) (q + 2) := by
  have hb0 := (Below.refl W.heap.size W).alloc (Nat.le_refl _) (.cells #[.int .u64 (limb a 0 : Nat), .int .u64 (limb a 1 : Nat), .int .u64 (limb a 2 : Nat), .int .u64 (limb a 3 : Nat)] 24)
  have r0 := heap_alloc_new W (.cells #[.int .u64 (limb a 0 : Nat), .int .u64 (limb a 1 : Nat), .int .u64 (limb a 2 : Nat), .int .u64 (limb a 3 : Nat)] 24)
  have hFl : ∀ k, W.heap.size ≤ k → k ∉ F := fun k hk hm => by have := h.s.lt _ hm; omega
  have hL := fun W1 => less_walk a W1
  have hA := fun (W1 : World) (hb : Below W.heap.size W W1) => camount_at (h.below hb) k1 x hk1 he1 hx
  have hT := fun (W1 : World) (g : Nat) (hg : W1.heap[g]? = some (.cells #[.int .u64 (limb a 0 : Nat), .int .u64 (limb a 1 : Nat), .int .u64 (limb a 2 : Nat), .int .u64 (limb a 3 : Nat)] 24 (0, 0))) => lessc_ok x a (x - a) g hx ha hle rfl W1 hg
  have hAd := fun (W1 : World) (hb : Below W.heap.size W W1) => cadd_live (h.below hb) k2 y a hk2 hk20 he2 hy ha hle2 hN (by omega)
  have hSu := fun (W1 W2 : World) (hb : Below W.heap.size W W1) (hl : LiveTo w W1 W2 b F (setA L k2 (y + a)) (q + 1)) => (hl.pre hb).seq 1 (fun F1 qa qsa hs hqa => csub_live hs k1 x a hk1 hk10 he1' hx ha hle hN2 (by omega))
  unfold U at hL hA hT hAd hSu
  have HL := Lib.hid hL
  have HA := Lib.hid hA
  have HT := Lib.hid hT
  have HAd := Lib.hid hAd
  have HSu := Lib.hid hSu
  have H0 := Lib.hid (And.intro hb0 r0)
  have HF := Lib.hid hFl
  have hs12d : (k1.toList == k2.toList) = false := by
    rw [beq_eq_false_iff_ne]
    intro e
    rw [Lib.toList_data, Lib.toList_data] at e
    exact hne (keq_iff.1 (by unfold keq; exact decide_eq_true e))
  have hs12c : (k1.data.toList == k2.data.toList) = false := by
    rw [beq_eq_false_iff_ne]
    intro e
    exact hne (keq_iff.1 (by unfold keq; exact decide_eq_true e))
  obtain ⟨l1, e1⟩ : ∃ z, z = setA L k2 (y + a) := ⟨_, rfl⟩
  rw [← e1] at HAd HSu ⊢
  clear h hk1 hk10 hk2 hk20 hne he1 he2 he1' hx hy ha hle hle2 hN hN2 hq hb0 r0 hFl hL hA hT hAd hSu e1
  unfold U
  go_enter Tryz.func23, Tryz.ntmps23
  go_upto_region 2 with (first
    | (go_at_call 54; refine (HT.out _ _ H2.out.2).mono ?_; rintro e w3 ⟨rfl, hb3⟩; have H3 := Lib.hid (H2.out.1.trans (hb3.mono H2.out.1.size)); have B3 := Lib.hid (B2.out.trans (hb3.mono B2.out.size)); have HX := Lib.hid (fun (W4 : World) (hW4 : W4 = w3.alloc (.cells #[.int .u64 (limb (x - a) 0 : Nat), .int .u64 (limb (x - a) 1 : Nat), .int .u64 (limb (x - a) 2 : Nat), .int .u64 (limb (x - a) 3 : Nat)] 24)) => show Below (W.alloc (.cells #[.int .u64 (limb a 0 : Nat), .int .u64 (limb a 1 : Nat), .int .u64 (limb a 2 : Nat), .int .u64 (limb a 3 : Nat)] 24)).heap.size (W.alloc (.cells #[.int .u64 (limb a 0 : Nat), .int .u64 (limb a 1 : Nat), .int .u64 (limb a 2 : Nat), .int .u64 (limb a 3 : Nat)] 24)) W4 from by rw [hW4]; exact B3.out.alloc B3.out.size _); clear hb3)
    | (go_at_call 9; refine (HA.out _ H1.out.1).mono ?_; rintro e w2 ⟨rfl, hb2⟩; have H2 := Lib.hid (And.intro (H1.out.1.trans (hb2.mono H1.out.1.size)) ((hb2.block _ (hp_lt H1.out.2)).trans H1.out.2)); have B2 := Lib.hid (B1.out.trans (hb2.mono B1.out.size)); clear hb2)
    | (go_at_call 34; refine (HL.out _).mono ?_; rintro e w1 ⟨rfl, hg1, hb1⟩; rw [World.size_alloc] at hg1; have H1 := Lib.hid (And.intro (H0.out.1.trans (hb1.mono H0.out.1.size)) hg1); have B1 := Lib.hid hb1; clear hg1 hb1))
  have hbx := H3.out.alloc H3.out.size (.cells #[.int .u64 (limb (x - a) 0 : Nat), .int .u64 (limb (x - a) 1 : Nat), .int .u64 (limb (x - a) 2 : Nat), .int .u64 (limb (x - a) 3 : Nat)] 24)
  obtain ⟨W4, hW4⟩ : ∃ W4, W4 = w3.alloc (.cells #[.int .u64 (limb (x - a) 0 : Nat), .int .u64 (limb (x - a) 1 : Nat), .int .u64 (limb (x - a) 2 : Nat), .int .u64 (limb (x - a) 3 : Nat)] 24) := ⟨_, rfl⟩
  rw [← hW4] at hbx ⊢
  have r4 : W4.heap[W.heap.size]? = some (.cells #[.int .u64 (limb a 0 : Nat), .int .u64 (limb a 1 : Nat), .int .u64 (limb a 2 : Nat), .int .u64 (limb a 3 : Nat)] 24 (0, 0)) := by
    have h03 : Below (W.alloc (.cells #[.int .u64 (limb a 0 : Nat), .int .u64 (limb a 1 : Nat), .int .u64 (limb a 2 : Nat), .int .u64 (limb a 3 : Nat)] 24)).heap.size (W.alloc (.cells #[.int .u64 (limb a 0 : Nat), .int .u64 (limb a 1 : Nat), .int .u64 (limb a 2 : Nat), .int .u64 (limb a 3 : Nat)] 24)) W4 := HX.out W4 hW4
    exact (h03.block _ (hp_lt H0.out.2)).trans H0.out.2
  have H4 := Lib.hid (And.intro hbx r4)
  clear hbx hW4
  have c0 := (hp_cell (i := 0) r4).trans rfl
  have c1 := (hp_cell (i := 1) r4).trans rfl
  have c2 := (hp_cell (i := 2) r4).trans rfl
  have c3 := (hp_cell (i := 3) r4).trans rfl
  clear r4
  go_wp2_with (first
    | (go_at_call 11; refine (HSu.out _ _ H4.out.1 H5.out).mono ?_; rintro e w6 ⟨rfl, h6⟩; have H6 := Lib.hid h6; clear h6)
    | (go_at_call 14; refine (HAd.out _ H4.out.1).mono ?_; rintro e w5 ⟨rfl, h5⟩; have hT5 : Touch F W4 w5 := (by obtain ⟨_, _, _, _, _, ht, _⟩ := h5; exact ht); have r5 := (hT5.block _ (hp_lt H4.out.2) (HF.out _ (Nat.le_refl _))).trans H4.out.2; have H5 := Lib.hid h5; have c0 := (hp_cell (i := 0) r5).trans rfl; have c1 := (hp_cell (i := 1) r5).trans rfl; have c2 := (hp_cell (i := 2) r5).trans rfl; have c3 := (hp_cell (i := 3) r5).trans rfl; clear h5 hT5 r5))
  go_ret
  exact ⟨rfl, H6.out⟩
end Go.Proofs.YtnjcnlbphaodcaaGreat

namespace Go.Proofs.YtnjcnlbphaodcaaGreat
open Go.RowKit Go.Maps Go.Sort

set_option maxRecDepth 100000 in
set_option maxHeartbeats 2000000 in
theorem lessc_no (was a g : Nat) (hw : was < 2 ^ 256) (ha : a < 2 ^ 256) (hlt : was < a) (w : World) (hg : w.heap[g]? = some (.cells #[.int .u64 (limb a 0 : Nat), .int .u64 (limb a 1 : Nat), .int .u64 (limb a 2 : Nat), .int .u64 (limb a 3 : Nat)] 24 (0, 0))) :
    Calls Tryz.prog 54 #[U was, .pointer (some ⟨g, 0, none⟩)] w fun e w' => e = .returned (.tuple #[U 0, .int .i64 13]) ∧ Below w.heap.size w w' := by
  have hb0 := ((Below.refl w.heap.size w).alloc (Nat.le_refl _) (.cells #[.int .u64 (limb was 0 : Nat), .int .u64 (limb was 1 : Nat), .int .u64 (limb was 2 : Nat), .int .u64 (limb was 3 : Nat)] 24)).alloc (by simp) (.cells #[.int .u64 0, .int .u64 0, .int .u64 0, .int .u64 0] 24)
  have r0 := heap_alloc_new (w.alloc (.cells #[.int .u64 (limb was 0 : Nat), .int .u64 (limb was 1 : Nat), .int .u64 (limb was 2 : Nat), .int .u64 (limb was 3 : Nat)] 24)) (.cells #[.int .u64 0, .int .u64 0, .int .u64 0, .int .u64 0] 24)
  rw [World.size_alloc] at r0
  have hA : ∀ W, Calls Tryz.prog 55 #[U was, U a] W fun e w' => e = .returned (.tuple #[.agg #[.int .u64 0, .int .u64 0, .int .u64 0, .int .u64 0], .bool false]) ∧ Below W.heap.size W w' := fun W => (sub_walk was a W hw ha).mono fun e w' hh => by
    obtain ⟨he, hb⟩ := hh
    rw [if_neg (by omega), decide_eq_false (by omega), U_zero] at he
    exact ⟨he, hb⟩
  rw [U_zero]
  unfold U at hA
  have HA := Lib.hid hA
  have H0 := Lib.hid (And.intro hb0 r0)
  have rg := (hb0.block g (hp_lt hg)).trans hg
  have lg := hp_lt hg
  have c0 := (hp_cell (i := 0) rg).trans rfl
  have c1 := (hp_cell (i := 1) rg).trans rfl
  have c2 := (hp_cell (i := 2) rg).trans rfl
  have c3 := (hp_cell (i := 3) rg).trans rfl
  clear hb0 r0 hA rg hlt hw ha hg
  unfold U
  go_enter Tryz.func54, Tryz.ntmps54
  go_wp2_with (first
    | (go_at_call 55; refine (HA.out _).mono ?_; rintro e w2 ⟨rfl, hb2⟩; have hbx := (Below.refl w2.heap.size w2).alloc (Nat.le_refl _) (.cells #[.int .u64 0, .int .u64 0, .int .u64 0, .int .u64 0] 24); have hby := hb2.trans (hbx.mono hb2.size); have rx := (hby.block (w.heap.size + 1) (by simp)).trans H0.out.2; have RX := Lib.hid rx; have H2 := Lib.hid (H0.out.1.trans (hby.mono H0.out.1.size)); have d0 := (hp_cell (i := 0) rx).trans rfl; have d1 := (hp_cell (i := 1) rx).trans rfl; have d2 := (hp_cell (i := 2) rx).trans rfl; have d3 := (hp_cell (i := 3) rx).trans rfl; have g0 := hp_free (i := 0) rx; have g1 := hp_free (i := 1) rx; have g2 := hp_free (i := 2) rx; have g3 := hp_free (i := 3) rx; clear hb2 hbx hby rx))
  have rr := heap_setCell_row (o := 3) (heap_setCell_row (o := 2) (heap_setCell_row (o := 1) (heap_setCell_row (o := 0) RX.out (.int .u64 0)) (.int .u64 0)) (.int .u64 0)) (.int .u64 0)
  have e0 := (hp_cell (i := 0) rr).trans rfl
  have e1 := (hp_cell (i := 1) rr).trans rfl
  have e2 := (hp_cell (i := 2) rr).trans rfl
  have e3 := (hp_cell (i := 3) rr).trans rfl
  refine bodyPost_ret (v := .tuple #[.agg #[.int .u64 0, .int .u64 0, .int .u64 0, .int .u64 0], .int .i64 13]) (by simp [results, Tryz.results54, go_sem, e0, e1, e2, e3]) rfl ⟨rfl, below_set4 H2.out (by omega)⟩
set_option maxRecDepth 100000 in
set_option maxHeartbeats 2000000 in
/-- Sub of more than there is: nothing changes -/
theorem csub_no (P : Option Addr) (k : ByteArray) (was a : Nat) (hw : was < 2 ^ 256) (ha : a < 2 ^ 256) (hlt : was < a) (w : World) (HAm : ∀ W, Below w.heap.size w W → Calls Tryz.prog 9 #[.pointer P, .string k] W fun e w' => e = .returned (U was) ∧ Below W.heap.size W w') :
    Calls Tryz.prog 11 #[.pointer P, .string k, U a] w fun e w' => e = .returned (.int .i64 13) ∧ Below w.heap.size w w' := by
  have hC : ∀ (W : World) (g : Nat), Below w.heap.size w W → W.heap[g]? = some (.cells #[.int .u64 (limb a 0 : Nat), .int .u64 (limb a 1 : Nat), .int .u64 (limb a 2 : Nat), .int .u64 (limb a 3 : Nat)] 24 (0, 0)) → Calls Tryz.prog 33 #[.pointer P, .string k, .func (.func 54) #[] #[.pointer (some ⟨g, 0, none⟩)]] W fun e w' => e = .returned (.int .i64 13) ∧ Below W.heap.size W w' := by
    intro W g hbW hg
    have hA := HAm W hbW
    have hT := fun (W2 : World) (hb2 : Below W.heap.size W W2) => lessc_no was a g hw ha hlt W2 ((hb2.block g (hp_lt hg)).trans hg)
    rw [U_zero] at hT
    unfold U at hA hT
    have HA := Lib.hid hA
    have HTs := Lib.hid hT
    clear HAm hbW hg ha hw hlt hA hT
    go_enter Tryz.func33, Tryz.ntmps33
    go_wp2_with (first
      | (go_at_call 54; refine (HTs.out _ H1.out).mono ?_; rintro e w2 ⟨rfl, hb2⟩; have H2 := Lib.hid (H1.out.trans (hb2.mono H1.out.size)); clear hb2)
      | (go_at_call 9; refine HA.out.mono ?_; rintro e w1 ⟨rfl, hb1⟩; have H1 := Lib.hid hb1; clear hb1))
    go_ret
    exact ⟨rfl, H2.out.alloc H2.out.size _⟩
  have hb0 := (Below.refl w.heap.size w).alloc (Nat.le_refl _) (.cells #[.int .u64 (limb a 0 : Nat), .int .u64 (limb a 1 : Nat), .int .u64 (limb a 2 : Nat), .int .u64 (limb a 3 : Nat)] 24)
  have hM := fun W1 => less_walk a W1
  unfold U at hM
  have HM := Lib.hid hM
  have HC := Lib.hid hC
  have HB0 := Lib.hid hb0
  clear HAm ha hw hlt hb0 hM hC
  unfold U
  go_enter Tryz.func11, Tryz.ntmps11
  go_wp2_with (first
    | (go_at_call 33; refine (HC.out _ _ H1.out.1 H1.out.2).mono ?_; rintro e w2 ⟨rfl, hb2⟩; have H2 := Lib.hid (H1.out.1.trans (hb2.mono H1.out.1.size)); clear hb2)
    | (go_at_call 34; refine (HM.out _).mono ?_; rintro e w1 ⟨rfl, hg1, hb1⟩; rw [World.size_alloc] at hg1; have H1 := Lib.hid (And.intro (HB0.out.trans (hb1.mono HB0.out.size)) hg1); clear hg1 hb1))
  go_ret
  exact ⟨rfl, H2.out⟩
/-! ### the document's example -/
theorem w5 : U 5 = .agg #[.int .u64 5, .int .u64 0, .int .u64 0, .int .u64 0] := by unfold U; rw [show limb 5 0 = 5 by decide, show limb 5 1 = 0 by decide, show limb 5 2 = 0 by decide, show limb 5 3 = 0 by decide]; rfl
theorem w1 : U 1 = .agg #[.int .u64 1, .int .u64 0, .int .u64 0, .int .u64 0] := by unfold U; rw [show limb 1 0 = 1 by decide, show limb 1 1 = 0 by decide, show limb 1 2 = 0 by decide, show limb 1 3 = 0 by decide]; rfl
def CK : ByteArray := ⟨#[107]⟩
def CL1 : SL := setA [] CK (0 + 5)
theorem cl1 : amtAt CL1 CK 5 := .inr (by decide +kernel)
theorem cl2 : setA CL1 CK (5 - 5) = [] := by decide +kernel
set_option maxRecDepth 100000 in
set_option maxHeartbeats 4000000 in
theorem lives10_walk (w : World) : Calls Tryz.prog 5 #[] w fun e w' => e = .returned (.bool true) ∧ Below w.heap.size w w' := by
  have D1 := Lib.hid (fun (W W1 : World) (b : Nat) (F : List Nat) (hl : LiveTo w W W1 b F [] 0) => show Calls Tryz.prog 14 #[.pointer (some ⟨b, 0, none⟩), .string ⟨#[107]⟩, .agg #[.int .u64 5, .int .u64 0, .int .u64 0, .int .u64 0]] W1 fun e W2 => e = .returned (.int .i64 0) ∧ LiveTo w W W2 b F CL1 1 from by
    have := hl.seq 1 (fun F1 qa qsa hs hqa => cadd_live hs CK 0 5 (by decide) (by decide) (.inl ⟨rfl, rfl⟩) (by decide) (by decide) (by decide) (by decide) (by omega))
    rw [w5] at this
    exact this)
  have D2 := Lib.hid (fun (W W1 : World) (b : Nat) (F : List Nat) (hl : LiveTo w W W1 b F CL1 1) => show Calls Tryz.prog 11 #[.pointer (some ⟨b, 0, none⟩), .string ⟨#[107]⟩, .agg #[.int .u64 5, .int .u64 0, .int .u64 0, .int .u64 0]] W1 fun e W2 => e = .returned (.int .i64 0) ∧ LiveTo w W W2 b F [] 2 from by
    have := hl.seq 1 (fun F1 qa qsa hs hqa => csub_live hs CK 5 5 (by decide) (by decide) cl1 (by decide) (by decide) (by decide) (by decide +kernel) (by omega))
    rw [w5, cl2] at this
    exact this)
  have D3 := Lib.hid (fun (W W1 : World) (b : Nat) (F : List Nat) (hl : LiveTo w W W1 b F [] 2) => show Calls Tryz.prog 11 #[.pointer (some ⟨b, 0, none⟩), .string ⟨#[107]⟩, .agg #[.int .u64 1, .int .u64 0, .int .u64 0, .int .u64 0]] W1 fun e W2 => e = .returned (.int .i64 13) ∧ LiveTo w W W2 b F [] 2 ∧ Below W1.heap.size W1 W2 from by
    have := hl.read (fun F1 qa qsa hs hqa => csub_no (some ⟨b, 0, none⟩) CK 0 1 (by decide) (by decide) (by decide) W1 (fun W2 hb2 => camount_at (hs.below hb2) CK 0 (by decide) (.inl ⟨rfl, rfl⟩) (by decide)))
    rw [w1] at this
    exact this)
  have D4 := Lib.hid (fun (W W1 : World) (b : Nat) (F : List Nat) (hl : LiveTo w W W1 b F [] 2) => show Calls Tryz.prog 12 #[.pointer (some ⟨b, 0, none⟩)] W1 fun e W2 => e = .returned (.int .i64 0) ∧ W1 = W2 from by
    obtain ⟨F1, qa, qsa, hs, hqa, _⟩ := hl
    exact len_live b F1 [] qa qsa W1 hs.s)
  have D5 := Lib.hid (fun (W W1 : World) (b : Nat) (F : List Nat) (hl : LiveTo w W W1 b F [] 2) => show Calls Tryz.prog 15 #[.pointer (some ⟨b, 0, none⟩)] W1 fun e W2 => e = .returned (.bool true) ∧ W1 = W2 from by
    obtain ⟨F1, qa, qsa, hs, hqa, _⟩ := hl
    exact made_live b F1 [] qa qsa W1 hs.s)
  obtain ⟨r1, e1⟩ : ∃ x, x = CL1 := ⟨_, rfl⟩
  rw [← e1] at D1 D2
  clear e1
  go_enter Tryz.func5, Tryz.ntmps5
  go_wp2_with (first
    | (go_at_call 11; have g5 := h3; clear g5; with_reducible refine (D3.out _ _ _ _ h3.out).mono ?_; rintro e w4 ⟨rfl, hs4, _⟩; have h4 := Lib.hid hs4; clear hs4)
    | (go_at_call 15; with_reducible refine (D5.out _ _ _ _ h3.out).mono ?_; rintro e w4 ⟨rfl, rfl⟩)
    | (go_at_call 12; with_reducible refine (D4.out _ _ _ _ h3.out).mono ?_; rintro e w4 ⟨rfl, rfl⟩)
    | (go_at_call 11; with_reducible refine (D2.out _ _ _ _ h2.out).mono ?_; rintro e w3 ⟨rfl, hs3⟩; have h3 := Lib.hid hs3; clear hs3)
    | (go_at_call 14; with_reducible refine (D1.out _ _ _ _ h1.out.start).mono ?_; rintro e w2 ⟨rfl, hs2⟩; have h2 := Lib.hid hs2; clear hs2)
    | (go_at_call 13; refine (SNew.new w _ (Below.refl _ _)).mono ?_; rintro e w1 ⟨b, F1, rfl, hs1, _, _⟩; have h1 := Lib.hid hs1; clear hs1))
  go_ret
  exact ⟨rfl, h4.out.l⟩
end Go.Proofs.YtnjcnlbphaodcaaGreat
