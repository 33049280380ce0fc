/- cell's amounts on a live store and on a dead one: Amount, SetAmount, more, less, change, Add, Sub. -/
import Derived.Test.YtedkhpnlhkjjgaaG12
import Derived.Test.YtedkhpnlhkjjgaaG15
import Derived.Test.YtedkhpnlhkjjgaaG16
import Derived.Test.YtedkhpnlhkjjgaaG19
import Derived.Test.YtedkhpnlhkjjgaaG13
import Derived.Test.YtedkhpnlhkjjgaaG07
namespace Go.Proofs.Ytedkhpnlhkjjgaa
open Go.RowKit Go.Maps Go.Sort

/-- the amount at a key -/
def amtAt (L : SL) (k : ByteArray) (a : Nat) : Prop := (a = 0 ∧ sget L k = none) ∨ sget L k = some (amtStr a)
/-- what SetAmount leaves -/
def setA (L : SL) (k : ByteArray) (a : Nat) : SL := if a = 0 then sdel L k else setL L k (amtStr a)
theorem amtStr_ne (a : Nat) : amtStr a ≠ ⟨#[]⟩ := by
  intro e
  have := amtStr_size a
  rw [e] at this
  exact absurd this (by decide)
set_option maxRecDepth 100000 in
set_option maxHeartbeats 1000000 in
theorem camount_walk (P : Option Addr) (k V : ByteArray) (is ok : Bool) (a : Nat) (w : World) (hV : fbv V = a) (hok : decide (V.size = 32) = ok) (HG : Calls Try.prog 47 #[.pointer P, .string k] (w.alloc (.cells #[.int .u64 0, .int .u64 0, .int .u64 0, .int .u64 0] 29)) fun e w' => e = .returned (.tuple #[.string V, .bool is]) ∧ Below (w.alloc (.cells #[.int .u64 0, .int .u64 0, .int .u64 0, .int .u64 0] 29)).heap.size (w.alloc (.cells #[.int .u64 0, .int .u64 0, .int .u64 0, .int .u64 0] 29)) w') :
    Calls Try.prog 126 #[.pointer P, .string k] w fun e w' => e = .returned (.agg #[.int .u64 (limb a 0 : Nat), .int .u64 (limb a 1 : Nat), .int .u64 (limb a 2 : Nat), .int .u64 (limb a 3 : Nat)]) ∧ Below w.heap.size w w' := by
  have hb0 := (Below.refl w.heap.size w).alloc (Nat.le_refl _) (.cells #[.int .u64 0, .int .u64 0, .int .u64 0, .int .u64 0] 29)
  have r0 := heap_alloc_new w (.cells #[.int .u64 0, .int .u64 0, .int .u64 0, .int .u64 0] 29)
  have H0 := Lib.hid (And.intro hb0 r0)
  have HGs := Lib.hid HG
  have HT := Lib.hid (fun W => toAmount_walk V a ok W hV hok)
  clear hb0 r0 HG hV hok
  go_enter Try.func126, Try.ntmps126
  go_wp2_with (first
    | (go_at_call 114; refine (HT.out _).mono ?_; rintro e w2 ⟨rfl, hb2⟩; unfold U; have r2 := (hb2.block _ (hp_lt H1.out.2)).trans H1.out.2; have hbx := (Below.refl w2.heap.size w2).alloc (Nat.le_refl _) (.cells #[.int .u64 (limb a 0 : Nat), .int .u64 (limb a 1 : Nat), .int .u64 (limb a 2 : Nat), .int .u64 (limb a 3 : Nat)] 29); have rx := (hbx.block _ (hp_lt r2)).trans r2; have RX := Lib.hid rx; have H2 := Lib.hid (H1.out.1.trans ((hb2.trans (hbx.mono hb2.size)).mono H1.out.1.size)); have d0 := (hp_cell (i := 0) rx).trans rfl; have d1 := (hp_cell (i := 1) rx).trans rfl; have d2 := (hp_cell (i := 2) rx).trans rfl; have d3 := (hp_cell (i := 3) rx).trans rfl; have g0 := hp_free (i := 0) rx; have g1 := hp_free (i := 1) rx; have g2 := hp_free (i := 2) rx; have g3 := hp_free (i := 3) rx; clear hb2 r2 hbx rx)
    | (go_at_call 47; refine HGs.out.mono ?_; rintro e w1 ⟨rfl, hb1⟩; have H1 := Lib.hid (And.intro (H0.out.1.trans (hb1.mono H0.out.1.size)) ((hb1.block _ (hp_lt H0.out.2)).trans H0.out.2)); clear hb1))
  obtain ⟨e0, e1, e2, e3⟩ := ((arr_zero RX.out).put4 (n := a)).cells4
  refine bodyPost_ret (v := .agg #[.int .u64 (limb a 0 : Nat), .int .u64 (limb a 1 : Nat), .int .u64 (limb a 2 : Nat), .int .u64 (limb a 3 : Nat)]) (by simp [results, Try.results126, go_sem, e0, e1, e2, e3]) rfl ⟨rfl, below_set4 H2.out (Nat.le_refl _)⟩
theorem camount_at {w W : World} {b : Nat} {F : List Nat} {L : SL} {q : Nat} {qs : List Value} (h : SNew w W b F L q qs) (k : ByteArray) (a : Nat) (hk : k.size ≤ maxLen) (he : amtAt L k a) (ha : a < 2 ^ 256) :
    Calls Try.prog 126 #[.pointer (some ⟨b, 0, none⟩), .string k] W fun e W' => e = .returned (U a) ∧ Below W.heap.size W W' := by
  have hs := h.al (.cells #[.int .u64 0, .int .u64 0, .int .u64 0, .int .u64 0] 29)
  rcases he with ⟨rfl, he⟩ | he
  · exact camount_walk _ k ⟨#[]⟩ false false 0 W (by decide) (by decide) ((hs.get_none k hk he).mono fun e w' hh => ⟨hh.1, hh.2.2⟩)
  · exact camount_walk _ k (amtStr a) true true a W (amt_fbv a ha) (by rw [amtStr_size]; rfl) ((hs.get_some k _ hk he).mono fun e w' hh => ⟨hh.1, hh.2.2⟩)
theorem camount_dead (P : Option Addr) (k : ByteArray) (w : World) (h : SDead w (.pointer P)) : Calls Try.prog 126 #[.pointer P, .string k] w fun e w' => e = .returned (U 0) ∧ Below w.heap.size w w' :=
  camount_walk P k ⟨#[]⟩ false false 0 w (by decide) (by decide) ((sget_dead _ k _ (h.below ((Below.refl _ _).alloc (Nat.le_refl _) _))).mono fun e w' hh => ⟨hh.1, by rw [← hh.2]; exact Below.refl _ _⟩)
set_option maxRecDepth 100000 in
set_option maxHeartbeats 1000000 in
theorem csetAmount_live {w W : World} {b : Nat} {F : List Nat} {L : SL} {q : Nat} {qs : List Value} (h : SNew w W b F L q qs) (k : ByteArray) (a : Nat) (hk : k.size ≤ maxLen) (hk0 : k ≠ ⟨#[]⟩) (ha : a < 2 ^ 256) (hN : L.length < 128) (hq : q < 1000000) :
    Calls Try.prog 149 #[.pointer (some ⟨b, 0, none⟩), .string k, U a] W fun e W' => e = .returned (.tuple #[]) ∧ LiveTo w W W' b F (setA L k a) (q + 1) := by
  have hb0 := (Below.refl W.heap.size W).alloc (Nat.le_refl _) (.cells #[.int .u64 (limb a 0 : Nat), .int .u64 (limb a 1 : Nat), .int .u64 (limb a 2 : Nat), .int .u64 (limb a 3 : Nat)] 29)
  have hq0 := fun w => eq0_run ha w
  by_cases h0 : a = 0
  · have HP := Lib.hid ((cput_del (h.al (.cells #[.int .u64 (limb a 0 : Nat), .int .u64 (limb a 1 : Nat), .int .u64 (limb a 2 : Nat), .int .u64 (limb a 3 : Nat)] 29)) k hk (by omega) hq).mono fun e W' hp => (⟨hp.1, by unfold setA; rw [if_pos h0]; exact hp.2.pre hb0⟩ : e = .returned (.tuple #[]) ∧ LiveTo w W W' b F (setA L k a) (q + 1)))
    rw [decide_eq_true h0] at hq0
    clear h hk hk0 ha hN hq hb0 h0
    unfold U
    go_enter Try.func149, Try.ntmps149
    go_wp2_with (go_at_call 119; refine HP.out.mono ?_; rintro e w2 ⟨rfl, h1⟩; have H1 := Lib.hid h1; clear h1)
    refine bodyPost_ret (v := .tuple #[]) (by simp [results, Try.results149, go_sem]) rfl ⟨rfl, H1.out⟩
  · have HP := Lib.hid (fun (W1 : World) (hb : Below W.heap.size W W1) => (cput_set (h.below hb) k (amtStr a) hk (by rw [amtStr_size]; decide) hk0 (amtStr_ne a) hN hq).mono fun e W' hp => (⟨hp.1, by unfold setA; rw [if_neg h0]; exact hp.2.pre hb⟩ : e = .returned (.tuple #[]) ∧ LiveTo w W W' b F (setA L k a) (q + 1)))
    rw [decide_eq_false h0] at hq0
    have hAm := fun W1 => amount9_walk a W1
    unfold U at hAm
    have HA := Lib.hid hAm
    have HB0 := Lib.hid hb0
    clear hAm h hk hk0 ha hN hq hb0 h0
    unfold U
    go_enter Try.func149, Try.ntmps149
    go_wp2_with (first
      | (go_at_call 119; refine (HP.out _ HB1.out).mono ?_; rintro e w2 ⟨rfl, h1⟩; have H1 := Lib.hid h1; clear h1)
      | (go_at_call 67; refine (HA.out _).mono ?_; rintro e w1 ⟨rfl, hb1⟩; have HB1 := Lib.hid (HB0.out.trans (hb1.mono HB0.out.size)); clear hb1))
    go_end0
    exact ⟨rfl, H1.out⟩
theorem cput_dead (p : Value) (k v : ByteArray) (w : World) (h : SDead w p) : Calls Try.prog 119 #[p, .string k, .string v] w fun e w' => e = .returned (.tuple #[]) ∧ w = w' := by
  have HD := Lib.hid (delete_dead p k w h)
  have HS := Lib.hid (set_dead p k v w h)
  clear h
  by_cases hv : v = ⟨#[]⟩
  · subst hv
    go_enter Try.func119, Try.ntmps119
    go_wp2_with (go_at_call 76; refine HD.out.mono ?_; rintro e w1 ⟨rfl, rfl⟩)
    refine bodyPost_ret (v := .tuple #[]) (by simp [results, Try.results119, go_sem]) rfl ⟨rfl, rfl⟩
  · have hv1 := ba_nil hv
    go_enter Try.func119, Try.ntmps119
    go_wp2_with (go_at_call 64; refine HS.out.mono ?_; rintro e w1 ⟨rfl, rfl⟩)
    go_end0
    exact ⟨rfl, rfl⟩
set_option maxRecDepth 100000 in
set_option maxHeartbeats 1000000 in
theorem csetAmount_dead (p : Value) (k : ByteArray) (a : Nat) (ha : a < 2 ^ 256) (w : World) (h : SDead w p) : Calls Try.prog 149 #[p, .string k, U a] w fun e w' => e = .returned (.tuple #[]) ∧ Below w.heap.size w w' := by
  have hb0 := (Below.refl w.heap.size w).alloc (Nat.le_refl _) (.cells #[.int .u64 (limb a 0 : Nat), .int .u64 (limb a 1 : Nat), .int .u64 (limb a 2 : Nat), .int .u64 (limb a 3 : Nat)] 29)
  have hq0 := fun w => eq0_run ha w
  have HD := Lib.hid (fun (v : ByteArray) (W : World) (hb : Below w.heap.size w W) => cput_dead p k v W (h.below hb))
  have HB0 := Lib.hid hb0
  have hAm := fun W1 => amount9_walk a W1
  unfold U at hAm
  have HA := Lib.hid hAm
  clear h hb0 hAm
  by_cases h0 : a = 0
  · rw [decide_eq_true h0] at hq0
    clear h0 ha
    unfold U
    go_enter Try.func149, Try.ntmps149
    go_wp2_with (go_at_call 119; refine (HD.out _ _ HB0.out).mono ?_; rintro e w1 ⟨rfl, rfl⟩)
    refine bodyPost_ret (v := .tuple #[]) (by simp [results, Try.results149, go_sem]) rfl ⟨rfl, HB0.out⟩
  · rw [decide_eq_false h0] at hq0
    clear h0 ha
    unfold U
    go_enter Try.func149, Try.ntmps149
    go_wp2_with (first
      | (go_at_call 119; refine (HD.out _ _ HB1.out).mono ?_; rintro e w2 ⟨rfl, rfl⟩)
      | (go_at_call 67; refine (HA.out _).mono ?_; rintro e w1 ⟨rfl, hb1⟩; have HB1 := Lib.hid (HB0.out.trans (hb1.mono HB0.out.size)); clear hb1))
    go_end0
    exact ⟨rfl, HB1.out⟩
/-! ### the two turns -/
set_option maxRecDepth 100000 in
theorem more_walk (a : Nat) (w : World) : Calls Try.prog 130 #[U a] w fun e w' => e = .returned (.func (.func 150) #[] #[.pointer (some ⟨w.heap.size, 0, none⟩)]) ∧ w'.heap[w.heap.size]? = some (.cells #[.int .u64 (limb a 0 : Nat), .int .u64 (limb a 1 : Nat), .int .u64 (limb a 2 : Nat), .int .u64 (limb a 3 : Nat)] 29 (0, 0)) ∧ Below w.heap.size w w' := by
  unfold U
  go_enter Try.func130, Try.ntmps130
  go_wp2
  go_ret
  exact ⟨rfl, heap_alloc_new _ _, (Below.refl _ _).alloc (Nat.le_refl _) _⟩
set_option maxRecDepth 100000 in
theorem less_walk (a : Nat) (w : World) : Calls Try.prog 133 #[U a] w fun e w' => e = .returned (.func (.func 151) #[] #[.pointer (some ⟨w.heap.size, 0, none⟩)]) ∧ w'.heap[w.heap.size]? = some (.cells #[.int .u64 (limb a 0 : Nat), .int .u64 (limb a 1 : Nat), .int .u64 (limb a 2 : Nat), .int .u64 (limb a 3 : Nat)] 29 (0, 0)) ∧ Below w.heap.size w w' := by
  unfold U
  go_enter Try.func133, Try.ntmps133
  go_wp2
  go_ret
  exact ⟨rfl, heap_alloc_new _ _, (Below.refl _ _).alloc (Nat.le_refl _) _⟩
set_option maxRecDepth 100000 in
set_option maxHeartbeats 2000000 in
theorem lessc_ok (was a r g : Nat) (hw : was < 2 ^ 256) (ha : a < 2 ^ 256) (hle : a ≤ was) (hr : was - a = r) (w : World) (hg : w.heap[g]? = some (.cells #[.int .u64 (limb a 0 : Nat), .int .u64 (limb a 1 : Nat), .int .u64 (limb a 2 : Nat), .int .u64 (limb a 3 : Nat)] 29 (0, 0))) :
    Calls Try.prog 151 #[U was, .pointer (some ⟨g, 0, none⟩)] w fun e w' => e = .returned (.tuple #[U r, .int .i64 0]) ∧ Below w.heap.size w w' := by
  have hb0 := ((Below.refl w.heap.size w).alloc (Nat.le_refl _) (.cells #[.int .u64 (limb was 0 : Nat), .int .u64 (limb was 1 : Nat), .int .u64 (limb was 2 : Nat), .int .u64 (limb was 3 : Nat)] 29)).alloc (by simp) (.cells #[.int .u64 0, .int .u64 0, .int .u64 0, .int .u64 0] 29)
  have r0 := heap_alloc_new (w.alloc (.cells #[.int .u64 (limb was 0 : Nat), .int .u64 (limb was 1 : Nat), .int .u64 (limb was 2 : Nat), .int .u64 (limb was 3 : Nat)] 29)) (.cells #[.int .u64 0, .int .u64 0, .int .u64 0, .int .u64 0] 29)
  rw [World.size_alloc] at r0
  have hA : ∀ W, Calls Try.prog 103 #[U was, U a] W fun e w' => e = .returned (.tuple #[U r, .bool true]) ∧ Below W.heap.size W w' := fun W => (sub_walk was a W hw ha).mono fun e w' hh => by
    obtain ⟨he, hb⟩ := hh
    rw [if_pos hle, decide_eq_true hle, hr] at he
    exact ⟨he, hb⟩
  unfold U at hA
  have HA := Lib.hid hA
  have H0 := Lib.hid (And.intro hb0 r0)
  have rg := (hb0.block g (hp_lt hg)).trans hg
  have lg := hp_lt hg
  have c0 := (hp_cell (i := 0) rg).trans rfl
  have c1 := (hp_cell (i := 1) rg).trans rfl
  have c2 := (hp_cell (i := 2) rg).trans rfl
  have c3 := (hp_cell (i := 3) rg).trans rfl
  clear hb0 r0 hA rg hle hr hw ha hg
  unfold U
  go_enter Try.func151, Try.ntmps151
  go_wp2_with (first
    | (go_at_call 103; refine (HA.out _).mono ?_; rintro e w2 ⟨rfl, hb2⟩; have hbx := (Below.refl w2.heap.size w2).alloc (Nat.le_refl _) (.cells #[.int .u64 (limb r 0 : Nat), .int .u64 (limb r 1 : Nat), .int .u64 (limb r 2 : Nat), .int .u64 (limb r 3 : Nat)] 29); have hby := hb2.trans (hbx.mono hb2.size); have rx := (hby.block (w.heap.size + 1) (by simp)).trans H0.out.2; have RX := Lib.hid rx; have H2 := Lib.hid (H0.out.1.trans (hby.mono H0.out.1.size)); have d0 := (hp_cell (i := 0) rx).trans rfl; have d1 := (hp_cell (i := 1) rx).trans rfl; have d2 := (hp_cell (i := 2) rx).trans rfl; have d3 := (hp_cell (i := 3) rx).trans rfl; have g0 := hp_free (i := 0) rx; have g1 := hp_free (i := 1) rx; have g2 := hp_free (i := 2) rx; have g3 := hp_free (i := 3) rx; clear hb2 hbx hby rx))
  obtain ⟨e0, e1, e2, e3⟩ := ((arr_zero RX.out).put4 (n := r)).cells4
  refine bodyPost_ret (v := .tuple #[.agg #[.int .u64 (limb r 0 : Nat), .int .u64 (limb r 1 : Nat), .int .u64 (limb r 2 : Nat), .int .u64 (limb r 3 : Nat)], .int .i64 0]) (by simp [results, Try.results151, go_sem, e0, e1, e2, e3]) rfl ⟨rfl, below_set4 H2.out (by omega)⟩
set_option maxRecDepth 100000 in
set_option maxHeartbeats 2000000 in
theorem morec_ok (was a r g : Nat) (hw : was < 2 ^ 256) (ha : a < 2 ^ 256) (hle : was + a ≤ MOST) (hr : was + a = r) (w : World) (hg : w.heap[g]? = some (.cells #[.int .u64 (limb a 0 : Nat), .int .u64 (limb a 1 : Nat), .int .u64 (limb a 2 : Nat), .int .u64 (limb a 3 : Nat)] 29 (0, 0))) :
    Calls Try.prog 150 #[U was, .pointer (some ⟨g, 0, none⟩)] w fun e w' => e = .returned (.tuple #[U r, .int .i64 0]) ∧ Below w.heap.size w w' := by
  have hb0 := ((Below.refl w.heap.size w).alloc (Nat.le_refl _) (.cells #[.int .u64 (limb was 0 : Nat), .int .u64 (limb was 1 : Nat), .int .u64 (limb was 2 : Nat), .int .u64 (limb was 3 : Nat)] 29)).alloc (by simp) (.cells #[.int .u64 0, .int .u64 0, .int .u64 0, .int .u64 0] 29)
  have r0 := heap_alloc_new (w.alloc (.cells #[.int .u64 (limb was 0 : Nat), .int .u64 (limb was 1 : Nat), .int .u64 (limb was 2 : Nat), .int .u64 (limb was 3 : Nat)] 29)) (.cells #[.int .u64 0, .int .u64 0, .int .u64 0, .int .u64 0] 29)
  rw [World.size_alloc] at r0
  have hA : ∀ W, Calls Try.prog 97 #[U was, U a] W fun e w' => e = .returned (.tuple #[U r, .bool true]) ∧ Below W.heap.size W w' := fun W => (add_walk was a W hw ha).mono fun e w' hh => by
    obtain ⟨he, hb⟩ := hh
    rw [if_pos (Nat.lt_of_le_of_lt hle MOST_lt), decide_eq_true (Nat.lt_of_le_of_lt hle MOST_lt), hr] at he
    exact ⟨he, hb⟩
  have hM : ∀ W, Calls Try.prog 86 #[U r] W fun e w' => e = .returned (.bool true) ∧ Below W.heap.size W w' := fun W => (amount_walk r W (by rw [← hr]; exact Nat.lt_of_le_of_lt hle MOST_lt)).mono fun e w' hh => by
    obtain ⟨he, hb⟩ := hh
    rw [decide_eq_true (by rw [← hr]; exact hle)] at he
    exact ⟨he, hb⟩
  unfold U at hA hM
  have HA := Lib.hid hA
  have HM := Lib.hid hM
  clear hM
  have H0 := Lib.hid (And.intro hb0 r0)
  have rg := (hb0.block g (hp_lt hg)).trans hg
  have lg := hp_lt hg
  have c0 := (hp_cell (i := 0) rg).trans rfl
  have c1 := (hp_cell (i := 1) rg).trans rfl
  have c2 := (hp_cell (i := 2) rg).trans rfl
  have c3 := (hp_cell (i := 3) rg).trans rfl
  clear hb0 r0 hA rg hle hr hw ha hg
  unfold U
  go_enter Try.func150, Try.ntmps150
  go_wp2_with (first
    | (go_at_call 86; refine (HM.out _).mono ?_; rintro e w3 ⟨rfl, hb3⟩; have hbx := (Below.refl w2.heap.size w2).alloc (Nat.le_refl _) (.cells #[.int .u64 (limb r 0 : Nat), .int .u64 (limb r 1 : Nat), .int .u64 (limb r 2 : Nat), .int .u64 (limb r 3 : Nat)] 29); have ry := (hb3.block w2.heap.size (by simp)).trans (heap_alloc_new w2 (.cells #[.int .u64 (limb r 0 : Nat), .int .u64 (limb r 1 : Nat), .int .u64 (limb r 2 : Nat), .int .u64 (limb r 3 : Nat)] 29)); have rx := (hb3.block _ (hp_lt RX.out)).trans RX.out; have RX3 := Lib.hid rx; have H3 := Lib.hid (H2.out.trans (hb3.mono H2.out.size)); have LY := hp_lt ry; have LZ := Lib.hid (hp_lt H0.out.2); have d0 := (hp_cell (i := 0) rx).trans rfl; have d1 := (hp_cell (i := 1) rx).trans rfl; have d2 := (hp_cell (i := 2) rx).trans rfl; have d3 := (hp_cell (i := 3) rx).trans rfl; have g0 := hp_free (i := 0) rx; have g1 := hp_free (i := 1) rx; have g2 := hp_free (i := 2) rx; have g3 := hp_free (i := 3) rx; have y0 := (hp_cell (i := 0) ry).trans rfl; have y1 := (hp_cell (i := 1) ry).trans rfl; have y2 := (hp_cell (i := 2) ry).trans rfl; have y3 := (hp_cell (i := 3) ry).trans rfl; clear hb3 hbx rx ry)
    | (go_at_call 97; refine (HA.out _).mono ?_; rintro e w2 ⟨rfl, hb2⟩; have hbx := (Below.refl w2.heap.size w2).alloc (Nat.le_refl _) (.cells #[.int .u64 (limb r 0 : Nat), .int .u64 (limb r 1 : Nat), .int .u64 (limb r 2 : Nat), .int .u64 (limb r 3 : Nat)] 29); have hby := hb2.trans (hbx.mono hb2.size); have rx := (hby.block (w.heap.size + 1) (by simp)).trans H0.out.2; have RX := Lib.hid rx; have H2 := Lib.hid (H0.out.1.trans (hby.mono H0.out.1.size)); have d0 := (hp_cell (i := 0) rx).trans rfl; have d1 := (hp_cell (i := 1) rx).trans rfl; have d2 := (hp_cell (i := 2) rx).trans rfl; have d3 := (hp_cell (i := 3) rx).trans rfl; have g0 := hp_free (i := 0) rx; have g1 := hp_free (i := 1) rx; have g2 := hp_free (i := 2) rx; have g3 := hp_free (i := 3) rx; clear hb2 hbx hby rx))
  obtain ⟨e0, e1, e2, e3⟩ := ((arr_zero RX3.out).put4 (n := r)).cells4
  refine bodyPost_ret (v := .tuple #[.agg #[.int .u64 (limb r 0 : Nat), .int .u64 (limb r 1 : Nat), .int .u64 (limb r 2 : Nat), .int .u64 (limb r 3 : Nat)], .int .i64 0]) (by simp [results, Try.results150, go_sem, e0, e1, e2, e3]) rfl ⟨rfl, below_set4 H3.out (by omega)⟩
end Go.Proofs.Ytedkhpnlhkjjgaa

namespace Go.Proofs.Ytedkhpnlhkjjgaa
open Go.RowKit Go.Maps Go.Sort

set_option maxRecDepth 100000 in
set_option maxHeartbeats 2000000 in
theorem cchange_more {w W : World} {b : Nat} {F : List Nat} {L : SL} {q : Nat} {qs : List Value} (h : SNew w W b F L q qs) (k : ByteArray) (was r g : Nat) (hk : k.size ≤ maxLen) (hk0 : k ≠ ⟨#[]⟩) (he : amtAt L k was) (hw : was < 2 ^ 256) (hr : r < 2 ^ 256) (hN : L.length < 128) (hq : q < 1000000)
    (HT : ∀ W', Below W.heap.size W W' → Calls Try.prog 150 #[U was, .pointer (some ⟨g, 0, none⟩)] W' fun e w' => e = .returned (.tuple #[U r, .int .i64 0]) ∧ Below W'.heap.size W' w') :
    Calls Try.prog 129 #[.pointer (some ⟨b, 0, none⟩), .string k, .func (.func 150) #[] #[.pointer (some ⟨g, 0, none⟩)]] W fun e W' => e = .returned (.int .i64 0) ∧ LiveTo w W W' b F (setA L k r) (q + 1) := by
  have hA := camount_at h k was hk he hw
  have hT := HT
  have hS := fun (W1 : World) (hb : Below W.heap.size W W1) => (csetAmount_live (h.below hb) k r hk hk0 hr hN hq).mono fun e W' hp => (⟨hp.1, hp.2.pre hb⟩ : e = .returned (.tuple #[]) ∧ LiveTo w W W' b F (setA L k r) (q + 1))
  unfold U at hA hT hS
  have HA := Lib.hid hA
  have HTs := Lib.hid hT
  have HS := Lib.hid hS
  clear h hk hk0 he hw hr hN hq HT hA hT hS
  go_enter Try.func129, Try.ntmps129
  go_wp2_with (first
    | (go_at_call 149; refine (HS.out _ (H2.out.alloc H2.out.size (.cells #[.int .u64 (limb r 0 : Nat), .int .u64 (limb r 1 : Nat), .int .u64 (limb r 2 : Nat), .int .u64 (limb r 3 : Nat)] 29))).mono ?_; rintro e w3 ⟨rfl, h3⟩; have H3 := Lib.hid h3; clear h3)
    | (go_at_call 150; refine (HTs.out _ H1.out).mono ?_; rintro e w2 ⟨rfl, hb2⟩; have H2 := Lib.hid (H1.out.trans (hb2.mono H1.out.size)); clear hb2)
    | (go_at_call 126; refine HA.out.mono ?_; rintro e w1 ⟨rfl, hb1⟩; have H1 := Lib.hid hb1; clear hb1))
  go_ret
  exact ⟨rfl, H3.out⟩
set_option maxRecDepth 100000 in
set_option maxHeartbeats 2000000 in
theorem cchange_less {w W : World} {b : Nat} {F : List Nat} {L : SL} {q : Nat} {qs : List Value} (h : SNew w W b F L q qs) (k : ByteArray) (was r g : Nat) (hk : k.size ≤ maxLen) (hk0 : k ≠ ⟨#[]⟩) (he : amtAt L k was) (hw : was < 2 ^ 256) (hr : r < 2 ^ 256) (hN : L.length < 128) (hq : q < 1000000)
    (HT : ∀ W', Below W.heap.size W W' → Calls Try.prog 151 #[U was, .pointer (some ⟨g, 0, none⟩)] W' fun e w' => e = .returned (.tuple #[U r, .int .i64 0]) ∧ Below W'.heap.size W' w') :
    Calls Try.prog 129 #[.pointer (some ⟨b, 0, none⟩), .string k, .func (.func 151) #[] #[.pointer (some ⟨g, 0, none⟩)]] W fun e W' => e = .returned (.int .i64 0) ∧ LiveTo w W W' b F (setA L k r) (q + 1) := by
  have hA := camount_at h k was hk he hw
  have hT := HT
  have hS := fun (W1 : World) (hb : Below W.heap.size W W1) => (csetAmount_live (h.below hb) k r hk hk0 hr hN hq).mono fun e W' hp => (⟨hp.1, hp.2.pre hb⟩ : e = .returned (.tuple #[]) ∧ LiveTo w W W' b F (setA L k r) (q + 1))
  unfold U at hA hT hS
  have HA := Lib.hid hA
  have HTs := Lib.hid hT
  have HS := Lib.hid hS
  clear h hk hk0 he hw hr hN hq HT hA hT hS
  go_enter Try.func129, Try.ntmps129
  go_wp2_with (first
    | (go_at_call 149; refine (HS.out _ (H2.out.alloc H2.out.size (.cells #[.int .u64 (limb r 0 : Nat), .int .u64 (limb r 1 : Nat), .int .u64 (limb r 2 : Nat), .int .u64 (limb r 3 : Nat)] 29))).mono ?_; rintro e w3 ⟨rfl, h3⟩; have H3 := Lib.hid h3; clear h3)
    | (go_at_call 151; refine (HTs.out _ H1.out).mono ?_; rintro e w2 ⟨rfl, hb2⟩; have H2 := Lib.hid (H1.out.trans (hb2.mono H1.out.size)); clear hb2)
    | (go_at_call 126; refine HA.out.mono ?_; rintro e w1 ⟨rfl, hb1⟩; have H1 := Lib.hid hb1; clear hb1))
  go_ret
  exact ⟨rfl, H3.out⟩
set_option maxRecDepth 100000 in
set_option maxHeartbeats 2000000 in
theorem cadd_live {w W : World} {b : Nat} {F : List Nat} {L : SL} {q : Nat} {qs : List Value} (h : SNew w W b F L q qs) (k : ByteArray) (was a : Nat) (hk : k.size ≤ maxLen) (hk0 : k ≠ ⟨#[]⟩) (he : amtAt L k was) (hw : was < 2 ^ 256) (ha : a < 2 ^ 256) (hle : was + a ≤ MOST) (hN : L.length < 128) (hq : q < 1000000) :
    Calls Try.prog 88 #[.pointer (some ⟨b, 0, none⟩), .string k, U a] W fun e W' => e = .returned (.int .i64 0) ∧ LiveTo w W W' b F (setA L k (was + a)) (q + 1) := by
  have hb0 := (Below.refl W.heap.size W).alloc (Nat.le_refl _) (.cells #[.int .u64 (limb a 0 : Nat), .int .u64 (limb a 1 : Nat), .int .u64 (limb a 2 : Nat), .int .u64 (limb a 3 : Nat)] 29)
  have hM := fun W1 => more_walk a W1
  have HC := Lib.hid (fun (W1 : World) (g : Nat) (hb : Below W.heap.size W W1) (hg : W1.heap[g]? = some (.cells #[.int .u64 (limb a 0 : Nat), .int .u64 (limb a 1 : Nat), .int .u64 (limb a 2 : Nat), .int .u64 (limb a 3 : Nat)] 29 (0, 0))) => (cchange_more (h.below hb) k was (was + a) g hk hk0 he hw (by exact Nat.lt_of_le_of_lt hle MOST_lt) hN hq (fun W2 hb2 => morec_ok was a (was + a) g hw ha hle rfl W2 ((hb2.block g (hp_lt hg)).trans hg))).mono fun e W' hp => (⟨hp.1, hp.2.pre hb⟩ : e = .returned (.int .i64 0) ∧ LiveTo w W W' b F (setA L k (was + a)) (q + 1)))
  unfold U at hM
  have HM := Lib.hid hM
  have HB0 := Lib.hid hb0
  obtain ⟨lm, elm⟩ : ∃ z, z = setA L k (was + a) := ⟨_, rfl⟩
  rw [← elm] at HC ⊢
  clear h hk hk0 he hw ha hle hN hq hb0 hM elm
  unfold U
  go_enter Try.func88, Try.ntmps88
  go_wp2_with (first
    | (go_at_call 129; refine (HC.out _ _ H1.out.1 H1.out.2).mono ?_; rintro e w2 ⟨rfl, h2⟩; have H2 := Lib.hid h2; clear h2)
    | (go_at_call 130; refine (HM.out _).mono ?_; rintro e w1 ⟨rfl, hg1, hb1⟩; rw [World.size_alloc] at hg1; have H1 := Lib.hid (And.intro (HB0.out.trans (hb1.mono HB0.out.size)) hg1); clear hg1 hb1))
  go_ret
  exact ⟨rfl, H2.out⟩
set_option maxRecDepth 100000 in
set_option maxHeartbeats 2000000 in
theorem csub_live {w W : World} {b : Nat} {F : List Nat} {L : SL} {q : Nat} {qs : List Value} (h : SNew w W b F L q qs) (k : ByteArray) (was a : Nat) (hk : k.size ≤ maxLen) (hk0 : k ≠ ⟨#[]⟩) (he : amtAt L k was) (hw : was < 2 ^ 256) (ha : a < 2 ^ 256) (hle : a ≤ was) (hN : L.length < 128) (hq : q < 1000000) :
    Calls Try.prog 134 #[.pointer (some ⟨b, 0, none⟩), .string k, U a] W fun e W' => e = .returned (.int .i64 0) ∧ LiveTo w W W' b F (setA L k (was - a)) (q + 1) := by
  have hb0 := (Below.refl W.heap.size W).alloc (Nat.le_refl _) (.cells #[.int .u64 (limb a 0 : Nat), .int .u64 (limb a 1 : Nat), .int .u64 (limb a 2 : Nat), .int .u64 (limb a 3 : Nat)] 29)
  have hM := fun W1 => less_walk a W1
  have HC := Lib.hid (fun (W1 : World) (g : Nat) (hb : Below W.heap.size W W1) (hg : W1.heap[g]? = some (.cells #[.int .u64 (limb a 0 : Nat), .int .u64 (limb a 1 : Nat), .int .u64 (limb a 2 : Nat), .int .u64 (limb a 3 : Nat)] 29 (0, 0))) => (cchange_less (h.below hb) k was (was - a) g hk hk0 he hw (by omega) hN hq (fun W2 hb2 => lessc_ok was a (was - a) g hw ha hle rfl W2 ((hb2.block g (hp_lt hg)).trans hg))).mono fun e W' hp => (⟨hp.1, hp.2.pre hb⟩ : e = .returned (.int .i64 0) ∧ LiveTo w W W' b F (setA L k (was - a)) (q + 1)))
  unfold U at hM
  have HM := Lib.hid hM
  have HB0 := Lib.hid hb0
  obtain ⟨lm, elm⟩ : ∃ z, z = setA L k (was - a) := ⟨_, rfl⟩
  rw [← elm] at HC ⊢
  clear h hk hk0 he hw ha hle hN hq hb0 hM elm
  unfold U
  go_enter Try.func134, Try.ntmps134
  go_wp2_with (first
    | (go_at_call 129; refine (HC.out _ _ H1.out.1 H1.out.2).mono ?_; rintro e w2 ⟨rfl, h2⟩; have H2 := Lib.hid h2; clear h2)
    | (go_at_call 133; refine (HM.out _).mono ?_; rintro e w1 ⟨rfl, hg1, hb1⟩; rw [World.size_alloc] at hg1; have H1 := Lib.hid (And.intro (HB0.out.trans (hb1.mono HB0.out.size)) hg1); clear hg1 hb1))
  go_ret
  exact ⟨rfl, H2.out⟩
set_option maxRecDepth 100000 in
set_option maxHeartbeats 2000000 in
theorem cadd_dead (P : Option Addr) (k : ByteArray) (a : Nat) (ha : a ≤ MOST) (w : World) (h : SDead w (.pointer P)) :
    Calls Try.prog 88 #[.pointer P, .string k, U a] w fun e w' => e = .returned (.int .i64 0) ∧ Below w.heap.size w w' := by
  have ha2 : a < 2 ^ 256 := Nat.lt_of_le_of_lt ha MOST_lt
  have hC : ∀ (W : World) (g : Nat), Below w.heap.size w W → W.heap[g]? = some (.cells #[.int .u64 (limb a 0 : Nat), .int .u64 (limb a 1 : Nat), .int .u64 (limb a 2 : Nat), .int .u64 (limb a 3 : Nat)] 29 (0, 0)) → Calls Try.prog 129 #[.pointer P, .string k, .func (.func 150) #[] #[.pointer (some ⟨g, 0, none⟩)]] W fun e w' => e = .returned (.int .i64 0) ∧ Below W.heap.size W w' := by
    intro W g hbW hg
    have hA := camount_dead P k W (h.below hbW)
    have hT := fun (W2 : World) (hb2 : Below W.heap.size W W2) => morec_ok 0 a a g (by decide) ha2 (by rw [Nat.zero_add]; exact ha) (Nat.zero_add a) W2 ((hb2.block g (hp_lt hg)).trans hg)
    have hS := fun (W1 : World) (hb : Below W.heap.size W W1) => csetAmount_dead (.pointer P) k a ha2 W1 ((h.below hbW).below hb)
    unfold U at hA hT hS
    have HA := Lib.hid hA
    have HTs := Lib.hid hT
    have HS := Lib.hid hS
    clear h hbW hg ha ha2 hA hT hS
    go_enter Try.func129, Try.ntmps129
    go_wp2_with (first
      | (go_at_call 149; refine (HS.out _ (H2.out.alloc H2.out.size (.cells #[.int .u64 (limb a 0 : Nat), .int .u64 (limb a 1 : Nat), .int .u64 (limb a 2 : Nat), .int .u64 (limb a 3 : Nat)] 29))).mono ?_; rintro e w3 ⟨rfl, hb3⟩; have hbx := H2.out.alloc H2.out.size (.cells #[.int .u64 (limb a 0 : Nat), .int .u64 (limb a 1 : Nat), .int .u64 (limb a 2 : Nat), .int .u64 (limb a 3 : Nat)] 29); have H3 := Lib.hid (hbx.trans (hb3.mono hbx.size)); clear hb3 hbx)
      | (go_at_call 150; refine (HTs.out _ H1.out).mono ?_; rintro e w2 ⟨rfl, hb2⟩; have H2 := Lib.hid (H1.out.trans (hb2.mono H1.out.size)); clear hb2)
      | (go_at_call 126; refine HA.out.mono ?_; rintro e w1 ⟨rfl, hb1⟩; have H1 := Lib.hid hb1; clear hb1))
    go_ret
    exact ⟨rfl, H3.out⟩
  have hb0 := (Below.refl w.heap.size w).alloc (Nat.le_refl _) (.cells #[.int .u64 (limb a 0 : Nat), .int .u64 (limb a 1 : Nat), .int .u64 (limb a 2 : Nat), .int .u64 (limb a 3 : Nat)] 29)
  have hM := fun W1 => more_walk a W1
  unfold U at hM
  have HM := Lib.hid hM
  have HC := Lib.hid hC
  have HB0 := Lib.hid hb0
  clear h ha ha2 hb0 hM hC
  unfold U
  go_enter Try.func88, Try.ntmps88
  go_wp2_with (first
    | (go_at_call 129; refine (HC.out _ _ H1.out.1 H1.out.2).mono ?_; rintro e w2 ⟨rfl, hb2⟩; have H2 := Lib.hid (H1.out.1.trans (hb2.mono H1.out.1.size)); clear hb2)
    | (go_at_call 130; refine (HM.out _).mono ?_; rintro e w1 ⟨rfl, hg1, hb1⟩; rw [World.size_alloc] at hg1; have H1 := Lib.hid (And.intro (HB0.out.trans (hb1.mono HB0.out.size)) hg1); clear hg1 hb1))
  go_ret
  exact ⟨rfl, H2.out⟩
set_option maxRecDepth 100000 in
set_option maxHeartbeats 4000000 in
theorem cmove_live {w W : World} {b : Nat} {F : List Nat} {L : SL} {q : Nat} {qs : List Value} (h : SNew w W b F L q qs) (k1 k2 : ByteArray) (x y a : Nat) (hk1 : k1.size ≤ maxLen) (hk10 : k1 ≠ ⟨#[]⟩) (hk2 : k2.size ≤ maxLen) (hk20 : k2 ≠ ⟨#[]⟩) (hne : k1 ≠ k2) (he1 : amtAt L k1 x) (he2 : amtAt L k2 y) (he1' : amtAt (setA L k2 (y + a)) k1 x) (hx : x < 2 ^ 256) (hy : y < 2 ^ 256) (ha : a < 2 ^ 256) (hle : a ≤ x) (hle2 : y + a ≤ MOST) (hN : L.length < 128) (hN2 : (setA L k2 (y + a)).length < 128) (hq : q + 2 < 1000000) :
    Calls Try.prog 93 #[.pointer (some ⟨b, 0, none⟩), .string k1, .string k2, U a] W fun e W' => e = .returned (.int .i64 0) ∧ LiveTo w W W' b F (setA (setA L k2 (y + a)) k1 (x - a)) (q + 2) := by
  have hb0 := (Below.refl W.heap.size W).alloc (Nat.le_refl _) (.cells #[.int .u64 (limb a 0 : Nat), .int .u64 (limb a 1 : Nat), .int .u64 (limb a 2 : Nat), .int .u64 (limb a 3 : Nat)] 29)
  have r0 := heap_alloc_new W (.cells #[.int .u64 (limb a 0 : Nat), .int .u64 (limb a 1 : Nat), .int .u64 (limb a 2 : Nat), .int .u64 (limb a 3 : Nat)] 29)
  have hFl : ∀ k, W.heap.size ≤ k → k ∉ F := fun k hk hm => by have := h.s.lt _ hm; omega
  have hL := fun W1 => less_walk a W1
  have hA := fun (W1 : World) (hb : Below W.heap.size W W1) => camount_at (h.below hb) k1 x hk1 he1 hx
  have hT := fun (W1 : World) (g : Nat) (hg : W1.heap[g]? = some (.cells #[.int .u64 (limb a 0 : Nat), .int .u64 (limb a 1 : Nat), .int .u64 (limb a 2 : Nat), .int .u64 (limb a 3 : Nat)] 29 (0, 0))) => lessc_ok x a (x - a) g hx ha hle rfl W1 hg
  have hAd := fun (W1 : World) (hb : Below W.heap.size W W1) => cadd_live (h.below hb) k2 y a hk2 hk20 he2 hy ha hle2 hN (by omega)
  have hSu := fun (W1 W2 : World) (hb : Below W.heap.size W W1) (hl : LiveTo w W1 W2 b F (setA L k2 (y + a)) (q + 1)) => (hl.pre hb).seq 1 (fun F1 qa qsa hs hqa => csub_live hs k1 x a hk1 hk10 he1' hx ha hle hN2 (by omega))
  unfold U at hL hA hT hAd hSu
  have HL := Lib.hid hL
  have HA := Lib.hid hA
  have HT := Lib.hid hT
  have HAd := Lib.hid hAd
  have HSu := Lib.hid hSu
  have H0 := Lib.hid (And.intro hb0 r0)
  have HF := Lib.hid hFl
  have hs12d : (k1.toList == k2.toList) = false := by
    rw [beq_eq_false_iff_ne]
    intro e
    rw [Lib.toList_data, Lib.toList_data] at e
    exact hne (keq_iff.1 (by unfold keq; exact decide_eq_true e))
  have hs12c : (k1.data.toList == k2.data.toList) = false := by
    rw [beq_eq_false_iff_ne]
    intro e
    exact hne (keq_iff.1 (by unfold keq; exact decide_eq_true e))
  obtain ⟨l1, e1⟩ : ∃ z, z = setA L k2 (y + a) := ⟨_, rfl⟩
  rw [← e1] at HAd HSu ⊢
  clear h hk1 hk10 hk2 hk20 hne he1 he2 he1' hx hy ha hle hle2 hN hN2 hq hb0 r0 hFl hL hA hT hAd hSu e1
  unfold U
  go_enter Try.func93, Try.ntmps93
  go_upto_region 2 with (first
    | (go_at_call 151; refine (HT.out _ _ H2.out.2).mono ?_; rintro e w3 ⟨rfl, hb3⟩; have H3 := Lib.hid (H2.out.1.trans (hb3.mono H2.out.1.size)); have B3 := Lib.hid (B2.out.trans (hb3.mono B2.out.size)); have HX := Lib.hid (fun (W4 : World) (hW4 : W4 = w3.alloc (.cells #[.int .u64 (limb (x - a) 0 : Nat), .int .u64 (limb (x - a) 1 : Nat), .int .u64 (limb (x - a) 2 : Nat), .int .u64 (limb (x - a) 3 : Nat)] 29)) => show Below (W.alloc (.cells #[.int .u64 (limb a 0 : Nat), .int .u64 (limb a 1 : Nat), .int .u64 (limb a 2 : Nat), .int .u64 (limb a 3 : Nat)] 29)).heap.size (W.alloc (.cells #[.int .u64 (limb a 0 : Nat), .int .u64 (limb a 1 : Nat), .int .u64 (limb a 2 : Nat), .int .u64 (limb a 3 : Nat)] 29)) W4 from by rw [hW4]; exact B3.out.alloc B3.out.size _); clear hb3)
    | (go_at_call 126; refine (HA.out _ H1.out.1).mono ?_; rintro e w2 ⟨rfl, hb2⟩; have H2 := Lib.hid (And.intro (H1.out.1.trans (hb2.mono H1.out.1.size)) ((hb2.block _ (hp_lt H1.out.2)).trans H1.out.2)); have B2 := Lib.hid (B1.out.trans (hb2.mono B1.out.size)); clear hb2)
    | (go_at_call 133; refine (HL.out _).mono ?_; rintro e w1 ⟨rfl, hg1, hb1⟩; rw [World.size_alloc] at hg1; have H1 := Lib.hid (And.intro (H0.out.1.trans (hb1.mono H0.out.1.size)) hg1); have B1 := Lib.hid hb1; clear hg1 hb1))
  have hbx := H3.out.alloc H3.out.size (.cells #[.int .u64 (limb (x - a) 0 : Nat), .int .u64 (limb (x - a) 1 : Nat), .int .u64 (limb (x - a) 2 : Nat), .int .u64 (limb (x - a) 3 : Nat)] 29)
  obtain ⟨W4, hW4⟩ : ∃ W4, W4 = w3.alloc (.cells #[.int .u64 (limb (x - a) 0 : Nat), .int .u64 (limb (x - a) 1 : Nat), .int .u64 (limb (x - a) 2 : Nat), .int .u64 (limb (x - a) 3 : Nat)] 29) := ⟨_, rfl⟩
  rw [← hW4] at hbx ⊢
  have r4 : W4.heap[W.heap.size]? = some (.cells #[.int .u64 (limb a 0 : Nat), .int .u64 (limb a 1 : Nat), .int .u64 (limb a 2 : Nat), .int .u64 (limb a 3 : Nat)] 29 (0, 0)) := by
    have h03 : Below (W.alloc (.cells #[.int .u64 (limb a 0 : Nat), .int .u64 (limb a 1 : Nat), .int .u64 (limb a 2 : Nat), .int .u64 (limb a 3 : Nat)] 29)).heap.size (W.alloc (.cells #[.int .u64 (limb a 0 : Nat), .int .u64 (limb a 1 : Nat), .int .u64 (limb a 2 : Nat), .int .u64 (limb a 3 : Nat)] 29)) W4 := HX.out W4 hW4
    exact (h03.block _ (hp_lt H0.out.2)).trans H0.out.2
  have H4 := Lib.hid (And.intro hbx r4)
  clear hbx hW4
  have c0 := (hp_cell (i := 0) r4).trans rfl
  have c1 := (hp_cell (i := 1) r4).trans rfl
  have c2 := (hp_cell (i := 2) r4).trans rfl
  have c3 := (hp_cell (i := 3) r4).trans rfl
  clear r4
  go_wp2_with (first
    | (go_at_call 134; refine (HSu.out _ _ H4.out.1 H5.out).mono ?_; rintro e w6 ⟨rfl, h6⟩; have H6 := Lib.hid h6; clear h6)
    | (go_at_call 88; refine (HAd.out _ H4.out.1).mono ?_; rintro e w5 ⟨rfl, h5⟩; have hT5 : Touch F W4 w5 := (by obtain ⟨_, _, _, _, _, ht, _⟩ := h5; exact ht); have r5 := (hT5.block _ (hp_lt H4.out.2) (HF.out _ (Nat.le_refl _))).trans H4.out.2; have H5 := Lib.hid h5; have c0 := (hp_cell (i := 0) r5).trans rfl; have c1 := (hp_cell (i := 1) r5).trans rfl; have c2 := (hp_cell (i := 2) r5).trans rfl; have c3 := (hp_cell (i := 3) r5).trans rfl; clear h5 hT5 r5))
  go_ret
  exact ⟨rfl, H6.out⟩
end Go.Proofs.Ytedkhpnlhkjjgaa

namespace Go.Proofs.Ytedkhpnlhkjjgaa
open Go.RowKit Go.Maps Go.Sort

/-- the cells of pairs -/
def pcs (l : SL) : List Value := l.flatMap fun p => [.string p.1, .string p.2]
theorem pcs_snoc (l : SL) (p : ByteArray × ByteArray) : pcs (l ++ [p]) = pcs l ++ [.string p.1, .string p.2] := by simp [pcs]
def hpre (x : ByteArray) (p : ByteArray × ByteArray) : Bool := Lib.hasPrefix p.1.data.toList x.data.toList
/-- what stands under x -/
def under (L : SL) (x : ByteArray) : SL := (L.drop (klo (skeys L) x)).takeWhile (hpre x)
theorem takeWhile_here {α : Type} (P : α → Bool) : ∀ (l : List α) (k : Nat), k ≤ l.length → (∀ j (h : j < l.length), j < k → P l[j] = true) → (∀ h : k < l.length, P l[k] = false) → l.takeWhile P = l.take k
  | [], k, _, _, _ => by simp
  | a :: r, 0, _, _, h => by
    have := h (by simp)
    simp only [List.getElem_cons_zero] at this
    simp [this]
  | a :: r, k + 1, hk, ha, h => by
    have h0 := ha 0 (by simp) (by omega)
    simp only [List.getElem_cons_zero] at h0
    rw [List.takeWhile_cons, h0, List.take_succ_cons]
    simp only [if_true]
    congr 1
    refine takeWhile_here P r k (by simpa using hk) (fun j hj hlt => ?_) (fun hh => ?_)
    · have := ha (j + 1) (by simpa using hj) (by omega)
      simpa using this
    · have := h (by simpa using hh)
      simpa using this
theorem infoPair : (Try.prog.info? 184).map (fun i => (i.zero, i.size, i.bytes)) = some (some (.agg #[.string { data := #[] }, .string { data := #[] }]), 2, 32) := by kernel_rfl
/-- 'm[k]' -/
theorem MapAt.plain {w : World} {bm : Nat} {L : SL} (h : MapAt w bm L) (k : ByteArray) (hk : k.size ≤ maxLen) :
    (Instr.lookup 103 (.map (some bm)) (.string k) false).run Try.prog w = .ok (.agg #[.string ((sget L k).getD { data := #[] })]) w := by
  obtain ⟨D, ho, hR⟩ := h
  obtain ⟨v, ps, hrun, hv⟩ := ho.lookup skeyed Try.underlying103 (zeroEntry w) (entR_mk (s := { data := #[] }) (by decide)) (keyOf_s hk)
  obtain ⟨s, rfl, hz⟩ := entR_inv hv
  have e := hR.get (k := k) (s := s) (by have := congrArg Prod.fst hz; simpa using this)
  rw [hrun, e]
theorem sget_at : ∀ (L : SL), Rising (skeys L) → ∀ i (h : i < L.length), sget L L[i].1 = some L[i].2
  | [], _, i, h => absurd h (Nat.not_lt_zero _)
  | p :: r, hr, i, h => by
    cases i with
    | zero => simp [sget, keq_self]
    | succ i =>
      have hi : i < r.length := by simpa using h
      have hr' := List.pairwise_cons.1 hr
      have hlt : p.1.data.toList < r[i].1.data.toList := hr'.1 r[i].1 (List.mem_map.2 ⟨r[i], List.getElem_mem _, rfl⟩)
      have hne : keq p.1 r[i].1 = false := keq_ne fun e => by rw [e] at hlt; exact List.lt_irrefl _ hlt
      have ih := sget_at r hr'.2 i hi
      unfold sget at ih ⊢
      simp only [List.getElem_cons_succ]
      rw [List.find?_cons, hne]
      exact ih
/-- what the rounds of Under read -/
structure UnAt (w : World) (b bm ba bk bc kc : Nat) (L : SL) : Prop where
  r0 : w.cell? ⟨b, 0, none⟩ = some (.map (some bm))
  r1 : w.cell? ⟨b, 1, none⟩ = some (.slice (some ⟨ba, 0, none⟩) 1 bc)
  ka : w.cell? ⟨ba, 0, none⟩ = some (.slice (some ⟨bk, 0, none⟩) L.length kc)
  kj : ∀ i (h : i < L.length), w.cell? ⟨bk, i, none⟩ = some (.string L[i].1)
  lk : ∀ i (h : i < L.length), (Instr.lookup 103 (.map (some bm)) (.string L[i].1) false).run Try.prog w = .ok (.agg #[.string L[i].2]) w
theorem unAt_of {w : World} {b bm : Nat} {vb vk vq : Value} {L : SL} {q : Nat} {qs : List Value} (h : StM w b bm vb vk vq L q qs) (hL : L ≠ []) (hks : ∀ p ∈ L, p.1.size ≤ maxLen) :
    ∃ ba bk bc kc, vb = .slice (some ⟨ba, 0, none⟩) 1 bc ∧ vk = .slice (some ⟨bk, 0, none⟩) L.length kc ∧ L.length ≤ kc ∧ (∀ w', Below w.heap.size w w' → UnAt w' b bm ba bk bc kc L) := by
  have hn : 0 < L.length := List.length_pos_iff.2 hL
  have hkb := h.kb
  rw [if_neg hL, if_neg hL] at hkb
  obtain ⟨ba, bc, hvb, _⟩ := ownsRow_form hkb (by omega)
  have hkk := h.kk hL
  obtain ⟨bk, kc, hvk, hcap⟩ : ∃ bk kc, vk = .slice (some ⟨bk, 0, none⟩) L.length kc ∧ L.length ≤ kc := by
    rcases hkk.2 with ⟨rfl, h0⟩ | ⟨g, cap, cur, rfl, hb, hg, hc, _⟩
    · omega
    · exact ⟨g, cap, rfl, hc⟩
  refine ⟨ba, bk, bc, kc, hvb, hvk, hcap, fun w' hB => ?_⟩
  have h' := h.below hB
  have hkb' := h'.kb
  rw [if_neg hL, if_neg hL] at hkb'
  have e1 : ∀ i (h : i < L.length), ((skeys L).map Value.string)[i]? = some (.string L[i].1) := fun i hi => by simp [skeys, hi]
  refine ⟨(hp_cell (i := 0) h'.r).trans rfl, (hp_cell (i := 1) h'.r).trans (by rw [hvb]; rfl), (ownsRow_cell hkb' hvb (j := 0) rfl).trans (by rw [hvk]), fun i hi => ownsRow_cell (h'.kk hL) hvk (e1 i hi), fun i hi => ?_⟩
  have := h'.m.plain L[i].1 (hks _ (List.getElem_mem _))
  rw [sget_at L h.so i hi] at this
  exact this
/-- the pairs so far, the first k of D -/
def UnRel (D : SL) (x : ByteArray) (w : World) (v i : Value) (wr : World) : Prop :=
  ∃ k : Nat, k ≤ D.length ∧ i = .int .i64 (k : Nat) ∧ wr.ownsRow w.heap.size 184 2 v k (pcs (D.take k)) ∧ (∀ j (h : j < D.length), j < k → hpre x D[j] = true) ∧ Below w.heap.size w wr
/-- the outer rounds -/
def UnOut (L : SL) (l : Nat) (x : ByteArray) (w : World) (v i j : Value) (wr : World) : Prop :=
  (i = .int .i64 0 ∧ j = .int .i64 (l : Nat) ∧ v = .slice none 0 0 ∧ Below w.heap.size w wr) ∨
  (i = .int .i64 1 ∧ j = .int .i64 0 ∧ wr.ownsRow w.heap.size 184 2 v (L.drop l).length (pcs (L.drop l)) ∧ (∀ p ∈ L.drop l, hpre x p = true) ∧ Below w.heap.size w wr)
def UnPost (L : SL) (x : ByteArray) (w : World) (e : Ending) (w' : World) : Prop :=
  (∃ v, e = .returned v ∧ w'.ownsRow w.heap.size 184 2 v (under L x).length (pcs (under L x))) ∧ Below w.heap.size w w'
theorem un_nil {L : SL} {x : ByteArray} {w w' : World} (h : under L x = []) (hb : Below w.heap.size w w') : UnPost L x w (Ending.returned (.slice none 0 0)) w' := by
  refine ⟨⟨_, rfl, ?_⟩, hb⟩
  rw [h]
  exact World.ownsRow_nil _ _ _ _
set_option maxRecDepth 100000 in
set_option maxHeartbeats 2000000 in
/-- no keys: no blocks -/
theorem under_none (b : Nat) (F : List Nat) (q : Nat) (qs : List Value) (W : World) (h : StP W b F [] q qs) (x : ByteArray) :
    Calls Try.prog 124 #[.pointer (some ⟨b, 0, none⟩), .string x] W fun e w' => UnPost [] x W e w' := by
  have HM := Lib.hid (made_live b F [] q qs W h)
  obtain ⟨bm, vb, vk, vq, rfl, hS⟩ := h
  obtain ⟨A, c, rfl⟩ : ∃ A c, vb = .slice A 0 c := by
    have hkb := hS.kb
    rw [if_pos rfl, if_pos rfl] at hkb
    rcases hkb.2 with ⟨rfl, _⟩ | ⟨g, cap, cur, rfl, _⟩
    · exact ⟨_, _, rfl⟩
    · exact ⟨_, _, rfl⟩
  have HP := Lib.hid (place_none b bm A c vq x W hS.r)
  have HR := Lib.hid (fun w' (hB : Below W.heap.size W w') => (hp_cell (i := 1) ((hB.block b (hp_lt hS.r)).trans hS.r)).trans rfl)
  clear hS
  go_enter Try.func124, Try.ntmps124
  go_wp2_with (first | (go_at_call 27; refine HM.out.mono ?_; rintro e w1 ⟨rfl, rfl⟩) | (go_at_call 145; refine HP.out.mono ?_; rintro e w2 ⟨rfl, hb2⟩; have B2 := Lib.hid hb2; have r1 := HR.out _ hb2; clear hb2))
  go_loopw [5, 6, 7] (fun v i j wr => v = .slice none 0 0 ∧ i = .int .i64 0 ∧ j = .int .i64 0 ∧ w2 = wr) (fun _ _ _ _ => 0)
  case atStart => exact ⟨rfl, rfl, rfl, rfl⟩
  case round =>
    obtain ⟨rfl, rfl, rfl, rfl⟩ := hrel
    go_wp2
    go_ret
    exact un_nil (by simp [under]) B2.out
theorem fieldE (v : ByteArray) (w : World) : (Instr.field 148 (.agg #[.string v]) 0).run Try.prog w = .ok (.string v) w := by kernel_rfl
set_option maxRecDepth 100000 in
set_option maxHeartbeats 4000000 in
theorem under_some (b : Nat) (F : List Nat) (L : SL) (q : Nat) (qs : List Value) (W : World) (h : StP W b F L q qs) (x : ByteArray) (hL : L ≠ []) (hks : ∀ p ∈ L, p.1.size ≤ maxLen) (hN : L.length < 128) :
    Calls Try.prog 124 #[.pointer (some ⟨b, 0, none⟩), .string x] W fun e w' => UnPost L x W e w' := by
  obtain ⟨i0, hi, hz0, hz1, hz2⟩ := info_parts infoPair
  have HM := Lib.hid (made_live b F L q qs W h)
  obtain ⟨bm, vb, vk, vq, rfl, hS⟩ := h
  obtain ⟨ba, bk, bc, kc, rfl, rfl, hcap, hU⟩ := unAt_of hS hL hks
  have hn : 0 < L.length := List.length_pos_iff.2 hL
  have hlen : (skeys L).length = L.length := by simp [skeys]
  have hUW := hU W (Below.refl _ _)
  have hP := place_some b bm ba bc bk kc (skeys L) vq x W (by omega) (by omega) hS.so (by rw [hS.r]) (by rw [hlen]; exact hUW.ka) (fun i hi => by rw [hUW.kj i (by omega)]; simp [skeys])
  rw [hlen] at hP
  obtain ⟨l, hl⟩ : ∃ l, l = klo (skeys L) x := ⟨_, rfl⟩
  have hle : l ≤ L.length := by have := klo_le (skeys L) x; omega
  have hund : under L x = (L.drop l).takeWhile (hpre x) := by rw [hl]; rfl
  rw [← hl] at hP
  have HU := Lib.hid hU
  clear hS hks hUW hl hU
  by_cases hend : l = L.length
  · rw [if_pos hend] at hP
    have HP := Lib.hid hP
    have HE := Lib.hid (show under L x = [] by rw [hund, hend, List.drop_length]; rfl)
    clear hP hund hend hle hN hcap hL hn hlen
    go_enter Try.func124, Try.ntmps124
    go_wp2_with (first | (go_at_call 27; refine HM.out.mono ?_; rintro e w1 ⟨rfl, rfl⟩) | (go_at_call 145; refine HP.out.mono ?_; rintro e w2 ⟨rfl, hb2⟩; have B2 := Lib.hid hb2; have r1 := (HU.out _ hb2).r1; clear hb2))
    go_loopw [5, 6, 7] (fun v i j wr => v = .slice none 0 0 ∧ i = .int .i64 1 ∧ j = .int .i64 0 ∧ w2 = wr) (fun _ _ _ _ => 0)
    case atStart => exact ⟨rfl, rfl, rfl, rfl⟩
    case round =>
      obtain ⟨rfl, rfl, rfl, rfl⟩ := hrel
      go_wp2
      go_ret
      exact un_nil HE.out B2.out
  · rw [if_neg hend] at hP
    have HP := Lib.hid hP
    have hlt : l < L.length := by omega
    have HS := Lib.hid hund
    have HL := Lib.hid hlt
    have HC := Lib.hid hcap
    obtain ⟨n, hnn⟩ : ∃ n, n = L.length := ⟨_, rfl⟩
    have HNN := Lib.hid hnn
    have hn1 : (l : Int) < (n : Int) := by omega
    have hn2 : (l : Int) ≤ (n : Int) := by omega
    have hn3 : (n : Int) ≤ (kc : Int) := by omega
    have hn4 : (l : Int) < (kc : Int) := by omega
    have hn5 : (n : Int) < 128 := by omega
    have hn6 : (l : Int) ≤ (kc : Int) := by omega
    have hn7 : (0 : Int) ≤ (l : Int) := by omega
    clear hP hund hend hle hN hcap hL hn hlen hlt hnn
    go_enter Try.func124, Try.ntmps124
    go_wp2_with (first | (go_at_call 27; refine HM.out.mono ?_; rintro e w1 ⟨rfl, rfl⟩) | (go_at_call 145; refine HP.out.mono ?_; rintro e w2 ⟨rfl, hb2⟩; have B2 := Lib.hid hb2; clear hb2))
    go_loopw [5, 6, 7] (UnOut L l x W) (fun _ i _ _ => 1 - (intOf i).toNat)
    case atStart => exact .inl ⟨rfl, rfl, rfl, B2.out⟩
    case round =>
      rcases hrel with ⟨rfl, rfl, rfl, hb⟩ | ⟨rfl, rfl, hv, hall, hb⟩
      · have hA := HU.out _ hb
        have r1 := hA.r1
        have ka := hA.ka
        rw [← HNN.out] at ka
        have HB := Lib.hid hb
        clear hA hb
        go_wp2
        go_loopw [5, 38] (UnRel (L.drop l) x W) (fun _ i _ => n - (intOf i).toNat)
        case atStart => exact ⟨0, Nat.zero_le _, rfl, World.ownsRow_nil _ _ _ _, fun j h h' => absurd h' (Nat.not_lt_zero _), HB.out⟩
        case round =>
          obtain ⟨k, hk, rfl, hown, hpr, hbel⟩ := hrel
          have HPr := Lib.hid hpr
          have HO := Lib.hid hown
          have HBl := Lib.hid hbel
          by_cases hlt : k < n - l
          · have hkl : l + k < L.length := by have := HNN.out; omega
            have hA := HU.out _ hbel
            have r0 := hA.r0
            have ck := hA.kj _ hkl
            have lk := hA.lk _ hkl
            have hkD : k < (L.drop l).length := by rw [List.length_drop]; omega
            have hDk : (L.drop l)[k] = L[l + k] := List.getElem_drop
            obtain ⟨⟨ky, vl⟩, hkv⟩ : ∃ p, p = L[l + k] := ⟨_, rfl⟩
            rw [← hkv] at ck lk hDk
            have hx := Lib.hid (Try.strings_HasPrefix ky x)
            have HD := Lib.hid hDk
            have HKD := Lib.hid hkD
            have hk63 : (k : Int) < 128 := by omega
            have hbs := hbel.size
            have hfd := fieldE vl
            have hpd : hpre x (ky, vl) = Lib.hasPrefix ky.data.toList x.data.toList := rfl
            clear hA hDk hkv hk hpr hbel
            cases hpx : hpre x (ky, vl) with
            | true =>
              rw [hpd] at hpx
              have HPX := Lib.hid hpx
              rw [hpx] at hx
              clear hpd
              go_wp2_with (first | (go_at_call 148; refine (hx.out _).mono ?_; rintro e w3 ⟨rfl, hw3⟩; have hw4 := hw3.symm; clear hw3; subst hw4) | (at_builtin; refine wpList_append_own _ rfl _ _ _ rfl W.heap.size 184 i0 _ 2 32 Try.underlying76 hi hz0 hz1 hz2 rfl (by omega) _ k (pcs ((L.drop l).take k)) rfl (hown.alloc _) ⟨wr.heap.size, 0, none⟩ 1 1 [.string ky, .string vl] rfl rfl (World.news_of_block (cs := #[.string ky, .string vl]) (t := 184) (fr := (0, 0)) (heap_alloc_new wr _)) (by simp [Value.oneCell']) (by unfold maxLen; omega) (by omega) (by simp; omega) ?_; intro v2 w5 hown2 hgrow _; have HB2 := Lib.hid (((HBl.out.alloc HBl.out.size (.cells #[.string ky, .string vl] 184)).grown hgrow (by simp only [World.size_alloc]; omega) (fun q hq => ((HO.out).lt q hq).1) : Below W.heap.size W w5)); have HO2 := Lib.hid hown2; clear hown2 hgrow hown))
              refine ⟨⟨k + 1, HKD.out, by simp, ?_, fun j hj hjk => ?_, HB2.out⟩, by simp [intOf]; omega⟩
              · have e : (L.drop l).take (k + 1) = (L.drop l).take k ++ [(ky, vl)] := by rw [List.take_succ_eq_append_getElem HKD.out, HD.out]
                rw [e, pcs_snoc]
                exact HO2.out
              · rcases (by omega : j < k ∨ j = k) with h1 | rfl
                · exact HPr.out j hj h1
                · rw [HD.out]; exact HPX.out
            | false =>
              rw [hpd] at hpx
              rw [hpx] at hx
              go_wp2_with (go_at_call 148; refine (hx.out _).mono ?_; rintro e w3 ⟨rfl, hw3⟩; have hw4 := hw3.symm; clear hw3; subst hw4)
              go_ret
              have e : under L x = (L.drop l).take k := by rw [HS.out]; exact takeWhile_here _ _ _ (Nat.le_of_lt HKD.out) HPr.out (fun h => by rw [HD.out, hpd]; exact hpx)
              refine ⟨⟨_, rfl, ?_⟩, HBl.out⟩
              rw [e, List.length_take, Nat.min_eq_left (Nat.le_of_lt HKD.out)]
              exact HO.out
          · have hkn : k = (L.drop l).length := by have := HNN.out; rw [List.length_drop] at hk ⊢; omega
            have HKN := Lib.hid hkn
            clear hk hpr hbel hkn hown
            go_wp2
            refine ⟨.inr ⟨rfl, rfl, ?_, fun p hp => ?_, HBl.out⟩, by simp [intOf]⟩
            · have := HO.out
              rw [HKN.out, List.take_length] at this
              exact this
            · obtain ⟨j, hj, rfl⟩ := List.mem_iff_getElem.1 hp
              exact HPr.out j hj (by have := HKN.out; omega)
      · have r1 := (HU.out _ hb).r1
        have HV := Lib.hid hv
        have HB := Lib.hid hb
        have HA := Lib.hid hall
        clear hv hb hall
        go_wp2
        go_ret
        refine ⟨⟨_, rfl, ?_⟩, HB.out⟩
        have e : under L x = L.drop l := by rw [HS.out, takeWhile_here _ _ _ (Nat.le_refl _) (fun j h _ => HA.out _ (List.getElem_mem _)) (fun h => absurd h (Nat.lt_irrefl _)), List.take_length]
        rw [e]
        exact HV.out
/-- Under on a live store -/
theorem under_live (b : Nat) (F : List Nat) (L : SL) (q : Nat) (qs : List Value) (W : World) (h : StP W b F L q qs) (x : ByteArray) (hks : ∀ p ∈ L, p.1.size ≤ maxLen) (hN : L.length < 128) :
    Calls Try.prog 124 #[.pointer (some ⟨b, 0, none⟩), .string x] W fun e w' => UnPost L x W e w' := by
  by_cases hL : L = []
  · subst hL; exact under_none b F q qs W h x
  · exact under_some b F L q qs W h x hL hks hN
end Go.Proofs.Ytedkhpnlhkjjgaa
