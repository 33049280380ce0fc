/- cell's amounts on a live store and on a dead one: Amount, SetAmount, more, less, change, Add, Sub. -/
import Derived.Test.YtffipojlpdphiaaG11
import Derived.Test.YtffipojlpdphiaaG14
import Derived.Test.YtffipojlpdphiaaG15
import Derived.Test.YtffipojlpdphiaaG18
import Derived.Test.YtffipojlpdphiaaG12
import Derived.Test.YtffipojlpdphiaaG06
import Derived.Test.YtffipojlpdphiaaG07
namespace Go.Proofs.Ytffipojlpdphiaa
open Go.RowKit Go.Maps Go.Sort

/-- the amount at a key -/
def amtAt (L : SL) (k : ByteArray) (a : Nat) : Prop := (a = 0 ∧ sget L k = none) ∨ sget L k = some (amtStr a)
/-- what SetAmount leaves -/
def setA (L : SL) (k : ByteArray) (a : Nat) : SL := if a = 0 then sdel L k else setL L k (amtStr a)
theorem amtStr_ne (a : Nat) : amtStr a ≠ ⟨#[]⟩ := by
  intro e
  have := amtStr_size a
  rw [e] at this
  exact absurd this (by decide)
set_option maxRecDepth 100000 in
set_option maxHeartbeats 1000000 in
theorem camount_walk (P : Option Addr) (k V : ByteArray) (is ok : Bool) (a : Nat) (w : World) (hV : fbv V = a) (hok : decide (V.size = 32) = ok) (HG : Calls Try.prog 28 #[.pointer P, .string k] (w.alloc (.cells #[.int .u64 0, .int .u64 0, .int .u64 0, .int .u64 0] 52)) fun e w' => e = .returned (.tuple #[.string V, .bool is]) ∧ Below (w.alloc (.cells #[.int .u64 0, .int .u64 0, .int .u64 0, .int .u64 0] 52)).heap.size (w.alloc (.cells #[.int .u64 0, .int .u64 0, .int .u64 0, .int .u64 0] 52)) w') :
    Calls Try.prog 144 #[.pointer P, .string k] w fun e w' => e = .returned (.agg #[.int .u64 (limb a 0 : Nat), .int .u64 (limb a 1 : Nat), .int .u64 (limb a 2 : Nat), .int .u64 (limb a 3 : Nat)]) ∧ Below w.heap.size w w' := by
  have hb0 := (Below.refl w.heap.size w).alloc (Nat.le_refl _) (.cells #[.int .u64 0, .int .u64 0, .int .u64 0, .int .u64 0] 52)
  have r0 := heap_alloc_new w (.cells #[.int .u64 0, .int .u64 0, .int .u64 0, .int .u64 0] 52)
  have H0 := Lib.hid (And.intro hb0 r0)
  have HGs := Lib.hid HG
  have HT := Lib.hid (fun W => toAmount_walk V a ok W hV hok)
  clear hb0 r0 HG hV hok
  go_enter Try.func144, Try.ntmps144
  go_wp2_with (first
    | (go_at_call 154; refine (HT.out _).mono ?_; rintro e w2 ⟨rfl, hb2⟩; unfold U; have r2 := (hb2.block _ (hp_lt H1.out.2)).trans H1.out.2; have hbx := (Below.refl w2.heap.size w2).alloc (Nat.le_refl _) (.cells #[.int .u64 (limb a 0 : Nat), .int .u64 (limb a 1 : Nat), .int .u64 (limb a 2 : Nat), .int .u64 (limb a 3 : Nat)] 52); have rx := (hbx.block _ (hp_lt r2)).trans r2; have RX := Lib.hid rx; have H2 := Lib.hid (H1.out.1.trans ((hb2.trans (hbx.mono hb2.size)).mono H1.out.1.size)); have d0 := (hp_cell (i := 0) rx).trans rfl; have d1 := (hp_cell (i := 1) rx).trans rfl; have d2 := (hp_cell (i := 2) rx).trans rfl; have d3 := (hp_cell (i := 3) rx).trans rfl; have g0 := hp_free (i := 0) rx; have g1 := hp_free (i := 1) rx; have g2 := hp_free (i := 2) rx; have g3 := hp_free (i := 3) rx; clear hb2 r2 hbx rx)
    | (go_at_call 28; refine HGs.out.mono ?_; rintro e w1 ⟨rfl, hb1⟩; have H1 := Lib.hid (And.intro (H0.out.1.trans (hb1.mono H0.out.1.size)) ((hb1.block _ (hp_lt H0.out.2)).trans H0.out.2)); clear hb1))
  obtain ⟨e0, e1, e2, e3⟩ := ((arr_zero RX.out).put4 (n := a)).cells4
  refine bodyPost_ret (v := .agg #[.int .u64 (limb a 0 : Nat), .int .u64 (limb a 1 : Nat), .int .u64 (limb a 2 : Nat), .int .u64 (limb a 3 : Nat)]) (by simp [results, Try.results144, go_sem, e0, e1, e2, e3]) rfl ⟨rfl, below_set4 H2.out (Nat.le_refl _)⟩
theorem camount_at {w W : World} {b : Nat} {F : List Nat} {L : SL} {q : Nat} {qs : List Value} (h : SNew w W b F L q qs) (k : ByteArray) (a : Nat) (hk : k.size ≤ maxLen) (he : amtAt L k a) (ha : a < 2 ^ 256) :
    Calls Try.prog 144 #[.pointer (some ⟨b, 0, none⟩), .string k] W fun e W' => e = .returned (U a) ∧ Below W.heap.size W W' := by
  have hs := h.al (.cells #[.int .u64 0, .int .u64 0, .int .u64 0, .int .u64 0] 52)
  rcases he with ⟨rfl, he⟩ | he
  · exact camount_walk _ k ⟨#[]⟩ false false 0 W (by decide) (by decide) ((hs.get_none k hk he).mono fun e w' hh => ⟨hh.1, hh.2.2⟩)
  · exact camount_walk _ k (amtStr a) true true a W (amt_fbv a ha) (by rw [amtStr_size]; rfl) ((hs.get_some k _ hk he).mono fun e w' hh => ⟨hh.1, hh.2.2⟩)
theorem camount_dead (P : Option Addr) (k : ByteArray) (w : World) (h : SDead w (.pointer P)) : Calls Try.prog 144 #[.pointer P, .string k] w fun e w' => e = .returned (U 0) ∧ Below w.heap.size w w' :=
  camount_walk P k ⟨#[]⟩ false false 0 w (by decide) (by decide) ((sget_dead _ k _ (h.below ((Below.refl _ _).alloc (Nat.le_refl _) _))).mono fun e w' hh => ⟨hh.1, by rw [← hh.2]; exact Below.refl _ _⟩)
set_option maxRecDepth 100000 in
set_option maxHeartbeats 1000000 in
theorem csetAmount_live {w W : World} {b : Nat} {F : List Nat} {L : SL} {q : Nat} {qs : List Value} (h : SNew w W b F L q qs) (k : ByteArray) (a : Nat) (hk : k.size ≤ maxLen) (hk0 : k ≠ ⟨#[]⟩) (ha : a < 2 ^ 256) (hN : L.length < 1000000) (hq : q < 1000000) :
    Calls Try.prog 178 #[.pointer (some ⟨b, 0, none⟩), .string k, U a] W fun e W' => e = .returned (.tuple #[]) ∧ LiveTo w W W' b F (setA L k a) (q + 1) := by
  have hb0 := (Below.refl W.heap.size W).alloc (Nat.le_refl _) (.cells #[.int .u64 (limb a 0 : Nat), .int .u64 (limb a 1 : Nat), .int .u64 (limb a 2 : Nat), .int .u64 (limb a 3 : Nat)] 52)
  have hq0 := fun w => eq0_run ha w
  by_cases h0 : a = 0
  · have HP := Lib.hid ((cput_del (h.al (.cells #[.int .u64 (limb a 0 : Nat), .int .u64 (limb a 1 : Nat), .int .u64 (limb a 2 : Nat), .int .u64 (limb a 3 : Nat)] 52)) k hk (by omega) hq).mono fun e W' hp => (⟨hp.1, by unfold setA; rw [if_pos h0]; exact hp.2.pre hb0⟩ : e = .returned (.tuple #[]) ∧ LiveTo w W W' b F (setA L k a) (q + 1)))
    rw [decide_eq_true h0] at hq0
    clear h hk hk0 ha hN hq hb0 h0
    unfold U
    go_enter Try.func178, Try.ntmps178
    go_wp2_with (go_at_call 131; refine HP.out.mono ?_; rintro e w2 ⟨rfl, h1⟩; have H1 := Lib.hid h1; clear h1)
    refine bodyPost_ret (v := .tuple #[]) (by simp [results, Try.results178, go_sem]) rfl ⟨rfl, H1.out⟩
  · have HP := Lib.hid (fun (W1 : World) (hb : Below W.heap.size W W1) => (cput_set (h.below hb) k (amtStr a) hk (by rw [amtStr_size]; decide) hk0 (amtStr_ne a) hN hq).mono fun e W' hp => (⟨hp.1, by unfold setA; rw [if_neg h0]; exact hp.2.pre hb⟩ : e = .returned (.tuple #[]) ∧ LiveTo w W W' b F (setA L k a) (q + 1)))
    rw [decide_eq_false h0] at hq0
    have hAm := fun W1 => amount9_walk a W1
    unfold U at hAm
    have HA := Lib.hid hAm
    have HB0 := Lib.hid hb0
    clear hAm h hk hk0 ha hN hq hb0 h0
    unfold U
    go_enter Try.func178, Try.ntmps178
    go_wp2_with (first
      | (go_at_call 131; refine (HP.out _ HB1.out).mono ?_; rintro e w2 ⟨rfl, h1⟩; have H1 := Lib.hid h1; clear h1)
      | (go_at_call 165; refine (HA.out _).mono ?_; rintro e w1 ⟨rfl, hb1⟩; have HB1 := Lib.hid (HB0.out.trans (hb1.mono HB0.out.size)); clear hb1))
    go_end0
    exact ⟨rfl, H1.out⟩
theorem cput_dead (p : Value) (k v : ByteArray) (w : World) (h : SDead w p) : Calls Try.prog 131 #[p, .string k, .string v] w fun e w' => e = .returned (.tuple #[]) ∧ w = w' := by
  have HD := Lib.hid (delete_dead p k w h)
  have HS := Lib.hid (set_dead p k v w h)
  clear h
  by_cases hv : v = ⟨#[]⟩
  · subst hv
    go_enter Try.func131, Try.ntmps131
    go_wp2_with (go_at_call 64; refine HD.out.mono ?_; rintro e w1 ⟨rfl, rfl⟩)
    refine bodyPost_ret (v := .tuple #[]) (by simp [results, Try.results131, go_sem]) rfl ⟨rfl, rfl⟩
  · have hv1 := ba_nil hv
    go_enter Try.func131, Try.ntmps131
    go_wp2_with (go_at_call 163; refine HS.out.mono ?_; rintro e w1 ⟨rfl, rfl⟩)
    go_end0
    exact ⟨rfl, rfl⟩
set_option maxRecDepth 100000 in
set_option maxHeartbeats 1000000 in
theorem csetAmount_dead (p : Value) (k : ByteArray) (a : Nat) (ha : a < 2 ^ 256) (w : World) (h : SDead w p) : Calls Try.prog 178 #[p, .string k, U a] w fun e w' => e = .returned (.tuple #[]) ∧ Below w.heap.size w w' := by
  have hb0 := (Below.refl w.heap.size w).alloc (Nat.le_refl _) (.cells #[.int .u64 (limb a 0 : Nat), .int .u64 (limb a 1 : Nat), .int .u64 (limb a 2 : Nat), .int .u64 (limb a 3 : Nat)] 52)
  have hq0 := fun w => eq0_run ha w
  have HD := Lib.hid (fun (v : ByteArray) (W : World) (hb : Below w.heap.size w W) => cput_dead p k v W (h.below hb))
  have HB0 := Lib.hid hb0
  have hAm := fun W1 => amount9_walk a W1
  unfold U at hAm
  have HA := Lib.hid hAm
  clear h hb0 hAm
  by_cases h0 : a = 0
  · rw [decide_eq_true h0] at hq0
    clear h0 ha
    unfold U
    go_enter Try.func178, Try.ntmps178
    go_wp2_with (go_at_call 131; refine (HD.out _ _ HB0.out).mono ?_; rintro e w1 ⟨rfl, rfl⟩)
    refine bodyPost_ret (v := .tuple #[]) (by simp [results, Try.results178, go_sem]) rfl ⟨rfl, HB0.out⟩
  · rw [decide_eq_false h0] at hq0
    clear h0 ha
    unfold U
    go_enter Try.func178, Try.ntmps178
    go_wp2_with (first
      | (go_at_call 131; refine (HD.out _ _ HB1.out).mono ?_; rintro e w2 ⟨rfl, rfl⟩)
      | (go_at_call 165; refine (HA.out _).mono ?_; rintro e w1 ⟨rfl, hb1⟩; have HB1 := Lib.hid (HB0.out.trans (hb1.mono HB0.out.size)); clear hb1))
    go_end0
    exact ⟨rfl, HB1.out⟩
/-! ### the two turns -/
set_option maxRecDepth 100000 in
theorem more_walk (a : Nat) (w : World) : Calls Try.prog 148 #[U a] w fun e w' => e = .returned (.func (.func 179) #[] #[.pointer (some ⟨w.heap.size, 0, none⟩)]) ∧ w'.heap[w.heap.size]? = some (.cells #[.int .u64 (limb a 0 : Nat), .int .u64 (limb a 1 : Nat), .int .u64 (limb a 2 : Nat), .int .u64 (limb a 3 : Nat)] 52 (0, 0)) ∧ Below w.heap.size w w' := by
  unfold U
  go_enter Try.func148, Try.ntmps148
  go_wp2
  go_ret
  exact ⟨rfl, heap_alloc_new _ _, (Below.refl _ _).alloc (Nat.le_refl _) _⟩
set_option maxRecDepth 100000 in
theorem less_walk (a : Nat) (w : World) : Calls Try.prog 152 #[U a] w fun e w' => e = .returned (.func (.func 181) #[] #[.pointer (some ⟨w.heap.size, 0, none⟩)]) ∧ w'.heap[w.heap.size]? = some (.cells #[.int .u64 (limb a 0 : Nat), .int .u64 (limb a 1 : Nat), .int .u64 (limb a 2 : Nat), .int .u64 (limb a 3 : Nat)] 52 (0, 0)) ∧ Below w.heap.size w w' := by
  unfold U
  go_enter Try.func152, Try.ntmps152
  go_wp2
  go_ret
  exact ⟨rfl, heap_alloc_new _ _, (Below.refl _ _).alloc (Nat.le_refl _) _⟩
set_option maxRecDepth 100000 in
set_option maxHeartbeats 2000000 in
theorem lessc_ok (was a r g : Nat) (hw : was < 2 ^ 256) (ha : a < 2 ^ 256) (hle : a ≤ was) (hr : was - a = r) (w : World) (hg : w.heap[g]? = some (.cells #[.int .u64 (limb a 0 : Nat), .int .u64 (limb a 1 : Nat), .int .u64 (limb a 2 : Nat), .int .u64 (limb a 3 : Nat)] 52 (0, 0))) :
    Calls Try.prog 181 #[U was, .pointer (some ⟨g, 0, none⟩)] w fun e w' => e = .returned (.tuple #[U r, .int .i64 0]) ∧ Below w.heap.size w w' := by
  have hb0 := ((Below.refl w.heap.size w).alloc (Nat.le_refl _) (.cells #[.int .u64 (limb was 0 : Nat), .int .u64 (limb was 1 : Nat), .int .u64 (limb was 2 : Nat), .int .u64 (limb was 3 : Nat)] 52)).alloc (by simp) (.cells #[.int .u64 0, .int .u64 0, .int .u64 0, .int .u64 0] 52)
  have r0 := heap_alloc_new (w.alloc (.cells #[.int .u64 (limb was 0 : Nat), .int .u64 (limb was 1 : Nat), .int .u64 (limb was 2 : Nat), .int .u64 (limb was 3 : Nat)] 52)) (.cells #[.int .u64 0, .int .u64 0, .int .u64 0, .int .u64 0] 52)
  rw [World.size_alloc] at r0
  have hA : ∀ W, Calls Try.prog 109 #[U was, U a] W fun e w' => e = .returned (.tuple #[U r, .bool true]) ∧ Below W.heap.size W w' := fun W => (sub_walk was a W hw ha).mono fun e w' hh => by
    obtain ⟨he, hb⟩ := hh
    rw [if_pos hle, decide_eq_true hle, hr] at he
    exact ⟨he, hb⟩
  unfold U at hA
  have HA := Lib.hid hA
  have H0 := Lib.hid (And.intro hb0 r0)
  have rg := (hb0.block g (hp_lt hg)).trans hg
  have lg := hp_lt hg
  have c0 := (hp_cell (i := 0) rg).trans rfl
  have c1 := (hp_cell (i := 1) rg).trans rfl
  have c2 := (hp_cell (i := 2) rg).trans rfl
  have c3 := (hp_cell (i := 3) rg).trans rfl
  clear hb0 r0 hA rg hle hr hw ha hg
  unfold U
  go_enter Try.func181, Try.ntmps181
  go_wp2_with (first
    | (go_at_call 109; refine (HA.out _).mono ?_; rintro e w2 ⟨rfl, hb2⟩; have hbx := (Below.refl w2.heap.size w2).alloc (Nat.le_refl _) (.cells #[.int .u64 (limb r 0 : Nat), .int .u64 (limb r 1 : Nat), .int .u64 (limb r 2 : Nat), .int .u64 (limb r 3 : Nat)] 52); have hby := hb2.trans (hbx.mono hb2.size); have rx := (hby.block (w.heap.size + 1) (by simp)).trans H0.out.2; have RX := Lib.hid rx; have H2 := Lib.hid (H0.out.1.trans (hby.mono H0.out.1.size)); have d0 := (hp_cell (i := 0) rx).trans rfl; have d1 := (hp_cell (i := 1) rx).trans rfl; have d2 := (hp_cell (i := 2) rx).trans rfl; have d3 := (hp_cell (i := 3) rx).trans rfl; have g0 := hp_free (i := 0) rx; have g1 := hp_free (i := 1) rx; have g2 := hp_free (i := 2) rx; have g3 := hp_free (i := 3) rx; clear hb2 hbx hby rx))
  obtain ⟨e0, e1, e2, e3⟩ := ((arr_zero RX.out).put4 (n := r)).cells4
  refine bodyPost_ret (v := .tuple #[.agg #[.int .u64 (limb r 0 : Nat), .int .u64 (limb r 1 : Nat), .int .u64 (limb r 2 : Nat), .int .u64 (limb r 3 : Nat)], .int .i64 0]) (by simp [results, Try.results181, go_sem, e0, e1, e2, e3]) rfl ⟨rfl, below_set4 H2.out (by omega)⟩
set_option maxRecDepth 100000 in
set_option maxHeartbeats 2000000 in
theorem morec_ok (was a r g : Nat) (hw : was < 2 ^ 256) (ha : a < 2 ^ 256) (hle : was + a ≤ MOST) (hr : was + a = r) (w : World) (hg : w.heap[g]? = some (.cells #[.int .u64 (limb a 0 : Nat), .int .u64 (limb a 1 : Nat), .int .u64 (limb a 2 : Nat), .int .u64 (limb a 3 : Nat)] 52 (0, 0))) :
    Calls Try.prog 179 #[U was, .pointer (some ⟨g, 0, none⟩)] w fun e w' => e = .returned (.tuple #[U r, .int .i64 0]) ∧ Below w.heap.size w w' := by
  have hb0 := ((Below.refl w.heap.size w).alloc (Nat.le_refl _) (.cells #[.int .u64 (limb was 0 : Nat), .int .u64 (limb was 1 : Nat), .int .u64 (limb was 2 : Nat), .int .u64 (limb was 3 : Nat)] 52)).alloc (by simp) (.cells #[.int .u64 0, .int .u64 0, .int .u64 0, .int .u64 0] 52)
  have r0 := heap_alloc_new (w.alloc (.cells #[.int .u64 (limb was 0 : Nat), .int .u64 (limb was 1 : Nat), .int .u64 (limb was 2 : Nat), .int .u64 (limb was 3 : Nat)] 52)) (.cells #[.int .u64 0, .int .u64 0, .int .u64 0, .int .u64 0] 52)
  rw [World.size_alloc] at r0
  have hA : ∀ W, Calls Try.prog 94 #[U was, U a] W fun e w' => e = .returned (.tuple #[U r, .bool true]) ∧ Below W.heap.size W w' := fun W => (add_walk was a W hw ha).mono fun e w' hh => by
    obtain ⟨he, hb⟩ := hh
    rw [if_pos (Nat.lt_of_le_of_lt hle MOST_lt), decide_eq_true (Nat.lt_of_le_of_lt hle MOST_lt), hr] at he
    exact ⟨he, hb⟩
  have hM : ∀ W, Calls Try.prog 82 #[U r] W fun e w' => e = .returned (.bool true) ∧ Below W.heap.size W w' := fun W => (amount_walk r W (by rw [← hr]; exact Nat.lt_of_le_of_lt hle MOST_lt)).mono fun e w' hh => by
    obtain ⟨he, hb⟩ := hh
    rw [decide_eq_true (by rw [← hr]; exact hle)] at he
    exact ⟨he, hb⟩
  unfold U at hA hM
  have HA := Lib.hid hA
  have HM := Lib.hid hM
  clear hM
  have H0 := Lib.hid (And.intro hb0 r0)
  have rg := (hb0.block g (hp_lt hg)).trans hg
  have lg := hp_lt hg
  have c0 := (hp_cell (i := 0) rg).trans rfl
  have c1 := (hp_cell (i := 1) rg).trans rfl
  have c2 := (hp_cell (i := 2) rg).trans rfl
  have c3 := (hp_cell (i := 3) rg).trans rfl
  clear hb0 r0 hA rg hle hr hw ha hg
  unfold U
  go_enter Try.func179, Try.ntmps179
  go_wp2_with (first
    | (go_at_call 82; refine (HM.out _).mono ?_; rintro e w3 ⟨rfl, hb3⟩; have hbx := (Below.refl w2.heap.size w2).alloc (Nat.le_refl _) (.cells #[.int .u64 (limb r 0 : Nat), .int .u64 (limb r 1 : Nat), .int .u64 (limb r 2 : Nat), .int .u64 (limb r 3 : Nat)] 52); have ry := (hb3.block w2.heap.size (by simp)).trans (heap_alloc_new w2 (.cells #[.int .u64 (limb r 0 : Nat), .int .u64 (limb r 1 : Nat), .int .u64 (limb r 2 : Nat), .int .u64 (limb r 3 : Nat)] 52)); have rx := (hb3.block _ (hp_lt RX.out)).trans RX.out; have RX3 := Lib.hid rx; have H3 := Lib.hid (H2.out.trans (hb3.mono H2.out.size)); have LY := hp_lt ry; have LZ := Lib.hid (hp_lt H0.out.2); have d0 := (hp_cell (i := 0) rx).trans rfl; have d1 := (hp_cell (i := 1) rx).trans rfl; have d2 := (hp_cell (i := 2) rx).trans rfl; have d3 := (hp_cell (i := 3) rx).trans rfl; have g0 := hp_free (i := 0) rx; have g1 := hp_free (i := 1) rx; have g2 := hp_free (i := 2) rx; have g3 := hp_free (i := 3) rx; have y0 := (hp_cell (i := 0) ry).trans rfl; have y1 := (hp_cell (i := 1) ry).trans rfl; have y2 := (hp_cell (i := 2) ry).trans rfl; have y3 := (hp_cell (i := 3) ry).trans rfl; clear hb3 hbx rx ry)
    | (go_at_call 94; refine (HA.out _).mono ?_; rintro e w2 ⟨rfl, hb2⟩; have hbx := (Below.refl w2.heap.size w2).alloc (Nat.le_refl _) (.cells #[.int .u64 (limb r 0 : Nat), .int .u64 (limb r 1 : Nat), .int .u64 (limb r 2 : Nat), .int .u64 (limb r 3 : Nat)] 52); have hby := hb2.trans (hbx.mono hb2.size); have rx := (hby.block (w.heap.size + 1) (by simp)).trans H0.out.2; have RX := Lib.hid rx; have H2 := Lib.hid (H0.out.1.trans (hby.mono H0.out.1.size)); have d0 := (hp_cell (i := 0) rx).trans rfl; have d1 := (hp_cell (i := 1) rx).trans rfl; have d2 := (hp_cell (i := 2) rx).trans rfl; have d3 := (hp_cell (i := 3) rx).trans rfl; have g0 := hp_free (i := 0) rx; have g1 := hp_free (i := 1) rx; have g2 := hp_free (i := 2) rx; have g3 := hp_free (i := 3) rx; clear hb2 hbx hby rx))
  obtain ⟨e0, e1, e2, e3⟩ := ((arr_zero RX3.out).put4 (n := r)).cells4
  refine bodyPost_ret (v := .tuple #[.agg #[.int .u64 (limb r 0 : Nat), .int .u64 (limb r 1 : Nat), .int .u64 (limb r 2 : Nat), .int .u64 (limb r 3 : Nat)], .int .i64 0]) (by simp [results, Try.results179, go_sem, e0, e1, e2, e3]) rfl ⟨rfl, below_set4 H3.out (by omega)⟩
end Go.Proofs.Ytffipojlpdphiaa

namespace Go.Proofs.Ytffipojlpdphiaa
open Go.RowKit Go.Maps Go.Sort

set_option maxRecDepth 100000 in
set_option maxHeartbeats 2000000 in
theorem cchange_more {w W : World} {b : Nat} {F : List Nat} {L : SL} {q : Nat} {qs : List Value} (h : SNew w W b F L q qs) (k : ByteArray) (was r g : Nat) (hk : k.size ≤ maxLen) (hk0 : k ≠ ⟨#[]⟩) (he : amtAt L k was) (hw : was < 2 ^ 256) (hr : r < 2 ^ 256) (hN : L.length < 1000000) (hq : q < 1000000)
    (HT : ∀ W', Below W.heap.size W W' → Calls Try.prog 179 #[U was, .pointer (some ⟨g, 0, none⟩)] W' fun e w' => e = .returned (.tuple #[U r, .int .i64 0]) ∧ Below W'.heap.size W' w') :
    Calls Try.prog 147 #[.pointer (some ⟨b, 0, none⟩), .string k, .func (.func 179) #[] #[.pointer (some ⟨g, 0, none⟩)]] W fun e W' => e = .returned (.int .i64 0) ∧ LiveTo w W W' b F (setA L k r) (q + 1) := by
  have hA := camount_at h k was hk he hw
  have hT := HT
  have hS := fun (W1 : World) (hb : Below W.heap.size W W1) => (csetAmount_live (h.below hb) k r hk hk0 hr hN hq).mono fun e W' hp => (⟨hp.1, hp.2.pre hb⟩ : e = .returned (.tuple #[]) ∧ LiveTo w W W' b F (setA L k r) (q + 1))
  unfold U at hA hT hS
  have HA := Lib.hid hA
  have HTs := Lib.hid hT
  have HS := Lib.hid hS
  clear h hk hk0 he hw hr hN hq HT hA hT hS
  go_enter Try.func147, Try.ntmps147
  go_wp2_with (first
    | (go_at_call 178; refine (HS.out _ (H2.out.alloc H2.out.size (.cells #[.int .u64 (limb r 0 : Nat), .int .u64 (limb r 1 : Nat), .int .u64 (limb r 2 : Nat), .int .u64 (limb r 3 : Nat)] 52))).mono ?_; rintro e w3 ⟨rfl, h3⟩; have H3 := Lib.hid h3; clear h3)
    | (go_at_call 179; refine (HTs.out _ H1.out).mono ?_; rintro e w2 ⟨rfl, hb2⟩; have H2 := Lib.hid (H1.out.trans (hb2.mono H1.out.size)); clear hb2)
    | (go_at_call 144; refine HA.out.mono ?_; rintro e w1 ⟨rfl, hb1⟩; have H1 := Lib.hid hb1; clear hb1))
  go_ret
  exact ⟨rfl, H3.out⟩
set_option maxRecDepth 100000 in
set_option maxHeartbeats 2000000 in
theorem cchange_less {w W : World} {b : Nat} {F : List Nat} {L : SL} {q : Nat} {qs : List Value} (h : SNew w W b F L q qs) (k : ByteArray) (was r g : Nat) (hk : k.size ≤ maxLen) (hk0 : k ≠ ⟨#[]⟩) (he : amtAt L k was) (hw : was < 2 ^ 256) (hr : r < 2 ^ 256) (hN : L.length < 1000000) (hq : q < 1000000)
    (HT : ∀ W', Below W.heap.size W W' → Calls Try.prog 181 #[U was, .pointer (some ⟨g, 0, none⟩)] W' fun e w' => e = .returned (.tuple #[U r, .int .i64 0]) ∧ Below W'.heap.size W' w') :
    Calls Try.prog 147 #[.pointer (some ⟨b, 0, none⟩), .string k, .func (.func 181) #[] #[.pointer (some ⟨g, 0, none⟩)]] W fun e W' => e = .returned (.int .i64 0) ∧ LiveTo w W W' b F (setA L k r) (q + 1) := by
  have hA := camount_at h k was hk he hw
  have hT := HT
  have hS := fun (W1 : World) (hb : Below W.heap.size W W1) => (csetAmount_live (h.below hb) k r hk hk0 hr hN hq).mono fun e W' hp => (⟨hp.1, hp.2.pre hb⟩ : e = .returned (.tuple #[]) ∧ LiveTo w W W' b F (setA L k r) (q + 1))
  unfold U at hA hT hS
  have HA := Lib.hid hA
  have HTs := Lib.hid hT
  have HS := Lib.hid hS
  clear h hk hk0 he hw hr hN hq HT hA hT hS
  go_enter Try.func147, Try.ntmps147
  go_wp2_with (first
    | (go_at_call 178; refine (HS.out _ (H2.out.alloc H2.out.size (.cells #[.int .u64 (limb r 0 : Nat), .int .u64 (limb r 1 : Nat), .int .u64 (limb r 2 : Nat), .int .u64 (limb r 3 : Nat)] 52))).mono ?_; rintro e w3 ⟨rfl, h3⟩; have H3 := Lib.hid h3; clear h3)
    | (go_at_call 181; refine (HTs.out _ H1.out).mono ?_; rintro e w2 ⟨rfl, hb2⟩; have H2 := Lib.hid (H1.out.trans (hb2.mono H1.out.size)); clear hb2)
    | (go_at_call 144; refine HA.out.mono ?_; rintro e w1 ⟨rfl, hb1⟩; have H1 := Lib.hid hb1; clear hb1))
  go_ret
  exact ⟨rfl, H3.out⟩
set_option maxRecDepth 100000 in
set_option maxHeartbeats 2000000 in
theorem cadd_live {w W : World} {b : Nat} {F : List Nat} {L : SL} {q : Nat} {qs : List Value} (h : SNew w W b F L q qs) (k : ByteArray) (was a : Nat) (hk : k.size ≤ maxLen) (hk0 : k ≠ ⟨#[]⟩) (he : amtAt L k was) (hw : was < 2 ^ 256) (ha : a < 2 ^ 256) (hle : was + a ≤ MOST) (hN : L.length < 1000000) (hq : q < 1000000) :
    Calls Try.prog 84 #[.pointer (some ⟨b, 0, none⟩), .string k, U a] W fun e W' => e = .returned (.int .i64 0) ∧ LiveTo w W W' b F (setA L k (was + a)) (q + 1) := by
  have hb0 := (Below.refl W.heap.size W).alloc (Nat.le_refl _) (.cells #[.int .u64 (limb a 0 : Nat), .int .u64 (limb a 1 : Nat), .int .u64 (limb a 2 : Nat), .int .u64 (limb a 3 : Nat)] 52)
  have hM := fun W1 => more_walk a W1
  have HC := Lib.hid (fun (W1 : World) (g : Nat) (hb : Below W.heap.size W W1) (hg : W1.heap[g]? = some (.cells #[.int .u64 (limb a 0 : Nat), .int .u64 (limb a 1 : Nat), .int .u64 (limb a 2 : Nat), .int .u64 (limb a 3 : Nat)] 52 (0, 0))) => (cchange_more (h.below hb) k was (was + a) g hk hk0 he hw (by exact Nat.lt_of_le_of_lt hle MOST_lt) hN hq (fun W2 hb2 => morec_ok was a (was + a) g hw ha hle rfl W2 ((hb2.block g (hp_lt hg)).trans hg))).mono fun e W' hp => (⟨hp.1, hp.2.pre hb⟩ : e = .returned (.int .i64 0) ∧ LiveTo w W W' b F (setA L k (was + a)) (q + 1)))
  unfold U at hM
  have HM := Lib.hid hM
  have HB0 := Lib.hid hb0
  obtain ⟨lm, elm⟩ : ∃ z, z = setA L k (was + a) := ⟨_, rfl⟩
  rw [← elm] at HC ⊢
  clear h hk hk0 he hw ha hle hN hq hb0 hM elm
  unfold U
  go_enter Try.func84, Try.ntmps84
  go_wp2_with (first
    | (go_at_call 147; refine (HC.out _ _ H1.out.1 H1.out.2).mono ?_; rintro e w2 ⟨rfl, h2⟩; have H2 := Lib.hid h2; clear h2)
    | (go_at_call 148; refine (HM.out _).mono ?_; rintro e w1 ⟨rfl, hg1, hb1⟩; rw [World.size_alloc] at hg1; have H1 := Lib.hid (And.intro (HB0.out.trans (hb1.mono HB0.out.size)) hg1); clear hg1 hb1))
  go_ret
  exact ⟨rfl, H2.out⟩
set_option maxRecDepth 100000 in
set_option maxHeartbeats 2000000 in
theorem csub_live {w W : World} {b : Nat} {F : List Nat} {L : SL} {q : Nat} {qs : List Value} (h : SNew w W b F L q qs) (k : ByteArray) (was a : Nat) (hk : k.size ≤ maxLen) (hk0 : k ≠ ⟨#[]⟩) (he : amtAt L k was) (hw : was < 2 ^ 256) (ha : a < 2 ^ 256) (hle : a ≤ was) (hN : L.length < 1000000) (hq : q < 1000000) :
    Calls Try.prog 153 #[.pointer (some ⟨b, 0, none⟩), .string k, U a] W fun e W' => e = .returned (.int .i64 0) ∧ LiveTo w W W' b F (setA L k (was - a)) (q + 1) := by
  have hb0 := (Below.refl W.heap.size W).alloc (Nat.le_refl _) (.cells #[.int .u64 (limb a 0 : Nat), .int .u64 (limb a 1 : Nat), .int .u64 (limb a 2 : Nat), .int .u64 (limb a 3 : Nat)] 52)
  have hM := fun W1 => less_walk a W1
  have HC := Lib.hid (fun (W1 : World) (g : Nat) (hb : Below W.heap.size W W1) (hg : W1.heap[g]? = some (.cells #[.int .u64 (limb a 0 : Nat), .int .u64 (limb a 1 : Nat), .int .u64 (limb a 2 : Nat), .int .u64 (limb a 3 : Nat)] 52 (0, 0))) => (cchange_less (h.below hb) k was (was - a) g hk hk0 he hw (by omega) hN hq (fun W2 hb2 => lessc_ok was a (was - a) g hw ha hle rfl W2 ((hb2.block g (hp_lt hg)).trans hg))).mono fun e W' hp => (⟨hp.1, hp.2.pre hb⟩ : e = .returned (.int .i64 0) ∧ LiveTo w W W' b F (setA L k (was - a)) (q + 1)))
  unfold U at hM
  have HM := Lib.hid hM
  have HB0 := Lib.hid hb0
  obtain ⟨lm, elm⟩ : ∃ z, z = setA L k (was - a) := ⟨_, rfl⟩
  rw [← elm] at HC ⊢
  clear h hk hk0 he hw ha hle hN hq hb0 hM elm
  unfold U
  go_enter Try.func153, Try.ntmps153
  go_wp2_with (first
    | (go_at_call 147; refine (HC.out _ _ H1.out.1 H1.out.2).mono ?_; rintro e w2 ⟨rfl, h2⟩; have H2 := Lib.hid h2; clear h2)
    | (go_at_call 152; refine (HM.out _).mono ?_; rintro e w1 ⟨rfl, hg1, hb1⟩; rw [World.size_alloc] at hg1; have H1 := Lib.hid (And.intro (HB0.out.trans (hb1.mono HB0.out.size)) hg1); clear hg1 hb1))
  go_ret
  exact ⟨rfl, H2.out⟩
set_option maxRecDepth 100000 in
set_option maxHeartbeats 2000000 in
theorem cadd_dead (P : Option Addr) (k : ByteArray) (a : Nat) (ha : a ≤ MOST) (w : World) (h : SDead w (.pointer P)) :
    Calls Try.prog 84 #[.pointer P, .string k, U a] w fun e w' => e = .returned (.int .i64 0) ∧ Below w.heap.size w w' := by
  have ha2 : a < 2 ^ 256 := Nat.lt_of_le_of_lt ha MOST_lt
  have hC : ∀ (W : World) (g : Nat), Below w.heap.size w W → W.heap[g]? = some (.cells #[.int .u64 (limb a 0 : Nat), .int .u64 (limb a 1 : Nat), .int .u64 (limb a 2 : Nat), .int .u64 (limb a 3 : Nat)] 52 (0, 0)) → Calls Try.prog 147 #[.pointer P, .string k, .func (.func 179) #[] #[.pointer (some ⟨g, 0, none⟩)]] W fun e w' => e = .returned (.int .i64 0) ∧ Below W.heap.size W w' := by
    intro W g hbW hg
    have hA := camount_dead P k W (h.below hbW)
    have hT := fun (W2 : World) (hb2 : Below W.heap.size W W2) => morec_ok 0 a a g (by decide) ha2 (by rw [Nat.zero_add]; exact ha) (Nat.zero_add a) W2 ((hb2.block g (hp_lt hg)).trans hg)
    have hS := fun (W1 : World) (hb : Below W.heap.size W W1) => csetAmount_dead (.pointer P) k a ha2 W1 ((h.below hbW).below hb)
    unfold U at hA hT hS
    have HA := Lib.hid hA
    have HTs := Lib.hid hT
    have HS := Lib.hid hS
    clear h hbW hg ha ha2 hA hT hS
    go_enter Try.func147, Try.ntmps147
    go_wp2_with (first
      | (go_at_call 178; refine (HS.out _ (H2.out.alloc H2.out.size (.cells #[.int .u64 (limb a 0 : Nat), .int .u64 (limb a 1 : Nat), .int .u64 (limb a 2 : Nat), .int .u64 (limb a 3 : Nat)] 52))).mono ?_; rintro e w3 ⟨rfl, hb3⟩; have hbx := H2.out.alloc H2.out.size (.cells #[.int .u64 (limb a 0 : Nat), .int .u64 (limb a 1 : Nat), .int .u64 (limb a 2 : Nat), .int .u64 (limb a 3 : Nat)] 52); have H3 := Lib.hid (hbx.trans (hb3.mono hbx.size)); clear hb3 hbx)
      | (go_at_call 179; refine (HTs.out _ H1.out).mono ?_; rintro e w2 ⟨rfl, hb2⟩; have H2 := Lib.hid (H1.out.trans (hb2.mono H1.out.size)); clear hb2)
      | (go_at_call 144; refine HA.out.mono ?_; rintro e w1 ⟨rfl, hb1⟩; have H1 := Lib.hid hb1; clear hb1))
    go_ret
    exact ⟨rfl, H3.out⟩
  have hb0 := (Below.refl w.heap.size w).alloc (Nat.le_refl _) (.cells #[.int .u64 (limb a 0 : Nat), .int .u64 (limb a 1 : Nat), .int .u64 (limb a 2 : Nat), .int .u64 (limb a 3 : Nat)] 52)
  have hM := fun W1 => more_walk a W1
  unfold U at hM
  have HM := Lib.hid hM
  have HC := Lib.hid hC
  have HB0 := Lib.hid hb0
  clear h ha ha2 hb0 hM hC
  unfold U
  go_enter Try.func84, Try.ntmps84
  go_wp2_with (first
    | (go_at_call 147; refine (HC.out _ _ H1.out.1 H1.out.2).mono ?_; rintro e w2 ⟨rfl, hb2⟩; have H2 := Lib.hid (H1.out.1.trans (hb2.mono H1.out.1.size)); clear hb2)
    | (go_at_call 148; refine (HM.out _).mono ?_; rintro e w1 ⟨rfl, hg1, hb1⟩; rw [World.size_alloc] at hg1; have H1 := Lib.hid (And.intro (HB0.out.trans (hb1.mono HB0.out.size)) hg1); clear hg1 hb1))
  go_ret
  exact ⟨rfl, H2.out⟩
set_option maxRecDepth 100000 in
set_option maxHeartbeats 4000000 in
theorem cmove_live {w W : World} {b : Nat} {F : List Nat} {L : SL} {q : Nat} {qs : List Value} (h : SNew w W b F L q qs) (k1 k2 : ByteArray) (x y a : Nat) (hk1 : k1.size ≤ maxLen) (hk10 : k1 ≠ ⟨#[]⟩) (hk2 : k2.size ≤ maxLen) (hk20 : k2 ≠ ⟨#[]⟩) (hne : k1 ≠ k2) (he1 : amtAt L k1 x) (he2 : amtAt L k2 y) (he1' : amtAt (setA L k2 (y + a)) k1 x) (hx : x < 2 ^ 256) (hy : y < 2 ^ 256) (ha : a < 2 ^ 256) (hle : a ≤ x) (hle2 : y + a ≤ MOST) (hN : L.length < 1000000) (hN2 : (setA L k2 (y + a)).length < 1000000) (hq : q + 2 < 1000000) :
    Calls Try.prog 90 #[.pointer (some ⟨b, 0, none⟩), .string k1, .string k2, U a] W fun e W' => e = .returned (.int .i64 0) ∧ LiveTo w W W' b F (setA (setA L k2 (y + a)) k1 (x - a)) (q + 2) := by
  have hb0 := (Below.refl W.heap.size W).alloc (Nat.le_refl _) (.cells #[.int .u64 (limb a 0 : Nat), .int .u64 (limb a 1 : Nat), .int .u64 (limb a 2 : Nat), .int .u64 (limb a 3 : Nat)] 52)
  have r0 := heap_alloc_new W (.cells #[.int .u64 (limb a 0 : Nat), .int .u64 (limb a 1 : Nat), .int .u64 (limb a 2 : Nat), .int .u64 (limb a 3 : Nat)] 52)
  have hFl : ∀ k, W.heap.size ≤ k → k ∉ F := fun k hk hm => by have := h.s.lt _ hm; omega
  have hL := fun W1 => less_walk a W1
  have hA := fun (W1 : World) (hb : Below W.heap.size W W1) => camount_at (h.below hb) k1 x hk1 he1 hx
  have hT := fun (W1 : World) (g : Nat) (hg : W1.heap[g]? = some (.cells #[.int .u64 (limb a 0 : Nat), .int .u64 (limb a 1 : Nat), .int .u64 (limb a 2 : Nat), .int .u64 (limb a 3 : Nat)] 52 (0, 0))) => lessc_ok x a (x - a) g hx ha hle rfl W1 hg
  have hAd := fun (W1 : World) (hb : Below W.heap.size W W1) => cadd_live (h.below hb) k2 y a hk2 hk20 he2 hy ha hle2 hN (by omega)
  have hSu := fun (W1 W2 : World) (hb : Below W.heap.size W W1) (hl : LiveTo w W1 W2 b F (setA L k2 (y + a)) (q + 1)) => (hl.pre hb).seq 1 (fun F1 qa qsa hs hqa => csub_live hs k1 x a hk1 hk10 he1' hx ha hle hN2 (by omega))
  unfold U at hL hA hT hAd hSu
  have HL := Lib.hid hL
  have HA := Lib.hid hA
  have HT := Lib.hid hT
  have HAd := Lib.hid hAd
  have HSu := Lib.hid hSu
  have H0 := Lib.hid (And.intro hb0 r0)
  have HF := Lib.hid hFl
  have hs12d : (k1.toList == k2.toList) = false := by
    rw [beq_eq_false_iff_ne]
    intro e
    rw [Lib.toList_data, Lib.toList_data] at e
    exact hne (keq_iff.1 (by unfold keq; exact decide_eq_true e))
  have hs12c : (k1.data.toList == k2.data.toList) = false := by
    rw [beq_eq_false_iff_ne]
    intro e
    exact hne (keq_iff.1 (by unfold keq; exact decide_eq_true e))
  obtain ⟨l1, e1⟩ : ∃ z, z = setA L k2 (y + a) := ⟨_, rfl⟩
  rw [← e1] at HAd HSu ⊢
  clear h hk1 hk10 hk2 hk20 hne he1 he2 he1' hx hy ha hle hle2 hN hN2 hq hb0 r0 hFl hL hA hT hAd hSu e1
  unfold U
  go_enter Try.func90, Try.ntmps90
  go_upto_region 2 with (first
    | (go_at_call 181; refine (HT.out _ _ H2.out.2).mono ?_; rintro e w3 ⟨rfl, hb3⟩; have H3 := Lib.hid (H2.out.1.trans (hb3.mono H2.out.1.size)); have B3 := Lib.hid (B2.out.trans (hb3.mono B2.out.size)); have HX := Lib.hid (fun (W4 : World) (hW4 : W4 = w3.alloc (.cells #[.int .u64 (limb (x - a) 0 : Nat), .int .u64 (limb (x - a) 1 : Nat), .int .u64 (limb (x - a) 2 : Nat), .int .u64 (limb (x - a) 3 : Nat)] 52)) => show Below (W.alloc (.cells #[.int .u64 (limb a 0 : Nat), .int .u64 (limb a 1 : Nat), .int .u64 (limb a 2 : Nat), .int .u64 (limb a 3 : Nat)] 52)).heap.size (W.alloc (.cells #[.int .u64 (limb a 0 : Nat), .int .u64 (limb a 1 : Nat), .int .u64 (limb a 2 : Nat), .int .u64 (limb a 3 : Nat)] 52)) W4 from by rw [hW4]; exact B3.out.alloc B3.out.size _); clear hb3)
    | (go_at_call 144; refine (HA.out _ H1.out.1).mono ?_; rintro e w2 ⟨rfl, hb2⟩; have H2 := Lib.hid (And.intro (H1.out.1.trans (hb2.mono H1.out.1.size)) ((hb2.block _ (hp_lt H1.out.2)).trans H1.out.2)); have B2 := Lib.hid (B1.out.trans (hb2.mono B1.out.size)); clear hb2)
    | (go_at_call 152; refine (HL.out _).mono ?_; rintro e w1 ⟨rfl, hg1, hb1⟩; rw [World.size_alloc] at hg1; have H1 := Lib.hid (And.intro (H0.out.1.trans (hb1.mono H0.out.1.size)) hg1); have B1 := Lib.hid hb1; clear hg1 hb1))
  have hbx := H3.out.alloc H3.out.size (.cells #[.int .u64 (limb (x - a) 0 : Nat), .int .u64 (limb (x - a) 1 : Nat), .int .u64 (limb (x - a) 2 : Nat), .int .u64 (limb (x - a) 3 : Nat)] 52)
  obtain ⟨W4, hW4⟩ : ∃ W4, W4 = w3.alloc (.cells #[.int .u64 (limb (x - a) 0 : Nat), .int .u64 (limb (x - a) 1 : Nat), .int .u64 (limb (x - a) 2 : Nat), .int .u64 (limb (x - a) 3 : Nat)] 52) := ⟨_, rfl⟩
  rw [← hW4] at hbx ⊢
  have r4 : W4.heap[W.heap.size]? = some (.cells #[.int .u64 (limb a 0 : Nat), .int .u64 (limb a 1 : Nat), .int .u64 (limb a 2 : Nat), .int .u64 (limb a 3 : Nat)] 52 (0, 0)) := by
    have h03 : Below (W.alloc (.cells #[.int .u64 (limb a 0 : Nat), .int .u64 (limb a 1 : Nat), .int .u64 (limb a 2 : Nat), .int .u64 (limb a 3 : Nat)] 52)).heap.size (W.alloc (.cells #[.int .u64 (limb a 0 : Nat), .int .u64 (limb a 1 : Nat), .int .u64 (limb a 2 : Nat), .int .u64 (limb a 3 : Nat)] 52)) W4 := HX.out W4 hW4
    exact (h03.block _ (hp_lt H0.out.2)).trans H0.out.2
  have H4 := Lib.hid (And.intro hbx r4)
  clear hbx hW4
  have c0 := (hp_cell (i := 0) r4).trans rfl
  have c1 := (hp_cell (i := 1) r4).trans rfl
  have c2 := (hp_cell (i := 2) r4).trans rfl
  have c3 := (hp_cell (i := 3) r4).trans rfl
  clear r4
  go_wp2_with (first
    | (go_at_call 153; refine (HSu.out _ _ H4.out.1 H5.out).mono ?_; rintro e w6 ⟨rfl, h6⟩; have H6 := Lib.hid h6; clear h6)
    | (go_at_call 84; refine (HAd.out _ H4.out.1).mono ?_; rintro e w5 ⟨rfl, h5⟩; have hT5 : Touch F W4 w5 := (by obtain ⟨_, _, _, _, _, ht, _⟩ := h5; exact ht); have r5 := (hT5.block _ (hp_lt H4.out.2) (HF.out _ (Nat.le_refl _))).trans H4.out.2; have H5 := Lib.hid h5; have c0 := (hp_cell (i := 0) r5).trans rfl; have c1 := (hp_cell (i := 1) r5).trans rfl; have c2 := (hp_cell (i := 2) r5).trans rfl; have c3 := (hp_cell (i := 3) r5).trans rfl; clear h5 hT5 r5))
  go_ret
  exact ⟨rfl, H6.out⟩
end Go.Proofs.Ytffipojlpdphiaa

namespace Go.Proofs.Ytffipojlpdphiaa
open Go.RowKit Go.Maps Go.Sort

/-- a change: its key, whether it was there, what was -/
abbrev Ch := ByteArray × Bool × ByteArray
def undo1 (L : SL) (c : Ch) : SL := if c.2.1 = true then sset L c.1 c.2.2 else sdel L c.1
/-- the changes' cells; the newest is the list's first -/
def chs (R : List Ch) : List Value := R.reverse.flatMap fun c => chg c.1 c.2.1 c.2.2
theorem chs_cons (c : Ch) (R : List Ch) : chs (c :: R) = chs R ++ chg c.1 c.2.1 c.2.2 := by simp [chs]
theorem chs_app (R S : List Ch) : chs (R ++ S) = chs S ++ chs R := by simp [chs]
theorem chs_len : ∀ R : List Ch, (chs R).length = R.length * 3
  | [] => rfl
  | c :: R => by rw [chs_cons, List.length_append, chs_len R, List.length_cons, show (chg c.1 c.2.1 c.2.2).length = 3 from rfl]; omega
theorem chs_drop (R : List Ch) (d : Nat) : chs R = chs (R.drop d) ++ chs (R.take d) := by rw [← chs_app, List.take_append_drop]
theorem chs_at {R : List Ch} {j : Nat} (h : j < R.length) {i : Nat} (hi : i + j + 1 = R.length) : (chs R)[i * 3]? = some (.string R[j].1) ∧ (chs R)[i * 3 + 1]? = some (.bool R[j].2.1) ∧ (chs R)[i * 3 + 2]? = some (.string R[j].2.2) := by
  have e : chs R = (chs (R.drop (j + 1)) ++ chg R[j].1 R[j].2.1 R[j].2.2) ++ chs (R.take j) := by
    rw [chs_drop R j, List.drop_eq_getElem_cons h, chs_cons]
  have hl : (chs (R.drop (j + 1))).length = i * 3 := by rw [chs_len, List.length_drop]; omega
  have h3 : (chg R[j].1 R[j].2.1 R[j].2.2).length = 3 := rfl
  rw [e]
  refine ⟨?_, ?_, ?_⟩
  · rw [List.getElem?_append_left (by rw [List.length_append]; omega), List.getElem?_append_right (by omega), hl, Nat.sub_self]; rfl
  · rw [List.getElem?_append_left (by rw [List.length_append]; omega), List.getElem?_append_right (by omega), hl, Nat.add_sub_cancel_left]; rfl
  · rw [List.getElem?_append_left (by rw [List.length_append]; omega), List.getElem?_append_right (by omega), hl, Nat.add_sub_cancel_left]; rfl
/-- the changes fit the entries -/
def HOk : SL → List Ch → Prop
  | _, [] => True
  | L, c :: r => (c.1.size ≤ maxLen ∧ c.2.2.size ≤ maxLen ∧ L.length < 1000000 ∧ (c.2.1 = false → (sget L c.1).isSome = true)) ∧ HOk (undo1 L c) r
def und (L : SL) (R : List Ch) (d : Nat) : SL := (R.take d).foldl undo1 L
theorem und_zero (L : SL) (R : List Ch) : und L R 0 = L := rfl
theorem und_succ (L : SL) {R : List Ch} {d : Nat} (h : d < R.length) : und L R (d + 1) = undo1 (und L R d) R[d] := by
  unfold und
  rw [List.take_succ_eq_append_getElem h, List.foldl_append]
  rfl
theorem HOk.drop : ∀ {L : SL} {R : List Ch} (d : Nat), HOk L R → HOk (und L R d) (R.drop d)
  | _, _, 0, h => h
  | _, [], d + 1, _ => by simp [HOk]
  | L, c :: R, d + 1, h => by
    have := HOk.drop d h.2
    simpa [und] using this
theorem HOk.at_ {L : SL} {R : List Ch} {d : Nat} (h : HOk L R) (hd : d < R.length) : R[d].1.size ≤ maxLen ∧ R[d].2.2.size ≤ maxLen ∧ (und L R d).length < 1000000 ∧ (R[d].2.1 = false → (sget (und L R d) R[d].1).isSome = true) := by
  have := h.drop d
  rw [List.drop_eq_getElem_cons hd] at this
  exact this.1
/-- the changes' row gets shorter by d -/
theorem und_done_n {W : World} {b bm g cap m d : Nat} {vb : Value} {vk : List Seg} {L : SL} {qs three zs : List Value} (h : StM W b bm vb vk (.slice (some ⟨g, 0, none⟩) (m + d) cap) L (m + d) (qs ++ three)) (hq : qs.length = m * 3) (hz : zs.length = d * 3) :
    StM ((W.setCells g (m * 3) zs).setCell ⟨b, 2, none⟩ (.slice (some ⟨g, 0, none⟩) m cap)) b bm vb vk (.slice (some ⟨g, 0, none⟩) m cap) L m qs ∧ Touch (fpr b bm vb vk (.slice (some ⟨g, 0, none⟩) (m + d) cap) L) W ((W.setCells g (m * 3) zs).setCell ⟨b, 2, none⟩ (.slice (some ⟨g, 0, none⟩) m cap)) := by
  obtain ⟨g1, g2⟩ := h.vq_kfp g rfl
  have hb : b ∈ kfp b vb vk := mem_kfp.2 (.inl rfl)
  obtain ⟨cur, hg, hn, hc, hs, ht, hl⟩ := ownsRow_open h.kq
  have t1 := touch_setCells (F := [g]) g (by simp) zs (m * 3) W
  have hfar : ∀ k, k < W.heap.size → k ≠ g → (W.setCells g (m * 3) zs).heap[k]? = W.heap[k]? := fun k hk hne => t1.block k hk (by simp; exact hne)
  have hfar2 : ∀ k, k < W.heap.size → k ≠ g → k ≠ b → ((W.setCells g (m * 3) zs).setCell ⟨b, 2, none⟩ (.slice (some ⟨g, 0, none⟩) m cap)).heap[k]? = W.heap[k]? := fun k hk hne hne2 => (Below.heap_setCell _ _ _ _ hne2).trans (hfar k hk hne)
  have hgk : ∀ k, k ∈ kfp b vb vk → k ≠ g := fun k hk e => g2 (e ▸ hk)
  have h0 := h.keys
  refine ⟨⟨⟨?_, ownsRow_same h0.kb fun k hk => hfar2 k (ownsRow_blk h0.kb k hk) (hgk k (mem_kfp.2 (.inr (.inl hk)))) (h0.ba_b hk), ⟨fun s hm => (h0.kk.at_ s hm).same (hfar2 _ (h0.kk.at_ s hm).lt (hgk _ (mem_kfp.2 (.inr (.inr ⟨s, hm, rfl⟩)))) (h0.seg_b hm)), h0.kk.ne, h0.kk.ap⟩, h0.fl, h0.so⟩, h.m.same (hfar2 bm h.m.lt (fun e => g1 e.symm) (fun e => h.bm_kfp (e ▸ hb))), ?_⟩, ?_⟩
  · rw [heap_setCell_row ((hfar b (hp_lt h.r) (hgk b hb)).trans h.r)]
    rfl
  · have hm3 : m * 3 + d * 3 ≤ cap * 3 := by omega
    refine ownsRow_shut (cur := putA cur (m * 3) zs) ?_ (by omega) hc (by rw [putA_size, hs]) ?_ hq
    · rw [Below.heap_setCell _ _ _ _ (show g ≠ b from fun e => hgk b hb e.symm)]
      exact heap_setCells_row _ _ hg
    · rw [putA_list _ _ _ (by rw [hz, hs]; omega), List.append_assoc, List.take_append_of_le_length (by rw [List.length_take]; simp; rw [hs]; omega), List.take_take, Nat.min_self]
      have := congrArg (List.take (m * 3)) ht
      rw [List.take_take, Nat.min_eq_left (by omega), List.take_left' hq] at this
      exact this
  · exact (t1.mono (fun k hk => by rw [List.mem_singleton.1 hk]; exact (fpr_kfp _ _ _ _ _ _ _).2 (.inr (.inr rfl)))).trans (fun _ hk => .inl hk) (Touch.setCell _ _ _ ((fpr_kfp _ _ _ _ _ _ _).2 (.inr (.inl hb))))
/-- the cells of n changes of nothing -/
def zch (n : Nat) : List Value := (Builtin.zeroCells (Value.agg #[.string { data := #[] }, .bool false, .string { data := #[] }]).cells n).toList
theorem zch_len (n : Nat) : (zch n).length = n * 3 := by
  unfold zch Builtin.zeroCells
  rw [Array.length_toList, Array.size_map, Array.size_range]
  have : (Value.agg #[.string { data := #[] }, .bool false, .string { data := #[] }]).cells.size = 3 := by kernel_rfl
  rw [this]
theorem zch_one (n : Nat) : ∀ u ∈ zch n, u.oneCell' = true := fun u hu => by
  unfold zch Builtin.zeroCells at hu
  have e : (Value.agg #[.string { data := #[] }, .bool false, .string { data := #[] }]).cells = #[.string { data := #[] }, .bool false, .string { data := #[] }] := by kernel_rfl
  rw [e] at hu
  simp only [Array.toList_map, List.mem_map] at hu
  obtain ⟨i, _, rfl⟩ := hu
  have h3 : i % 3 < 3 := Nat.mod_lt _ (by decide)
  show (#[Value.string { data := #[] }, .bool false, .string { data := #[] }][i % 3]!).oneCell' = true
  rcases (by omega : i % 3 = 0 ∨ i % 3 = 1 ∨ i % 3 = 2) with h | h | h <;> rw [h] <;> rfl
theorem clear_n (w : World) (ty : TypeId) (g o n c : Nat) (hc : ∀ j, j < n * 3 → (w.cell? ⟨g, o + j, none⟩).isSome = true) (hf : ∀ j, w.frozen? ⟨g, o + j, none⟩ = false) :
    (Builtin.clear_ #[112] ty #[.slice (some ⟨g, o, none⟩) n c]).run Try.prog w = .ok (.tuple #[]) (w.setCells g o (zch n)) := by
  cases n with
  | zero =>
    have hz : zch 0 = [] := List.eq_nil_of_length_eq_zero (zch_len 0)
    rw [hz]
    simp [Builtin.clear_, run_underlying Try.underlying112]
    rfl
  | succ n =>
    have hst := run_storeCells_cells (P := Try.prog) g o (zch (n + 1)) 0 w (by rw [zch_len]; simpa using hc) (fun j _ => by rw [Nat.add_zero]; exact hf j) (zch_one _)
    unfold zch at hst ⊢
    simp only [Nat.add_zero] at hst
    simp [Builtin.clear_, run_underlying Try.underlying112, hst]
end Go.Proofs.Ytffipojlpdphiaa
