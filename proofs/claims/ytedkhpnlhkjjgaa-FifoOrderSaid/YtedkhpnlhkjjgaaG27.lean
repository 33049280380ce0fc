/- cell.Add, Sub, Move on a live store; Add on a dead one. -/
import Derived.Test.YtedkhpnlhkjjgaaG26
import Derived.Test.YtedkhpnlhkjjgaaG13
import Derived.Test.YtedkhpnlhkjjgaaG19
import Derived.Test.YtedkhpnlhkjjgaaG14
namespace Go.Proofs.Ytedkhpnlhkjjgaa
open Go.RowKit Go.Maps Go.Sort

set_option maxRecDepth 100000 in
set_option maxHeartbeats 2000000 in
theorem cchange_more {w W : World} {b : Nat} {F : List Nat} {L : SL} {q : Nat} {qs : List Value} (h : SNew w W b F L q qs) (k : ByteArray) (was r g : Nat) (hk : k.size ≤ maxLen) (hk0 : k ≠ ⟨#[]⟩) (he : amtAt L k was) (hw : was < 2 ^ 256) (hr : r < 2 ^ 256) (hN : L.length < 128) (hq : q < 1000000)
    (HT : ∀ W', Below W.heap.size W W' → Calls Try.prog 150 #[U was, .pointer (some ⟨g, 0, none⟩)] W' fun e w' => e = .returned (.tuple #[U r, .int .i64 0]) ∧ Below W'.heap.size W' w') :
    Calls Try.prog 129 #[.pointer (some ⟨b, 0, none⟩), .string k, .func (.func 150) #[] #[.pointer (some ⟨g, 0, none⟩)]] W fun e W' => e = .returned (.int .i64 0) ∧ LiveTo w W W' b F (setA L k r) (q + 1) := by
  have hA := camount_at h k was hk he hw
  have hT := HT
  have hS := fun (W1 : World) (hb : Below W.heap.size W W1) => (csetAmount_live (h.below hb) k r hk hk0 hr hN hq).mono fun e W' hp => (⟨hp.1, hp.2.pre hb⟩ : e = .returned (.tuple #[]) ∧ LiveTo w W W' b F (setA L k r) (q + 1))
  unfold U at hA hT hS
  have HA := Lib.hid hA
  have HTs := Lib.hid hT
  have HS := Lib.hid hS
  clear h hk hk0 he hw hr hN hq HT hA hT hS
  go_enter Try.func129, Try.ntmps129
  go_wp2_with (first
    | (go_at_call 149; refine (HS.out _ (H2.out.alloc H2.out.size (.cells #[.int .u64 (limb r 0 : Nat), .int .u64 (limb r 1 : Nat), .int .u64 (limb r 2 : Nat), .int .u64 (limb r 3 : Nat)] 29))).mono ?_; rintro e w3 ⟨rfl, h3⟩; have H3 := Lib.hid h3; clear h3)
    | (go_at_call 150; refine (HTs.out _ H1.out).mono ?_; rintro e w2 ⟨rfl, hb2⟩; have H2 := Lib.hid (H1.out.trans (hb2.mono H1.out.size)); clear hb2)
    | (go_at_call 126; refine HA.out.mono ?_; rintro e w1 ⟨rfl, hb1⟩; have H1 := Lib.hid hb1; clear hb1))
  go_ret
  exact ⟨rfl, H3.out⟩
set_option maxRecDepth 100000 in
set_option maxHeartbeats 2000000 in
theorem cchange_less {w W : World} {b : Nat} {F : List Nat} {L : SL} {q : Nat} {qs : List Value} (h : SNew w W b F L q qs) (k : ByteArray) (was r g : Nat) (hk : k.size ≤ maxLen) (hk0 : k ≠ ⟨#[]⟩) (he : amtAt L k was) (hw : was < 2 ^ 256) (hr : r < 2 ^ 256) (hN : L.length < 128) (hq : q < 1000000)
    (HT : ∀ W', Below W.heap.size W W' → Calls Try.prog 151 #[U was, .pointer (some ⟨g, 0, none⟩)] W' fun e w' => e = .returned (.tuple #[U r, .int .i64 0]) ∧ Below W'.heap.size W' w') :
    Calls Try.prog 129 #[.pointer (some ⟨b, 0, none⟩), .string k, .func (.func 151) #[] #[.pointer (some ⟨g, 0, none⟩)]] W fun e W' => e = .returned (.int .i64 0) ∧ LiveTo w W W' b F (setA L k r) (q + 1) := by
  have hA := camount_at h k was hk he hw
  have hT := HT
  have hS := fun (W1 : World) (hb : Below W.heap.size W W1) => (csetAmount_live (h.below hb) k r hk hk0 hr hN hq).mono fun e W' hp => (⟨hp.1, hp.2.pre hb⟩ : e = .returned (.tuple #[]) ∧ LiveTo w W W' b F (setA L k r) (q + 1))
  unfold U at hA hT hS
  have HA := Lib.hid hA
  have HTs := Lib.hid hT
  have HS := Lib.hid hS
  clear h hk hk0 he hw hr hN hq HT hA hT hS
  go_enter Try.func129, Try.ntmps129
  go_wp2_with (first
    | (go_at_call 149; refine (HS.out _ (H2.out.alloc H2.out.size (.cells #[.int .u64 (limb r 0 : Nat), .int .u64 (limb r 1 : Nat), .int .u64 (limb r 2 : Nat), .int .u64 (limb r 3 : Nat)] 29))).mono ?_; rintro e w3 ⟨rfl, h3⟩; have H3 := Lib.hid h3; clear h3)
    | (go_at_call 151; refine (HTs.out _ H1.out).mono ?_; rintro e w2 ⟨rfl, hb2⟩; have H2 := Lib.hid (H1.out.trans (hb2.mono H1.out.size)); clear hb2)
    | (go_at_call 126; refine HA.out.mono ?_; rintro e w1 ⟨rfl, hb1⟩; have H1 := Lib.hid hb1; clear hb1))
  go_ret
  exact ⟨rfl, H3.out⟩
set_option maxRecDepth 100000 in
set_option maxHeartbeats 2000000 in
theorem cadd_live {w W : World} {b : Nat} {F : List Nat} {L : SL} {q : Nat} {qs : List Value} (h : SNew w W b F L q qs) (k : ByteArray) (was a : Nat) (hk : k.size ≤ maxLen) (hk0 : k ≠ ⟨#[]⟩) (he : amtAt L k was) (hw : was < 2 ^ 256) (ha : a < 2 ^ 256) (hle : was + a ≤ MOST) (hN : L.length < 128) (hq : q < 1000000) :
    Calls Try.prog 88 #[.pointer (some ⟨b, 0, none⟩), .string k, U a] W fun e W' => e = .returned (.int .i64 0) ∧ LiveTo w W W' b F (setA L k (was + a)) (q + 1) := by
  have hb0 := (Below.refl W.heap.size W).alloc (Nat.le_refl _) (.cells #[.int .u64 (limb a 0 : Nat), .int .u64 (limb a 1 : Nat), .int .u64 (limb a 2 : Nat), .int .u64 (limb a 3 : Nat)] 29)
  have hM := fun W1 => more_walk a W1
  have HC := Lib.hid (fun (W1 : World) (g : Nat) (hb : Below W.heap.size W W1) (hg : W1.heap[g]? = some (.cells #[.int .u64 (limb a 0 : Nat), .int .u64 (limb a 1 : Nat), .int .u64 (limb a 2 : Nat), .int .u64 (limb a 3 : Nat)] 29 (0, 0))) => (cchange_more (h.below hb) k was (was + a) g hk hk0 he hw (by exact Nat.lt_of_le_of_lt hle MOST_lt) hN hq (fun W2 hb2 => morec_ok was a (was + a) g hw ha hle rfl W2 ((hb2.block g (hp_lt hg)).trans hg))).mono fun e W' hp => (⟨hp.1, hp.2.pre hb⟩ : e = .returned (.int .i64 0) ∧ LiveTo w W W' b F (setA L k (was + a)) (q + 1)))
  unfold U at hM
  have HM := Lib.hid hM
  have HB0 := Lib.hid hb0
  obtain ⟨lm, elm⟩ : ∃ z, z = setA L k (was + a) := ⟨_, rfl⟩
  rw [← elm] at HC ⊢
  clear h hk hk0 he hw ha hle hN hq hb0 hM elm
  unfold U
  go_enter Try.func88, Try.ntmps88
  go_wp2_with (first
    | (go_at_call 129; refine (HC.out _ _ H1.out.1 H1.out.2).mono ?_; rintro e w2 ⟨rfl, h2⟩; have H2 := Lib.hid h2; clear h2)
    | (go_at_call 130; refine (HM.out _).mono ?_; rintro e w1 ⟨rfl, hg1, hb1⟩; rw [World.size_alloc] at hg1; have H1 := Lib.hid (And.intro (HB0.out.trans (hb1.mono HB0.out.size)) hg1); clear hg1 hb1))
  go_ret
  exact ⟨rfl, H2.out⟩
set_option maxRecDepth 100000 in
set_option maxHeartbeats 2000000 in
theorem csub_live {w W : World} {b : Nat} {F : List Nat} {L : SL} {q : Nat} {qs : List Value} (h : SNew w W b F L q qs) (k : ByteArray) (was a : Nat) (hk : k.size ≤ maxLen) (hk0 : k ≠ ⟨#[]⟩) (he : amtAt L k was) (hw : was < 2 ^ 256) (ha : a < 2 ^ 256) (hle : a ≤ was) (hN : L.length < 128) (hq : q < 1000000) :
    Calls Try.prog 134 #[.pointer (some ⟨b, 0, none⟩), .string k, U a] W fun e W' => e = .returned (.int .i64 0) ∧ LiveTo w W W' b F (setA L k (was - a)) (q + 1) := by
  have hb0 := (Below.refl W.heap.size W).alloc (Nat.le_refl _) (.cells #[.int .u64 (limb a 0 : Nat), .int .u64 (limb a 1 : Nat), .int .u64 (limb a 2 : Nat), .int .u64 (limb a 3 : Nat)] 29)
  have hM := fun W1 => less_walk a W1
  have HC := Lib.hid (fun (W1 : World) (g : Nat) (hb : Below W.heap.size W W1) (hg : W1.heap[g]? = some (.cells #[.int .u64 (limb a 0 : Nat), .int .u64 (limb a 1 : Nat), .int .u64 (limb a 2 : Nat), .int .u64 (limb a 3 : Nat)] 29 (0, 0))) => (cchange_less (h.below hb) k was (was - a) g hk hk0 he hw (by omega) hN hq (fun W2 hb2 => lessc_ok was a (was - a) g hw ha hle rfl W2 ((hb2.block g (hp_lt hg)).trans hg))).mono fun e W' hp => (⟨hp.1, hp.2.pre hb⟩ : e = .returned (.int .i64 0) ∧ LiveTo w W W' b F (setA L k (was - a)) (q + 1)))
  unfold U at hM
  have HM := Lib.hid hM
  have HB0 := Lib.hid hb0
  obtain ⟨lm, elm⟩ : ∃ z, z = setA L k (was - a) := ⟨_, rfl⟩
  rw [← elm] at HC ⊢
  clear h hk hk0 he hw ha hle hN hq hb0 hM elm
  unfold U
  go_enter Try.func134, Try.ntmps134
  go_wp2_with (first
    | (go_at_call 129; refine (HC.out _ _ H1.out.1 H1.out.2).mono ?_; rintro e w2 ⟨rfl, h2⟩; have H2 := Lib.hid h2; clear h2)
    | (go_at_call 133; refine (HM.out _).mono ?_; rintro e w1 ⟨rfl, hg1, hb1⟩; rw [World.size_alloc] at hg1; have H1 := Lib.hid (And.intro (HB0.out.trans (hb1.mono HB0.out.size)) hg1); clear hg1 hb1))
  go_ret
  exact ⟨rfl, H2.out⟩
set_option maxRecDepth 100000 in
set_option maxHeartbeats 2000000 in
theorem cadd_dead (P : Option Addr) (k : ByteArray) (a : Nat) (ha : a ≤ MOST) (w : World) (h : SDead w (.pointer P)) :
    Calls Try.prog 88 #[.pointer P, .string k, U a] w fun e w' => e = .returned (.int .i64 0) ∧ Below w.heap.size w w' := by
  have ha2 : a < 2 ^ 256 := Nat.lt_of_le_of_lt ha MOST_lt
  have hC : ∀ (W : World) (g : Nat), Below w.heap.size w W → W.heap[g]? = some (.cells #[.int .u64 (limb a 0 : Nat), .int .u64 (limb a 1 : Nat), .int .u64 (limb a 2 : Nat), .int .u64 (limb a 3 : Nat)] 29 (0, 0)) → Calls Try.prog 129 #[.pointer P, .string k, .func (.func 150) #[] #[.pointer (some ⟨g, 0, none⟩)]] W fun e w' => e = .returned (.int .i64 0) ∧ Below W.heap.size W w' := by
    intro W g hbW hg
    have hA := camount_dead P k W (h.below hbW)
    have hT := fun (W2 : World) (hb2 : Below W.heap.size W W2) => morec_ok 0 a a g (by decide) ha2 (by rw [Nat.zero_add]; exact ha) (Nat.zero_add a) W2 ((hb2.block g (hp_lt hg)).trans hg)
    have hS := fun (W1 : World) (hb : Below W.heap.size W W1) => csetAmount_dead (.pointer P) k a ha2 W1 ((h.below hbW).below hb)
    unfold U at hA hT hS
    have HA := Lib.hid hA
    have HTs := Lib.hid hT
    have HS := Lib.hid hS
    clear h hbW hg ha ha2 hA hT hS
    go_enter Try.func129, Try.ntmps129
    go_wp2_with (first
      | (go_at_call 149; refine (HS.out _ (H2.out.alloc H2.out.size (.cells #[.int .u64 (limb a 0 : Nat), .int .u64 (limb a 1 : Nat), .int .u64 (limb a 2 : Nat), .int .u64 (limb a 3 : Nat)] 29))).mono ?_; rintro e w3 ⟨rfl, hb3⟩; have hbx := H2.out.alloc H2.out.size (.cells #[.int .u64 (limb a 0 : Nat), .int .u64 (limb a 1 : Nat), .int .u64 (limb a 2 : Nat), .int .u64 (limb a 3 : Nat)] 29); have H3 := Lib.hid (hbx.trans (hb3.mono hbx.size)); clear hb3 hbx)
      | (go_at_call 150; refine (HTs.out _ H1.out).mono ?_; rintro e w2 ⟨rfl, hb2⟩; have H2 := Lib.hid (H1.out.trans (hb2.mono H1.out.size)); clear hb2)
      | (go_at_call 126; refine HA.out.mono ?_; rintro e w1 ⟨rfl, hb1⟩; have H1 := Lib.hid hb1; clear hb1))
    go_ret
    exact ⟨rfl, H3.out⟩
  have hb0 := (Below.refl w.heap.size w).alloc (Nat.le_refl _) (.cells #[.int .u64 (limb a 0 : Nat), .int .u64 (limb a 1 : Nat), .int .u64 (limb a 2 : Nat), .int .u64 (limb a 3 : Nat)] 29)
  have hM := fun W1 => more_walk a W1
  unfold U at hM
  have HM := Lib.hid hM
  have HC := Lib.hid hC
  have HB0 := Lib.hid hb0
  clear h ha ha2 hb0 hM hC
  unfold U
  go_enter Try.func88, Try.ntmps88
  go_wp2_with (first
    | (go_at_call 129; refine (HC.out _ _ H1.out.1 H1.out.2).mono ?_; rintro e w2 ⟨rfl, hb2⟩; have H2 := Lib.hid (H1.out.1.trans (hb2.mono H1.out.1.size)); clear hb2)
    | (go_at_call 130; refine (HM.out _).mono ?_; rintro e w1 ⟨rfl, hg1, hb1⟩; rw [World.size_alloc] at hg1; have H1 := Lib.hid (And.intro (HB0.out.trans (hb1.mono HB0.out.size)) hg1); clear hg1 hb1))
  go_ret
  exact ⟨rfl, H2.out⟩
set_option maxRecDepth 100000 in
set_option maxHeartbeats 4000000 in
theorem cmove_live {w W : World} {b : Nat} {F : List Nat} {L : SL} {q : Nat} {qs : List Value} (h : SNew w W b F L q qs) (k1 k2 : ByteArray) (x y a : Nat) (hk1 : k1.size ≤ maxLen) (hk10 : k1 ≠ ⟨#[]⟩) (hk2 : k2.size ≤ maxLen) (hk20 : k2 ≠ ⟨#[]⟩) (hne : k1 ≠ k2) (he1 : amtAt L k1 x) (he2 : amtAt L k2 y) (he1' : amtAt (setA L k2 (y + a)) k1 x) (hx : x < 2 ^ 256) (hy : y < 2 ^ 256) (ha : a < 2 ^ 256) (hle : a ≤ x) (hle2 : y + a ≤ MOST) (hN : L.length < 128) (hN2 : (setA L k2 (y + a)).length < 128) (hq : q + 2 < 1000000) :
    Calls Try.prog 93 #[.pointer (some ⟨b, 0, none⟩), .string k1, .string k2, U a] W fun e W' => e = .returned (.int .i64 0) ∧ LiveTo w W W' b F (setA (setA L k2 (y + a)) k1 (x - a)) (q + 2) := by
  have hb0 := (Below.refl W.heap.size W).alloc (Nat.le_refl _) (.cells #[.int .u64 (limb a 0 : Nat), .int .u64 (limb a 1 : Nat), .int .u64 (limb a 2 : Nat), .int .u64 (limb a 3 : Nat)] 29)
  have r0 := heap_alloc_new W (.cells #[.int .u64 (limb a 0 : Nat), .int .u64 (limb a 1 : Nat), .int .u64 (limb a 2 : Nat), .int .u64 (limb a 3 : Nat)] 29)
  have hFl : ∀ k, W.heap.size ≤ k → k ∉ F := fun k hk hm => by have := h.s.lt _ hm; omega
  have hL := fun W1 => less_walk a W1
  have hA := fun (W1 : World) (hb : Below W.heap.size W W1) => camount_at (h.below hb) k1 x hk1 he1 hx
  have hT := fun (W1 : World) (g : Nat) (hg : W1.heap[g]? = some (.cells #[.int .u64 (limb a 0 : Nat), .int .u64 (limb a 1 : Nat), .int .u64 (limb a 2 : Nat), .int .u64 (limb a 3 : Nat)] 29 (0, 0))) => lessc_ok x a (x - a) g hx ha hle rfl W1 hg
  have hAd := fun (W1 : World) (hb : Below W.heap.size W W1) => cadd_live (h.below hb) k2 y a hk2 hk20 he2 hy ha hle2 hN (by omega)
  have hSu := fun (W1 W2 : World) (hb : Below W.heap.size W W1) (hl : LiveTo w W1 W2 b F (setA L k2 (y + a)) (q + 1)) => (hl.pre hb).seq 1 (fun F1 qa qsa hs hqa => csub_live hs k1 x a hk1 hk10 he1' hx ha hle hN2 (by omega))
  unfold U at hL hA hT hAd hSu
  have HL := Lib.hid hL
  have HA := Lib.hid hA
  have HT := Lib.hid hT
  have HAd := Lib.hid hAd
  have HSu := Lib.hid hSu
  have H0 := Lib.hid (And.intro hb0 r0)
  have HF := Lib.hid hFl
  have hs12d : (k1.toList == k2.toList) = false := by
    rw [beq_eq_false_iff_ne]
    intro e
    rw [Lib.toList_data, Lib.toList_data] at e
    exact hne (keq_iff.1 (by unfold keq; exact decide_eq_true e))
  have hs12c : (k1.data.toList == k2.data.toList) = false := by
    rw [beq_eq_false_iff_ne]
    intro e
    exact hne (keq_iff.1 (by unfold keq; exact decide_eq_true e))
  obtain ⟨l1, e1⟩ : ∃ z, z = setA L k2 (y + a) := ⟨_, rfl⟩
  rw [← e1] at HAd HSu ⊢
  clear h hk1 hk10 hk2 hk20 hne he1 he2 he1' hx hy ha hle hle2 hN hN2 hq hb0 r0 hFl hL hA hT hAd hSu e1
  unfold U
  go_enter Try.func93, Try.ntmps93
  go_upto_region 2 with (first
    | (go_at_call 151; refine (HT.out _ _ H2.out.2).mono ?_; rintro e w3 ⟨rfl, hb3⟩; have H3 := Lib.hid (H2.out.1.trans (hb3.mono H2.out.1.size)); have B3 := Lib.hid (B2.out.trans (hb3.mono B2.out.size)); have HX := Lib.hid (fun (W4 : World) (hW4 : W4 = w3.alloc (.cells #[.int .u64 (limb (x - a) 0 : Nat), .int .u64 (limb (x - a) 1 : Nat), .int .u64 (limb (x - a) 2 : Nat), .int .u64 (limb (x - a) 3 : Nat)] 29)) => show Below (W.alloc (.cells #[.int .u64 (limb a 0 : Nat), .int .u64 (limb a 1 : Nat), .int .u64 (limb a 2 : Nat), .int .u64 (limb a 3 : Nat)] 29)).heap.size (W.alloc (.cells #[.int .u64 (limb a 0 : Nat), .int .u64 (limb a 1 : Nat), .int .u64 (limb a 2 : Nat), .int .u64 (limb a 3 : Nat)] 29)) W4 from by rw [hW4]; exact B3.out.alloc B3.out.size _); clear hb3)
    | (go_at_call 126; refine (HA.out _ H1.out.1).mono ?_; rintro e w2 ⟨rfl, hb2⟩; have H2 := Lib.hid (And.intro (H1.out.1.trans (hb2.mono H1.out.1.size)) ((hb2.block _ (hp_lt H1.out.2)).trans H1.out.2)); have B2 := Lib.hid (B1.out.trans (hb2.mono B1.out.size)); clear hb2)
    | (go_at_call 133; refine (HL.out _).mono ?_; rintro e w1 ⟨rfl, hg1, hb1⟩; rw [World.size_alloc] at hg1; have H1 := Lib.hid (And.intro (H0.out.1.trans (hb1.mono H0.out.1.size)) hg1); have B1 := Lib.hid hb1; clear hg1 hb1))
  have hbx := H3.out.alloc H3.out.size (.cells #[.int .u64 (limb (x - a) 0 : Nat), .int .u64 (limb (x - a) 1 : Nat), .int .u64 (limb (x - a) 2 : Nat), .int .u64 (limb (x - a) 3 : Nat)] 29)
  obtain ⟨W4, hW4⟩ : ∃ W4, W4 = w3.alloc (.cells #[.int .u64 (limb (x - a) 0 : Nat), .int .u64 (limb (x - a) 1 : Nat), .int .u64 (limb (x - a) 2 : Nat), .int .u64 (limb (x - a) 3 : Nat)] 29) := ⟨_, rfl⟩
  rw [← hW4] at hbx ⊢
  have r4 : W4.heap[W.heap.size]? = some (.cells #[.int .u64 (limb a 0 : Nat), .int .u64 (limb a 1 : Nat), .int .u64 (limb a 2 : Nat), .int .u64 (limb a 3 : Nat)] 29 (0, 0)) := by
    have h03 : Below (W.alloc (.cells #[.int .u64 (limb a 0 : Nat), .int .u64 (limb a 1 : Nat), .int .u64 (limb a 2 : Nat), .int .u64 (limb a 3 : Nat)] 29)).heap.size (W.alloc (.cells #[.int .u64 (limb a 0 : Nat), .int .u64 (limb a 1 : Nat), .int .u64 (limb a 2 : Nat), .int .u64 (limb a 3 : Nat)] 29)) W4 := HX.out W4 hW4
    exact (h03.block _ (hp_lt H0.out.2)).trans H0.out.2
  have H4 := Lib.hid (And.intro hbx r4)
  clear hbx hW4
  have c0 := (hp_cell (i := 0) r4).trans rfl
  have c1 := (hp_cell (i := 1) r4).trans rfl
  have c2 := (hp_cell (i := 2) r4).trans rfl
  have c3 := (hp_cell (i := 3) r4).trans rfl
  clear r4
  go_wp2_with (first
    | (go_at_call 134; refine (HSu.out _ _ H4.out.1 H5.out).mono ?_; rintro e w6 ⟨rfl, h6⟩; have H6 := Lib.hid h6; clear h6)
    | (go_at_call 88; refine (HAd.out _ H4.out.1).mono ?_; rintro e w5 ⟨rfl, h5⟩; have hT5 : Touch F W4 w5 := (by obtain ⟨_, _, _, _, _, ht, _⟩ := h5; exact ht); have r5 := (hT5.block _ (hp_lt H4.out.2) (HF.out _ (Nat.le_refl _))).trans H4.out.2; have H5 := Lib.hid h5; have c0 := (hp_cell (i := 0) r5).trans rfl; have c1 := (hp_cell (i := 1) r5).trans rfl; have c2 := (hp_cell (i := 2) r5).trans rfl; have c3 := (hp_cell (i := 3) r5).trans rfl; clear h5 hT5 r5))
  go_ret
  exact ⟨rfl, H6.out⟩
end Go.Proofs.Ytedkhpnlhkjjgaa

namespace Go.Proofs.Ytedkhpnlhkjjgaa
open Go.RowKit

theorem set4_row {w : World} {g : Nat} {t : TypeId} {a b c d : Value} (x0 x1 x2 x3 : Value) (h : w.heap[g]? = some (.cells #[a, b, c, d] t (0, 0))) :
    ((((w.setCell ⟨g, 0, none⟩ x0).setCell ⟨g, 1, none⟩ x1).setCell ⟨g, 2, none⟩ x2).setCell ⟨g, 3, none⟩ x3).heap[g]? = some (.cells #[x0, x1, x2, x3] t (0, 0)) :=
  heap_setCell_row (heap_setCell_row (heap_setCell_row (heap_setCell_row h x0) x1) x2) x3
theorem set4_far {w : World} {g g' : Nat} (x0 x1 x2 x3 : Value) (hne : g ≠ g') {o : Obj} (h : w.heap[g']? = some o) :
    ((((w.setCell ⟨g, 0, none⟩ x0).setCell ⟨g, 1, none⟩ x1).setCell ⟨g, 2, none⟩ x2).setCell ⟨g, 3, none⟩ x3).heap[g']? = some o := by
  rw [Below.heap_setCell _ _ _ _ hne.symm, Below.heap_setCell _ _ _ _ hne.symm, Below.heap_setCell _ _ _ _ hne.symm, Below.heap_setCell _ _ _ _ hne.symm]
  exact h
end Go.Proofs.Ytedkhpnlhkjjgaa

namespace Go.Proofs.Ytedkhpnlhkjjgaa
open Go.RowKit Go.Maps Go.Sort

set_option maxRecDepth 100000 in
theorem istok_any (t : Int) (w : World) : Calls Try.prog 94 #[.int .i64 t] w fun e w' => e = .returned (.bool (decide (1 ≤ t ∧ t ≤ 1000))) ∧ w = w' := by
  by_cases h1 : 1 ≤ t
  · by_cases h2 : t ≤ 1000
    · rw [decide_eq_true ⟨h1, h2⟩]
      go_enter Try.func94, Try.ntmps94
      go_wp2
      go_ret
      exact ⟨rfl, rfl⟩
    · rw [decide_eq_false (fun h => h2 h.2)]
      go_enter Try.func94, Try.ntmps94
      go_wp2
      go_ret
      exact ⟨rfl, rfl⟩
  · rw [decide_eq_false (fun h => h1 h.1)]
    go_enter Try.func94, Try.ntmps94
    go_wp2
    go_ret
    exact ⟨rfl, rfl⟩
set_option maxRecDepth 100000 in
theorem bgood_any (t a : Int) (w : World) : Calls Try.prog 85 #[.int .i64 t, .int .i64 a] w fun e w' => e = .returned (.bool (decide ((1 ≤ t ∧ t ≤ 1000) ∧ 1 ≤ a ∧ a ≤ 4294967295))) ∧ w = w' := by
  have HT := Lib.hid (istok_any t w)
  by_cases h0 : 1 ≤ t ∧ t ≤ 1000
  · rw [decide_eq_true h0] at HT
    by_cases h1 : 1 ≤ a
    · by_cases h2 : a ≤ 4294967295
      · rw [decide_eq_true ⟨h0, h1, h2⟩]
        clear h0
        go_enter Try.func85, Try.ntmps85
        go_wp2_with (go_at_call 94; refine HT.out.mono ?_; rintro e w1 ⟨rfl, rfl⟩)
        go_ret
        exact ⟨rfl, rfl⟩
      · rw [decide_eq_false (fun h => h2 h.2.2)]
        clear h0
        go_enter Try.func85, Try.ntmps85
        go_wp2_with (go_at_call 94; refine HT.out.mono ?_; rintro e w1 ⟨rfl, rfl⟩)
        go_ret
        exact ⟨by show Ending.returned (.bool (decide (a ≤ 4294967295))) = _; rw [decide_eq_false (by omega)], rfl⟩
    · rw [decide_eq_false (fun h => h1 h.2.1)]
      clear h0
      go_enter Try.func85, Try.ntmps85
      go_wp2_with (go_at_call 94; refine HT.out.mono ?_; rintro e w1 ⟨rfl, rfl⟩)
      go_ret
      exact ⟨rfl, rfl⟩
  · rw [decide_eq_false h0] at HT
    rw [decide_eq_false (fun h => h0 h.1)]
    clear h0
    go_enter Try.func85, Try.ntmps85
    go_wp2_with (go_at_call 94; refine HT.out.mono ?_; rintro e w1 ⟨rfl, rfl⟩)
    go_ret
    exact ⟨rfl, rfl⟩
set_option maxRecDepth 100000 in
theorem account_is (t a : Int) (K : ByteArray) (hK : keyStr 1 (two2 t a) 2 = K) (w : World) (ht : t < 2 ^ 63) (ha : a < 2 ^ 63) : Calls Try.prog 32 #[.int .i64 t, .int .i64 a] w fun e w' => e = .returned (.string K) ∧ Below w.heap.size w w' := by
  have HK := Lib.hid (key_is 1 (some ⟨w.heap.size, 0, none⟩) 2 2 (two2 t a) K hK _ (il2 t a w 3 ht ha) (by omega))
  have HB0 := Lib.hid ((Below.refl w.heap.size w).alloc (Nat.le_refl _) (.cells #[.int .i64 t, .int .i64 a] 3))
  clear hK ht ha
  go_enter Try.func32, Try.ntmps32
  go_wp2_with (go_at_call 60; refine HK.out.mono ?_; rintro e w1 ⟨rfl, hb1⟩; have HB1 := Lib.hid (HB0.out.trans (hb1.mono HB0.out.size)); clear hb1)
  go_ret
  exact ⟨rfl, HB1.out⟩
set_option maxRecDepth 100000 in
theorem supply_is (t : Int) (K : ByteArray) (hK : keyStr 2 (fun _ => t) 1 = K) (w : World) (ht : t < 2 ^ 63) : Calls Try.prog 34 #[.int .i64 t] w fun e w' => e = .returned (.string K) ∧ Below w.heap.size w w' := by
  have HK := Lib.hid (key_is 2 (some ⟨w.heap.size, 0, none⟩) 1 1 (fun _ => t) K hK _ (il1 t w 3 ht) (by omega))
  have HB0 := Lib.hid ((Below.refl w.heap.size w).alloc (Nat.le_refl _) (.cells #[.int .i64 t] 3))
  clear hK ht
  go_enter Try.func34, Try.ntmps34
  go_wp2_with (go_at_call 60; refine HK.out.mono ?_; rintro e w1 ⟨rfl, hb1⟩; have HB1 := Lib.hid (HB0.out.trans (hb1.mono HB0.out.size)); clear hb1)
  go_ret
  exact ⟨rfl, HB1.out⟩
set_option maxRecDepth 100000 in
theorem sink_is (t : Int) (K : ByteArray) (hK : keyStr 3 (fun _ => t) 1 = K) (w : World) (ht : t < 2 ^ 63) : Calls Try.prog 36 #[.int .i64 t] w fun e w' => e = .returned (.string K) ∧ Below w.heap.size w w' := by
  have HK := Lib.hid (key_is 3 (some ⟨w.heap.size, 0, none⟩) 1 1 (fun _ => t) K hK _ (il1 t w 3 ht) (by omega))
  have HB0 := Lib.hid ((Below.refl w.heap.size w).alloc (Nat.le_refl _) (.cells #[.int .i64 t] 3))
  clear hK ht
  go_enter Try.func36, Try.ntmps36
  go_wp2_with (go_at_call 60; refine HK.out.mono ?_; rintro e w1 ⟨rfl, hb1⟩; have HB1 := Lib.hid (HB0.out.trans (hb1.mono HB0.out.size)); clear hb1)
  go_ret
  exact ⟨rfl, HB1.out⟩
set_option maxRecDepth 100000 in
theorem pool_is (t : Int) (K : ByteArray) (hK : keyStr 4 (fun _ => t) 1 = K) (w : World) (ht : t < 2 ^ 63) : Calls Try.prog 38 #[.int .i64 t] w fun e w' => e = .returned (.string K) ∧ Below w.heap.size w w' := by
  have HK := Lib.hid (key_is 4 (some ⟨w.heap.size, 0, none⟩) 1 1 (fun _ => t) K hK _ (il1 t w 3 ht) (by omega))
  have HB0 := Lib.hid ((Below.refl w.heap.size w).alloc (Nat.le_refl _) (.cells #[.int .i64 t] 3))
  clear hK ht
  go_enter Try.func38, Try.ntmps38
  go_wp2_with (go_at_call 60; refine HK.out.mono ?_; rintro e w1 ⟨rfl, hb1⟩; have HB1 := Lib.hid (HB0.out.trans (hb1.mono HB0.out.size)); clear hb1)
  go_ret
  exact ⟨rfl, HB1.out⟩
/-! ### the sum -/
/-- the two boxes of Total: the sum so far, and that it fits -/
structure Tot (w : World) (g6 g7 S : Nat) : Prop where
  s : w.heap[g6]? = some (.cells #[.int .u64 (limb S 0 : Nat), .int .u64 (limb S 1 : Nat), .int .u64 (limb S 2 : Nat), .int .u64 (limb S 3 : Nat)] 29 (0, 0))
  f : w.heap[g7]? = some (.cells #[.bool true] 4 (0, 0))
theorem Tot.below {w w' : World} {g6 g7 S : Nat} (h : Tot w g6 g7 S) (hb : Below w.heap.size w w') : Tot w' g6 g7 S := ⟨(hb.block _ (hp_lt h.s)).trans h.s, (hb.block _ (hp_lt h.f)).trans h.f⟩
set_option maxRecDepth 100000 in
set_option maxHeartbeats 2000000 in
theorem tell_walk (S a g6 g7 : Nat) (w : World) (ha : a < 2 ^ 256) (hS : S + a < 2 ^ 256) (h : Tot w g6 g7 S) (hne : g6 ≠ g7) :
    Calls Try.prog 96 #[U a, .pointer (some ⟨g7, 0, none⟩), .pointer (some ⟨g6, 0, none⟩)] w fun e w' => e = .returned (.tuple #[]) ∧ Tot w' g6 g7 (S + a) ∧ Touch [g6, g7] w w' := by
  have hA : ∀ W, Calls Try.prog 97 #[U S, U a] W fun e w' => e = .returned (.tuple #[U (S + a), .bool true]) ∧ Below W.heap.size W w' := fun W => (add_walk S a W (by omega) ha).mono fun e w' hh => by
    obtain ⟨he, hb⟩ := hh
    rw [if_pos hS, decide_eq_true hS] at he
    exact ⟨he, hb⟩
  unfold U at hA
  have HA := Lib.hid hA
  have hb0 := (Below.refl w.heap.size w).alloc (Nat.le_refl _) (.cells #[.int .u64 (limb a 0 : Nat), .int .u64 (limb a 1 : Nat), .int .u64 (limb a 2 : Nat), .int .u64 (limb a 3 : Nat)] 29)
  have h0 := h.below hb0
  have H0 := Lib.hid (And.intro hb0 h0)
  have l6 := hp_lt h.s
  have l7 := hp_lt h.f
  have s0 := (hp_cell (i := 0) h0.s).trans rfl
  have s1 := (hp_cell (i := 1) h0.s).trans rfl
  have s2 := (hp_cell (i := 2) h0.s).trans rfl
  have s3 := (hp_cell (i := 3) h0.s).trans rfl
  have s7 := (hp_cell (i := 0) h0.f).trans rfl
  obtain ⟨r, hr⟩ : ∃ r, r = S + a := ⟨_, rfl⟩
  rw [← hr] at HA ⊢
  have HNE := Lib.hid hne
  clear hb0 h0 hA hr ha hS h hne
  unfold U
  go_enter Try.func96, Try.ntmps96
  go_wp2_with (go_at_call 97; refine (HA.out _).mono ?_; rintro e w2 ⟨rfl, hb2⟩; have ht := H0.out.2.below hb2; have H2 := Lib.hid (And.intro (H0.out.1.trans (hb2.mono H0.out.1.size)) ht); have d0 := (hp_cell (i := 0) ht.s).trans rfl; have d1 := (hp_cell (i := 1) ht.s).trans rfl; have d2 := (hp_cell (i := 2) ht.s).trans rfl; have d3 := (hp_cell (i := 3) ht.s).trans rfl; have rs := set4_far (.int .u64 (limb r 0 : Nat)) (.int .u64 (limb r 1 : Nat)) (.int .u64 (limb r 2 : Nat)) (.int .u64 (limb r 3 : Nat)) HNE.out ht.f; have d7 := (hp_cell (i := 0) rs).trans rfl; have g0 := hp_free (i := 0) ht.s; have g1 := hp_free (i := 1) ht.s; have g2 := hp_free (i := 2) ht.s; have g3 := hp_free (i := 3) ht.s; have gf := hp_free (i := 0) rs; clear hb2 ht rs)
  go_end0
  refine ⟨rfl, ⟨?_, ?_⟩, ?_⟩
  · rw [Below.heap_setCell _ _ _ _ HNE.out]
    exact set4_row _ _ _ _ H2.out.2.s
  · exact heap_setCell_row (set4_far _ _ _ _ HNE.out H2.out.2.f) (.bool true)
  · exact ((Touch.of_below H2.out.1).trans (fun _ hk => .inl hk) (touch_set4 (by simp))).trans (fun _ hk => .inl hk) (Touch.setCell _ _ _ (by simp))
end Go.Proofs.Ytedkhpnlhkjjgaa
