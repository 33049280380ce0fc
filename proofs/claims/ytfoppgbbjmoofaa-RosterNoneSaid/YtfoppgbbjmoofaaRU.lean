/- roster.Stakers, Operators on a dead store. -/
import Derived.Test.YtfoppgbbjmoofaaRT
import Derived.Test.YtfoppgbbjmoofaaDI
import Derived.Lib.QuietBelow
namespace Go.Proofs.Ytfoppgbbjmoofaa
open Go.RowKit Go.Maps Go.Sort
attribute [local go_sem] Oper.semAt_some

set_option maxRecDepth 100000 in
set_option maxHeartbeats 1000000 in
theorem acc_dead (P : Option Addr) (t : Int) (l b1 b2 : Nat) (w : World) (h : SDead w (.pointer P)) (h1 : w.cell? ⟨b1, 0, none⟩ = some (.pointer P)) (h2 : w.cell? ⟨b2, 0, none⟩ = some (.int .i64 t)) :
    Calls Try.prog 68 #[.func (.yield l) #[] #[], .pointer (some ⟨b1, 0, none⟩), .pointer (some ⟨b2, 0, none⟩)] w fun e w' => (∃ v, e = .returned v) ∧ Below w.heap.size w w' := by
  obtain ⟨K, hK⟩ : ∃ K, keyStr t (fun _ => 0) 0 = K := ⟨_, rfl⟩
  have HT := Lib.hid (fun w => tbl_is t K hK w)
  have HU := Lib.hid (fun (dq : Nat) (osq : Array Obj) => show Calls Try.prog 59 #[.pointer P, .string K] (grow (redrawn w dq) osq) fun e w' => e = .returned (.slice none 0 0) ∧ Below (grow (redrawn w dq) osq).heap.size (grow (redrawn w dq) osq) w' from (under_dead (.pointer P) K _ (h.below (below_regrown w dq osq))).mono fun e w' hh => ⟨hh.1, by rw [← hh.2]; exact Below.refl _ _⟩)
  have f1 := fun (dq : Nat) (osq : Array Obj) => cell_regrown (w := w) (a := ⟨b1, 0, none⟩) (v := .pointer P) h1 dq osq
  have f2 := fun (dq : Nat) (osq : Array Obj) => cell_regrown (w := w) (a := ⟨b2, 0, none⟩) (v := .int .i64 t) h2 dq osq
  have Hfin : Hid (∀ dq osq, Below w.heap.size w (grow (redrawn w dq) osq)) := Lib.hid fun dq osq => below_regrown w dq osq
  clear h h1 h2 hK
  go_enter Try.func68, Try.ntmps68
  go_wp2
  refine wp_region_quiet_below (by kernel_rfl) (by kernel_rfl) ?_
  repeat (quiet_step (first
    | (go_at_call 69; with_reducible exact Calls.regrown_of (HT.out _))
    | (go_at_call 59; with_reducible exact Calls.regrown_of (HU.out _ _))))
  refine wpQuiet_nil ?_
  intro _ hw'
  obtain ⟨⟨dq, osq⟩, hw''⟩ := hw'
  subst hw''
  have HF := Lib.hid (Hfin.out dq osq)
  clear Hfin
  obtain ⟨W, hW⟩ : ∃ W, W = grow (redrawn w dq) osq := ⟨_, rfl⟩
  rw [← hW] at HF ⊢
  clear hW
  go_wp2
  go_loopw [14] (fun i wr => i = .int .i64 0 ∧ W = wr) (fun _ _ => 0)
  case atStart => exact ⟨rfl, rfl⟩
  case round =>
    obtain ⟨rfl, rfl⟩ := hrel
    go_wp2
    go_end0
    exact ⟨⟨_, rfl⟩, HF.out⟩
set_option maxRecDepth 100000 in
set_option maxHeartbeats 1000000 in
theorem accounts_walk (P : Option Addr) (t : Int) (w : World) : Calls Try.prog 45 #[.pointer P, .int .i64 t] w fun e w' => e = .returned (.func (.func 68) #[] #[.pointer (some ⟨w.heap.size, 0, none⟩), .pointer (some ⟨w.heap.size + 1, 0, none⟩)]) ∧ Below w.heap.size w w' ∧ w'.cell? ⟨w.heap.size, 0, none⟩ = some (.pointer P) ∧ w'.cell? ⟨w.heap.size + 1, 0, none⟩ = some (.int .i64 t) ∧ w'.heap.size = w.heap.size + 2 := by
  go_enter Try.func45, Try.ntmps45
  go_wp2
  go_ret
  refine ⟨rfl, ((Below.refl _ _).alloc (Nat.le_refl _) _).alloc (by simp) _, ?_, ?_, by simp⟩
  · rw [World.cell?_alloc_old _ _ _ (by simp)]
    exact (World.cell?_alloc_at _ _ _ _ rfl).trans rfl
  · exact (World.cell?_alloc_at _ _ _ _ (by simp)).trans rfl
set_option maxRecDepth 100000 in
set_option maxHeartbeats 2000000 in
theorem stakers_dead (P : Option Addr) (o : Int) (w : World) (h : SDead w (.pointer P)) : Calls Try.prog 16 #[.pointer P, .int .i64 o] w fun e w' => e = .returned (.slice none 0 0) ∧ Below w.heap.size w w' := by
  refine (callsIn_wide (n := 3)).1 ?_
  have h1 : 1 ≤ 3 := by omega
  have HA := Lib.hid (fun w => accounts_walk P 9 w)
  have HD := Lib.hid h
  have hb0 := (((Below.refl w.heap.size w).alloc (Nat.le_refl _) (.cells #[.int .i64 o] 3)).alloc (by simp) (.cells #[.slice none 0 0] 48))
  have c0 : ((w.alloc (.cells #[.int .i64 o] 3)).alloc (.cells #[.slice none 0 0] 48)).cell? ⟨w.heap.size + 1, 0, none⟩ = some (.slice none 0 0) := (World.cell?_alloc_at _ _ _ _ (by simp)).trans rfl
  have z0 : w.heap.size + 1 < ((w.alloc (.cells #[.int .i64 o] 3)).alloc (.cells #[.slice none 0 0] 48)).heap.size := by simp
  have HB0 := Lib.hid (And.intro hb0 (And.intro c0 z0))
  clear h hb0 c0 z0
  refine callsIn_of_wp_marks Try.func16 rfl trivial ?_ rfl
  simp only [Try.ntmps16, List.size_toArray, List.length_cons, List.length_nil, Nat.reduceAdd, Nat.reduceSub, Array.replicate_succ, Array.replicate_zero, List.push_toArray, List.append_toArray, List.nil_append, List.cons_append]
  gi_wp2_with (refine ⟨trivial, ?_⟩; gi_at_call 45; refine (callsIn_wide.2 (HA.out _)).mono ?_; rintro e w2 ⟨rfl, hb, hc1, hc2, hz⟩)
  simp only [World.size_alloc] at hc1 hc2 hz
  obtain ⟨hb0, c0, z0⟩ := HB0.out
  have hb2 := hb0.trans (hb.mono hb0.size)
  have c2 := (hb.cell (p := ⟨w.heap.size + 1, 0, none⟩) z0).trans c0
  have z2 := Nat.lt_of_lt_of_le z0 hb.size
  have HS := Lib.hid (And.intro (HD.out.below hb2) (And.intro hb2 (And.intro c2 z2)))
  refine wpIn_rangeFunc_dead h1 rfl (enters_of Try.func68 (by kernel_rfl) rfl) (fun l W hW => acc_dead P 9 l _ _ W (HS.out.1.below hW) ((hW.cell (by rw [hz]; show _ < _; simp only []; omega)).trans hc1) ((hW.cell (by rw [hz]; show _ < _; simp only []; omega)).trans hc2)) ?_
  clear hb hc1 hc2 hz hb2 c2 z2 hb0 c0 z0
  rintro D W hD hW hK
  have c5 := (hW.cell (p := ⟨w.heap.size + 1, 0, none⟩) HS.out.2.2.2).trans HS.out.2.2.1
  have HW := Lib.hid (And.intro hD hW)
  clear hW hD
  gi_wp2
  refine ⟨by simp, .inl ⟨_, _, rfl, run_takeDeferred hK, ?_⟩⟩
  exact ⟨_, results_tmp rfl _ _ _, rfl, (HS.out.2.1.trans (HW.out.2.mono HS.out.2.1.size)).trans (belowK_b (w := w) (Nat.le_refl _) W D _ _ (Nat.le_trans HS.out.2.1.size HW.out.1) hK rfl rfl)⟩
set_option maxRecDepth 100000 in
set_option maxHeartbeats 2000000 in
theorem operators_dead (P : Option Addr) (w : World) (h : SDead w (.pointer P)) : Calls Try.prog 17 #[.pointer P] w fun e w' => e = .returned (.slice none 0 0) ∧ Below w.heap.size w w' := by
  refine (callsIn_wide (n := 3)).1 ?_
  have h1 : 1 ≤ 3 := by omega
  have HA := Lib.hid (fun w => accounts_walk P 8 w)
  have HD := Lib.hid h
  have hb0 := ((Below.refl w.heap.size w).alloc (Nat.le_refl _) (.cells #[.slice none 0 0] 48))
  have c0 : (w.alloc (.cells #[.slice none 0 0] 48)).cell? ⟨w.heap.size, 0, none⟩ = some (.slice none 0 0) := (World.cell?_alloc_at _ _ _ _ (by simp)).trans rfl
  have z0 : w.heap.size < (w.alloc (.cells #[.slice none 0 0] 48)).heap.size := by simp
  have HB0 := Lib.hid (And.intro hb0 (And.intro c0 z0))
  clear h hb0 c0 z0
  refine callsIn_of_wp_marks Try.func17 rfl trivial ?_ rfl
  simp only [Try.ntmps17, List.size_toArray, List.length_cons, List.length_nil, Nat.reduceAdd, Nat.reduceSub, Array.replicate_succ, Array.replicate_zero, List.push_toArray, List.append_toArray, List.nil_append, List.cons_append]
  gi_wp2_with (refine ⟨trivial, ?_⟩; gi_at_call 45; refine (callsIn_wide.2 (HA.out _)).mono ?_; rintro e w2 ⟨rfl, hb, hc1, hc2, hz⟩)
  simp only [World.size_alloc] at hc1 hc2 hz
  obtain ⟨hb0, c0, z0⟩ := HB0.out
  have hb2 := hb0.trans (hb.mono hb0.size)
  have c2 := (hb.cell (p := ⟨w.heap.size, 0, none⟩) z0).trans c0
  have z2 := Nat.lt_of_lt_of_le z0 hb.size
  have HS := Lib.hid (And.intro (HD.out.below hb2) (And.intro hb2 (And.intro c2 z2)))
  refine wpIn_rangeFunc_dead h1 rfl (enters_of Try.func68 (by kernel_rfl) rfl) (fun l W hW => acc_dead P 8 l _ _ W (HS.out.1.below hW) ((hW.cell (by rw [hz]; show _ < _; simp only []; omega)).trans hc1) ((hW.cell (by rw [hz]; show _ < _; simp only []; omega)).trans hc2)) ?_
  clear hb hc1 hc2 hz hb2 c2 z2 hb0 c0 z0
  rintro D W hD hW hK
  have c5 := (hW.cell (p := ⟨w.heap.size, 0, none⟩) HS.out.2.2.2).trans HS.out.2.2.1
  have HW := Lib.hid (And.intro hD hW)
  clear hW hD
  gi_wp2
  refine ⟨by simp, .inl ⟨_, _, rfl, run_takeDeferred hK, ?_⟩⟩
  exact ⟨_, results_tmp rfl _ _ _, rfl, (HS.out.2.1.trans (HW.out.2.mono HS.out.2.1.size)).trans (belowK_b (w := w) (Nat.le_refl _) W D _ _ (Nat.le_trans HS.out.2.1.size HW.out.1) hK rfl rfl)⟩
end Go.Proofs.Ytfoppgbbjmoofaa
