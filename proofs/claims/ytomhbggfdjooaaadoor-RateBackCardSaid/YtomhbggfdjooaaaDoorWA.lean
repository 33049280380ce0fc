/- wad.Amount, walked. -/
import Derived.Test.YtomhbggfdjooaaaDoorWM
import Derived.Test.YtomhbggfdjooaaaDoorU3
namespace Go.Proofs.YtomhbggfdjooaaaDoor
open Go.RowKit Go.Sort

theorem cmpU_le (a b : Nat) : cmpU a b ≤ 0 ↔ a ≤ b := by
  unfold cmpU
  by_cases h : a = b
  · rw [if_pos h]; omega
  · rw [if_neg h]
    by_cases h2 : b ≤ a
    · rw [if_pos h2]; omega
    · rw [if_neg h2]; omega
/-- a number in a box -/
structure One' (w wr : World) (a : Nat) : Prop where
  a : Arr .u64 wr w.heap.size 4 (limb a)
  l : Below w.heap.size w wr
  s : w.heap.size < wr.heap.size
theorem One'.below {w wr w' : World} {a : Nat} (h : One' w wr a) (hb : Below wr.heap.size wr w') : One' w w' a := by
  have := h.s; have := hb.size
  exact ⟨h.a.below hb h.s, h.l.trans (hb.mono (by omega)), by omega⟩
theorem One'.drew {w wr : World} {a : Nat} (h : One' w wr a) : One' w wr.drew a := ⟨h.a.drew, below_drewN h.l 1, h.s⟩
theorem one_first {a : Nat} {w : World} {t : TypeId} : One' w (w.alloc (.cells #[.int .u64 (limb a 0 : Nat), .int .u64 (limb a 1 : Nat), .int .u64 (limb a 2 : Nat), .int .u64 (limb a 3 : Nat)] t)) a :=
  ⟨Arr.new4 (f := limb a) rfl, (Below.refl _ _).alloc (Nat.le_refl _) _, by simp⟩
theorem held1 {w w' : World} {a : Nat} (h : One' w w' a) : w'.cell? ⟨w.heap.size, 0, none⟩ = some (.int .u64 (limb a 0 : Nat)) ∧ w'.cell? ⟨w.heap.size, 1, none⟩ = some (.int .u64 (limb a 1 : Nat)) ∧ w'.cell? ⟨w.heap.size, 2, none⟩ = some (.int .u64 (limb a 2 : Nat)) ∧ w'.cell? ⟨w.heap.size, 3, none⟩ = some (.int .u64 (limb a 3 : Nat)) ∧ One' w w' a := by
  obtain ⟨a0, a1, a2, a3⟩ := h.a.cells4
  exact ⟨a0, a1, a2, a3, h⟩
theorem un_held1 {w w' : World} {a : Nat} (h : w'.cell? ⟨w.heap.size, 0, none⟩ = some (.int .u64 (limb a 0 : Nat)) ∧ w'.cell? ⟨w.heap.size, 1, none⟩ = some (.int .u64 (limb a 1 : Nat)) ∧ w'.cell? ⟨w.heap.size, 2, none⟩ = some (.int .u64 (limb a 2 : Nat)) ∧ w'.cell? ⟨w.heap.size, 3, none⟩ = some (.int .u64 (limb a 3 : Nat)) ∧ One' w w' a) : One' w w' a := h.2.2.2.2

set_option maxRecDepth 100000 in
set_option maxHeartbeats 2000000 in
theorem amount_walk (a : Nat) (w : World) (ha : a < 2 ^ 256) : Calls Tryd.prog 37 #[U a] w fun e w' => e = .returned (.bool (decide (a ≤ MOST))) ∧ Below w.heap.size w w' := by
  have Ha := Lib.hid ha
  obtain ⟨c, hc⟩ : ∃ c, c = cmpU a MOST := ⟨_, rfl⟩
  obtain ⟨ok, hok⟩ : ∃ x, x = decide (a ≤ MOST) := ⟨_, rfl⟩
  rw [← hok]
  have hdec : decide (c ≤ 0) = ok := by rw [hok, hc]; exact decide_eq_decide.2 (cmpU_le a MOST)
  have Hc := Lib.hid hc
  have Hok := Lib.hid hok
  clear ha hc hok
  unfold U
  go_enter Tryd.func37, Tryd.ntmps37
  go_upto_region 1 with (fail)
  have T0 := Lib.hid (one_first (a := a) (w := w) (t := 24))
  go_region_held3 (fun w' => w'.cell? ⟨w.heap.size, 0, none⟩ = some (.int .u64 (limb a 0 : Nat)) ∧ w'.cell? ⟨w.heap.size, 1, none⟩ = some (.int .u64 (limb a 1 : Nat)) ∧ w'.cell? ⟨w.heap.size, 2, none⟩ = some (.int .u64 (limb a 2 : Nat)) ∧ w'.cell? ⟨w.heap.size, 3, none⟩ = some (.int .u64 (limb a 3 : Nat)) ∧ One' w w' a)
    ((refine held1 ?_; repeat (first | with_reducible exact u2 | with_reducible exact u1 | with_reducible exact T0.out | with_reducible refine One'.drew ?_ | with_reducible exact un_held1 (by with_reducible assumption))))
    (first
      | (go_at_call 23; refine (cmp_walk a MOST _ Ha.out MOST_lt).mono ?_; rintro e w2 ⟨rfl, hb2⟩; have u2 := u1.below hb2; rw [← Hc.out])
      | (go_at_call 44; refine (most_walk _).mono ?_; rintro e w1 ⟨rfl, hb1⟩; have u1 : One' w w1 a := One'.below (un_held1 (by with_reducible assumption)) hb1; unfold U))
  go_wp2
  refine bodyPost_ret (v := .bool ok) (by simp [results, Tryd.results37, go_sem]) rfl ⟨rfl, u2.l⟩
end Go.Proofs.YtomhbggfdjooaaaDoor
