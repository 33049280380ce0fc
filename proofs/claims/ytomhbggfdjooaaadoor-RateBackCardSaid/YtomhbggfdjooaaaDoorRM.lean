/- tallageref03.Most, Amount, walked (by themselves). -/
import Derived.Test.YtomhbggfdjooaaaDoorWA
import Derived.Test.YtomhbggfdjooaaaDoorR8
namespace Go.Proofs.YtomhbggfdjooaaaDoor
open Go.RowKit Go.Sort

theorem rmostA_walk (w : World) : Calls Tryd.prog 32 #[] w fun e w' => e = .returned (U MOST) ∧ Below w.heap.size w w' := by
  rw [U_MOST]
  go_enter Tryd.func32, Tryd.ntmps32
  go_wp2
  refine bodyPost_ret (v := .agg #[.int .u64 18446744073709551615, .int .u64 18446744073709551615, .int .u64 0, .int .u64 0]) (by simp [results, Tryd.results32, go_sem]) rfl ⟨rfl, (Below.refl _ _).alloc (Nat.le_refl _) _⟩
set_option maxRecDepth 100000 in
set_option maxHeartbeats 2000000 in
theorem ramountA_walk (a : Nat) (w : World) (ha : a < 2 ^ 256) : Calls Tryd.prog 18 #[U a] w fun e w' => e = .returned (.bool (decide (a ≤ MOST))) ∧ Below w.heap.size w w' := by
  have Ha := Lib.hid ha
  obtain ⟨c, hc⟩ : ∃ c, c = cmpU a MOST := ⟨_, rfl⟩
  obtain ⟨ok, hok⟩ : ∃ x, x = decide (a ≤ MOST) := ⟨_, rfl⟩
  rw [← hok]
  have hdec : decide (c ≤ 0) = ok := by rw [hok, hc]; exact decide_eq_decide.2 (cmpU_le a MOST)
  have Hc := Lib.hid hc
  have Hok := Lib.hid hok
  clear ha hc hok
  unfold U
  go_enter Tryd.func18, Tryd.ntmps18
  go_upto_region 1 with (fail)
  have T0 := Lib.hid (one_first (a := a) (w := w) (t := 24))
  go_region_held3 (fun w' => w'.cell? ⟨w.heap.size, 0, none⟩ = some (.int .u64 (limb a 0 : Nat)) ∧ w'.cell? ⟨w.heap.size, 1, none⟩ = some (.int .u64 (limb a 1 : Nat)) ∧ w'.cell? ⟨w.heap.size, 2, none⟩ = some (.int .u64 (limb a 2 : Nat)) ∧ w'.cell? ⟨w.heap.size, 3, none⟩ = some (.int .u64 (limb a 3 : Nat)) ∧ One' w w' a)
    ((refine held1 ?_; repeat (first | with_reducible exact u2 | with_reducible exact u1 | with_reducible exact T0.out | with_reducible refine One'.drew ?_ | with_reducible exact un_held1 (by with_reducible assumption))))
    (first
      | (go_at_call 13; refine (rcmp_walk a MOST _ Ha.out MOST_lt).mono ?_; rintro e w2 ⟨rfl, hb2⟩; have u2 := u1.below hb2; rw [← Hc.out])
      | (go_at_call 32; refine (rmostA_walk _).mono ?_; rintro e w1 ⟨rfl, hb1⟩; have u1 : One' w w1 a := One'.below (un_held1 (by with_reducible assumption)) hb1; unfold U))
  go_wp2
  refine bodyPost_ret (v := .bool ok) (by simp [results, Tryd.results18, go_sem]) rfl ⟨rfl, u2.l⟩
end Go.Proofs.YtomhbggfdjooaaaDoor
