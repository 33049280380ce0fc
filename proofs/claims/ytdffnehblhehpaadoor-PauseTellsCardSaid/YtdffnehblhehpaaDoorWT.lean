/- The document's Bit, and the law PauseTells, walked. -/
import Derived.Test.YtdffnehblhehpaaDoorWR
namespace Go.Proofs.YtdffnehblhehpaaDoor
open Go.RowKit Go.Maps

def grpL (j : Nat) : List Nat := [[6, 7], [8, 9, 10, 11], [12, 13], [15, 16, 17, 18, 19, 20], [14, 21], [22], [23, 24, 25, 26, 27, 28], [5]].getD j []
theorem grp_hit : ∀ j, j < 8 → ∀ i, i < (grpL j).length → (grpL j).getD i 0 < 29 ∧ bitN ((grpL j).getD i 0) = 2 ^ j := by decide +kernel
theorem grp_miss : ∀ k, k < 29 → (∀ j, j < 8 → ∀ i, i < (grpL j).length → (grpL j).getD i 0 ≠ k) → bitN k = 0 := by decide +kernel
theorem grp_len : ∀ j, j < 8 → (grpL j).length ≤ 6 := by decide
theorem bitV_hit {k : Int} {j i : Nat} (hj : j < 8) (hi : i < (grpL j).length) (h : (((grpL j).getD i 0 : Nat) : Int) = k) : bitV k = 2 ^ j := by
  obtain ⟨h1, h2⟩ := grp_hit j hj i hi
  rw [← h]
  unfold bitV
  rw [if_pos (by omega), Int.toNat_natCast, h2]
theorem bitV_miss {k : Int} (h : ∀ j, j < 8 → ∀ i, i < (grpL j).length → (((grpL j).getD i 0 : Nat) : Int) ≠ k) : bitV k = 0 := by
  unfold bitV
  by_cases hk : 0 ≤ k ∧ k < 29
  · rw [if_pos hk]
    exact grp_miss k.toNat (by omega) fun j hj i hi e => h j hj i hi (by omega)
  · rw [if_neg hk]
set_option maxRecDepth 100000 in
theorem grp_idx (w : World) (j : Nat) (hj : j < 8) : ∃ b n : Nat, (∀ w', (Instr.index 57 (.agg #[.slice (some ⟨w.heap.size, 0, none⟩) 2 2, .slice (some ⟨w.heap.size + 1, 0, none⟩) 4 4, .slice (some ⟨w.heap.size + 1 + 1, 0, none⟩) 2 2, .slice (some ⟨w.heap.size + 1 + 1 + 1, 0, none⟩) 6 6, .slice (some ⟨w.heap.size + 1 + 1 + 1 + 1, 0, none⟩) 2 2, .slice (some ⟨w.heap.size + 1 + 1 + 1 + 1 + 1, 0, none⟩) 1 1, .slice (some ⟨w.heap.size + 1 + 1 + 1 + 1 + 1 + 1, 0, none⟩) 6 6, .slice (some ⟨w.heap.size + 1 + 1 + 1 + 1 + 1 + 1 + 1, 0, none⟩) 1 1]) (.int .i64 (j : Nat))).run Tryd.prog w' = .ok (.slice (some ⟨b, 0, none⟩) n n) w') ∧ n = (grpL j).length ∧
    ∀ i, i < n → ((((((((((w.alloc (.cells #[.int .i64 6, .int .i64 7] 3)).alloc (.cells #[.int .i64 8, .int .i64 9, .int .i64 10, .int .i64 11] 3)).alloc (.cells #[.int .i64 12, .int .i64 13] 3)).alloc (.cells #[.int .i64 15, .int .i64 16, .int .i64 17, .int .i64 18, .int .i64 19, .int .i64 20] 3)).alloc (.cells #[.int .i64 14, .int .i64 21] 3)).alloc (.cells #[.int .i64 22] 3)).alloc (.cells #[.int .i64 23, .int .i64 24, .int .i64 25, .int .i64 26, .int .i64 27, .int .i64 28] 3)).alloc (.cells #[.int .i64 5] 3)).alloc (.cells #[.slice (some ⟨w.heap.size, 0, none⟩) 2 2, .slice (some ⟨w.heap.size + 1, 0, none⟩) 4 4, .slice (some ⟨w.heap.size + 1 + 1, 0, none⟩) 2 2, .slice (some ⟨w.heap.size + 1 + 1 + 1, 0, none⟩) 6 6, .slice (some ⟨w.heap.size + 1 + 1 + 1 + 1, 0, none⟩) 2 2, .slice (some ⟨w.heap.size + 1 + 1 + 1 + 1 + 1, 0, none⟩) 1 1, .slice (some ⟨w.heap.size + 1 + 1 + 1 + 1 + 1 + 1, 0, none⟩) 6 6, .slice (some ⟨w.heap.size + 1 + 1 + 1 + 1 + 1 + 1 + 1, 0, none⟩) 1 1] 57))).cell? ⟨b, i, none⟩ = some (.int .i64 ((grpL j).getD i 0 : Nat)) := by
  rcases (by omega : j = 0 ∨ j = 1 ∨ j = 2 ∨ j = 3 ∨ j = 4 ∨ j = 5 ∨ j = 6 ∨ j = 7) with rfl | rfl | rfl | rfl | rfl | rfl | rfl | rfl
  · refine ⟨w.heap.size, 2, fun w' => by kernel_rfl, rfl, fun i hi => ?_⟩
    rcases (by omega : i = 0 ∨ i = 1) with rfl | rfl <;> exact (World.cell?_alloc_past _ _ _ (by first | omega | (simp only [World.size_alloc] <;> omega))).trans ((World.cell?_alloc_past _ _ _ (by first | omega | (simp only [World.size_alloc] <;> omega))).trans ((World.cell?_alloc_past _ _ _ (by first | omega | (simp only [World.size_alloc] <;> omega))).trans ((World.cell?_alloc_past _ _ _ (by first | omega | (simp only [World.size_alloc] <;> omega))).trans ((World.cell?_alloc_past _ _ _ (by first | omega | (simp only [World.size_alloc] <;> omega))).trans ((World.cell?_alloc_past _ _ _ (by first | omega | (simp only [World.size_alloc] <;> omega))).trans ((World.cell?_alloc_past _ _ _ (by first | omega | (simp only [World.size_alloc] <;> omega))).trans ((World.cell?_alloc_past _ _ _ (by first | omega | (simp only [World.size_alloc] <;> omega))).trans ((World.cell?_alloc_at _ _ _ _ (by first | omega | (simp only [World.size_alloc] <;> omega))).trans rfl))))))))
  · refine ⟨w.heap.size + 1, 4, fun w' => by kernel_rfl, rfl, fun i hi => ?_⟩
    rcases (by omega : i = 0 ∨ i = 1 ∨ i = 2 ∨ i = 3) with rfl | rfl | rfl | rfl <;> exact (World.cell?_alloc_past _ _ _ (by first | omega | (simp only [World.size_alloc] <;> omega))).trans ((World.cell?_alloc_past _ _ _ (by first | omega | (simp only [World.size_alloc] <;> omega))).trans ((World.cell?_alloc_past _ _ _ (by first | omega | (simp only [World.size_alloc] <;> omega))).trans ((World.cell?_alloc_past _ _ _ (by first | omega | (simp only [World.size_alloc] <;> omega))).trans ((World.cell?_alloc_past _ _ _ (by first | omega | (simp only [World.size_alloc] <;> omega))).trans ((World.cell?_alloc_past _ _ _ (by first | omega | (simp only [World.size_alloc] <;> omega))).trans ((World.cell?_alloc_past _ _ _ (by first | omega | (simp only [World.size_alloc] <;> omega))).trans ((World.cell?_alloc_at _ _ _ _ (by first | omega | (simp only [World.size_alloc] <;> omega))).trans rfl)))))))
  · refine ⟨w.heap.size + 1 + 1, 2, fun w' => by kernel_rfl, rfl, fun i hi => ?_⟩
    rcases (by omega : i = 0 ∨ i = 1) with rfl | rfl <;> exact (World.cell?_alloc_past _ _ _ (by first | omega | (simp only [World.size_alloc] <;> omega))).trans ((World.cell?_alloc_past _ _ _ (by first | omega | (simp only [World.size_alloc] <;> omega))).trans ((World.cell?_alloc_past _ _ _ (by first | omega | (simp only [World.size_alloc] <;> omega))).trans ((World.cell?_alloc_past _ _ _ (by first | omega | (simp only [World.size_alloc] <;> omega))).trans ((World.cell?_alloc_past _ _ _ (by first | omega | (simp only [World.size_alloc] <;> omega))).trans ((World.cell?_alloc_past _ _ _ (by first | omega | (simp only [World.size_alloc] <;> omega))).trans ((World.cell?_alloc_at _ _ _ _ (by first | omega | (simp only [World.size_alloc] <;> omega))).trans rfl))))))
  · refine ⟨w.heap.size + 1 + 1 + 1, 6, fun w' => by kernel_rfl, rfl, fun i hi => ?_⟩
    rcases (by omega : i = 0 ∨ i = 1 ∨ i = 2 ∨ i = 3 ∨ i = 4 ∨ i = 5) with rfl | rfl | rfl | rfl | rfl | rfl <;> exact (World.cell?_alloc_past _ _ _ (by first | omega | (simp only [World.size_alloc] <;> omega))).trans ((World.cell?_alloc_past _ _ _ (by first | omega | (simp only [World.size_alloc] <;> omega))).trans ((World.cell?_alloc_past _ _ _ (by first | omega | (simp only [World.size_alloc] <;> omega))).trans ((World.cell?_alloc_past _ _ _ (by first | omega | (simp only [World.size_alloc] <;> omega))).trans ((World.cell?_alloc_past _ _ _ (by first | omega | (simp only [World.size_alloc] <;> omega))).trans ((World.cell?_alloc_at _ _ _ _ (by first | omega | (simp only [World.size_alloc] <;> omega))).trans rfl)))))
  · refine ⟨w.heap.size + 1 + 1 + 1 + 1, 2, fun w' => by kernel_rfl, rfl, fun i hi => ?_⟩
    rcases (by omega : i = 0 ∨ i = 1) with rfl | rfl <;> exact (World.cell?_alloc_past _ _ _ (by first | omega | (simp only [World.size_alloc] <;> omega))).trans ((World.cell?_alloc_past _ _ _ (by first | omega | (simp only [World.size_alloc] <;> omega))).trans ((World.cell?_alloc_past _ _ _ (by first | omega | (simp only [World.size_alloc] <;> omega))).trans ((World.cell?_alloc_past _ _ _ (by first | omega | (simp only [World.size_alloc] <;> omega))).trans ((World.cell?_alloc_at _ _ _ _ (by first | omega | (simp only [World.size_alloc] <;> omega))).trans rfl))))
  · refine ⟨w.heap.size + 1 + 1 + 1 + 1 + 1, 1, fun w' => by kernel_rfl, rfl, fun i hi => ?_⟩
    rcases (by omega : i = 0) with rfl <;> exact (World.cell?_alloc_past _ _ _ (by first | omega | (simp only [World.size_alloc] <;> omega))).trans ((World.cell?_alloc_past _ _ _ (by first | omega | (simp only [World.size_alloc] <;> omega))).trans ((World.cell?_alloc_past _ _ _ (by first | omega | (simp only [World.size_alloc] <;> omega))).trans ((World.cell?_alloc_at _ _ _ _ (by first | omega | (simp only [World.size_alloc] <;> omega))).trans rfl)))
  · refine ⟨w.heap.size + 1 + 1 + 1 + 1 + 1 + 1, 6, fun w' => by kernel_rfl, rfl, fun i hi => ?_⟩
    rcases (by omega : i = 0 ∨ i = 1 ∨ i = 2 ∨ i = 3 ∨ i = 4 ∨ i = 5) with rfl | rfl | rfl | rfl | rfl | rfl <;> exact (World.cell?_alloc_past _ _ _ (by first | omega | (simp only [World.size_alloc] <;> omega))).trans ((World.cell?_alloc_past _ _ _ (by first | omega | (simp only [World.size_alloc] <;> omega))).trans ((World.cell?_alloc_at _ _ _ _ (by first | omega | (simp only [World.size_alloc] <;> omega))).trans rfl))
  · refine ⟨w.heap.size + 1 + 1 + 1 + 1 + 1 + 1 + 1, 1, fun w' => by kernel_rfl, rfl, fun i hi => ?_⟩
    rcases (by omega : i = 0) with rfl <;> exact (World.cell?_alloc_past _ _ _ (by first | omega | (simp only [World.size_alloc] <;> omega))).trans ((World.cell?_alloc_at _ _ _ _ (by first | omega | (simp only [World.size_alloc] <;> omega))).trans rfl)
set_option maxRecDepth 100000 in
set_option maxHeartbeats 2000000 in
theorem rbit_walk (k : Int) (w : World) : Calls Tryd.prog 10 #[.int .i64 k] w fun e w' => e = .returned (.int .i64 (bitV k : Nat)) ∧ Below w.heap.size w w' := by
  obtain ⟨W, hW⟩ : ∃ W, W = (((((((((w.alloc (.cells #[.int .i64 6, .int .i64 7] 3)).alloc (.cells #[.int .i64 8, .int .i64 9, .int .i64 10, .int .i64 11] 3)).alloc (.cells #[.int .i64 12, .int .i64 13] 3)).alloc (.cells #[.int .i64 15, .int .i64 16, .int .i64 17, .int .i64 18, .int .i64 19, .int .i64 20] 3)).alloc (.cells #[.int .i64 14, .int .i64 21] 3)).alloc (.cells #[.int .i64 22] 3)).alloc (.cells #[.int .i64 23, .int .i64 24, .int .i64 25, .int .i64 26, .int .i64 27, .int .i64 28] 3)).alloc (.cells #[.int .i64 5] 3)).alloc (.cells #[.slice (some ⟨w.heap.size, 0, none⟩) 2 2, .slice (some ⟨w.heap.size + 1, 0, none⟩) 4 4, .slice (some ⟨w.heap.size + 1 + 1, 0, none⟩) 2 2, .slice (some ⟨w.heap.size + 1 + 1 + 1, 0, none⟩) 6 6, .slice (some ⟨w.heap.size + 1 + 1 + 1 + 1, 0, none⟩) 2 2, .slice (some ⟨w.heap.size + 1 + 1 + 1 + 1 + 1, 0, none⟩) 1 1, .slice (some ⟨w.heap.size + 1 + 1 + 1 + 1 + 1 + 1, 0, none⟩) 6 6, .slice (some ⟨w.heap.size + 1 + 1 + 1 + 1 + 1 + 1 + 1, 0, none⟩) 1 1] 57)) := ⟨_, rfl⟩
  have hX := fun j (hj : j < 8) => grp_idx w j hj
  rw [← hW] at hX
  have hB : Below w.heap.size w W := by
    rw [hW]
    exact ((((((((((Below.refl _ _).alloc (by first | omega | (simp only [World.size_alloc] <;> omega)) _).alloc (by first | omega | (simp only [World.size_alloc] <;> omega)) _).alloc (by first | omega | (simp only [World.size_alloc] <;> omega)) _).alloc (by first | omega | (simp only [World.size_alloc] <;> omega)) _).alloc (by first | omega | (simp only [World.size_alloc] <;> omega)) _).alloc (by first | omega | (simp only [World.size_alloc] <;> omega)) _).alloc (by first | omega | (simp only [World.size_alloc] <;> omega)) _).alloc (by first | omega | (simp only [World.size_alloc] <;> omega)) _).alloc (by first | omega | (simp only [World.size_alloc] <;> omega)) _)
  have HX := Lib.hid hX
  have HB := Lib.hid hB
  have HW := Lib.hid hW
  obtain ⟨R, hR⟩ : ∃ R, R = bitV k := ⟨_, rfl⟩
  rw [← hR]
  have HR := Lib.hid hR
  clear hX hB hW hR
  go_enter Tryd.func10, Tryd.ntmps10
  go_wp2
  go_loopw [4, 19] (fun b i wr => ∃ j : Nat, j ≤ 8 ∧ b = .int .i64 (2 ^ j : Nat) ∧ i = .int .i64 (j : Nat) ∧ W = wr ∧ ∀ j', j' < j → ∀ m, m < (grpL j').length → (((grpL j').getD m 0 : Nat) : Int) ≠ k) (fun _ i _ => 8 - (intOf i).toNat)
  case atStart => exact ⟨0, by omega, rfl, rfl, HW.out, fun j' h => absurd h (by omega)⟩
  case round =>
    obtain ⟨j, hj, rfl, rfl, rfl, hall⟩ := hrel
    have HA := Lib.hid hall
    clear hall
    by_cases h8 : j < 8
    · have p1 : (j : Int) < 8 := by omega
      obtain ⟨b, n, hidx, hn, hc⟩ := HX.out j h8
      have hP : 2 ^ j ≤ 2 ^ 7 := Nat.pow_le_pow_right (by omega) (by omega)
      obtain ⟨P, hPe⟩ : ∃ P, P = 2 ^ j := ⟨_, rfl⟩
      rw [← hPe] at hP ⊢
      have hP2 : (P : Int) ≤ 128 := by omega
      have hn6 : (n : Int) ≤ 6 := by have := grp_len j h8; omega
      have HC := Lib.hid hc
      have HN := Lib.hid hn
      have HPe := Lib.hid hPe
      clear hc hn hPe hP
      go_wp2
      go_loopw [24] (fun i wr => ∃ m : Nat, m ≤ n ∧ i = .int .i64 (m : Nat) ∧ W = wr ∧ ∀ m', m' < m → (((grpL j).getD m' 0 : Nat) : Int) ≠ k) (fun i _ => n - (intOf i).toNat)
      case atStart => exact ⟨0, by omega, rfl, rfl, fun m' h => absurd h (by omega)⟩
      case round =>
        obtain ⟨m, hm, rfl, rfl, hmis⟩ := hrel
        have HM := Lib.hid hmis
        clear hmis
        by_cases hmn : m < n
        · have p2 : (m : Int) < (n : Int) := by omega
          have cx := HC.out m hmn
          obtain ⟨x, hx⟩ : ∃ x, x = (((grpL j).getD m 0 : Nat) : Int) := ⟨_, rfl⟩
          rw [← hx] at cx
          have HXe := Lib.hid hx
          clear hx
          by_cases hk : x = k
          · have e0 : R = P := by rw [HR.out, HPe.out]; exact bitV_hit h8 (by rw [← HN.out]; exact hmn) (HXe.out.symm.trans hk)
            have p3 : (x == k) = true := by rw [hk]; exact beq_self_eq_true _
            subst e0
            clear hk
            go_wp2
            go_ret
            exact ⟨rfl, HB.out⟩
          · go_wp2
            refine ⟨⟨m + 1, by omega, by simp, by trivial, fun m' hm' => ?_⟩, by simp [intOf]; omega⟩
            by_cases he : m' = m
            · rw [he, ← HXe.out]; exact hk
            · exact HM.out m' (by omega)
        · have p2 : ¬ (m : Int) < (n : Int) := by omega
          have e2 : IntKind.i64.wrap ((P : Int) * 2) = ((2 ^ (j + 1) : Nat) : Int) := by rw [Nat.pow_succ, ← HPe.out, IntWalk.i64_in _ (by omega)]; omega
          obtain ⟨P2, hP2e⟩ : ∃ P2, P2 = 2 ^ (j + 1) := ⟨_, rfl⟩
          rw [← hP2e] at e2
          have e3 : (P : Int) * 2 = (P2 : Int) := by rw [← e2, IntWalk.i64_in _ (by omega)]
          have HP2e := Lib.hid hP2e
          clear hP2e e2
          go_wp2
          refine ⟨⟨j + 1, by omega, (by first | rfl | rw [HP2e.out] | rw [← HP2e.out] | simp [HP2e.out]), by simp, by trivial, fun j' hj' m' hm' => ?_⟩, by simp [intOf]; omega⟩
          by_cases he : j' = j
          · subst he; exact HM.out m' (by have := HN.out; omega)
          · exact HA.out j' (by omega) m' hm'
    · have p1 : ¬ (j : Int) < 8 := by omega
      have e0 : R = 0 := by rw [HR.out]; exact bitV_miss fun j' hj' m hm => HA.out j' (by omega) m hm
      subst e0
      go_wp2
      go_ret
      exact ⟨rfl, HB.out⟩
end Go.Proofs.YtdffnehblhehpaaDoor
