/- The document's Bit, and the law PauseTells, walked. -/
import Derived.Test.YtamhlpjiiplmgaaDoorG31
import Derived.Test.YtamhlpjiiplmgaaDoorG30
import Derived.Test.YtamhlpjiiplmgaaDoorG11
import Derived.Test.YtamhlpjiiplmgaaDoorG05
namespace Go.Proofs.YtamhlpjiiplmgaaDoor
open Go.RowKit Go.Maps

def grpL (j : Nat) : List Nat := [[6, 7], [8, 9, 10, 11], [12, 13], [15, 16, 17, 18, 19, 20], [14, 21], [22], [23, 24, 25, 26, 27, 28], [5]].getD j []
theorem grp_hit : ∀ j, j < 8 → ∀ i, i < (grpL j).length → (grpL j).getD i 0 < 29 ∧ bitN ((grpL j).getD i 0) = 2 ^ j := by decide +kernel
theorem grp_miss : ∀ k, k < 29 → (∀ j, j < 8 → ∀ i, i < (grpL j).length → (grpL j).getD i 0 ≠ k) → bitN k = 0 := by decide +kernel
theorem grp_len : ∀ j, j < 8 → (grpL j).length ≤ 6 := by decide
theorem bitV_hit {k : Int} {j i : Nat} (hj : j < 8) (hi : i < (grpL j).length) (h : (((grpL j).getD i 0 : Nat) : Int) = k) : bitV k = 2 ^ j := by
  obtain ⟨h1, h2⟩ := grp_hit j hj i hi
  rw [← h]
  unfold bitV
  rw [if_pos (by omega), Int.toNat_natCast, h2]
theorem bitV_miss {k : Int} (h : ∀ j, j < 8 → ∀ i, i < (grpL j).length → (((grpL j).getD i 0 : Nat) : Int) ≠ k) : bitV k = 0 := by
  unfold bitV
  by_cases hk : 0 ≤ k ∧ k < 29
  · rw [if_pos hk]
    exact grp_miss k.toNat (by omega) fun j hj i hi e => h j hj i hi (by omega)
  · rw [if_neg hk]
set_option maxRecDepth 100000 in
theorem grp_idx (w : World) (j : Nat) (hj : j < 8) : ∃ b n : Nat, (∀ w', (Instr.index 65 (.agg #[.slice (some ⟨w.heap.size, 0, none⟩) 2 2, .slice (some ⟨w.heap.size + 1, 0, none⟩) 4 4, .slice (some ⟨w.heap.size + 1 + 1, 0, none⟩) 2 2, .slice (some ⟨w.heap.size + 1 + 1 + 1, 0, none⟩) 6 6, .slice (some ⟨w.heap.size + 1 + 1 + 1 + 1, 0, none⟩) 2 2, .slice (some ⟨w.heap.size + 1 + 1 + 1 + 1 + 1, 0, none⟩) 1 1, .slice (some ⟨w.heap.size + 1 + 1 + 1 + 1 + 1 + 1, 0, none⟩) 6 6, .slice (some ⟨w.heap.size + 1 + 1 + 1 + 1 + 1 + 1 + 1, 0, none⟩) 1 1]) (.int .i64 (j : Nat))).run Tryd.prog w' = .ok (.slice (some ⟨b, 0, none⟩) n n) w') ∧ n = (grpL j).length ∧
    ∀ i, i < n → ((((((((((w.alloc (.cells #[.int .i64 6, .int .i64 7] 3)).alloc (.cells #[.int .i64 8, .int .i64 9, .int .i64 10, .int .i64 11] 3)).alloc (.cells #[.int .i64 12, .int .i64 13] 3)).alloc (.cells #[.int .i64 15, .int .i64 16, .int .i64 17, .int .i64 18, .int .i64 19, .int .i64 20] 3)).alloc (.cells #[.int .i64 14, .int .i64 21] 3)).alloc (.cells #[.int .i64 22] 3)).alloc (.cells #[.int .i64 23, .int .i64 24, .int .i64 25, .int .i64 26, .int .i64 27, .int .i64 28] 3)).alloc (.cells #[.int .i64 5] 3)).alloc (.cells #[.slice (some ⟨w.heap.size, 0, none⟩) 2 2, .slice (some ⟨w.heap.size + 1, 0, none⟩) 4 4, .slice (some ⟨w.heap.size + 1 + 1, 0, none⟩) 2 2, .slice (some ⟨w.heap.size + 1 + 1 + 1, 0, none⟩) 6 6, .slice (some ⟨w.heap.size + 1 + 1 + 1 + 1, 0, none⟩) 2 2, .slice (some ⟨w.heap.size + 1 + 1 + 1 + 1 + 1, 0, none⟩) 1 1, .slice (some ⟨w.heap.size + 1 + 1 + 1 + 1 + 1 + 1, 0, none⟩) 6 6, .slice (some ⟨w.heap.size + 1 + 1 + 1 + 1 + 1 + 1 + 1, 0, none⟩) 1 1] 65))).cell? ⟨b, i, none⟩ = some (.int .i64 ((grpL j).getD i 0 : Nat)) := by
  rcases (by omega : j = 0 ∨ j = 1 ∨ j = 2 ∨ j = 3 ∨ j = 4 ∨ j = 5 ∨ j = 6 ∨ j = 7) with rfl | rfl | rfl | rfl | rfl | rfl | rfl | rfl
  · refine ⟨w.heap.size, 2, fun w' => by kernel_rfl, rfl, fun i hi => ?_⟩
    rcases (by omega : i = 0 ∨ i = 1) with rfl | rfl <;> exact (World.cell?_alloc_past _ _ _ (by first | omega | (simp only [World.size_alloc] <;> omega))).trans ((World.cell?_alloc_past _ _ _ (by first | omega | (simp only [World.size_alloc] <;> omega))).trans ((World.cell?_alloc_past _ _ _ (by first | omega | (simp only [World.size_alloc] <;> omega))).trans ((World.cell?_alloc_past _ _ _ (by first | omega | (simp only [World.size_alloc] <;> omega))).trans ((World.cell?_alloc_past _ _ _ (by first | omega | (simp only [World.size_alloc] <;> omega))).trans ((World.cell?_alloc_past _ _ _ (by first | omega | (simp only [World.size_alloc] <;> omega))).trans ((World.cell?_alloc_past _ _ _ (by first | omega | (simp only [World.size_alloc] <;> omega))).trans ((World.cell?_alloc_past _ _ _ (by first | omega | (simp only [World.size_alloc] <;> omega))).trans ((World.cell?_alloc_at _ _ _ _ (by first | omega | (simp only [World.size_alloc] <;> omega))).trans rfl))))))))
  · refine ⟨w.heap.size + 1, 4, fun w' => by kernel_rfl, rfl, fun i hi => ?_⟩
    rcases (by omega : i = 0 ∨ i = 1 ∨ i = 2 ∨ i = 3) with rfl | rfl | rfl | rfl <;> exact (World.cell?_alloc_past _ _ _ (by first | omega | (simp only [World.size_alloc] <;> omega))).trans ((World.cell?_alloc_past _ _ _ (by first | omega | (simp only [World.size_alloc] <;> omega))).trans ((World.cell?_alloc_past _ _ _ (by first | omega | (simp only [World.size_alloc] <;> omega))).trans ((World.cell?_alloc_past _ _ _ (by first | omega | (simp only [World.size_alloc] <;> omega))).trans ((World.cell?_alloc_past _ _ _ (by first | omega | (simp only [World.size_alloc] <;> omega))).trans ((World.cell?_alloc_past _ _ _ (by first | omega | (simp only [World.size_alloc] <;> omega))).trans ((World.cell?_alloc_past _ _ _ (by first | omega | (simp only [World.size_alloc] <;> omega))).trans ((World.cell?_alloc_at _ _ _ _ (by first | omega | (simp only [World.size_alloc] <;> omega))).trans rfl)))))))
  · refine ⟨w.heap.size + 1 + 1, 2, fun w' => by kernel_rfl, rfl, fun i hi => ?_⟩
    rcases (by omega : i = 0 ∨ i = 1) with rfl | rfl <;> exact (World.cell?_alloc_past _ _ _ (by first | omega | (simp only [World.size_alloc] <;> omega))).trans ((World.cell?_alloc_past _ _ _ (by first | omega | (simp only [World.size_alloc] <;> omega))).trans ((World.cell?_alloc_past _ _ _ (by first | omega | (simp only [World.size_alloc] <;> omega))).trans ((World.cell?_alloc_past _ _ _ (by first | omega | (simp only [World.size_alloc] <;> omega))).trans ((World.cell?_alloc_past _ _ _ (by first | omega | (simp only [World.size_alloc] <;> omega))).trans ((World.cell?_alloc_past _ _ _ (by first | omega | (simp only [World.size_alloc] <;> omega))).trans ((World.cell?_alloc_at _ _ _ _ (by first | omega | (simp only [World.size_alloc] <;> omega))).trans rfl))))))
  · refine ⟨w.heap.size + 1 + 1 + 1, 6, fun w' => by kernel_rfl, rfl, fun i hi => ?_⟩
    rcases (by omega : i = 0 ∨ i = 1 ∨ i = 2 ∨ i = 3 ∨ i = 4 ∨ i = 5) with rfl | rfl | rfl | rfl | rfl | rfl <;> exact (World.cell?_alloc_past _ _ _ (by first | omega | (simp only [World.size_alloc] <;> omega))).trans ((World.cell?_alloc_past _ _ _ (by first | omega | (simp only [World.size_alloc] <;> omega))).trans ((World.cell?_alloc_past _ _ _ (by first | omega | (simp only [World.size_alloc] <;> omega))).trans ((World.cell?_alloc_past _ _ _ (by first | omega | (simp only [World.size_alloc] <;> omega))).trans ((World.cell?_alloc_past _ _ _ (by first | omega | (simp only [World.size_alloc] <;> omega))).trans ((World.cell?_alloc_at _ _ _ _ (by first | omega | (simp only [World.size_alloc] <;> omega))).trans rfl)))))
  · refine ⟨w.heap.size + 1 + 1 + 1 + 1, 2, fun w' => by kernel_rfl, rfl, fun i hi => ?_⟩
    rcases (by omega : i = 0 ∨ i = 1) with rfl | rfl <;> exact (World.cell?_alloc_past _ _ _ (by first | omega | (simp only [World.size_alloc] <;> omega))).trans ((World.cell?_alloc_past _ _ _ (by first | omega | (simp only [World.size_alloc] <;> omega))).trans ((World.cell?_alloc_past _ _ _ (by first | omega | (simp only [World.size_alloc] <;> omega))).trans ((World.cell?_alloc_past _ _ _ (by first | omega | (simp only [World.size_alloc] <;> omega))).trans ((World.cell?_alloc_at _ _ _ _ (by first | omega | (simp only [World.size_alloc] <;> omega))).trans rfl))))
  · refine ⟨w.heap.size + 1 + 1 + 1 + 1 + 1, 1, fun w' => by kernel_rfl, rfl, fun i hi => ?_⟩
    rcases (by omega : i = 0) with rfl <;> exact (World.cell?_alloc_past _ _ _ (by first | omega | (simp only [World.size_alloc] <;> omega))).trans ((World.cell?_alloc_past _ _ _ (by first | omega | (simp only [World.size_alloc] <;> omega))).trans ((World.cell?_alloc_past _ _ _ (by first | omega | (simp only [World.size_alloc] <;> omega))).trans ((World.cell?_alloc_at _ _ _ _ (by first | omega | (simp only [World.size_alloc] <;> omega))).trans rfl)))
  · refine ⟨w.heap.size + 1 + 1 + 1 + 1 + 1 + 1, 6, fun w' => by kernel_rfl, rfl, fun i hi => ?_⟩
    rcases (by omega : i = 0 ∨ i = 1 ∨ i = 2 ∨ i = 3 ∨ i = 4 ∨ i = 5) with rfl | rfl | rfl | rfl | rfl | rfl <;> exact (World.cell?_alloc_past _ _ _ (by first | omega | (simp only [World.size_alloc] <;> omega))).trans ((World.cell?_alloc_past _ _ _ (by first | omega | (simp only [World.size_alloc] <;> omega))).trans ((World.cell?_alloc_at _ _ _ _ (by first | omega | (simp only [World.size_alloc] <;> omega))).trans rfl))
  · refine ⟨w.heap.size + 1 + 1 + 1 + 1 + 1 + 1 + 1, 1, fun w' => by kernel_rfl, rfl, fun i hi => ?_⟩
    rcases (by omega : i = 0) with rfl <;> exact (World.cell?_alloc_past _ _ _ (by first | omega | (simp only [World.size_alloc] <;> omega))).trans ((World.cell?_alloc_at _ _ _ _ (by first | omega | (simp only [World.size_alloc] <;> omega))).trans rfl)
set_option maxRecDepth 100000 in
set_option maxHeartbeats 2000000 in
theorem rbit_walk (k : Int) (w : World) : Calls Tryd.prog 22 #[.int .i64 k] w fun e w' => e = .returned (.int .i64 (bitV k : Nat)) ∧ Below w.heap.size w w' := by
  obtain ⟨W, hW⟩ : ∃ W, W = (((((((((w.alloc (.cells #[.int .i64 6, .int .i64 7] 3)).alloc (.cells #[.int .i64 8, .int .i64 9, .int .i64 10, .int .i64 11] 3)).alloc (.cells #[.int .i64 12, .int .i64 13] 3)).alloc (.cells #[.int .i64 15, .int .i64 16, .int .i64 17, .int .i64 18, .int .i64 19, .int .i64 20] 3)).alloc (.cells #[.int .i64 14, .int .i64 21] 3)).alloc (.cells #[.int .i64 22] 3)).alloc (.cells #[.int .i64 23, .int .i64 24, .int .i64 25, .int .i64 26, .int .i64 27, .int .i64 28] 3)).alloc (.cells #[.int .i64 5] 3)).alloc (.cells #[.slice (some ⟨w.heap.size, 0, none⟩) 2 2, .slice (some ⟨w.heap.size + 1, 0, none⟩) 4 4, .slice (some ⟨w.heap.size + 1 + 1, 0, none⟩) 2 2, .slice (some ⟨w.heap.size + 1 + 1 + 1, 0, none⟩) 6 6, .slice (some ⟨w.heap.size + 1 + 1 + 1 + 1, 0, none⟩) 2 2, .slice (some ⟨w.heap.size + 1 + 1 + 1 + 1 + 1, 0, none⟩) 1 1, .slice (some ⟨w.heap.size + 1 + 1 + 1 + 1 + 1 + 1, 0, none⟩) 6 6, .slice (some ⟨w.heap.size + 1 + 1 + 1 + 1 + 1 + 1 + 1, 0, none⟩) 1 1] 65)) := ⟨_, rfl⟩
  have hX := fun j (hj : j < 8) => grp_idx w j hj
  rw [← hW] at hX
  have hB : Below w.heap.size w W := by
    rw [hW]
    exact ((((((((((Below.refl _ _).alloc (by first | omega | (simp only [World.size_alloc] <;> omega)) _).alloc (by first | omega | (simp only [World.size_alloc] <;> omega)) _).alloc (by first | omega | (simp only [World.size_alloc] <;> omega)) _).alloc (by first | omega | (simp only [World.size_alloc] <;> omega)) _).alloc (by first | omega | (simp only [World.size_alloc] <;> omega)) _).alloc (by first | omega | (simp only [World.size_alloc] <;> omega)) _).alloc (by first | omega | (simp only [World.size_alloc] <;> omega)) _).alloc (by first | omega | (simp only [World.size_alloc] <;> omega)) _).alloc (by first | omega | (simp only [World.size_alloc] <;> omega)) _)
  have HX := Lib.hid hX
  have HB := Lib.hid hB
  have HW := Lib.hid hW
  obtain ⟨R, hR⟩ : ∃ R, R = bitV k := ⟨_, rfl⟩
  rw [← hR]
  have HR := Lib.hid hR
  clear hX hB hW hR
  go_enter Tryd.func22, Tryd.ntmps22
  go_wp2
  go_loopw [4, 19] (fun b i wr => ∃ j : Nat, j ≤ 8 ∧ b = .int .i64 (2 ^ j : Nat) ∧ i = .int .i64 (j : Nat) ∧ W = wr ∧ ∀ j', j' < j → ∀ m, m < (grpL j').length → (((grpL j').getD m 0 : Nat) : Int) ≠ k) (fun _ i _ => 8 - (intOf i).toNat)
  case atStart => exact ⟨0, by omega, rfl, rfl, HW.out, fun j' h => absurd h (by omega)⟩
  case round =>
    obtain ⟨j, hj, rfl, rfl, rfl, hall⟩ := hrel
    have HA := Lib.hid hall
    clear hall
    by_cases h8 : j < 8
    · have p1 : (j : Int) < 8 := by omega
      obtain ⟨b, n, hidx, hn, hc⟩ := HX.out j h8
      have hP : 2 ^ j ≤ 2 ^ 7 := Nat.pow_le_pow_right (by omega) (by omega)
      obtain ⟨P, hPe⟩ : ∃ P, P = 2 ^ j := ⟨_, rfl⟩
      rw [← hPe] at hP ⊢
      have hP2 : (P : Int) ≤ 128 := by omega
      have hn6 : (n : Int) ≤ 6 := by have := grp_len j h8; omega
      have HC := Lib.hid hc
      have HN := Lib.hid hn
      have HPe := Lib.hid hPe
      clear hc hn hPe hP
      go_wp2
      go_loopw [24] (fun i wr => ∃ m : Nat, m ≤ n ∧ i = .int .i64 (m : Nat) ∧ W = wr ∧ ∀ m', m' < m → (((grpL j).getD m' 0 : Nat) : Int) ≠ k) (fun i _ => n - (intOf i).toNat)
      case atStart => exact ⟨0, by omega, rfl, rfl, fun m' h => absurd h (by omega)⟩
      case round =>
        obtain ⟨m, hm, rfl, rfl, hmis⟩ := hrel
        have HM := Lib.hid hmis
        clear hmis
        by_cases hmn : m < n
        · have p2 : (m : Int) < (n : Int) := by omega
          have cx := HC.out m hmn
          obtain ⟨x, hx⟩ : ∃ x, x = (((grpL j).getD m 0 : Nat) : Int) := ⟨_, rfl⟩
          rw [← hx] at cx
          have HXe := Lib.hid hx
          clear hx
          by_cases hk : x = k
          · have e0 : R = P := by rw [HR.out, HPe.out]; exact bitV_hit h8 (by rw [← HN.out]; exact hmn) (HXe.out.symm.trans hk)
            have p3 : (x == k) = true := by rw [hk]; exact beq_self_eq_true _
            subst e0
            clear hk
            go_wp2
            go_ret
            exact ⟨rfl, HB.out⟩
          · go_wp2
            refine ⟨⟨m + 1, by omega, by simp, by trivial, fun m' hm' => ?_⟩, by simp [intOf]; omega⟩
            by_cases he : m' = m
            · rw [he, ← HXe.out]; exact hk
            · exact HM.out m' (by omega)
        · have p2 : ¬ (m : Int) < (n : Int) := by omega
          have e2 : IntKind.i64.wrap ((P : Int) * 2) = ((2 ^ (j + 1) : Nat) : Int) := by rw [Nat.pow_succ, ← HPe.out, IntWalk.i64_in _ (by omega)]; omega
          obtain ⟨P2, hP2e⟩ : ∃ P2, P2 = 2 ^ (j + 1) := ⟨_, rfl⟩
          rw [← hP2e] at e2
          have e3 : (P : Int) * 2 = (P2 : Int) := by rw [← e2, IntWalk.i64_in _ (by omega)]
          have HP2e := Lib.hid hP2e
          clear hP2e e2
          go_wp2
          refine ⟨⟨j + 1, by omega, (by first | rfl | rw [HP2e.out] | rw [← HP2e.out] | simp [HP2e.out]), by simp, by trivial, fun j' hj' m' hm' => ?_⟩, by simp [intOf]; omega⟩
          by_cases he : j' = j
          · subst he; exact HM.out m' (by have := HN.out; omega)
          · exact HA.out j' (by omega) m' hm'
    · have p1 : ¬ (j : Int) < 8 := by omega
      have e0 : R = 0 := by rw [HR.out]; exact bitV_miss fun j' hj' m hm => HA.out j' (by omega) m hm
      subst e0
      go_wp2
      go_ret
      exact ⟨rfl, HB.out⟩
end Go.Proofs.YtamhlpjiiplmgaaDoor

namespace Go.Proofs.YtamhlpjiiplmgaaDoor
open Go.RowKit Go.Maps Go.Sort

theorem rising_flags (n : Nat) : Rising (skeys (flagsL n)) := by
  unfold flagsL
  split
  · exact List.Pairwise.nil
  · exact List.pairwise_singleton _ _
theorem flags_len (n : Nat) : (flagsL n).length ≤ 1 := by
  unfold flagsL
  split <;> simp
theorem flags_set (m n : Nat) (hn : n ≠ 0) : setL (flagsL m) K42 (numStr n) = flagsL n := by
  have e : flagsL n = [(K42, numStr n)] := by unfold flagsL; rw [if_neg hn]
  rw [e]
  unfold setL
  rw [flagsL_get]
  by_cases hm : m = 0
  · subst hm
    rw [if_pos rfl, if_neg (by simp)]
    rfl
  · rw [if_neg hm]
    have em : flagsL m = [(K42, numStr m)] := by unfold flagsL; rw [if_neg hm]
    by_cases h : (some (numStr (m : Int)) : Option ByteArray) = some (numStr n)
    · rw [if_pos h, em, Option.some.inj h]
    · rw [if_neg h, em]
      unfold sset
      have : (sget [(K42, numStr (m : Int))] K42).isSome = true := by simp [sget, keq_self]
      rw [if_pos this]
      simp [keq_self]
theorem flags_del (m : Nat) : sdel (flagsL m) K42 = flagsL 0 := by
  unfold flagsL sdel
  split
  · rfl
  · simp [keq_self]
theorem flags_int (n : Nat) : intAt (flagsL n) K42 n := by
  unfold intAt
  rw [flagsL_get]
  by_cases h : n = 0
  · rw [if_pos h]; exact .inl ⟨h, rfl⟩
  · rw [if_neg h]; exact .inr rfl
set_option maxRecDepth 100000 in
set_option maxHeartbeats 400000 in
theorem pset_nil {w W : World} {b : Nat} {F : List Nat} {L : SL} {q : Nat} {qs : List Value} (h : SNew w W b F L q qs) (hN : L.length ≤ 1000000) (hq : q < 1000000) :
    Calls Tryd.prog 6 #[.pointer (some ⟨b, 0, none⟩), .int .i64 0] W fun e W' => e = .returned (.int .i64 0) ∧ LiveTo w W W' b F (sdel L K42) (q + 1) := by
  have HM := Lib.hid (made_live b F L q qs W h.s)
  have HT := Lib.hid (table42 W)
  have HS := Lib.hid (fun (W1 : World) (hb : Below W.heap.size W W1) => (csetInt_del (h.below hb) K42 0 (by decide) (by omega) hN hq).mono fun e W' hp => (⟨hp.1, hp.2.pre hb⟩ : e = .returned (.tuple #[]) ∧ LiveTo w W W' b F (sdel L K42) (q + 1)))
  clear h hN hq
  go_enter Tryd.func6, Tryd.ntmps6
  go_wp2_with (first
    | (go_at_call 15; refine (HS.out w1 HB1.out).mono ?_; rintro e w2 ⟨rfl, h1⟩; have H1 := Lib.hid h1; clear h1)
    | (go_at_call 16; refine HT.out.mono ?_; rintro e w1 ⟨rfl, hb1⟩; have HB1 := Lib.hid hb1; clear hb1)
    | (go_at_call 14; refine HM.out.mono ?_; rintro e w0 ⟨rfl, rfl⟩))
  go_ret
  exact ⟨rfl, H1.out⟩
/-- the flags that a setting leaves -/
def flagsTo (m : Nat) (x : Int) : Nat := if 0 ≤ x ∧ x ≤ 255 then x.toNat else m
def flagsErr (x : Int) : Int := if 0 ≤ x ∧ x ≤ 255 then 0 else 5
theorem flagsTo_le {m : Nat} {x : Int} (h : m ≤ 255) : flagsTo m x ≤ 255 := by
  unfold flagsTo
  split <;> omega
theorem pset_to {w W : World} {b : Nat} {F : List Nat} {m : Nat} {q : Nat} {qs : List Value} (h : SNew w W b F (flagsL m) q qs) (x : Int) (hq : q < 100000) :
    Calls Tryd.prog 6 #[.pointer (some ⟨b, 0, none⟩), .int .i64 x] W fun e W' => e = .returned (.int .i64 (flagsErr x)) ∧ LiveTo w W W' b F (flagsL (flagsTo m x)) (q + 1) := by
  have hl := flags_len m
  unfold flagsErr flagsTo
  by_cases hok : 0 ≤ x ∧ x ≤ 255
  · rw [if_pos hok, if_pos hok]
    by_cases h0 : x = 0
    · subst h0
      refine (pset_nil h (by omega) (by omega)).mono ?_
      rintro e W' ⟨he, hl⟩
      rw [flags_del] at hl
      exact ⟨he, hl⟩
    · obtain ⟨n, rfl⟩ : ∃ n : Nat, x = (n : Int) := ⟨x.toNat, by omega⟩
      refine (pset_some h (n : Int) (by omega) hok.2 (by omega) (by omega)).mono ?_
      rintro e W' ⟨he, hl⟩
      rw [flags_set m n (by omega)] at hl
      exact ⟨he, hl⟩
  · rw [if_neg hok, if_neg hok]
    refine (pset_wild h x (by omega)).mono ?_
    rintro e W' ⟨he, rfl⟩
    refine ⟨he, ?_⟩
    obtain ⟨F', q', qs', h1, h2, h3⟩ := h.same (Below.refl _ _)
    exact ⟨F', q', qs', h1, by omega, h3⟩
/-! ### the document's -/
theorem rkey42n (w : World) : Calls Tryd.prog 18 #[.int .i64 42, .slice none 0 0] w fun e w' => e = .returned (.string K42) ∧ Below w.heap.size w w' := by
  refine (rkey9_walk 42 none 0 0 (fun _ => 0) w ⟨fun _ => by decide, fun h => absurd h (by omega)⟩ (by omega)).mono ?_
  rintro e w' ⟨he, hb⟩
  exact ⟨by rw [he, show keyStr 42 (fun _ => 0) 0 = K42 by decide +kernel], hb⟩
set_option maxRecDepth 100000 in
set_option maxHeartbeats 400000 in
theorem rflags_walk (w W : World) (m n : Nat) (R : List Ch) (h : DS w W m (flagsL n) R) (hn : n ≤ 255) :
    Calls Tryd.prog 9 #[.pointer (some ⟨m, 0, none⟩)] W fun e W' => e = .returned (.int .i64 (n : Nat)) ∧ Below W.heap.size W W' := by
  have hl := flags_len n
  have HK := Lib.hid (rkey42n W)
  have HI := Lib.hid (fun (W1 : World) (hb : Below W.heap.size W W1) => rint_walk w W1 m (flagsL n) R K42 n (h.below hb) (rising_flags n) (by omega) (flags_int n) (by omega))
  clear h hn hl
  go_enter Tryd.func9, Tryd.ntmps9
  go_wp2_with (first
    | (go_at_call 20; refine (HI.out _ H1.out).mono ?_; rintro e w2 ⟨rfl, hb2⟩; have H2 := Lib.hid (H1.out.trans (hb2.mono H1.out.size)); clear hb2)
    | (go_at_call 18; refine HK.out.mono ?_; rintro e w1 ⟨rfl, hb1⟩; have H1 := Lib.hid hb1; clear hb1))
  go_ret
  exact ⟨rfl, H2.out⟩
set_option maxRecDepth 100000 in
set_option maxHeartbeats 400000 in
theorem rset35_walk (w W : World) (m n : Nat) (R : List Ch) (x : Int) (h : DS w W m (flagsL n) R) (hn : n ≤ 255) (hR : R.length < 100000) :
    Calls Tryd.prog 7 #[.pointer (some ⟨m, 0, none⟩), .int .i64 x] W fun e W' => e = .returned (.int .i64 (flagsErr x)) ∧ ∃ R', R'.length ≤ R.length + 1 ∧ DSTo w W W' m (flagsL (flagsTo n x)) R' := by
  have hl := flags_len n
  unfold flagsErr flagsTo
  by_cases hok : 0 ≤ x ∧ x ≤ 255
  · rw [if_pos hok, if_pos hok]
    have HK := Lib.hid (rkey42n W)
    have hS := fun (W1 : World) (hb : Below W.heap.size W W1) => (rsetInt_walk w W1 m (flagsL n) R K42 x (h.below hb) (rising_flags n) (by omega) (by omega) (by omega)).mono fun e W' hp => (⟨hp.1, DSTo.pre h hb hp.2⟩ : e = .returned (.tuple #[]) ∧ DSTo w W W' m (if x < 1 then sdel (flagsL n) K42 else setE (flagsL n) K42 (numStr x)) (if x < 1 then delR (flagsL n) R K42 else setR (flagsL n) R K42 (numStr x)))
    have eL : (if x < 1 then sdel (flagsL n) K42 else setE (flagsL n) K42 (numStr x)) = flagsL x.toNat := by
      by_cases h1 : x < 1
      · rw [if_pos h1, flags_del, show x.toNat = 0 by omega]
      · rw [if_neg h1]
        unfold setE
        rw [if_neg (by decide)]
        obtain ⟨k, rfl⟩ : ∃ k : Nat, x = (k : Int) := ⟨x.toNat, by omega⟩
        exact flags_set n k (by omega)
    have eR : (if x < 1 then delR (flagsL n) R K42 else setR (flagsL n) R K42 (numStr x)).length ≤ R.length + 1 := by
      split
      · unfold delR; split <;> simp
      · unfold setR; split
        · omega
        · split <;> simp
    obtain ⟨R', hR'⟩ : ∃ y, y = (if x < 1 then delR (flagsL n) R K42 else setR (flagsL n) R K42 (numStr x)) := ⟨_, rfl⟩
    rw [← hR'] at hS eR
    rw [eL] at hS
    have HS := Lib.hid hS
    have HE := Lib.hid eR
    have p1 : ¬ x < 0 := by omega
    have p2 : ¬ 255 < x := by omega
    clear h hn hR hl hS eR eL hR' hok
    go_enter Tryd.func7, Tryd.ntmps7
    go_wp2_with (first
      | (go_at_call 17; refine (HS.out _ H1.out).mono ?_; rintro e w2 ⟨rfl, h2⟩; have H2 := Lib.hid h2; clear h2)
      | (go_at_call 18; refine HK.out.mono ?_; rintro e w1 ⟨rfl, hb1⟩; have H1 := Lib.hid hb1; clear hb1))
    go_ret
    exact ⟨rfl, R', HE.out, H2.out⟩
  · rw [if_neg hok, if_neg hok]
    have HE := Lib.hid (DSTo.refl h)
    clear h hn hR hl
    by_cases h0 : x < 0
    · clear hok
      go_enter Tryd.func7, Tryd.ntmps7
      go_wp2
      go_ret
      exact ⟨rfl, R, Nat.le_succ _, HE.out⟩
    · have p2 : 255 < x := by omega
      clear hok
      go_enter Tryd.func7, Tryd.ntmps7
      go_wp2
      go_ret
      exact ⟨rfl, R, Nat.le_succ _, HE.out⟩
set_option maxRecDepth 100000 in
set_option maxHeartbeats 400000 in
theorem rpaused_walk (w W : World) (m n : Nat) (R : List Ch) (k : Int) (h : DS w W m (flagsL n) R) (hn : n ≤ 255) :
    Calls Tryd.prog 11 #[.pointer (some ⟨m, 0, none⟩), .int .i64 k] W fun e W' => e = .returned (.bool (bits BinOp.and IntKind.i64 (bitV k : Nat) n != 0)) ∧ Below W.heap.size W W' := by
  have HK := Lib.hid (rbit_walk k W)
  have HFe := Lib.hid (fun (W1 : World) (hb : Below W.heap.size W W1) => rflags_walk w W1 m n R (h.below hb) hn)
  clear h hn
  obtain ⟨v, hv⟩ : ∃ v, v = bitV k := ⟨_, rfl⟩
  rw [← hv] at HK ⊢
  clear hv
  go_enter Tryd.func11, Tryd.ntmps11
  go_wp2_with (first
    | (go_at_call 9; refine (HFe.out _ H1.out).mono ?_; rintro e w2 ⟨rfl, hb2⟩; have HB2 := Lib.hid (H1.out.trans (hb2.mono H1.out.size)); clear hb2)
    | (go_at_call 22; refine HK.out.mono ?_; rintro e w1 ⟨rfl, hb1⟩; have H1 := Lib.hid hb1; clear hb1))
  go_ret
  exact ⟨rfl, HB2.out⟩
end Go.Proofs.YtamhlpjiiplmgaaDoor

namespace Go.Proofs.YtamhlpjiiplmgaaDoor
open Go.RowKit Go.Maps Go.Sort

set_option maxRecDepth 100000 in
set_option maxHeartbeats 8000000 in
theorem pauseActs_go (A : Option Addr) (N C : Nat) (f : Nat → Int) (k : Int) (w : World) (hl : Il w A N f) (hN : N ≤ 100) (hp : Vp w) :
    Calls Tryd.prog 3 #[.slice A N C, .int .i64 k] w fun e w' => e = .returned (.bool true) ∧ Below w.heap.size w w' := by
  have HI := Lib.hid (And.intro hl hp)
  have hNI : (N : Int) ≤ 100 := by omega
  clear hl hp hN
  go_enter Tryd.func3, Tryd.ntmps3
  go_upto_region 4 with (go_at_call 5; with_reducible refine (SNew.new w _ (Below.refl _ _)).mono ?_; rintro e w3 ⟨b, F1, rfl, hs1, _, _⟩; have H3 := Lib.hid hs1; clear hs1)
  obtain ⟨m, hm⟩ : ∃ m, m = w3.heap.size := ⟨_, rfl⟩
  have hd4 := DS.new w w3 H3.out.l (.bool true) (.bool true) _ rfl
  have hb4 := (Below.refl w3.heap.size w3).alloc (Nat.le_refl _) (.cells #[.slice none 0 0, .slice none 0 0] 30)
  rw [← hm] at hd4
  rw [← hm]
  have H4 := Lib.hid (And.intro (H3.out.below hb4) hd4)
  clear hd4 hb4 hm
  generalize w3.alloc (.cells #[.slice none 0 0, .slice none 0 0] 30) = w4 at H4 ⊢
  go_wp2
  go_loopw [18] (fun i wr => ∃ (j n : Nat) (F : List Nat) (q : Nat) (qs : List Value) (R : List Ch), j ≤ N ∧ i = .int .i64 (j : Nat) ∧ n ≤ 255 ∧ SNew w wr b F (flagsL n) q qs ∧ q ≤ j ∧ DS w wr m (flagsL n) R ∧ R.length ≤ j) (fun i _ => N - (intOf i).toNat)
  case atStart => exact ⟨0, 0, F1, 0, [], [], by omega, rfl, by omega, H4.out.1, by omega, H4.out.2, by simp⟩
  case round =>
    obtain ⟨j, n, F, q, qs, R, hj, rfl, hn, hs, hq, hd, hR⟩ := hrel
    by_cases hlt : j < N
    · have p2 : (j : Int) < (N : Int) := by omega
      obtain ⟨g, o, rfl, hg, hc⟩ := (HI.out.1.below hs.l).2 (by omega)
      have d0 := hc j hlt
      obtain ⟨x, ex⟩ : ∃ y, y = f j := ⟨_, rfl⟩
      rw [← ex] at d0
      have HH := Lib.hid (And.intro hs (And.intro hd (And.intro hn (And.intro hq hR))))
      obtain ⟨er, her⟩ : ∃ y, y = flagsErr x := ⟨_, rfl⟩
      have HEr := Lib.hid her
      obtain ⟨n2, hn2⟩ : ∃ y, y = flagsTo n x := ⟨_, rfl⟩
      have hn2' : n2 ≤ 255 := by rw [hn2]; exact flagsTo_le hn
      have HN2 := Lib.hid (And.intro hn2 hn2')
      have q1 : (er == er) = true := beq_self_eq_true _
      have q2 : ((n2 : Int) == (n2 : Int)) = true := beq_self_eq_true _
      obtain ⟨bt, hbt⟩ : ∃ y, y = (bits BinOp.and IntKind.i64 (bitV k : Nat) n2 != 0) := ⟨_, rfl⟩
      have HBt := Lib.hid hbt
      have q3 : (bt == bt) = true := beq_self_eq_true _
      clear hs hd hn hq hR hc ex her hn2 hbt hn2'
      go_wp2_with (first
        | (go_at_call 11; refine (rpaused_walk w _ m n2 R3 k H8.out.2 HN2.out.2).mono ?_; rintro e w9 ⟨he, hb9⟩; rw [← HBt.out] at he; subst he; have H9 := Lib.hid (And.intro (H8.out.1.below hb9) (H8.out.2.below hb9)); clear hb9)
        | (go_at_call 10; refine (paused_of _ k n2 _ (HI.out.2.below H7.out.1.l) (pflags_live H7.out.1 (by have := HN2.out.2; omega))).mono ?_; rintro e w8 ⟨he, hb8⟩; rw [← HBt.out] at he; subst he; have H8 := Lib.hid (And.intro (H7.out.1.below hb8) (H7.out.2.below hb8)); clear hb8)
        | (go_at_call 9; refine (rflags_walk w _ m n2 R3 H6.out.2 HN2.out.2).mono ?_; rintro e w7 ⟨rfl, hb7⟩; have H7 := Lib.hid (And.intro (H6.out.1.below hb7) (H6.out.2.below hb7)); clear hb7)
        | (go_at_call 8; refine (pflags_live HF6.out.1 (by have := HN2.out.2; omega)).mono ?_; rintro e w6 ⟨rfl, hb6⟩; have H6 := Lib.hid (And.intro (HF6.out.1.below hb6) (HF6.out.2.below hb6)); clear hb6)
        | (go_at_call 7; refine (rset35_walk w _ m n R x H5.out.2 HH.out.2.2.1 (by have := HH.out.2.2.2.2; omega)).mono ?_; rintro e w6 ⟨he, R3, hR3, hd6⟩; rw [← HEr.out] at he; rw [← HN2.out.1] at hd6; subst he; have HR3 := Lib.hid hR3; have HF6 := Lib.hid (And.intro (snew_other H5.out.1 hd6) hd6.s); clear hd6 hR3)
        | (go_at_call 6; refine (pset_to HH.out.1 x (by have := HH.out.2.2.2.1; omega)).mono ?_; rintro e w5 ⟨he, hl5⟩; rw [← HEr.out] at he; rw [← HN2.out.1] at hl5; subst he; have hd5 := ds_live HH.out.2.1 HH.out.1 hl5; obtain ⟨F5, q5, qs5, hs5, hq5, _⟩ := hl5; have H5 := Lib.hid (And.intro hs5 hd5); have HQ5 := Lib.hid hq5; clear hs5 hd5 hq5))
      exact ⟨⟨j + 1, n2, F5, q5, qs5, R3, by omega, by go_num, HN2.out.2, H9.out.1, by have := HQ5.out; have := HH.out.2.2.2.1; omega, H9.out.2, by have := HR3.out; have := HH.out.2.2.2.2; omega⟩, by simp [intOf]; omega⟩
    · obtain rfl : j = N := by omega
      have p2 : ¬ (j : Int) < (j : Int) := by omega
      obtain ⟨Z, hZ⟩ : ∃ Z, Z = wr := ⟨wr, rfl⟩
      subst hZ
      obtain ⟨vL, vP, h1, h2, h3⟩ := hd.ex
      obtain ⟨Am, Cm, rfl, hpm⟩ := Pr.of h2
      have m0 := (hp_cell (i := 0) h1).trans rfl
      have hmw := hp_lt h1
      have HSs := Lib.hid hs
      have HMm := Lib.hid (And.intro hpm hmw)
      have hfl := flags_len n
      have hks : ∀ p ∈ flagsL n, p.1.size ≤ maxLen := by
        intro p hp
        unfold flagsL at hp
        split at hp
        · cases hp
        · rw [List.mem_singleton.1 hp]; show K42.size ≤ maxLen; decide
      have HKs := Lib.hid hks
      obtain ⟨Ln, hLn⟩ : ∃ y, y = flagsL n := ⟨_, rfl⟩
      rw [← hLn] at HSs HMm HKs m0 hfl
      clear hs hd h1 h2 h3 hpm hq hR hn hks hLn
      go_upto_region 10 with fail
      refine wp_region_held_drew (S := fun w' => Below Z.heap.size Z w') (by kernel_rfl) ?_ (fun hHeld => ?_)
      · exact (Below.refl _ _).drew
      generalize Z.drew = Z0 at hHeld ⊢
      have HB0 := Lib.hid hHeld
      refine wpAnyH_take (i := 0) (v := ?_) rfl (by kernel_rfl) (by kernel_rfl) (by kernel_rfl) (fun _ _ _ h => h) (Or.inl ⟨by kernel_rfl, ?_⟩) (by with_reducible assumption) ?_
      rotate_left
      · intro wz hSw
        (try dsimp only at hSw)
        go_simp
        (try with_reducible rfl)
      show wpAnyH _ _ _ _ _ _ _ (Act.put _ (some 46) _) _
      (try simp only [Act.put, List.setIfInBounds_toArray, List.set_cons_zero, List.set_cons_succ])
      refine wpAnyH_take (i := 2) (v := ?_) rfl (by kernel_rfl) (by kernel_rfl) (by kernel_rfl) (fun _ _ _ h => h) (Or.inl ⟨by kernel_rfl, ?_⟩) (by with_reducible assumption) ?_
      rotate_left
      · intro wz hSw
        (try dsimp only at hSw)
        go_simp
        (try with_reducible rfl)
      show wpAnyH _ _ _ _ _ _ _ (Act.put _ (some 48) _) _
      (try simp only [Act.put, List.setIfInBounds_toArray, List.set_cons_zero, List.set_cons_succ])
      refine wpAnyH_take (i := 3) (v := ?_) rfl (by kernel_rfl) (by kernel_rfl) (by kernel_rfl) (fun _ _ _ h => h) (Or.inl ⟨by kernel_rfl, ?_⟩) (by with_reducible assumption) ?_
      rotate_left
      · intro wz hSw
        (try dsimp only at hSw)
        go_simp
        (try with_reducible rfl)
      show wpAnyH _ _ _ _ _ _ _ (Act.put _ (some 49) _) _
      (try simp only [Act.put, List.setIfInBounds_toArray, List.set_cons_zero, List.set_cons_succ])
      refine wpAnyH_take (i := 4) (v := ?_) rfl (by kernel_rfl) (by kernel_rfl) (by kernel_rfl) (fun _ _ _ h => h) (Or.inl ⟨by kernel_rfl, ?_⟩) (by with_reducible assumption) ?_
      rotate_left
      · intro wz hSw
        (try dsimp only at hSw)
        go_simp
        (try with_reducible rfl)
      show wpAnyH _ _ _ _ _ _ _ (Act.put _ (some 50) _) _
      (try simp only [Act.put, List.setIfInBounds_toArray, List.set_cons_zero, List.set_cons_succ])
      refine wpAnyH_take (i := 5) (v := .slice Am Ln.length Cm) rfl (by kernel_rfl) (by kernel_rfl) (by kernel_rfl) (fun _ _ _ h => h) (Or.inl ⟨by kernel_rfl, ?_⟩) (by with_reducible assumption) ?_
      · intro wz hSw
        (try dsimp only at hSw)
        have y0 := (hSw.cell (p := ⟨m, 0, none⟩) HMm.out.2).trans m0
        go_simp
        (try with_reducible rfl)
      show wpAnyH _ _ _ _ _ _ _ (Act.put _ (some 51) _) _
      (try simp only [Act.put, List.setIfInBounds_toArray, List.set_cons_zero, List.set_cons_succ])
      refine wpAnyH_ready (rs := [1]) (by kernel_rfl) (by simp) ?_
      refine AllReadyH.cons rfl (fun K hK => ?_) AllReadyH.nil
      clear hHeld
      go_simp
      go_at_call 13
      refine (all_live _ _ _ _ _ _ (HSs.out.below HB0.out).s HKs.out (by omega)).mono ?_
      rintro e Z1 ⟨⟨v4, rfl, ho4⟩, hb4⟩
      obtain ⟨A4, C4, rfl, hp4⟩ := Pr.of ho4
      have HB4 := Lib.hid (HB0.out.trans (hb4.mono HB0.out.size))
      have HP4 := Lib.hid hp4
      clear ho4 hp4 hb4
      go_wp2_with fail
      refine hK.out _ _ ?_ (fun hHeld => ?_)
      · exact HB4.out
      clear hK K
      (try simp only [Act.put, List.setIfInBounds_toArray, List.set_cons_zero, List.set_cons_succ])
      refine wpAnyH_ready (rs := [6]) (by kernel_rfl) (by simp) ?_
      refine AllReadyH.cons rfl (fun K hK => ?_) AllReadyH.nil
      clear hHeld
      go_simp
      go_at_call 12
      refine (same_walk A4 Am C4 Cm Ln Ln _ HP4.out (HMm.out.1.below HB4.out) (by omega) true ⟨fun _ => rfl, fun _ => rfl⟩).mono ?_
      rintro e Z6 ⟨rfl, hb9⟩
      have HB9 := Lib.hid (HB4.out.trans (hb9.mono HB4.out.size))
      clear hb9
      go_wp2_with fail
      refine hK.out _ _ ?_ (fun hHeld => ?_)
      · exact HB9.out
      clear hK K
      (try simp only [Act.put, List.setIfInBounds_toArray, List.set_cons_zero, List.set_cons_succ])
      refine wpAnyH_take (i := 7) (v := ?_) rfl (by kernel_rfl) (by kernel_rfl) (by kernel_rfl) (fun _ _ _ h => h) (Or.inl ⟨by kernel_rfl, ?_⟩) (by with_reducible assumption) ?_
      rotate_left
      · intro wz hSw
        (try dsimp only at hSw)
        go_simp
        (try with_reducible rfl)
      show wpAnyH _ _ _ _ _ _ _ (Act.put _ (some 53) _) _
      (try simp only [Act.put, List.setIfInBounds_toArray, List.set_cons_zero, List.set_cons_succ])
      refine wpAnyH_ready (rs := [8]) (by kernel_rfl) (by simp) ?_
      refine AllReadyH.cons rfl (fun K hK => ?_) AllReadyH.nil
      clear hHeld
      go_simp
      go_at_call 4
      refine (lives35_walk _ ((HI.out.2.below HSs.out.l).below HB9.out)).mono ?_
      rintro e Z8 ⟨rfl, hb31⟩
      have HB31 := Lib.hid (HB9.out.trans (hb31.mono HB9.out.size))
      clear hb31
      go_wp2_with fail
      refine hK.out _ _ ?_ (fun hHeld => ?_)
      · exact HB31.out
      clear hK K
      (try simp only [Act.put, List.setIfInBounds_toArray, List.set_cons_zero, List.set_cons_succ])
      refine wpAnyH_take (i := 9) (v := ?_) rfl (by kernel_rfl) (by kernel_rfl) (by kernel_rfl) (fun _ _ _ h => h) (Or.inl ⟨by kernel_rfl, ?_⟩) (by with_reducible assumption) ?_
      rotate_left
      · intro wz hSw
        (try dsimp only at hSw)
        go_simp
        (try with_reducible rfl)
      show wpAnyH _ _ _ _ _ _ _ (Act.put _ (some 55) _) _
      (try simp only [Act.put, List.setIfInBounds_toArray, List.set_cons_zero, List.set_cons_succ])
      refine wpAnyH_take (i := 10) (v := ?_) rfl (by kernel_rfl) (by kernel_rfl) (by kernel_rfl) (fun _ _ _ h => h) (Or.inl ⟨by kernel_rfl, ?_⟩) (by with_reducible assumption) ?_
      rotate_left
      · intro wz hSw
        (try dsimp only at hSw)
        go_simp
        (try with_reducible rfl)
      show wpAnyH _ _ _ _ _ _ _ (Act.put _ (some 4) _) _
      (try simp only [Act.put, List.setIfInBounds_toArray, List.set_cons_zero, List.set_cons_succ])
      refine wpAnyH_done (by kernel_rfl) ?_ _
      go_wp2_with fail
      go_ret
      exact ⟨rfl, HSs.out.l.trans (HB31.out.mono HSs.out.l.size)⟩
  all_goals done
set_option maxRecDepth 100000 in
set_option maxHeartbeats 1000000 in
theorem pauseActs_walk (A : Option Addr) (N C : Nat) (f : Nat → Int) (k : Int) (w : World) (hl : Il w A N f) (hN : (N : Int) ≤ 9223372036854775807) (hp : Vp w) :
    Calls Tryd.prog 3 #[.slice A N C, .int .i64 k] w fun e w' => e = .returned (.bool true) ∧ Below w.heap.size w w' := by
  by_cases h : N ≤ 100
  · exact pauseActs_go A N C f k w hl h hp
  · have p1 : (100 : Int) < (N : Int) := by omega
    have HP := Lib.hid hp
    clear hl hN hp h
    go_enter Tryd.func3, Tryd.ntmps3
    go_wp2_with (go_at_call 4; refine (lives35_walk _ HP.out).mono ?_; rintro e w2 ⟨rfl, hb⟩; have H2 := Lib.hid hb; clear hb)
    go_ret
    exact ⟨rfl, H2.out⟩
end Go.Proofs.YtamhlpjiiplmgaaDoor
