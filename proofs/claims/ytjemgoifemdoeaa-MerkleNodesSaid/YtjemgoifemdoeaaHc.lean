/- sha.primes, walked: the loop. -/
import Derived.Test.YtjemgoifemdoeaaHb
import Derived.WalkLawsBesides
import Derived.Laws.CopyOwn
namespace Go.Proofs.Ytjemgoifemdoeaa
open Go.RowKit

theorem strike_more {n f m c : Nat} (h : m ≤ 311) (hf : 312 ≤ m + f) : ∃ f', f = f' + 1 ∧ strike n f m c = strike n f' (m + n) (c ||| 2 ^ m) := by
  obtain ⟨f', rfl⟩ : ∃ f', f = f' + 1 := ⟨f - 1, by omega⟩
  exact ⟨f', rfl, by show (if m ≤ 311 then _ else _) = _; rw [if_pos h]⟩
theorem strike_end {n f m c : Nat} (h : ¬ m ≤ 311) : strike n f m c = c := by
  cases f with
  | zero => rfl
  | succ f => show (if m ≤ 311 then _ else _) = _; rw [if_neg h]
theorem svs_yes {j : Nat} (h : (svs j).1.testBit (j + 2) = true) : svs (j + 1) = svs j := by
  show svStep _ _ = _; unfold svStep; rw [if_pos h]
theorem svs_no {j : Nat} (h : (svs j).1.testBit (j + 2) = false) : svs (j + 1) = (strike (j + 2) 312 ((j + 2) * (j + 2)) (svs j).1, (svs j).2 ++ [j + 2]) := by
  show svStep _ _ = _; unfold svStep; rw [if_neg (by rw [h]; decide)]
theorem svs_room {j : Nat} (hj : j < 310) (h : (svs j).1.testBit (j + 2) = false) : (svs j).2.length < 64 := by
  have h1 := svs_len_le (310 - (j + 1)) (j + 1)
  rw [show j + 1 + (310 - (j + 1)) = 310 by omega, svs_end, svs_no h] at h1
  simp at h1
  omega
def PrRel (w : World) (x y : Value) (wr : World) : Prop :=
  ∃ j n : Nat, j ≤ 310 ∧ n = j + 2 ∧ y = .int .i64 (n : Nat) ∧ x = .int .i64 ((svs j).2.length : Nat) ∧ PrAt w wr (svs j).1 (svs j).2
def StRel (w : World) (n c0 : Nat) (l : List Nat) (z : Value) (wr : World) : Prop :=
  ∃ m f c : Nat, z = .int .i64 (m : Nat) ∧ m ≤ 100000 ∧ strike n f m c = c0 ∧ 312 ≤ m + f ∧ PrAt w wr c l
theorem lz_info : (Try.prog.info? 102).map (·.size) = some 64 := by kernel_rfl
set_option maxRecDepth 100000 in
set_option maxHeartbeats 4000000 in
theorem primes_walk (w : World) : Calls Try.prog 69 #[] w fun e w' => e = .returned (.agg (vals .u64 primeF 64).toArray) ∧ Below w.heap.size w w' := by
  have H0 := Lib.hid (primes_start w)
  go_enter Try.func69, Try.ntmps69
  go_wp2
  go_loopw [3, 4] (PrRel w) (fun _ y _ => 312 - (intOf y).toNat)
  case atStart => exact ⟨0, 2, by omega, rfl, rfl, rfl, H0.out⟩
  case round =>
    obtain ⟨j, n, hj, hn, rfl, rfl, hp⟩ := hrel
    have HN := Lib.hid hn
    obtain ⟨k, hk⟩ : ∃ k, k = (svs j).2.length := ⟨_, rfl⟩
    rw [← hk]
    have HK := Lib.hid hk
    have HP := Lib.hid hp
    clear hk hp
    by_cases hlt : n ≤ 311
    · have p1 : (n : Int) ≤ 311 := by omega
      have p2 : (n : Int) < 312 := by omega
      have p0 : (0 : Int) ≤ n := by omega
      have hj310 : j < 310 := by omega
      clear hn
      have cn := HP.out.crs n (by omega)
      by_cases hc : (svs j).1.testBit n = true
      · rw [hc] at cn
        have HC := Lib.hid (svs_yes (j := j) (by rw [← HN.out]; exact hc))
        clear hc
        go_wp2
        exact ⟨⟨j + 1, n + 1, by omega, by have := HN.out; omega, by simp, by rw [HC.out, ← HK.out], by rw [HC.out]; exact HP.out⟩, by simp [intOf]; omega⟩
      · have hcf : (svs j).1.testBit n = false := by simpa using hc
        rw [hcf] at cn
        have HC := Lib.hid (svs_no (j := j) (by rw [← HN.out]; exact hcf))
        have hroom := svs_room hj310 (by rw [← HN.out]; exact hcf)
        rw [← HK.out] at hroom
        have cl : wr.cell? ⟨w.heap.size + 1, k, none⟩ = some (.int .u64 ((svs j).2.getD k 0 : Nat)) := (row_cell HP.out.lst).trans (by rw [List.getElem?_toArray]; exact vals_get _ _ hroom)
        have gl : wr.frozen? ⟨w.heap.size + 1, k, none⟩ = false := row_free HP.out.lst
        have hput := HP.out.put (n := n) (by rw [← HK.out]; exact hroom)
        rw [← HK.out] at hput
        have HPut := Lib.hid hput
        have q1 : (k : Int) < 64 := by omega
        have q2 : (n : Int) * (n : Int) = ((n * n : Nat) : Int) := by simp
        have hnn : n * n ≤ 96721 := Nat.mul_le_mul hlt hlt
        obtain ⟨m0, hm0⟩ : ∃ m0, m0 = n * n := ⟨_, rfl⟩
        rw [← hm0] at q2 hnn
        have HM0 := Lib.hid hm0
        have HRoom := Lib.hid hroom
        clear hc hcf hput hm0 hroom
        go_wp2
        go_loopw [5] (StRel w n (strike n 312 m0 (svs j).1) ((svs j).2 ++ [n])) (fun z _ => 400 - (intOf z).toNat)
        case atStart => exact ⟨m0, 312, (svs j).1, rfl, by omega, rfl, by omega, HPut.out⟩
        case round =>
          obtain ⟨m, f, c, rfl, hm, hst, hf, hpc⟩ := hrel
          have HSt := Lib.hid hst
          have HPc := Lib.hid hpc
          clear hst hpc
          by_cases hm311 : m ≤ 311
          · have q3 : (m : Int) ≤ 311 := by omega
            have q4 : (m : Int) < 312 := by omega
            have cm := HPc.out.crs m (by omega)
            have gm := HPc.out.fre m (by omega)
            obtain ⟨f', hf', hs'⟩ := strike_more (n := n) (c := c) hm311 hf
            have HS' := Lib.hid hs'
            have HF' := Lib.hid hf'
            clear hs' hf'
            go_wp2
            exact ⟨⟨m + n, f', c ||| 2 ^ m, by simp, by omega, by rw [← HS'.out]; exact HSt.out, by have := HF'.out; have := HN.out; omega, HPc.out.cross (by omega)⟩, by have := HN.out; simp [intOf]; omega⟩
          · have q3 : ¬ (m : Int) ≤ 311 := by omega
            have hse : (svs (j + 1)) = (c, (svs j).2 ++ [n]) := by
              rw [HC.out, ← HN.out, ← HM0.out, ← HSt.out, strike_end hm311]
            have HSe := Lib.hid hse
            clear hse
            go_wp2
            exact ⟨⟨j + 1, n + 1, by omega, by have := HN.out; omega, by simp, by rw [HSe.out, List.length_append, ← HK.out]; simp, by rw [HSe.out]; exact HPc.out⟩, by simp [intOf]; omega⟩
    · have p1 : ¬ (n : Int) ≤ 311 := by omega
      obtain rfl : j = 310 := by omega
      obtain ⟨cs, hcs⟩ : ∃ cs, cs = (vals .u64 primeF 64).toArray := ⟨_, rfl⟩
      have hr : wr.heap[w.heap.size + 1]? = some (.cells cs 102 (0, 0)) := by rw [hcs]; exact HP.out.lst
      have hsz : cs.size = 64 := by rw [hcs]; simp [vals_length]
      have R1 := Lib.hid hr
      have R0 := Lib.hid HP.out.res
      have Hi := Lib.hid (show (Try.prog.info? 102).map (·.size) = some cs.size by rw [hsz]; exact lz_info)
      have Hsz := Lib.hid (show lz.size = cs.size by rw [hsz]; rfl)
      have Hone := Lib.hid (show cs.all (·.oneCell') = true by rw [hcs]; exact vals_all _ _ _)
      have Hcs := Lib.hid hcs
      clear hr hcs hsz hn
      go_upto_region 14 with fail
      refine wp_region_lit (wpList_load_row rfl 102 (.tmp 1) rfl (w.heap.size + 1) rfl _ cs (0, 0) _ R1.out Try.underlying102 rfl Hi.out ?_)
      refine wpList_store_row rfl 102 (.tmp 0) (.tmp 29) rfl w.heap.size cs rfl rfl _ lz R0.out Hi.out Hsz.out Hone.out ?_
      refine wpList_nil ?_
      go_wp2
      refine bodyPost_ret (v := .agg cs) (results_cell_row rfl _ _ w.heap.size 102 cs (0, 0) _ rfl (setRow_heap _ _ lz _ _ _ R0.out) Try.underlying102 rfl Hi.out) rfl ?_
      exact ⟨by rw [Hcs.out], below_setRow HP.out.bel (Nat.le_refl _) _⟩
end Go.Proofs.Ytjemgoifemdoeaa
