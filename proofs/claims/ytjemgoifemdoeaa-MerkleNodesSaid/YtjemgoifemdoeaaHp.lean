/- Digits of sixteen: sha.Digit, the document's, sha.Hex, walked. -/
import Derived.Test.YtjemgoifemdoeaaHo
import Derived.Test.YtjemgoifemdoeaaAP
import Derived.OwnWalk
import Derived.Laws.BytesArg
import Derived.StillTailTactics
namespace Go.Proofs.Ytjemgoifemdoeaa
open Go.RowKit

/-- the value of a digit of sixteen; -1 of others -/
def dgI (c : Nat) : Int := if 48 ≤ c ∧ c ≤ 57 then (c : Int) - 48 else if 97 ≤ c ∧ c ≤ 102 then (c : Int) - 87 else -1
theorem dgI_lo {c : Nat} (h1 : 48 ≤ c) (h2 : c ≤ 57) : dgI c = (c : Int) - 48 := if_pos ⟨h1, h2⟩
theorem dgI_hi {c : Nat} (h1 : 97 ≤ c) (h2 : c ≤ 102) : dgI c = (c : Int) - 87 := by unfold dgI; rw [if_neg (by omega), if_pos ⟨h1, h2⟩]
theorem dgI_no {c : Nat} (h1 : ¬ (48 ≤ c ∧ c ≤ 57)) (h2 : ¬ (97 ≤ c ∧ c ≤ 102)) : dgI c = -1 := by unfold dgI; rw [if_neg h1, if_neg h2]
theorem dgI_lt (c : Nat) : dgI c < 16 := by unfold dgI; split; omega; split; omega; decide
theorem dgI_ge (c : Nat) : -1 ≤ dgI c := by unfold dgI; split; omega; split; omega; decide
theorem ret_i {k : IntKind} {a b : Int} (h : a = b) : Ending.returned (.int k a) = .returned (.int k b) := by rw [h]
set_option maxRecDepth 100000 in
theorem digit_walk (c : Nat) (hc : c < 256) (w : World) : Calls Try.prog 22 #[.int .u8 (c : Nat)] w fun e w' => e = .returned (.int .i64 (dgI c)) ∧ w = w' := by
  by_cases h1 : 48 ≤ c ∧ c ≤ 57
  · have p1 : (48 : Int) ≤ c := by omega
    have p2 : (c : Int) ≤ 57 := by omega
    have H := Lib.hid (dgI_lo h1.1 h1.2)
    go_enter Try.func22, Try.ntmps22
    go_wp2
    go_ret
    exact ⟨ret_i H.out.symm, rfl⟩
  · by_cases h2 : 97 ≤ c ∧ c ≤ 102
    · have p1 : (48 : Int) ≤ c := by omega
      have p2 : ¬ (c : Int) ≤ 57 := by omega
      have p3 : (97 : Int) ≤ c := by omega
      have p4 : (c : Int) ≤ 102 := by omega
      have H := Lib.hid (dgI_hi h2.1 h2.2)
      clear h1
      go_enter Try.func22, Try.ntmps22
      go_wp2
      go_ret
      exact ⟨ret_i (by rw [H.out]; omega), rfl⟩
    · have H := Lib.hid (dgI_no h1 h2)
      by_cases p1 : (48 : Int) ≤ c
      · have p2 : ¬ (c : Int) ≤ 57 := by omega
        by_cases p3 : (97 : Int) ≤ c
        · have p4 : ¬ (c : Int) ≤ 102 := by omega
          clear h1 h2
          go_enter Try.func22, Try.ntmps22
          go_wp2
          go_ret
          exact ⟨ret_i H.out.symm, rfl⟩
        · clear h1 h2
          go_enter Try.func22, Try.ntmps22
          go_wp2
          go_ret
          exact ⟨ret_i H.out.symm, rfl⟩
      · have p3 : ¬ (97 : Int) ≤ c := by omega
        clear h1 h2
        go_enter Try.func22, Try.ntmps22
        go_wp2
        go_ret
        exact ⟨ret_i H.out.symm, rfl⟩
/-- the digit of a value -/
def hexc (v : Nat) : Nat := if v < 10 then 48 + v else 87 + v
theorem hexc_lt {v : Nat} (h : v < 16) : hexc v < 256 := by unfold hexc; split <;> omega
theorem hx_run {v : Nat} (h : v < 16) (w : World) : (Instr.index 9 (.string { data := #[48, 49, 50, 51, 52, 53, 54, 55, 56, 57, 97, 98, 99, 100, 101, 102] }) (.int .u8 (v : Nat))).run Try.prog w = .ok (.int .u8 (hexc v : Nat)) w := by
  rcases (by omega : v = 0 ∨ v = 1 ∨ v = 2 ∨ v = 3 ∨ v = 4 ∨ v = 5 ∨ v = 6 ∨ v = 7 ∨ v = 8 ∨ v = 9 ∨ v = 10 ∨ v = 11 ∨ v = 12 ∨ v = 13 ∨ v = 14 ∨ v = 15) with rfl | rfl | rfl | rfl | rfl | rfl | rfl | rfl | rfl | rfl | rfl | rfl | rfl | rfl | rfl | rfl <;> kernel_rfl
/-- a hash's digits -/
def hexF (h : Nat → Nat) (i : Nat) : Nat := if i % 2 = 0 then hexc (h (i / 2) / 16) else hexc (h (i / 2) % 16)
theorem hexF_more (h : Nat → Nat) (k : Nat) : bys (hexF h) (2 * k) ++ bys (fun j => if j = 0 then hexc (h k / 16) else hexc (h k % 16)) 2 = bys (hexF h) (2 * (k + 1)) := by
  rw [bys_cat]
  refine bys_congr fun i hi => ?_
  unfold cat hexF
  by_cases h1 : i < 2 * k
  · rw [if_pos h1]
  · rw [if_neg h1]
    by_cases h2 : i = 2 * k
    · subst h2
      rw [if_pos (c := 2 * k % 2 = 0) (by omega), show 2 * k / 2 = k by omega]
      show (if 2 * k - 2 * k = 0 then _ else _) = _
      rw [if_pos (by omega)]
    · obtain rfl : i = 2 * k + 1 := by omega
      rw [if_neg (c := (2 * k + 1) % 2 = 0) (by omega), show (2 * k + 1) / 2 = k by omega]
      show (if 2 * k + 1 - 2 * k = 0 then _ else _) = _
      rw [if_neg (by omega)]
/-- a text of n bytes -/
def txt (f : Nat → Nat) (n : Nat) : ByteArray := strOfNums ((List.range n).map fun i => (f i : Int))
theorem idx32 (f : Nat → Nat) {k : Nat} (hk : k < 32) (w : World) : (Instr.index 25 (.agg (bys f 32).toArray) (.int .i64 (k : Nat))).run Try.prog w = .ok (.int .u8 (f k : Nat)) w := by
  have hu := Try.underlying25
  have hg := bys_get f hk
  have aa := Try.isAgg5
  have ag := Try.isAgg25
  simp [Instr.index, Sem.run_bind, run_underlying hu, asIntOf, go_sem]
  rw [if_pos hk, hg]; rfl
set_option maxRecDepth 100000 in
set_option maxHeartbeats 1000000 in
theorem hex_walk (h : Nat → Nat) (hh : ∀ i, h i < 256) (w : World) : Calls Try.prog 20 #[.agg (bys h 32).toArray] w fun e w' => e = .returned (.string (txt (hexF h) 64)) ∧ Below w.heap.size w w' := by
  obtain ⟨i0, hi, hz0, hz1, hz2⟩ := info_parts oinfoU8
  have HI := Lib.hid (fun (k : Nat) (hk : k < 32) (w : World) => idx32 h hk w)
  obtain ⟨cs, ecs⟩ : ∃ cs, cs = (bys h 32).toArray := ⟨_, rfl⟩
  have hsz : cs.size = 32 := by rw [ecs, List.size_toArray, bys_length]
  rw [← ecs] at HI ⊢
  have HC := Lib.hid ecs
  have HH := Lib.hid hh
  clear ecs hh
  go_enter Try.func20, Try.ntmps20
  have Hi := Lib.hid (show (Try.prog.info? 25).map (·.size) = some cs.size by rw [hsz]; exact h32_info)
  go_upto_region 2 with (at_make; refine wpList_make_own _ rfl _ _ _ rfl (w.heap.size) 5 i0 (.int .u8 0) 1 Try.underlying22 hi hz0 hz1 .i64 .i64 _ 64 rfl rfl (by omega) (by rw [hz2]; omega) (by unfold maxLen; omega) (by simp) ?_; intro w1 own1 hg1)
  have hsz1 : (w.alloc (.cells cs 25)).heap.size = w.heap.size + 1 := by simp
  rw [hsz1] at own1
  have hb1 : Below w.heap.size w w1 := ((Below.refl w.heap.size w).alloc (Nat.le_refl _) (.cells cs 25)).grown hg1 (by simp) (fun q hq => by cases hq)
  have R1 := Lib.hid ((hg1.block w.heap.size (by simp) (by simp)).trans (heap_alloc_new w (.cells cs 25)))
  have Own1 := Lib.hid own1
  have HB1 := Lib.hid hb1
  clear own1 hg1 hb1 hsz1
  refine wp_region_lit (wpList_load_row rfl 25 (.tmp 1) rfl w.heap.size rfl _ cs (0, 0) _ R1.out Try.underlying25 rfl Hi.out ?_)
  go_wp2
  go_loopw [3, 8] (fun v i wr => ∃ k : Nat, k ≤ 32 ∧ i = .int .i64 (k : Nat) ∧ wr.ownsRow w.heap.size 5 1 v (2 * k) (bys (hexF h) (2 * k)) ∧ Below w.heap.size w wr) (fun _ i _ => 32 - (intOf i).toNat)
  case atStart => exact ⟨0, by omega, rfl, Own1.out, HB1.out⟩
  case round =>
    obtain ⟨k, hk, rfl, ho, hb⟩ := hrel
    have HO := Lib.hid ho
    have HB := Lib.hid hb
    clear ho hb
    by_cases hlt : k < 32
    · have p1 : (k : Int) < 32 := by omega
      have hix := HI.out k hlt
      obtain ⟨x, ex⟩ : ∃ x, x = h k := ⟨_, rfl⟩
      rw [← ex] at hix
      have hx : x < 256 := by rw [ex]; exact HH.out k
      obtain ⟨a, ea⟩ : ∃ a, a = x / 16 := ⟨_, rfl⟩
      obtain ⟨b, eb⟩ : ∃ b, b = x % 16 := ⟨_, rfl⟩
      have v1 : (x : Int) / 16 = (a : Int) := by omega
      have v2 : (x : Int) % 16 = (b : Int) := by omega
      have v3 : IntKind.u8.wrap (a : Int) = (a : Int) := by rw [IntKind.wrap_u8]; omega
      have v4 : IntKind.u8.wrap (b : Int) = (b : Int) := by rw [IntKind.wrap_u8]; omega
      have v5 : (x : Int).tmod 16 = (b : Int) := by rw [Int.tmod_eq_emod_of_nonneg (by omega)]; exact v2
      have v6 : (x : Int).tdiv 16 = (a : Int) := by rw [Int.tdiv_eq_ediv_of_nonneg (by omega)]; exact v1
      have r1 := hx_run (v := a) (by omega)
      have r2 := hx_run (v := b) (by omega)
      obtain ⟨c1, ec1⟩ : ∃ c1, c1 = hexc a := ⟨_, rfl⟩
      obtain ⟨c2, ec2⟩ : ∃ c2, c2 = hexc b := ⟨_, rfl⟩
      rw [← ec1] at r1
      rw [← ec2] at r2
      have hc1 : c1 < 256 := by rw [ec1]; exact hexc_lt (by omega)
      have hc2 : c2 < 256 := by rw [ec2]; exact hexc_lt (by omega)
      have HF := Lib.hid (show bys (hexF h) (2 * k) ++ bys (fun j => if j = 0 then c1 else c2) 2 = bys (hexF h) (2 * (k + 1)) by rw [ec1, ec2, ea, eb, ex]; exact hexF_more h k)
      clear ea eb ec1 ec2 ex
      go_upto_region 5 with fail
      have hN := Lib.hid (show Sl ((wr.alloc (.cells #[.int .u8 (c1 : Nat), .int .u8 (c2 : Nat)] 5)).drew) (some ⟨wr.heap.size, 0, none⟩) 2 (fun j => if j = 0 then c1 else c2) from
        ⟨fun i => by show (if i = 0 then c1 else c2) < 256; split <;> assumption, fun _ => ⟨wr.heap.size, 0, rfl, by simp [World.drew], fun i hi => by
          show World.cell? (wr.alloc _) _ = _
          rw [World.cell?_alloc_new]
          rcases (by omega : i = 0 ∨ i = 1) with rfl | rfl <;> rfl⟩⟩)
      have HO2 := Lib.hid (show ((wr.alloc (.cells #[.int .u8 (c1 : Nat), .int .u8 (c2 : Nat)] 5)).drew).ownsRow _ _ _ _ _ _ from HO.out.alloc (.cells #[.int .u8 (c1 : Nat), .int .u8 (c2 : Nat)] 5))
      have HB2 := Lib.hid (HB.out.alloc HB.out.size (.cells #[.int .u8 (c1 : Nat), .int .u8 (c2 : Nat)] 5)).drew
      go_region_law (refine step_append_bys rfl (.tmp 11) (.tmp 18) rfl w.heap.size _ (2 * k) (bys (hexF h) (2 * k)) (by simp [Act.eval]) HO2.out (some ⟨wr.heap.size, 0, none⟩) 2 2 (fun j => if j = 0 then c1 else c2) (by simp [Act.eval]) hN.out (fun h => by cases h) (by omega) HB2.out.size ?_; intro v2 w2 hv2 hg2; have HV2 := Lib.hid hv2; have HG2 := Lib.hid hg2; clear hv2 hg2)
      all_goals
        go_wp2
        refine ⟨⟨k + 1, by omega, by simp, ?_, own_grown HO2.out HB2.out HG2.out HB2.out.size⟩, by simp [intOf]; omega⟩
        have h2 := HV2.out
        rw [HF.out] at h2
        exact h2
    · obtain rfl : k = 32 := by omega
      have p1 : ¬ ((32 : Nat) : Int) < 32 := by omega
      obtain ⟨g, cap, hv, _, _⟩ := HO.out.form (by omega)
      subst hv
      have hcv := run_convert_bytes_arg (P := Try.prog) wr 22 5 Try.underlying22 Try.underlying5 g 0 64 cap ((List.range 64).map fun i => (hexF h i : Int)) (by simp)
        (fun i hi => by rw [Nat.zero_add, HO.out.cellAt i (by omega), bys_get _ (by omega)]; simp [List.getD, hi]) 9 Try.underlying9
      have HCV : (convert 22 9 (.slice (some ⟨g, 0, none⟩) 64 cap)).run Try.prog wr = .ok (.string (txt (hexF h) 64)) wr := hcv
      clear hcv
      go_wp2
      go_ret
      exact ⟨rfl, HB.out⟩
end Go.Proofs.Ytjemgoifemdoeaa
