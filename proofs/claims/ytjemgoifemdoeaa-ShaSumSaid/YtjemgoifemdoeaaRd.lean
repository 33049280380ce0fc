/- The document's digits of sixteen: digit, Hex, walked. -/
import Derived.Test.YtjemgoifemdoeaaShaBack
import Derived.Test.YtjemgoifemdoeaaAP
namespace Go.Proofs.Ytjemgoifemdoeaa
open Go.RowKit

set_option maxRecDepth 100000 in
theorem rdigit_walk (c : Nat) (hc : c < 256) (w : World) : Calls Try.prog 72 #[.int .u8 (c : Nat)] w fun e w' => e = .returned (.int .i64 (dgI c)) ∧ w = w' := by
  by_cases h1 : 48 ≤ c ∧ c ≤ 57
  · have p1 : (48 : Int) ≤ c := by omega
    have p2 : (c : Int) ≤ 57 := by omega
    have H := Lib.hid (dgI_lo h1.1 h1.2)
    go_enter Try.func72, Try.ntmps72
    go_wp2
    go_ret
    exact ⟨ret_i H.out.symm, rfl⟩
  · by_cases h2 : 97 ≤ c ∧ c ≤ 102
    · have p1 : (48 : Int) ≤ c := by omega
      have p2 : ¬ (c : Int) ≤ 57 := by omega
      have p3 : (97 : Int) ≤ c := by omega
      have p4 : (c : Int) ≤ 102 := by omega
      have H := Lib.hid (dgI_hi h2.1 h2.2)
      clear h1
      go_enter Try.func72, Try.ntmps72
      go_wp2
      go_ret
      exact ⟨ret_i (by rw [H.out]; omega), rfl⟩
    · have H := Lib.hid (dgI_no h1 h2)
      by_cases p1 : (48 : Int) ≤ c
      · have p2 : ¬ (c : Int) ≤ 57 := by omega
        by_cases p3 : (97 : Int) ≤ c
        · have p4 : ¬ (c : Int) ≤ 102 := by omega
          clear h1 h2
          go_enter Try.func72, Try.ntmps72
          go_wp2
          go_ret
          exact ⟨ret_i H.out.symm, rfl⟩
        · clear h1 h2
          go_enter Try.func72, Try.ntmps72
          go_wp2
          go_ret
          exact ⟨ret_i H.out.symm, rfl⟩
      · have p3 : ¬ (97 : Int) ≤ c := by omega
        clear h1 h2
        go_enter Try.func72, Try.ntmps72
        go_wp2
        go_ret
        exact ⟨ret_i H.out.symm, rfl⟩
theorem txt_more (h : Nat → Nat) (k : Nat) {c1 c2 : Nat} (h1 : c1 = hexc (h k / 16)) (h2 : c2 = hexc (h k % 16)) : txt (hexF h) (2 * k) ++ strOfNums [(c1 : Int), (c2 : Int)] = txt (hexF h) (2 * (k + 1)) := by
  apply ByteArray.ext
  apply Array.ext'
  rw [ByteArray.data_append, Array.toList_append, txt_list, txt_list, strOfNums_data, show 2 * (k + 1) = 2 * k + 1 + 1 by omega, List.range_succ, List.range_succ, List.map_append, List.map_append, List.append_assoc]
  congr 1
  have e1 : hexF h (2 * k) = c1 := by unfold hexF; rw [if_pos (by omega), show 2 * k / 2 = k by omega, h1]
  have e2 : hexF h (2 * k + 1) = c2 := by unfold hexF; rw [if_neg (by omega), show (2 * k + 1) / 2 = k by omega, h2]
  simp [e1, e2]
set_option maxRecDepth 100000 in
set_option maxHeartbeats 1000000 in
theorem rhex_walk (h : Nat → Nat) (hh : ∀ i, h i < 256) (w : World) : Calls Try.prog 21 #[.agg (bys h 32).toArray] w fun e w' => e = .returned (.string (txt (hexF h) 64)) ∧ Below w.heap.size w w' := by
  have HI := Lib.hid (fun (k : Nat) (hk : k < 32) (w : World) => idx32 h hk w)
  obtain ⟨cs, ecs⟩ : ∃ cs, cs = (bys h 32).toArray := ⟨_, rfl⟩
  have hsz : cs.size = 32 := by rw [ecs, List.size_toArray, bys_length]
  have Hi := Lib.hid (show (Try.prog.info? 25).map (·.size) = some cs.size by rw [hsz]; exact h32_info)
  rw [← ecs] at HI ⊢
  have HH := Lib.hid hh
  clear ecs hh hsz
  go_enter Try.func21, Try.ntmps21
  go_upto_region 2 with fail
  refine wp_region_lit (wpList_load_row rfl 25 (.tmp 1) rfl w.heap.size rfl _ cs (0, 0) _ (heap_alloc_new _ _) Try.underlying25 rfl Hi.out ?_)
  go_wp2
  go_loopw [3, 7] (fun v i wr => ∃ k : Nat, k ≤ 32 ∧ i = .int .i64 (k : Nat) ∧ v = .string (txt (hexF h) (2 * k)) ∧ Below w.heap.size w wr) (fun _ i _ => 32 - (intOf i).toNat)
  case atStart => exact ⟨0, by omega, rfl, rfl, (Below.refl _ _).alloc (Nat.le_refl _) _⟩
  case round =>
    obtain ⟨k, hk, rfl, rfl, hb⟩ := hrel
    have HB := Lib.hid hb
    clear hb
    by_cases hlt : k < 32
    · have p1 : (k : Int) < 32 := by omega
      have hix := HI.out k hlt
      obtain ⟨x, ex⟩ : ∃ x, x = h k := ⟨_, rfl⟩
      rw [← ex] at hix
      have hx : x < 256 := by rw [ex]; exact HH.out k
      obtain ⟨a, ea⟩ : ∃ a, a = x / 16 := ⟨_, rfl⟩
      obtain ⟨b, eb⟩ : ∃ b, b = x % 16 := ⟨_, rfl⟩
      have v1 : (x : Int) / 16 = (a : Int) := by omega
      have v2 : (x : Int) % 16 = (b : Int) := by omega
      have v3 : IntKind.u8.wrap (a : Int) = (a : Int) := by rw [IntKind.wrap_u8]; omega
      have v4 : IntKind.u8.wrap (b : Int) = (b : Int) := by rw [IntKind.wrap_u8]; omega
      have v5 : (x : Int).tmod 16 = (b : Int) := by rw [Int.tmod_eq_emod_of_nonneg (by omega)]; exact v2
      have v6 : (x : Int).tdiv 16 = (a : Int) := by rw [Int.tdiv_eq_ediv_of_nonneg (by omega)]; exact v1
      have r1 := hx_run (v := a) (by omega)
      have r2 := hx_run (v := b) (by omega)
      obtain ⟨c1, ec1⟩ : ∃ c1, c1 = hexc a := ⟨_, rfl⟩
      obtain ⟨c2, ec2⟩ : ∃ c2, c2 = hexc b := ⟨_, rfl⟩
      rw [← ec1] at r1
      rw [← ec2] at r2
      have HF := Lib.hid (txt_more h k (c1 := c1) (c2 := c2) (by rw [ec1, ea, ex]) (by rw [ec2, eb, ex]))
      obtain ⟨tx, etx⟩ : ∃ tx, tx = txt (hexF h) (2 * k) := ⟨_, rfl⟩
      rw [← etx] at HF ⊢
      have hsx : tx.size = 2 * k := by rw [etx, txt_size]
      obtain ⟨ts, ets⟩ : ∃ ts, ts = strOfNums [(c1 : Int), (c2 : Int)] := ⟨_, rfl⟩
      have hss : ts.size = 2 := by rw [ets, strOfNums_size]; rfl
      have z1 : ¬ 9223372036854775807 < tx.size + ts.size := by rw [hsx, hss]; omega
      have hcv : ∀ W : World, W.cell? ⟨wr.heap.size, 0, none⟩ = some (.int .u8 (c1 : Nat)) → W.cell? ⟨wr.heap.size, 1, none⟩ = some (.int .u8 (c2 : Nat)) → (convert 22 9 (.slice (some ⟨wr.heap.size, 0, none⟩) 2 2)).run Try.prog W = .ok (.string ts) W := fun W q1 q2 => by
        rw [ets]
        exact run_convert_bytes_arg (P := Try.prog) W 22 5 Try.underlying22 Try.underlying5 wr.heap.size 0 2 2 [(c1 : Int), (c2 : Int)] rfl
          (fun i hi => by rcases (by omega : i = 0 ∨ i = 1) with rfl | rfl; exact q1; exact q2) 9 Try.underlying9
      have hcw := hcv ((wr.alloc (.cells #[.int .u8 (c1 : Nat), .int .u8 (c2 : Nat)] 5)).drew) (by show World.cell? (wr.alloc _) _ = _; rw [World.cell?_alloc_new]; rfl) (by show World.cell? (wr.alloc _) _ = _; rw [World.cell?_alloc_new]; rfl)
      rw [← ets] at HF
      clear ea eb ec1 ec2 ex hcv etx ets hsx hss
      go_upto_region 5 with fail
      go_region
      all_goals
        go_wp2
        refine ⟨⟨k + 1, by omega, by simp, by rw [HF.out], (HB.out.alloc HB.out.size _).drew⟩, by simp [intOf]; omega⟩
    · obtain rfl : k = 32 := by omega
      have p1 : ¬ ((32 : Nat) : Int) < 32 := by omega
      go_wp2
      go_ret
      exact ⟨rfl, HB.out⟩
end Go.Proofs.Ytjemgoifemdoeaa
