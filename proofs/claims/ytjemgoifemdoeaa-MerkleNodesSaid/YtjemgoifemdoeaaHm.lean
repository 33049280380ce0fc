/- A state's close, walked. -/
import Derived.Test.YtjemgoifemdoeaaHl
import Derived.Laws.Tables
import Derived.Laws.CopyOwn
namespace Go.Proofs.Ytjemgoifemdoeaa
open Go.RowKit

/-- the end's bytes, the first j of the length's written -/
def endF (z D j p : Nat) : Nat := if p = 0 then 128 else if 1 + z ≤ p ∧ p < 1 + z + j then D >>> (56 - 8 * (p - 1 - z)) % 256 else 0
theorem endF_lt (z D j p : Nat) : endF z D j p < 256 := by
  unfold endF; split
  · decide
  · split
    · exact Nat.mod_lt _ (by decide)
    · decide
theorem endF_put (z D : Nat) {j x : Nat} (hx : x = D >>> (56 - 8 * j) % 256) : upd (endF z D j) (1 + z + j) x = endF z D (j + 1) := by
  funext p
  unfold upd endF
  by_cases h : p = 1 + z + j
  · subst h
    rw [if_pos rfl, if_neg (by omega), if_pos (by omega), hx]
    congr 3; omega
  · rw [if_neg h]
    by_cases h0 : p = 0
    · rw [if_pos h0, if_pos h0]
    · rw [if_neg h0, if_neg h0]
      by_cases h1 : 1 + z ≤ p ∧ p < 1 + z + j
      · rw [if_pos h1, if_pos (by omega)]
      · rw [if_neg h1, if_neg (by omega)]
theorem endF_pad (L : Nat) (g : Nat → Nat) {i : Nat} (hi : i < padLen L) : cat g L (endF ((119 - L % 64) % 64) (L * 8) 8) i = padB L g i := by
  unfold cat padB endF
  by_cases h : i < L
  · rw [if_pos h, if_pos h]
  · rw [if_neg h, if_neg h]
    by_cases h0 : i = L
    · rw [if_pos (by omega), if_pos h0]
    · rw [if_neg (by omega), if_neg h0]
      unfold padLen at hi ⊢
      by_cases h1 : i < L + 9 + (119 - L % 64) % 64 - 8
      · rw [if_neg (by omega), if_pos h1]
      · rw [if_neg h1, if_pos (by omega)]
        congr 3; omega
def upTo8 (F : Nat → Nat) (k i : Nat) : Nat := if i < k then F i else 0
theorem upTo8_put (F : Nat → Nat) (k : Nat) : upd (upTo8 F k) k (F k) = upTo8 F (k + 1) := by
  funext i
  unfold upd upTo8
  by_cases h : i = k
  · subst h; simp
  · rw [if_neg h]
    by_cases h2 : i < k
    · rw [if_pos h2, if_pos (by omega)]
    · rw [if_neg h2, if_neg (by omega)]
theorem bys_set (g : Nat → Nat) {n j : Nat} (x : Nat) (hj : j < n) : (bys g n).toArray.setIfInBounds j (.int .u8 (x : Nat)) = (bys (upd g j x) n).toArray := vals_set .u8 g x hj
theorem bys_all (g : Nat → Nat) (n : Nat) : (bys g n).toArray.all (·.oneCell') = true := vals_all .u8 g n
theorem end_run (E h : Nat) (hh : h ≤ 72) (w : World) : (Instr.sliceAt 108 (.pointer (some ⟨E, 0, none⟩)) none (some (.int .i64 (h : Nat))) none).run Try.prog w = .ok (.slice (some ⟨E, 0, none⟩) h 72) w := by
  have hu : Try.prog.underlying 108 = some (.array (Try.prog.arrayLen 108) (Try.prog.elem 108)) := by kernel_rfl
  have hl : Try.prog.arrayLen 108 = 72 := by kernel_rfl
  have he : Try.prog.elem 108 = 5 := by kernel_rfl
  rw [run_sliceAt_array_h w _ _ hu _ _ (by omega) (by rw [hl]; omega), he, hl, Try.sizeOf5]
  simp only [Result.andThen_ok, slicedAt]
  rw [if_neg (by omega), add_off, Int.toNat_natCast]
  rfl
def h32 : Array Value := (bys (fun _ => 0) 32).toArray
theorem h32_info : (Try.prog.info? 25).map (·.size) = some 32 := by kernel_rfl
theorem end0 (z D : Nat) : Try.zeroCells108.setIfInBounds 0 (.int .u8 128) = (bys (endF z D 0) 72).toArray := by
  rw [bys_congr (f := endF z D 0) (g := fun p => if p = 0 then 128 else 0) fun i _ => by unfold endF; rw [if_neg (c := 1 + z ≤ i ∧ i < 1 + z + 0) (by omega)]]
  kernel_rfl
set_option maxRecDepth 100000 in
set_option maxHeartbeats 4000000 in
theorem close_walk (w : World) (sp kp L : Nat) (g : Nat → Nat) (hs : StAt w sp g L) (hLm : L ≤ 1152921504606846976) (hk : Arr .u32 w kp 64 cubeK) (hkp : kp < w.heap.size) (hks : kp ≠ sp) :
    Calls Try.prog 55 #[.pointer (some ⟨sp, 0, none⟩), .pointer (some ⟨kp, 0, none⟩)] w fun e w' => e = .returned (.agg (bys (shaF L g) 32).toArray) ∧ Only sp w w' := by
  obtain ⟨blk, hr, hbl, hbe⟩ := hs.ex
  have y0 : w.cell? ⟨sp, 73, none⟩ = some (.int .i64 (L : Nat)) := (row_cell hr).trans (stC_len _ _ _ _)
  have hsp := row_lt hr
  obtain ⟨r, er⟩ : ∃ r, r = L % 64 := ⟨_, rfl⟩
  have e1 : (L : Int) % 64 = (r : Int) := by omega
  obtain ⟨z, ez⟩ : ∃ z, z = (119 - r) % 64 := ⟨_, rfl⟩
  have e2 : (119 - (r : Int)) % 64 = (z : Int) := by omega
  have hr64 : r < 64 := by omega
  have hz64 : z < 64 := by omega
  obtain ⟨D, eD⟩ : ∃ D, D = L * 8 := ⟨_, rfl⟩
  have hD : D < 18446744073709551616 := by omega
  have e3 : IntKind.u64.wrap ((L : Int) * 8) = (D : Int) := by rw [IntKind.wrap_u64]; omega
  have HS := Lib.hid hs
  have HER := Lib.hid er
  have HEZ := Lib.hid ez
  have HED := Lib.hid eD
  have HK := Lib.hid hk
  clear hr hbl hbe er ez eD hs hk
  go_enter Try.func55, Try.ntmps55
  go_wp2
  go_loopw [25] (fun i wr => ∃ j : Nat, j ≤ 8 ∧ i = .int .i64 (j : Nat) ∧ wr.heap[w.heap.size + 1]? = some (.cells (bys (endF z D j) 72).toArray 108 (0, 0)) ∧ wr.heap[w.heap.size]? = some (.cells h32 25 (0, 0)) ∧ Below w.heap.size w wr) (fun i _ => 8 - (intOf i).toNat)
  case atStart =>
    refine ⟨0, by omega, rfl, ?_, ?_, ((Below.refl _ _).alloc (Nat.le_refl _) _).alloc (by simp) _⟩
    · rw [← end0]; exact heap_alloc2_new _ _ _
    · exact (heap_alloc_old _ _ (by simp)).trans ((heap_alloc_new _ _).trans (by kernel_rfl))
  case round =>
    obtain ⟨j, hj, rfl, h1, h2, hb⟩ := hrel
    have H1 := Lib.hid h1
    have H2 := Lib.hid h2
    have HB := Lib.hid hb
    by_cases hlt : j < 8
    · have p1 : (j : Int) < 8 := by omega
      have c1 : wr.cell? ⟨w.heap.size + 1, 1 + z + j, none⟩ = some (.int .u8 (endF z D j (1 + z + j) : Nat)) := (row_cell h1).trans (by rw [List.getElem?_toArray]; exact bys_get _ (by omega))
      have f1 : wr.frozen? ⟨w.heap.size + 1, 1 + z + j, none⟩ = false := row_free h1
      obtain ⟨sh, esh⟩ : ∃ sh, sh = 56 - 8 * j := ⟨_, rfl⟩
      have hsh : sh ≤ 56 := by omega
      have v0 : 56 - 8 * (j : Int) = (sh : Int) := by omega
      obtain ⟨y, ey⟩ : ∃ y, y = D >>> sh := ⟨_, rfl⟩
      have v1 : (D : Int) / 2 ^ sh = (y : Int) := by rw [ey]; exact shr_run D sh
      obtain ⟨x, ex⟩ : ∃ x, x = y % 256 := ⟨_, rfl⟩
      have v2 : (y : Int) % 256 = (x : Int) := by omega
      have v3 : IntKind.u8.wrap (y : Int) = (x : Int) := by rw [IntKind.wrap_u8]; omega
      have HX := Lib.hid (show x = D >>> (56 - 8 * j) % 256 by rw [ex, ey, esh])
      clear h1 h2 hb esh ey ex
      go_wp2
      refine ⟨⟨j + 1, by omega, by simp, ?_, ?_, HB.out.setCell (by show w.heap.size ≤ w.heap.size + 1; omega) _⟩, by simp [intOf]; omega⟩
      · rw [row_set H1.out, bys_set _ _ (by omega), endF_put z D HX.out]
      · rw [row_far (by omega)]; exact H2.out
    · obtain rfl : j = 8 := by omega
      have p1 : ¬ ((8 : Nat) : Int) < 8 := by omega
      have hst : StAt wr sp g L := by
        obtain ⟨b, hb1, hb2, hb3⟩ := HS.out.ex
        exact ⟨b, (hb.block sp hsp).trans hb1, hb2, hb3⟩
      have hpl : L + (z + 9) = padLen L := by rw [HEZ.out, HER.out]; unfold padLen; omega
      have hendrun : ∀ v, (Instr.sliceAt 108 (.pointer (some ⟨w.heap.size + 1, 0, none⟩)) none (some (.int .i64 (1 + (z : Int) + 8))) none).run Try.prog v = .ok (.slice (some ⟨w.heap.size + 1, 0, none⟩) (z + 9) 72) v := by
        have h := end_run (w.heap.size + 1) (z + 9) (by omega)
        rw [show ((z + 9 : Nat) : Int) = 1 + (z : Int) + 8 by omega] at h
        exact h
      have HW := Lib.hid (write_walk wr sp kp L (z + 9) 72 (some ⟨w.heap.size + 1, 0, none⟩) (endF z D 8) g
        ⟨endF_lt z D 8, fun _ => ⟨_, 0, rfl, row_lt h1, fun i hi => by rw [Nat.zero_add]; exact (row_cell h1).trans (by rw [List.getElem?_toArray]; exact bys_get _ (by omega))⟩⟩ (by omega) (by omega)
        (fun _ a ha => by cases ha; show w.heap.size + 1 ≠ sp; omega) hst (by omega) (fun _ => HK.out.below hb hkp) (Nat.lt_of_lt_of_le hkp hb.size) hks)
      rw [hpl] at HW
      have HG := Lib.hid (show hashN (cat g L (endF z D 8)) (padLen L / 64) = hashN (padB L g) (padLen L / 64) from hashN_congr _ fun i hi => by
        rw [HEZ.out, HER.out, HED.out]; exact endF_pad L g (by have := padLen_mod L; omega))
      clear h1 h2 hb hst hpl
      go_wp2_with (go_at_call 54; (with_reducible refine HW.out.mono ?_); rintro e w4 ⟨rfl, hs4, ho4⟩)
      obtain ⟨bl4, hr4, hb4, _⟩ := hs4.ex
      rw [HG.out] at hr4
      have hle4 : w.heap.size < w4.heap.size := Nat.lt_of_lt_of_le (row_lt H2.out) ho4.size
      have hz4 : w4.heap[w.heap.size]? = some (.cells h32 25 (0, 0)) := (ho4.row _ (row_lt H2.out) (by omega)).trans H2.out
      have HR4 := Lib.hid hr4
      have HZ4 := Lib.hid hz4
      have HO4 := Lib.hid ((Only.of_below (sp := sp) HB.out).trans ho4)
      obtain ⟨F, eF⟩ : ∃ F, F = shaF L g := ⟨_, rfl⟩
      obtain ⟨hN, ehN⟩ : ∃ hN, hN = hashN (padB L g) (padLen L / 64) := ⟨_, rfl⟩
      have hF : ∀ k, F k = hN (k / 4) >>> (24 - k % 4 * 8) % 256 := fun k => by rw [eF, ehN]; rfl
      have hNl : ∀ k, hN k < 2 ^ 32 := fun k => by rw [ehN]; exact hashN_lt _ _ _
      rw [← ehN] at HR4
      have HFF := Lib.hid hF
      have HNl := Lib.hid hNl
      have HEF := Lib.hid eF
      have hsp4 : sp < w4.heap.size := row_lt hr4
      clear hs4 ho4 hr4 hb4 hz4 hF hNl eF ehN
      go_wp2
      go_loopw [47] (fun i wz => ∃ k : Nat, k ≤ 32 ∧ i = .int .i64 (k : Nat) ∧ wz.heap[w4.heap.size]? = some (.cells (bys (upTo8 F k) 32).toArray 25 (0, 0)) ∧ Below w4.heap.size w4 wz) (fun i _ => 32 - (intOf i).toNat)
      case atStart =>
        refine ⟨0, by omega, rfl, ?_, (Below.refl _ _).alloc (Nat.le_refl _) _⟩
        exact (heap_alloc_new _ _).trans (by kernel_rfl)
      case round =>
        obtain ⟨k, hk, rfl, h1, hb⟩ := hrel
        have K1 := Lib.hid h1
        have KB := Lib.hid hb
        by_cases hlt : k < 32
        · have p1' : (k : Int) < 32 := by omega
          obtain ⟨d, ed⟩ : ∃ d, d = k / 4 := ⟨_, rfl⟩
          obtain ⟨q, eq⟩ : ∃ q, q = k % 4 := ⟨_, rfl⟩
          have hd8 : d < 8 := by omega
          have hq4 : q < 4 := by omega
          have v1 : (k : Int) / 4 = (d : Int) := by omega
          have v2 : (k : Int) % 4 = (q : Int) := by omega
          obtain ⟨sh, esh⟩ : ∃ sh, sh = 24 - q * 8 := ⟨_, rfl⟩
          have hsh : sh ≤ 24 := by omega
          have v3 : 24 - (q : Int) * 8 = (sh : Int) := by omega
          obtain ⟨x, ex⟩ : ∃ x, x = hN d := ⟨_, rfl⟩
          have c1 : wr.cell? ⟨sp, 1 + d, none⟩ = some (.int .u32 (x : Nat)) := by rw [ex]; exact (hb.cell (p := ⟨sp, 1 + d, none⟩) hsp4).trans ((row_cell HR4.out).trans (stC_word _ _ _ _ hd8))
          have c2 : wr.cell? ⟨w4.heap.size, k, none⟩ = some (.int .u8 (upTo8 F k k : Nat)) := (row_cell h1).trans (by rw [List.getElem?_toArray]; exact bys_get _ hlt)
          have f2 : wr.frozen? ⟨w4.heap.size, k, none⟩ = false := row_free h1
          have hx : x < 2 ^ 32 := by rw [ex]; exact HNl.out d
          obtain ⟨y, ey⟩ : ∃ y, y = x >>> sh := ⟨_, rfl⟩
          have v4 : (x : Int) / 2 ^ sh = (y : Int) := by rw [ey]; exact shr_run x sh
          obtain ⟨u, eu⟩ : ∃ u, u = y % 256 := ⟨_, rfl⟩
          have v5 : (y : Int) % 256 = (u : Int) := by omega
          have v6 : IntKind.u8.wrap (y : Int) = (u : Int) := by rw [IntKind.wrap_u8]; omega
          have HU := Lib.hid (show u = F k by rw [HFF.out, eu, ey, ex, esh, ed, eq])
          clear h1 hb ed eq esh ex ey eu
          go_wp2
          refine ⟨⟨k + 1, by omega, by simp, ?_, KB.out.setCell (Nat.le_refl _) _⟩, by simp [intOf]; omega⟩
          rw [row_set K1.out, bys_set _ _ hlt, HU.out, upTo8_put]
        · obtain rfl : k = 32 := by omega
          have p1' : ¬ ((32 : Nat) : Int) < 32 := by omega
          obtain ⟨cz, hcz⟩ : ∃ cs, cs = (bys F 32).toArray := ⟨_, rfl⟩
          have hr : wr.heap[w4.heap.size]? = some (.cells cz 25 (0, 0)) := by
            rw [hcz, show bys F 32 = bys (upTo8 F 32) 32 from bys_congr fun i hi => by unfold upTo8; rw [if_pos hi]]; exact h1
          have hr0 : wr.heap[w.heap.size]? = some (.cells h32 25 (0, 0)) := (hb.block _ hle4).trans HZ4.out
          have hsz : cz.size = 32 := by rw [hcz, List.size_toArray, bys_length]
          have R1 := Lib.hid hr
          have R0 := Lib.hid hr0
          have Hi := Lib.hid (show (Try.prog.info? 25).map (·.size) = some cz.size by rw [hsz]; exact h32_info)
          have Hsz := Lib.hid (show h32.size = cz.size by rw [hsz]; rfl)
          have Hone := Lib.hid (show cz.all (·.oneCell') = true by rw [hcz]; exact bys_all _ _)
          have Hcs := Lib.hid hcz
          clear hr hr0 hcz hsz h1 hb K1
          go_upto_region 17 with fail
          refine wp_region_lit (wpList_load_row rfl 25 (.tmp 9) rfl w4.heap.size rfl _ cz (0, 0) _ R1.out Try.underlying25 rfl Hi.out ?_)
          refine wpList_store_row rfl 25 (.tmp 4) (.tmp 66) rfl w.heap.size cz rfl rfl _ h32 R0.out Hi.out Hsz.out Hone.out ?_
          refine wpList_nil ?_
          go_wp2
          refine bodyPost_ret (v := .agg cz) (results_cell_row rfl _ _ w.heap.size 25 cz (0, 0) _ rfl (setRow_heap _ _ h32 _ _ _ R0.out) Try.underlying25 rfl Hi.out) rfl ?_
          refine ⟨by rw [Hcs.out, HEF.out], ?_⟩
          have ho := HO4.out.trans (Only.of_below (sp := sp) KB.out)
          exact ⟨ho.os, ho.tape, ho.output, by simpa using ho.size, fun k hk hn => (setRow_other _ _ _ _ (by omega)).trans (ho.row k hk hn)⟩
end Go.Proofs.Ytjemgoifemdoeaa
