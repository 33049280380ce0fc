/- A state's write, walked. -/
import Derived.Test.YtjemgoifemdoeaaHk
import Derived.Test.YtjemgoifemdoeaaHh
import Derived.Lib.SlBuf
import Derived.Laws.CopyRow
import Derived.Laws.IdiomCopy
namespace Go.Proofs.Ytjemgoifemdoeaa
open Go.RowKit

theorem byte_info : (Try.prog.info? 5).map (·.size) = some 1 := by kernel_rfl
/-- bytes copied into what waits -/
theorem copy_wait {W : World} {sp r n c : Nat} {A : Option Addr} {f h blk : Nat → Nat} {b x : Value} {t ty : TypeId} (hl : Sl W A n f) (hg : W.heap[sp]? = some (.cells (stC b h blk x).toArray t (0, 0))) (hr : r < 64) :
    (Builtin.copy_ #[22, 22] ty #[.slice (some ⟨sp, 9 + r, none⟩) (64 - r) (64 - r), .slice A n c]).run Try.prog W = .ok (goInt (Nat.min n (64 - r))) (W.setRow sp (stC b h (splF blk f r (Nat.min n (64 - r))) x).toArray) := by
  obtain ⟨m, hm⟩ : ∃ m, m = Nat.min n (64 - r) := ⟨_, rfl⟩
  rw [← hm]
  by_cases h0 : m = 0
  · rw [h0, splF_zero, setRow_self W sp _ _ _ hg]
    exact run_copy_none W _ _ _ 5 _ _ _ _ _ _ Try.underlying22 byte_info (by omega)
  · have hmn : m ≤ n := by rw [hm]; exact Nat.min_le_left _ _
    have hmr : m ≤ 64 - r := by rw [hm]; exact Nat.min_le_right _ _
    obtain ⟨g, o, rfl, _⟩ := hl.at_ (by omega)
    have e := run_copy_row (P := Try.prog) W 22 22 ty 5 sp (9 + r) (64 - r) (64 - r) ⟨g, o, none⟩ n c _ t (bys f m) Try.underlying22 byte_info hg (by rw [bys_length]; exact hm)
      (fun j u hj => hl.news j u (by
        have hjm : j < m := by have := (List.getElem?_eq_some_iff.1 hj).1; simpa [bys_length] using this
        rw [bys_get _ hjm] at hj
        rw [bys_get _ (by omega)]; exact hj)) (by rw [bys_length, List.size_toArray, stC_length]; omega) (bys_one _ _)
    rw [e, bys_length, stC_spl b h blk f x (by omega)]
theorem blk_len : Try.prog.arrayLen 41 = 64 := by kernel_rfl
theorem blk_elem : Try.prog.elem 41 = 5 := by kernel_rfl
theorem blk_under : Try.prog.underlying 41 = some (.array (Try.prog.arrayLen 41) (Try.prog.elem 41)) := by kernel_rfl
theorem wait_run (sp r : Nat) (hr : r < 64) (w : World) : (Instr.sliceAt 41 (.pointer (some ⟨sp, 9, none⟩)) (some (.int .i64 (r : Nat))) none none).run Try.prog w = .ok (.slice (some ⟨sp, 9 + r, none⟩) (64 - r) (64 - r)) w := by
  rw [run_sliceAt_array_l w _ _ blk_under _ _ (by omega) (by rw [blk_len]; omega), blk_elem, blk_len, Try.sizeOf5]
  simp only [Result.andThen_ok, slicedAt]
  rw [if_neg (by omega), add_off, Int.toNat_natCast, Nat.mul_one]
theorem all_run (sp o : Nat) (w : World) : (Instr.sliceAt 41 (.pointer (some ⟨sp, o, none⟩)) none none none).run Try.prog w = .ok (.slice (some ⟨sp, o, none⟩) 64 64) w := by
  rw [run_sliceAt_array_all w _ _ blk_under, blk_elem, blk_len, Try.sizeOf5]
  simp only [Result.andThen_ok, slicedAt]
  rw [if_neg (by omega), add_off]
  rfl
theorem cut_run {A : Option Addr} {n c k : Nat} (h : k ≤ n) (w : World) : (Instr.sliceAt 22 (.slice A n c) (some (.int .i64 (k : Nat))) none none).run Try.prog w = .ok (.slice (cutA A c k) (n - k) (c - k)) w := by
  have hu : Try.prog.underlying 22 = some (.slice (Try.prog.elem 22)) := by kernel_rfl
  have he : Try.prog.elem 22 = 5 := by kernel_rfl
  rw [run_sliceAt_slice w _ _ _ _ _ hu, run_slice_l w _ _ _ _ hu _ _ (by omega) (by omega), he, Try.sizeOf5]
  simp only [Result.andThen_ok, sliced, Int.toNat_natCast, Nat.mul_one, cutA]
/-- a state that was made: g's first L bytes were written -/
structure StAt (w : World) (sp : Nat) (g : Nat → Nat) (L : Nat) : Prop where
  ex : ∃ blk : Nat → Nat, w.heap[sp]? = some (.cells (stC (.bool true) (hashN g (L / 64)) blk (.int .i64 (L : Nat))).toArray 43 (0, 0)) ∧ (∀ i, blk i < 256) ∧ ∀ i, i < L % 64 → blk i = g (64 * (L / 64) + i)
theorem write_short {w : World} {sp L n : Nat} {g f blk : Nat → Nat} (hg : w.heap[sp]? = some (.cells (stC (.bool true) (hashN g (L / 64)) (splF blk f (L % 64) n) (.int .i64 ((L + n : Nat) : Int))).toArray 43 (0, 0)))
    (hs : L % 64 + n < 64) (hb : ∀ i, blk i < 256) (hf : ∀ i, f i < 256) (he : ∀ i, i < L % 64 → blk i = g (64 * (L / 64) + i)) : StAt w sp (cat g L f) (L + n) := by
  have d1 : (L + n) / 64 = L / 64 := by omega
  have d2 : (L + n) % 64 = L % 64 + n := by omega
  refine ⟨_, ?_, splF_lt hb hf (L % 64) n, fun i hi => ?_⟩
  · rw [d1, hg, hashN_congr (g := cat g L f) (g' := g) (L / 64) fun i hi => if_pos (by omega)]
  · rw [d1]
    unfold splF cat
    by_cases h : i < L % 64
    · rw [if_neg (by omega), if_pos (by omega), he i h]
    · rw [if_pos (by omega), if_neg (by omega)]
      congr 1; omega
theorem head_run {A : Option Addr} {n c : Nat} (hn : n ≤ c) (h : 64 ≤ n) (w : World) : (Instr.sliceAt 22 (.slice A n c) none (some (.int .i64 64)) none).run Try.prog w = .ok (.slice A 64 c) w := by
  have hu : Try.prog.underlying 22 = some (.slice (Try.prog.elem 22)) := by kernel_rfl
  have he : Try.prog.elem 22 = 5 := by kernel_rfl
  rw [run_sliceAt_slice w _ _ _ _ _ hu, run_slice_h w _ _ _ _ hu _ _ (by omega) (by omega), he, Try.sizeOf5]
  simp only [Result.andThen_ok, sliced, Nat.zero_mul, Nat.sub_zero]
  rw [if_neg (by omega)]
  cases A with
  | none => rfl
  | some a => rw [Option.map_some, show a.add 0 = a by simp [Addr.add]]; rfl
theorem Sl.head {w : World} {A : Option Addr} {n : Nat} {f : Nat → Nat} (h : Sl w A n f) {m : Nat} (hm : m ≤ n) : Sl w A m f := by
  refine ⟨h.small, fun h0 => ?_⟩
  obtain ⟨g, o, e, hg, hc⟩ := h.at_ (by omega)
  exact ⟨g, o, e, hg, fun i hi => hc i (by omega)⟩
theorem copy_all {W : World} {sp n c : Nat} {A : Option Addr} {f h blk : Nat → Nat} {b x : Value} {t ty : TypeId} (hl : Sl W A n f) (hg : W.heap[sp]? = some (.cells (stC b h blk x).toArray t (0, 0))) (hn : n < 64) :
    (Builtin.copy_ #[22, 22] ty #[.slice (some ⟨sp, 9, none⟩) 64 64, .slice A n c]).run Try.prog W = .ok (.int .i64 (n : Nat)) (W.setRow sp (stC b h (splF blk f 0 n) x).toArray) := by
  have e := copy_wait (W := W) (sp := sp) (r := 0) (n := n) (c := c) (A := A) (ty := ty) hl hg (by omega)
  rw [show Nat.min n (64 - 0) = n from Nat.min_eq_left (by omega)] at e
  exact e
/-- what the loop over whole blocks holds -/
structure WrAt (w wr : World) (sp q m n c k : Nat) (f G blk : Nat → Nat) (x : Value) (A : Option Addr) : Prop where
  le : 64 * k ≤ n - m
  sl : Sl wr A (n - m - 64 * k) (fun i => f (m + 64 * k + i))
  ap : 0 < n - m - 64 * k → ∀ a, A = some a → a.block ≠ sp
  row : wr.heap[sp]? = some (.cells (stC (.bool true) (hashN G (q + 1 + k)) blk x).toArray 43 (0, 0))
  only : Only sp w wr
set_option maxRecDepth 100000 in
set_option maxHeartbeats 4000000 in
theorem write_walk (w : World) (sp kp L n c : Nat) (A : Option Addr) (f g : Nat → Nat) (hl : Sl w A n f) (hnc : n ≤ c) (hcm : c ≤ 9223372036854775807) (hap : 0 < n → ∀ a, A = some a → a.block ≠ sp) (hs : StAt w sp g L) (hLn : L + n ≤ 4611686018427387904)
    (hk : 64 ≤ L % 64 + n → Arr .u32 w kp 64 cubeK) (hkp : kp < w.heap.size) (hks : kp ≠ sp) :
    Calls Try.prog 54 #[.pointer (some ⟨sp, 0, none⟩), .slice A n c, .pointer (some ⟨kp, 0, none⟩)] w fun e w' => e = .returned (.tuple #[]) ∧ StAt w' sp (cat g L f) (L + n) ∧ Only sp w w' := by
  obtain ⟨blk, hr, hbl, hbe⟩ := hs.ex
  have y0 : w.cell? ⟨sp, 73, none⟩ = some (.int .i64 (L : Nat)) := (row_cell hr).trans (stC_len _ _ _ _)
  have z0 : w.frozen? ⟨sp, 73, none⟩ = false := row_free hr
  obtain ⟨r, er⟩ : ∃ r, r = L % 64 := ⟨_, rfl⟩
  have e1 : (L : Int) % 64 = (r : Int) := by omega
  have hr64 : r < 64 := by omega
  have hsl := fun w => wait_run sp r hr64 w
  obtain ⟨x, ex⟩ : ∃ x : Value, x = .int .i64 ((L : Int) + n) := ⟨_, rfl⟩
  have g1 : (w.setCell ⟨sp, 73, none⟩ (.int .i64 ((L : Int) + n))).heap[sp]? = some (.cells (stC (.bool true) (hashN g (L / 64)) blk (.int .i64 ((L : Int) + n))).toArray 43 (0, 0)) := by
    rw [row_set hr, stC_setLen]
  have o1 : Only sp w (w.setCell ⟨sp, 73, none⟩ (.int .i64 ((L : Int) + n))) := (Only.refl sp w).setCell _
  have hcp := copy_wait (c := c) (ty := 3) (hl.only o1 hap) g1 hr64
  obtain ⟨W2, eW2⟩ : ∃ W2, W2 = (w.setCell ⟨sp, 73, none⟩ (.int .i64 ((L : Int) + n))).setRow sp (stC (.bool true) (hashN g (L / 64)) (splF blk f r (Nat.min n (64 - r))) (.int .i64 ((L : Int) + n))).toArray := ⟨_, rfl⟩
  have g2 : W2.heap[sp]? = some (.cells (stC (.bool true) (hashN g (L / 64)) (splF blk f r (Nat.min n (64 - r))) x).toArray 43 (0, 0)) := by
    rw [eW2, ex]; exact setRow_heap _ _ _ _ _ _ g1
  have o2 : Only sp w W2 := by rw [eW2]; exact o1.setRow _
  rw [← eW2] at hcp
  clear eW2 g1 o1
  by_cases hsh : r + n < 64
  · rw [show Nat.min n (64 - r) = n from Nat.min_eq_left (by omega)] at hcp g2
    have hcp' : (Builtin.copy_ #[22, 22] 3 #[.slice (some ⟨sp, 9 + r, none⟩) (64 - r) (64 - r), .slice A n c]).run Try.prog (w.setCell ⟨sp, 73, none⟩ (.int .i64 ((L : Int) + n))) = .ok (.int .i64 (n : Nat)) W2 := hcp
    have p1 : (r : Int) + n < 64 := by omega
    have HP := Lib.hid (show StAt W2 sp (cat g L f) (L + n) from write_short (by rw [← er, g2, ex]; rfl) (by omega) hbl hl.small hbe)
    have HO := Lib.hid o2
    clear hcp g2 hl hbe hbl er hap hk ex hs hr o2
    go_enter Try.func54, Try.ntmps54
    go_wp2
    refine bodyPost_ret (results_none rfl _ _ _) rfl ?_
    exact ⟨rfl, HP.out, HO.out⟩
  · obtain ⟨m, em⟩ : ∃ m, m = 64 - r := ⟨_, rfl⟩
    rw [show Nat.min n (64 - r) = m by rw [em]; exact Nat.min_eq_right (by omega)] at hcp g2
    have hcp' : (Builtin.copy_ #[22, 22] 3 #[.slice (some ⟨sp, 9 + r, none⟩) (64 - r) (64 - r), .slice A n c]).run Try.prog (w.setCell ⟨sp, 73, none⟩ (.int .i64 ((L : Int) + n))) = .ok (.int .i64 (m : Nat)) W2 := hcp
    have p1 : ¬ (r : Int) + m < 64 := by omega
    have hmn : m ≤ n := by omega
    obtain ⟨q, eq⟩ : ∃ q, q = L / 64 := ⟨_, rfl⟩
    obtain ⟨G, eG⟩ : ∃ G, G = cat g L f := ⟨_, rfl⟩
    obtain ⟨bl1, ebl⟩ : ∃ b1, b1 = splF blk f r m := ⟨_, rfl⟩
    rw [← ebl] at g2
    have hb1 : ∀ i, bl1 i < 256 := fun i => by rw [ebl]; exact splF_lt hbl hl.small _ _ _
    have hGb : ∀ i, i < 64 → bl1 i = G (64 * q + i) := fun i hi => by
      rw [ebl, eG]
      unfold splF cat
      by_cases h : i < r
      · rw [if_neg (by omega), if_pos (by omega), hbe i (by omega), eq]
      · rw [if_pos (by omega), if_neg (by omega)]
        congr 1; omega
    have hGf : ∀ i, G (64 * (q + 1) + i) = f (m + i) := fun i => by
      rw [eG]; unfold cat; rw [if_neg (by omega)]; congr 1; omega
    have hG0 : hashN G q = hashN g q := by rw [eG]; exact hashN_congr _ fun i hi => if_pos (by omega)
    have hG1 : mix cubeK bl1 (hashN G q) = hashN G (q + 1) := mix_congr hGb
    have hd1 : ∀ k, 64 * k ≤ n - m → n - m - 64 * k < 64 → (L + n) / 64 = q + 1 + k ∧ (L + n) % 64 = n - m - 64 * k := fun k h1 h2 => by omega
    rw [← eq, ← hG0] at g2
    have hkk := hk (by omega)
    have hcut := cut_run (A := A) (c := c) hmn
    have hall := all_run sp 9
    have HX := Lib.hid ex
    have HM := Lib.hid (mix_walk W2.drew sp kp (some ⟨sp, 9, none⟩) 64 bl1 (hashN G q) cubeK (.bool true) (bys bl1 64 ++ [x]) 43
      ⟨hb1, fun _ => ⟨sp, 9, rfl, row_lt g2, fun i hi => (row_cell g2).trans (stC_byte _ _ _ _ hi)⟩⟩ g2 (hashN_lt _ _) (hkk.only (w' := W2.drew) ⟨o2.os, o2.tape, o2.output, o2.size, o2.row⟩ hkp hks) (Nat.lt_of_lt_of_le hkp o2.size) cubeK_lt)
    rw [hG1] at HM
    have HO2 := Lib.hid o2
    have HL := Lib.hid hl
    have HAP := Lib.hid hap
    have HK := Lib.hid hkk
    have HGf := Lib.hid hGf
    have HD := Lib.hid hd1
    have HB1 := Lib.hid hb1
    have HEG := Lib.hid eG
    clear hcp g2 hl hbe hbl er hap hk ex hs hr o2 hkk hGf hGb hG0 hG1 hd1 eq eG ebl hb1 em
    go_enter Try.func54, Try.ntmps54
    go_upto_region 4 with fail
    go_still_tail 8, (by kernel_rfl)
    go_wp2_with (go_at_call 71; (with_reducible refine HM.out.mono ?_); rintro e w3 ⟨rfl, hr3, ho3⟩)
    have HO3 := Lib.hid ((show Only sp w W2.drew from ⟨HO2.out.os, HO2.out.tape, HO2.out.output, HO2.out.size, HO2.out.row⟩).trans ho3)
    have HR3 := Lib.hid hr3
    clear hr3 ho3
    go_wp2
    go_loopw [1] (fun v wr => ∃ k : Nat, ∃ B : Option Addr, v = .slice B (n - m - 64 * k) (c - m - 64 * k) ∧ WrAt w wr sp q m n c k f G bl1 x B) (fun v _ => match v with | .slice _ l _ => l | _ => 0)
    case atStart =>
      refine ⟨0, cutA A c m, rfl, by omega, ?_, fun h0 => cutA_block (HAP.out (by omega)), HR3.out, HO3.out⟩
      exact (HL.out.only HO3.out HAP.out).cut hnc
    case round =>
      obtain ⟨k, B, rfl, hw⟩ := hrel
      have hle := hw.le
      have H := Lib.hid hw
      obtain ⟨n', en⟩ : ∃ n', n' = n - m - 64 * k := ⟨_, rfl⟩
      obtain ⟨c', ec⟩ : ∃ c', c' = c - m - 64 * k := ⟨_, rfl⟩
      have hnc' : n' ≤ c' := by omega
      have hcm' : c' ≤ 9223372036854775807 := by omega
      rw [← en, ← ec]
      have HEN := Lib.hid en
      have HEC := Lib.hid ec
      have hsl2 := hw.sl
      rw [← en] at hsl2
      by_cases hlt : 64 ≤ n'
      · have p2 : (64 : Int) ≤ (n' : Int) := by omega
        have hhd := head_run (A := B) hnc' hlt
        have hct := cut_run (A := B) (c := c') hlt
        have hct' : ∀ w, (Instr.sliceAt 22 (.slice B n' c') (some (.int .i64 64)) none none).run Try.prog w = .ok (.slice (cutA B c' 64) (n' - 64) (c' - 64)) w := hct
        have hGe : mix cubeK (fun i => f (m + 64 * k + i)) (hashN G (q + 1 + k)) = hashN G (q + 1 + (k + 1)) := by
          show _ = mix cubeK _ _
          refine mix_congr fun i _ => ?_
          have := HGf.out (64 * k + i)
          show f (m + 64 * k + i) = G (64 * (q + 1 + k) + i)
          rw [show 64 * (q + 1 + k) + i = 64 * (q + 1) + (64 * k + i) by omega, this]
          congr 1; omega
        have HM2 := Lib.hid (mix_walk wr.drew sp kp B c' (fun i => f (m + 64 * k + i)) (hashN G (q + 1 + k)) cubeK (.bool true) (bys bl1 64 ++ [x]) 43
          ⟨(hsl2.head hlt).small, (hsl2.head hlt).at_⟩ hw.row (hashN_lt _ _) (HK.out.only (w' := wr.drew) ⟨hw.only.os, hw.only.tape, hw.only.output, hw.only.size, hw.only.row⟩ hkp hks) (Nat.lt_of_lt_of_le hkp hw.only.size) cubeK_lt)
        rw [hGe] at HM2
        have hk1 : 64 * (k + 1) ≤ n - m := by omega
        clear hct hw hsl2 hGe en ec
        go_upto_region 7 with fail
        go_still_tail 6, (by kernel_rfl)
        go_wp2_with (go_at_call 71; (with_reducible refine HM2.out.mono ?_); rintro e w4 ⟨rfl, hr4, ho4⟩)
        refine ⟨⟨k + 1, cutA B c' 64, ?_, hk1, ?_, fun h0 => cutA_block (H.out.ap (by omega)), hr4, (H.out.only.drewN 1).trans ho4⟩, ?_⟩
        · rw [HEN.out, HEC.out, Nat.sub_sub _ _ 64, Nat.sub_sub _ _ 64]; rfl
        · have h1 := H.out.sl
          rw [← HEN.out] at h1
          have h2 := ((h1.cut (k := 64) hnc').only (w' := w4) ((Only.refl sp wr).drewN 1 |>.trans ho4) (fun h0 => cutA_block (H.out.ap (by have := HEN.out; omega))))
          rw [show n - m - 64 * (k + 1) = n' - 64 by have := HEN.out; omega]
          have e3 : (fun i => f (m + 64 * (k + 1) + i)) = fun i => f (m + 64 * k + (64 + i)) := by funext i; congr 1; omega
          rw [e3]; exact h2
        · show n' - 64 < n'; omega
      · have p2 : ¬ (64 : Int) ≤ (n' : Int) := by omega
        have hcp2 := copy_all (c := c') (ty := 3) hsl2 hw.row (by omega)
        have HD' := HD.out k hle (by omega)
        have HF := Lib.hid (show StAt (wr.setRow sp (stC (.bool true) (hashN G (q + 1 + k)) (splF bl1 (fun i => f (m + 64 * k + i)) 0 n') x).toArray) sp G (L + n) by
          refine ⟨_, ?_, splF_lt HB1.out (fun i => hsl2.small i) 0 n', fun i hi => ?_⟩
          · rw [setRow_heap _ _ _ _ _ _ hw.row, HD'.1, HX.out]; rfl
          · rw [HD'.2, ← en] at hi
            rw [HD'.1]
            unfold splF
            rw [if_pos (show 0 ≤ i ∧ i < 0 + n' by omega)]
            have := HGf.out (64 * k + i)
            rw [show 64 * (q + 1 + k) + i = 64 * (q + 1) + (64 * k + i) by omega, this, Nat.sub_zero]
            show f (m + 64 * k + i) = _
            rw [Nat.add_assoc])
        have HO := Lib.hid (hw.only.setRow (stC (.bool true) (hashN G (q + 1 + k)) (splF bl1 (fun i => f (m + 64 * k + i)) 0 n') x).toArray)
        obtain ⟨W9, eW9⟩ : ∃ W9, W9 = wr.setRow sp (stC (.bool true) (hashN G (q + 1 + k)) (splF bl1 (fun i => f (m + 64 * k + i)) 0 n') x).toArray := ⟨_, rfl⟩
        rw [← eW9] at hcp2 HF HO
        rw [HEG.out] at HF
        clear hw hsl2 en ec HD' eW9
        go_wp2
        go_end0
        exact ⟨rfl, HF.out, HO.out⟩
end Go.Proofs.Ytjemgoifemdoeaa
