/- The law ShaBack, walked from its box. -/
import Derived.Test.YtjemgoifemdoeaaHs
import Derived.Test.YtjemgoifemdoeaaHeqA
namespace Go.Proofs.Ytjemgoifemdoeaa
open Go.RowKit

theorem wpList_load_row_g {P : Program} {ops : Array Oper} {rest : List Oper} {o : Oper} {a : Act} {w : World} {Q : Exit → Act → World → Prop} (hgd : Region.wanted o (yielded ops a.tmps) = true) (ty : TypeId) (x : Operand) (ho : o.op = .load ty x)
    (g : Nat) (hx : a.eval x = .pointer (some ⟨g, 0, none⟩)) (t : TypeId) (cs : Array Value) (fr : Nat × Nat) (d : TypeDesc) (hg : w.heap[g]? = some (.cells cs t fr))
    (hu : P.underlying ty = some d) (hd : (match d with | .struct _ | .array _ _ => true | _ => false) = true) (hi : (P.info? ty).map (·.size) = some cs.size)
    (h : wpList P ops Q rest (a.put o.dst (.agg cs)) w) : wpList P ops Q (o :: rest) a w :=
  BigFrame.wpList_want hgd fun _ hK => wp_load_row ty x ho g hx t cs fr d hg hu hd hi (hK _ _ h)
theorem txt_size (f : Nat → Nat) (n : Nat) : (txt f n).size = n := by unfold txt; rw [strOfNums_size]; simp
theorem txt_list (f : Nat → Nat) (n : Nat) : (txt f n).data.toList = (List.range n).map fun i => UInt8.ofNat (f i) := by
  unfold txt; rw [strOfNums_data, List.map_map]; rfl
theorem sb_txt {f : Nat → Nat} {n k : Nat} (hk : k < n) (hf : f k < 256) : sb (txt f n) k = f k := by
  unfold sb
  rw [txt_list, List.getD, List.getElem?_map, List.getElem?_range hk]
  show (UInt8.ofNat (f k)).toNat = _
  rw [UInt8.toNat_ofNat']; exact Nat.mod_eq_of_lt hf
theorem dgI_hexc {v : Nat} (h : v < 16) : dgI (hexc v) = (v : Int) := by
  unfold hexc
  split
  · rw [dgI_lo (by omega) (by omega)]; omega
  · rw [dgI_hi (by omega) (by omega)]; omega
theorem hexc_dgI {c : Nat} (h : 0 ≤ dgI c) : hexc (dgI c).toNat = c := by
  by_cases h1 : 48 ≤ c ∧ c ≤ 57
  · rw [dgI_lo h1.1 h1.2]; unfold hexc; rw [if_pos (by omega)]; omega
  · by_cases h2 : 97 ≤ c ∧ c ≤ 102
    · rw [dgI_hi h2.1 h2.2]; unfold hexc; rw [if_neg (by omega)]; omega
    · rw [dgI_no h1 h2] at h; omega
theorem hexF_lt {h : Nat → Nat} (hh : ∀ i, h i < 256) (i : Nat) : hexF h i < 256 := by
  unfold hexF
  have := hh (i / 2)
  split
  · exact hexc_lt (by omega)
  · exact hexc_lt (by omega)
theorem ok_hex {h : Nat → Nat} (hh : ∀ i, h i < 256) : okP (txt (hexF h) 64) := by
  refine ⟨txt_size _ _, fun k hk => ?_⟩
  rw [sb_txt hk (hexF_lt hh k)]
  have := hh (k / 2)
  unfold hexF
  split
  · rw [dgI_hexc (by omega)]; omega
  · rw [dgI_hexc (by omega)]; omega
theorem prs_hex {h : Nat → Nat} (hh : ∀ i, h i < 256) : bys (prsF (txt (hexF h) 64)) 32 = bys h 32 := by
  refine bys_congr fun i hi => ?_
  have h3 := hh i
  unfold prsF
  rw [sb_txt (by omega) (hexF_lt hh _), sb_txt (by omega) (hexF_lt hh _)]
  unfold hexF
  rw [if_pos (by omega), if_neg (by omega), show 2 * i / 2 = i by omega, show (2 * i + 1) / 2 = i by omega, dgI_hexc (by omega), dgI_hexc (by omega)]
  omega
theorem hex_prs {s : ByteArray} (h : okP s) : txt (hexF (prsF s)) 64 = s := by
  apply ByteArray.ext
  apply Array.ext'
  rw [txt_list]
  have hl : s.data.toList.length = 64 := h.1
  refine List.ext_getElem? fun i => ?_
  rw [List.getElem?_map]
  by_cases hi : i < 64
  · rw [List.getElem?_range hi, List.getElem?_eq_getElem (by omega)]
    show some (UInt8.ofNat (hexF (prsF s) i)) = _
    congr 1
    have e : hexF (prsF s) i = sb s i := by
      have ha := h.2 (2 * (i / 2)) (by omega)
      have hb := h.2 (2 * (i / 2) + 1) (by omega)
      have la := dgI_lt (sb s (2 * (i / 2)))
      have lb := dgI_lt (sb s (2 * (i / 2) + 1))
      unfold hexF prsF
      by_cases h2 : i % 2 = 0
      · rw [if_pos h2, show (16 * dgI (sb s (2 * (i / 2))) + dgI (sb s (2 * (i / 2) + 1))).toNat / 16 = (dgI (sb s (2 * (i / 2)))).toNat by omega, hexc_dgI ha]
        congr 1; omega
      · rw [if_neg h2, show (16 * dgI (sb s (2 * (i / 2))) + dgI (sb s (2 * (i / 2) + 1))).toNat % 16 = (dgI (sb s (2 * (i / 2) + 1))).toNat by omega, hexc_dgI hb]
        congr 1; omega
    rw [e]
    unfold sb
    rw [List.getD, List.getElem?_eq_getElem (by omega), Option.getD_some]
    simp
  · rw [List.getElem?_eq_none (by simp; omega), List.getElem?_eq_none (by omega)]; rfl
theorem h32_size : h32.size = 32 := by kernel_rfl
theorem eqZZ (w : World) : (Op.equalIn 10000 25 (.agg h32) (.agg #[.int .u8 0, .int .u8 0, .int .u8 0, .int .u8 0, .int .u8 0, .int .u8 0, .int .u8 0, .int .u8 0, .int .u8 0, .int .u8 0, .int .u8 0, .int .u8 0, .int .u8 0, .int .u8 0, .int .u8 0, .int .u8 0, .int .u8 0, .int .u8 0, .int .u8 0, .int .u8 0, .int .u8 0, .int .u8 0, .int .u8 0, .int .u8 0, .int .u8 0, .int .u8 0, .int .u8 0, .int .u8 0, .int .u8 0, .int .u8 0, .int .u8 0, .int .u8 0])).run Try.prog w = .ok true w := by kernel_rfl
set_option maxRecDepth 100000 in
set_option maxHeartbeats 4000000 in
theorem shaBack_walk (h : Nat → Nat) (hh : ∀ i, h i < 256) (s : ByteArray) (w : World) : Calls Try.prog 5 #[.agg (bys h 32).toArray, .string s] w fun e w' => e = .returned (.bool true) ∧ Below w.heap.size w w' := by
  by_cases hn : 200 < s.size
  · have p1 : (200 : Int) < s.size := by omega
    have HH := Lib.hid (fun w => lives05_walk w)
    obtain ⟨cz, ecz⟩ : ∃ cz, cz = (bys h 32).toArray := ⟨_, rfl⟩
    rw [← ecz]
    clear ecz
    go_enter Try.func5, Try.ntmps5
    go_wp2_with (go_at_call 15; (with_reducible refine (HH.out _).mono ?_); rintro e w9 ⟨rfl, hb9⟩)
    go_ret
    exact ⟨rfl, ((Below.refl w.heap.size w).alloc (Nat.le_refl _) _).trans (hb9.mono (by simp))⟩
  · have p1 : ¬ (200 : Int) < s.size := by omega
    have HL := Lib.hid (fun w => lives05_walk w)
    have HX := Lib.hid (fun w => hex_walk h hh w)
    have HP := Lib.hid (fun w => (parse_walk (txt (hexF h) 64) w).mono (R' := fun e w' => e = .returned (.tuple #[.agg (bys h 32).toArray, .bool true]) ∧ Below w.heap.size w w') fun e w' ⟨he, hb⟩ => by
      rcases he with ⟨_, he⟩ | ⟨hno, _⟩
      · exact ⟨by rw [he, prs_hex hh], hb⟩
      · exact absurd (ok_hex hh) hno)
    have hsame : ∀ w, (Op.equalIn 10000 25 (.agg (bys h 32).toArray) (.agg (bys h 32).toArray)).run Try.prog w = .ok true w := fun w => by
      rw [hash_eq, show ((List.range 32).all fun i => h i == h i) = true by simp]
    have hinf : (Try.prog.info? 25).map (·.size) = some (bys h 32).toArray.size := by rw [List.size_toArray, bys_length]; exact h32_info
    have hone : (bys h 32).toArray.all (·.oneCell') = true := bys_all _ _
    have hsz : h32.size = (bys h 32).toArray.size := by rw [h32_size, List.size_toArray, bys_length]
    obtain ⟨cz, ecz⟩ : ∃ cz, cz = (bys h 32).toArray := ⟨_, rfl⟩
    rw [← ecz] at HX HP hsame hinf hone hsz ⊢
    have HI := Lib.hid hinf
    have HO := Lib.hid hone
    have HZ := Lib.hid hsz
    have H32i := Lib.hid h32_info
    have hst : ∀ x : ByteArray, txt (hexF h) 64 = x → True := fun _ _ => trivial
    obtain ⟨tx, etx⟩ : ∃ tx, tx = txt (hexF h) 64 := ⟨_, rfl⟩
    rw [← etx] at HX HP
    clear hinf hone hsz ecz etx hst hn
    have HSs : s.size ≤ 200 := by omega
    by_cases hok : okP s
    · have HQ := Lib.hid (fun w => (parse_walk s w).mono (R' := fun e w' => e = .returned (.tuple #[.agg (bys (prsF s) 32).toArray, .bool true]) ∧ Below w.heap.size w w') fun e w' ⟨he, hb⟩ => by
        rcases he with ⟨_, he⟩ | ⟨hno, _⟩
        · exact ⟨he, hb⟩
        · exact absurd hok hno)
      have HY := Lib.hid (fun w => (hex_walk (prsF s) (prsF_lt s) w).mono (R' := fun e w' => e = .returned (.string s) ∧ Below w.heap.size w w') fun e w' ⟨he, hb⟩ => ⟨by rw [he, hex_prs hok], hb⟩)
      have hinf : (Try.prog.info? 25).map (·.size) = some (bys (prsF s) 32).toArray.size := by rw [List.size_toArray, bys_length]; exact h32_info
      have hone : (bys (prsF s) 32).toArray.all (·.oneCell') = true := bys_all _ _
      have hsz : h32.size = (bys (prsF s) 32).toArray.size := by rw [h32_size, List.size_toArray, bys_length]
      obtain ⟨cy, ecy⟩ : ∃ cy, cy = (bys (prsF s) 32).toArray := ⟨_, rfl⟩
      rw [← ecy] at HQ HY hinf hone hsz
      have JI := Lib.hid hinf
      have JO := Lib.hid hone
      have JZ := Lib.hid hsz
      clear hinf hone hsz ecy hok
      go_enter Try.func5, Try.ntmps5
      go_upto_region 3 with fail
      refine wp_region_lit (wpList_load_row rfl 25 (.tmp 2) rfl w.heap.size rfl _ cz (0, 0) _ (heap_alloc_new _ _) Try.underlying25 rfl HI.out ?_)
      go_wp2_with fail
      refine (HX.out _).mono ?_
      rintro e w1 ⟨rfl, hb1⟩
      have hz1 : w.heap.size < w1.heap.size := by have := hb1.size; simp at this; omega
      have HZ1 := Lib.hid hz1
      have R1 := Lib.hid (show w1.heap[w.heap.size]? = some (.cells cz 25 (0, 0)) from (hb1.block _ (by simp)).trans (heap_alloc_new _ _))
      have HB1 := Lib.hid (((Below.refl w.heap.size w).alloc (Nat.le_refl _) (.cells cz 25)).trans (hb1.mono (by simp)))
      clear hb1 hz1
      go_wp2_with fail
      refine (HP.out _).mono ?_
      rintro e w2 ⟨rfl, hb2⟩
      have HB2 := Lib.hid (HB1.out.trans (hb2.mono HB1.out.size))
      have R2 := Lib.hid ((hb2.block _ HZ1.out).trans R1.out)
      have hz2 := Lib.hid (Nat.lt_of_lt_of_le HZ1.out hb2.size)
      clear hb2
      go_upto_region 4 with ((with_reducible refine wpList_store_row rfl 25 (.tmp 5) (.tmp 17) rfl w2.heap.size cz ?_ ?_ 25 h32 ?_ ?_ ?_ ?_ ?_); (· rfl); (· rfl); (· exact heap_alloc_new _ _); (· exact HI.out); (· exact HZ.out); (· exact HO.out))
      show Code.wp _ _ _ _ ((w2.alloc (.cells h32 25)).setRow w2.heap.size cz)
      obtain ⟨w3, e3⟩ : ∃ w3, w3 = (w2.alloc (.cells h32 25)).setRow w2.heap.size cz := ⟨_, rfl⟩
      rw [← e3]
      have h23 : Below w2.heap.size w2 w3 := by rw [e3]; exact below_setRow ((Below.refl _ _).alloc (Nat.le_refl _) _) (Nat.le_refl _) _
      have HB3 := Lib.hid (HB2.out.trans (h23.mono HB2.out.size))
      have R3 := Lib.hid ((h23.block _ hz2.out).trans R2.out)
      have X3 := Lib.hid (show w3.heap[w2.heap.size]? = some (.cells cz 25 (0, 0)) by rw [e3]; exact setRow_heap _ _ h32 _ _ _ (heap_alloc_new _ _))
      clear e3 h23
      go_wp2_with fail
      refine (HQ.out _).mono ?_
      rintro e w4 ⟨rfl, hb4⟩
      have HB4 := Lib.hid (HB3.out.trans (hb4.mono HB3.out.size))
      have R4 := Lib.hid ((hb4.block _ (row_lt R3.out)).trans R3.out)
      have X4 := Lib.hid ((hb4.block _ (row_lt X3.out)).trans X3.out)
      clear hb4
      go_upto_region 5 with ((with_reducible refine wpList_store_row rfl 25 (.tmp 7) (.tmp 22) rfl w4.heap.size cy ?_ ?_ 25 h32 ?_ ?_ ?_ ?_ ?_); (· rfl); (· rfl); (· exact heap_alloc_new _ _); (· exact JI.out); (· exact JZ.out); (· exact JO.out))
      show Code.wp _ _ _ _ ((w4.alloc (.cells h32 25)).setRow w4.heap.size cy)
      obtain ⟨w5, e5⟩ : ∃ w5, w5 = (w4.alloc (.cells h32 25)).setRow w4.heap.size cy := ⟨_, rfl⟩
      rw [← e5]
      have h45 : Below w4.heap.size w4 w5 := by rw [e5]; exact below_setRow ((Below.refl _ _).alloc (Nat.le_refl _) _) (Nat.le_refl _) _
      have HB5 := Lib.hid (HB4.out.trans (h45.mono HB4.out.size))
      have R5 := Lib.hid ((h45.block _ (row_lt R4.out)).trans R4.out)
      have X5 := Lib.hid ((h45.block _ (row_lt X4.out)).trans X4.out)
      have Y5 := Lib.hid (show w5.heap[w4.heap.size]? = some (.cells cy 25 (0, 0)) by rw [e5]; exact setRow_heap _ _ h32 _ _ _ (heap_alloc_new _ _))
      clear e5 h45
      go_wp2_with (first
        | ((with_reducible refine wpList_load_row_g ?_ 25 (.tmp 5) rfl w2.heap.size ?_ 25 cz (0, 0) _ ?_ Try.underlying25 ?_ ?_ ?_); (· rfl); (· rfl); (· exact X5.out); (· rfl); (· exact HI.out))
        | ((with_reducible refine wpList_load_row_g ?_ 25 (.tmp 2) rfl w.heap.size ?_ 25 cz (0, 0) _ ?_ Try.underlying25 ?_ ?_ ?_); (· rfl); (· rfl); (· exact R5.out); (· rfl); (· exact HI.out))
        | ((with_reducible refine wpList_load_row_g ?_ 25 (.tmp 7) rfl w4.heap.size ?_ 25 cy (0, 0) _ ?_ Try.underlying25 ?_ ?_ ?_); (· rfl); (· rfl); (· exact Y5.out); (· rfl); (· exact JI.out))
        | (go_at_call 20; (with_reducible refine (HY.out _).mono ?_); rintro e w6 ⟨rfl, hb6⟩; have HB6 := Lib.hid (HB5.out.trans (hb6.mono HB5.out.size)); clear hb6)
        | (go_at_call 15; (with_reducible refine (HL.out _).mono ?_); rintro e w9 ⟨rfl, hb9⟩; have HB9 := Lib.hid (HB6.out.trans (hb9.mono HB6.out.size)); clear hb9))
      go_ret
      exact ⟨rfl, HB9.out⟩
    · have HQ := Lib.hid (fun w => (parse_walk s w).mono (R' := fun e w' => e = .returned (.tuple #[.agg h32, .bool false]) ∧ Below w.heap.size w w') fun e w' ⟨he, hb⟩ => by
        rcases he with ⟨hy, _⟩ | ⟨_, he⟩
        · exact absurd hy hok
        · exact ⟨by rw [he, bys0], hb⟩)
      have hzz := eqZZ
      have hinf : (Try.prog.info? 25).map (·.size) = some h32.size := by rw [h32_size]; exact h32_info
      have hone : h32.all (·.oneCell') = true := bys_all _ _
      have hsz : h32.size = h32.size := rfl
      obtain ⟨cy, ecy⟩ : ∃ cy, cy = h32 := ⟨_, rfl⟩
      rw [← ecy] at hinf hone hzz HQ
      have JI := Lib.hid hinf
      have JO := Lib.hid hone
      have JZ := Lib.hid (show h32.size = cy.size by rw [ecy])
      clear hinf hone hsz ecy hok
      go_enter Try.func5, Try.ntmps5
      go_upto_region 3 with fail
      refine wp_region_lit (wpList_load_row rfl 25 (.tmp 2) rfl w.heap.size rfl _ cz (0, 0) _ (heap_alloc_new _ _) Try.underlying25 rfl HI.out ?_)
      go_wp2_with fail
      refine (HX.out _).mono ?_
      rintro e w1 ⟨rfl, hb1⟩
      have hz1 : w.heap.size < w1.heap.size := by have := hb1.size; simp at this; omega
      have HZ1 := Lib.hid hz1
      have R1 := Lib.hid (show w1.heap[w.heap.size]? = some (.cells cz 25 (0, 0)) from (hb1.block _ (by simp)).trans (heap_alloc_new _ _))
      have HB1 := Lib.hid (((Below.refl w.heap.size w).alloc (Nat.le_refl _) (.cells cz 25)).trans (hb1.mono (by simp)))
      clear hb1 hz1
      go_wp2_with fail
      refine (HP.out _).mono ?_
      rintro e w2 ⟨rfl, hb2⟩
      have HB2 := Lib.hid (HB1.out.trans (hb2.mono HB1.out.size))
      have R2 := Lib.hid ((hb2.block _ HZ1.out).trans R1.out)
      have hz2 := Lib.hid (Nat.lt_of_lt_of_le HZ1.out hb2.size)
      clear hb2
      go_upto_region 4 with ((with_reducible refine wpList_store_row rfl 25 (.tmp 5) (.tmp 17) rfl w2.heap.size cz ?_ ?_ 25 h32 ?_ ?_ ?_ ?_ ?_); (· rfl); (· rfl); (· exact heap_alloc_new _ _); (· exact HI.out); (· exact HZ.out); (· exact HO.out))
      show Code.wp _ _ _ _ ((w2.alloc (.cells h32 25)).setRow w2.heap.size cz)
      obtain ⟨w3, e3⟩ : ∃ w3, w3 = (w2.alloc (.cells h32 25)).setRow w2.heap.size cz := ⟨_, rfl⟩
      rw [← e3]
      have h23 : Below w2.heap.size w2 w3 := by rw [e3]; exact below_setRow ((Below.refl _ _).alloc (Nat.le_refl _) _) (Nat.le_refl _) _
      have HB3 := Lib.hid (HB2.out.trans (h23.mono HB2.out.size))
      have R3 := Lib.hid ((h23.block _ hz2.out).trans R2.out)
      have X3 := Lib.hid (show w3.heap[w2.heap.size]? = some (.cells cz 25 (0, 0)) by rw [e3]; exact setRow_heap _ _ h32 _ _ _ (heap_alloc_new _ _))
      clear e3 h23
      go_wp2_with fail
      refine (HQ.out _).mono ?_
      rintro e w4 ⟨rfl, hb4⟩
      have HB4 := Lib.hid (HB3.out.trans (hb4.mono HB3.out.size))
      have R4 := Lib.hid ((hb4.block _ (row_lt R3.out)).trans R3.out)
      have X4 := Lib.hid ((hb4.block _ (row_lt X3.out)).trans X3.out)
      clear hb4
      go_upto_region 5 with ((with_reducible refine wpList_store_row rfl 25 (.tmp 7) (.tmp 22) rfl w4.heap.size cy ?_ ?_ 25 h32 ?_ ?_ ?_ ?_ ?_); (· rfl); (· rfl); (· exact heap_alloc_new _ _); (· exact JI.out); (· exact JZ.out); (· exact JO.out))
      show Code.wp _ _ _ _ ((w4.alloc (.cells h32 25)).setRow w4.heap.size cy)
      obtain ⟨w5, e5⟩ : ∃ w5, w5 = (w4.alloc (.cells h32 25)).setRow w4.heap.size cy := ⟨_, rfl⟩
      rw [← e5]
      have h45 : Below w4.heap.size w4 w5 := by rw [e5]; exact below_setRow ((Below.refl _ _).alloc (Nat.le_refl _) _) (Nat.le_refl _) _
      have HB5 := Lib.hid (HB4.out.trans (h45.mono HB4.out.size))
      have R5 := Lib.hid ((h45.block _ (row_lt R4.out)).trans R4.out)
      have X5 := Lib.hid ((h45.block _ (row_lt X4.out)).trans X4.out)
      have Y5 := Lib.hid (show w5.heap[w4.heap.size]? = some (.cells cy 25 (0, 0)) by rw [e5]; exact setRow_heap _ _ h32 _ _ _ (heap_alloc_new _ _))
      clear e5 h45
      go_wp2_with (first
        | ((with_reducible refine wpList_load_row_g ?_ 25 (.tmp 5) rfl w2.heap.size ?_ 25 cz (0, 0) _ ?_ Try.underlying25 ?_ ?_ ?_); (· rfl); (· rfl); (· exact X5.out); (· rfl); (· exact HI.out))
        | ((with_reducible refine wpList_load_row_g ?_ 25 (.tmp 2) rfl w.heap.size ?_ 25 cz (0, 0) _ ?_ Try.underlying25 ?_ ?_ ?_); (· rfl); (· rfl); (· exact R5.out); (· rfl); (· exact HI.out))
        | ((with_reducible refine wpList_load_row_g ?_ 25 (.tmp 7) rfl w4.heap.size ?_ 25 cy (0, 0) _ ?_ Try.underlying25 ?_ ?_ ?_); (· rfl); (· rfl); (· exact Y5.out); (· rfl); (· exact JI.out))
        | (go_at_call 15; (with_reducible refine (HL.out _).mono ?_); rintro e w9 ⟨rfl, hb9⟩; have HB9 := Lib.hid (HB5.out.trans (hb9.mono HB5.out.size)); clear hb9))
      go_ret
      exact ⟨rfl, HB9.out⟩
end Go.Proofs.Ytjemgoifemdoeaa
