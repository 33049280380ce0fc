/- The law OctetPuts, walked. -/
import Derived.Test.YtcodlbfomfjmfaaPi
import Derived.Test.YtcodlbfomfjmfaaOy
import Derived.Room.AppendFits
import Derived.Deep.RegionHeld3
namespace Go.Proofs.Ytcodlbfomfjmfaa
open Go.RowKit Go.Lib

theorem wpAnyH_strong {P : Program} {ops : Array Oper} {Q : Exit → Act → World → Prop} {md : Region.Mode} {S S' : World → Prop} (h : ∀ w, S' w → S w) : ∀ (fuel : Nat) (listed : Array Bool) (a : Act) (w : World), wpAnyH P md ops Q S' fuel listed a w → wpAnyH P md ops Q S fuel listed a w
  | 0, _, _, _, H => H
  | fuel + 1, _, _, _, H => ⟨H.1, fun i hi => wpOp_mono (fun a' w' h' => ⟨h _ h'.1, wpAnyH_strong h fuel _ a' w' h'.2⟩) (H.2 i hi)⟩
theorem Sl.none1 {w : World} {A : Option Addr} {n : Nat} {f : Nat → Nat} (h : Sl w A n f) : A = none → n = 0 := fun e => Nat.eq_zero_of_not_pos fun hp => by
  obtain ⟨g, o, e', _⟩ := h.at_ hp
  rw [e] at e'; cases e'
theorem exec_load_row {P : Program} {o : Oper} {a : Act} {w : World} (ty : TypeId) (x : Operand) (ho : o.op = .load ty x) (g : Nat) (hx : a.eval x = .pointer (some ⟨g, 0, none⟩)) (t : TypeId) (cs : Array Value) (fr : Nat × Nat) (d : TypeDesc) (hg : w.heap[g]? = some (.cells cs t fr))
    (hu : P.underlying ty = some d) (hd : (match d with | .struct _ | .array _ _ => true | _ => false) = true) (hi : (P.info? ty).map (·.size) = some cs.size) : (execOp a.eval o).run P w = .ok (.value (.agg cs)) w := by
  unfold execOp
  simp only [ho, hx, Instr.loadAt, Instr.sureAddr, Sem.run_bind, Sem.run_pure, Result.andThen_ok, run_loadVar_row w g t ty cs fr d hg hu hd hi]
/-- the bytes of "spare" -/
def spb (i : Nat) : Nat := if i = 0 then 115 else if i = 1 then 112 else if i = 2 then 97 else if i = 3 then 114 else if i = 4 then 101 else 0
theorem spb_small (i : Nat) : spb i < 256 := by unfold spb; split <;> (try split) <;> (try split) <;> (try split) <;> (try split) <;> omega
theorem spb_cells : strCells { data := #[115, 112, 97, 114, 101] } = bys spb 5 := by rfl
/-- the hash of two bytes -/
def hb2 (x y : Nat) (i : Nat) : Nat := if i = 0 then x else if i = 31 then y else 0
theorem sof_spare (f : Nat → Nat) (nb : Nat) : sof f nb ++ { data := #[115, 112, 97, 114, 101] } = sof (cat f nb spb) (nb + 5) := by
  apply ByteArray.ext
  apply Array.ext'
  rw [ByteArray.data_append, Array.toList_append]
  unfold sof
  rw [strOfNums_data, strOfNums_data, List.map_map, List.map_map, List.range_add, List.map_append, List.map_map]
  congr 1
  · refine List.map_congr_left fun i hi => ?_
    have : i < nb := List.mem_range.1 hi
    simp [cat, this]
  · have e : ∀ i, cat f nb spb (nb + i) = spb i := fun i => by unfold cat; rw [if_neg (by omega), Nat.add_sub_cancel_left]
    simp only [Function.comp_def, e]
    rfl
def hcs (x y : Int) : Array Value := #[.int .u8 x, .int .u8 0, .int .u8 0, .int .u8 0, .int .u8 0, .int .u8 0, .int .u8 0, .int .u8 0, .int .u8 0, .int .u8 0, .int .u8 0, .int .u8 0, .int .u8 0, .int .u8 0, .int .u8 0, .int .u8 0, .int .u8 0, .int .u8 0, .int .u8 0, .int .u8 0, .int .u8 0, .int .u8 0, .int .u8 0, .int .u8 0, .int .u8 0, .int .u8 0, .int .u8 0, .int .u8 0, .int .u8 0, .int .u8 0, .int .u8 0, .int .u8 y]
theorem hcs_bys (x y : Nat) : hcs x y = (bys (hb2 x y) 32).toArray := by rfl
theorem hcs_info (x y : Int) : (Try.prog.info? 44).map (·.size) = some (hcs x y).size := by
  rw [show (hcs x y).size = 32 from rfl]; kernel_rfl
theorem hcs_one (x y : Int) : (hcs x y).all (·.oneCell') = true := by
  simp [hcs, Value.oneCell']
theorem hcs_size (x y : Int) : z32.size = (hcs x y).size := by rfl
theorem grp_string (N : Nat) (F : Nat → Nat → Nat) (T : Nat → Nat) : ∃ S : ByteArray, ∀ k, Grp N k → sof (F k) (T k) = S := by
  by_cases h : ∃ k, Grp N k
  · obtain ⟨k, hk⟩ := h
    exact ⟨_, fun k' hk' => by rw [hk'.one hk]⟩
  · exact ⟨ByteArray.empty, fun k hk => absurd ⟨k, hk⟩ h⟩
set_option maxRecDepth 100000 in
set_option maxHeartbeats 40000000 in
theorem octetPuts_walk (A : Option Addr) (nb c : Nat) (f : Nat → Nat) (n : Int) (a : Nat) (w : World) (hl : Sl w A nb f) (hA : A = none → nb = 0 ∧ c = 0) (hn0 : n < 2 ^ 63) (ha : a < 2 ^ 256) :
    Calls Try.prog 5 #[.slice A nb c, .int .i64 n, U a] w fun e w' => e = .returned (.bool true) ∧ Below w.heap.size w w' := by
  obtain ⟨i0, hi, hz0, hz1, hz2⟩ := info_parts oinfoU8
  have hx := (Below.refl w.heap.size w).alloc (Nat.le_refl _) (.cells #[.int .u64 (limb a 0 : Nat), .int .u64 (limb a 1 : Nat), .int .u64 (limb a 2 : Nat), .int .u64 (limb a 3 : Nat)] 24)
  have HX := Lib.hid hx
  have HM0 := Lib.hid (Arr.new4 (κ := .u64) (w := w) (t := 24) (f := limb a) rfl)
  have HL0 := Lib.hid (hl.below hx)
  have HA := Lib.hid hA
  have hn := Lib.hid hn0
  have Ha := Lib.hid ha
  clear hl hA hn0 ha hx
  unfold U
  by_cases hlen : 300 < nb
  · have p1 : (300 : Int) < nb := by omega
    go_enter Try.func5, Try.ntmps5
    go_wp2_with (go_at_call 42; refine (lives04_walk _).mono ?_; rintro e w9 ⟨rfl, hb9⟩; have HB9 := Lib.hid (HX.out.trans (hb9.mono HX.out.size)); clear hb9)
    go_ret
    exact ⟨rfl, HB9.out⟩
  · have p1 : ¬ (300 : Int) < nb := by omega
    have hnb := Lib.hid (show nb ≤ 300 by omega)
    obtain ⟨W0, hW0⟩ : ∃ W0, W0 = w.alloc (.cells #[.int .u64 (limb a 0 : Nat), .int .u64 (limb a 1 : Nat), .int .u64 (limb a 2 : Nat), .int .u64 (limb a 3 : Nat)] 24) := ⟨_, rfl⟩
    have HZ0 := Lib.hid (show w.heap.size < W0.heap.size by rw [hW0]; simp)
    rw [← hW0] at HX HM0 HL0
    have HW0 := Lib.hid hW0
    clear hW0 hlen
    obtain ⟨x, hx⟩ : ∃ x : Nat, n % 256 = (x : Int) := ⟨(n % 256).toNat, by omega⟩
    obtain ⟨y, hy⟩ : ∃ y : Nat, (nb : Int) % 256 = (y : Int) := ⟨nb % 256, by omega⟩
    have hx256 : x < 256 := by omega
    have hy256 : y < 256 := by omega
    have Hg := Lib.hid (fun i => (by unfold hb2; split <;> (try split) <;> omega : hb2 x y i < 256))
    clear hx256 hy256
    go_enter Try.func5, Try.ntmps5
    go_upto_region 3 with fail
    rw [← HW0.out]
    go_upto_region 4 with (first
      | (at_make; refine wpList_make_own _ rfl _ _ _ rfl W0.heap.size 5 i0 (.int .u8 0) 1 Try.underlying33 hi hz0 hz1 .i64 .i64 _ (nb + 50) rfl rfl (by simp) (by rw [hz2]; have := hnb.out; omega) (by unfold maxLen; have := hnb.out; omega) (Nat.le_refl _) ?_; intro w1 hown1 hgrow1; have HB1 := Lib.hid ((Below.refl W0.heap.size W0).grown hgrow1 (Nat.le_refl _) (fun q hq => by cases hq)); have Hown1 := Lib.hid hown1; clear hown1 hgrow1)
      | (at_builtin; refine wpList_append_fits_any _ rfl (.tmp 17) (.tmp 18) _ rfl W0.heap.size 5 i0 1 Try.underlying33 hi hz1 W0.heap.size 0 (nb + 50) [] rfl Hown1.out A nb c (bys f nb) rfl (by rw [bys_length]; omega) HA.out (fun ad e => by subst e; exact (HL0.out.below HB1.out).news) (bys_one _ _) (by omega) ?_; intro w2 hown2 hgrow2; have HB2 := Lib.hid (HB1.out.grown hgrow2 HB1.out.size (fun q hq => by cases hq; exact Nat.le_refl _)); rw [Nat.zero_add, List.nil_append] at hown2; rw [Nat.zero_add]; have Hown2 := Lib.hid hown2; clear hown2 hgrow2)
      | (at_builtin; refine wpList_append_fits_string _ rfl (.tmp 19) (.const (.string { data := #[115, 112, 97, 114, 101] })) _ _ rfl W0.heap.size 5 i0 Try.underlying33 Try.underlying9 hi hz1 _ nb (nb + 50) (bys f nb) rfl Hown2.out { data := #[115, 112, 97, 114, 101] } rfl (by omega) (show nb + 5 ≤ nb + 50 by omega) ?_; intro w3 hown3 hgrow3; have HB3 := Lib.hid (HB2.out.grown hgrow3 HB2.out.size (fun q hq => by simp [Value.ownBlock] at hq; omega)); have hown3' : w3.ownsRow W0.heap.size 5 1 (.slice (some ⟨W0.heap.size, 0, none⟩) (nb + 5) (nb + 50)) (nb + 5) (bys f nb ++ strCells { data := #[115, 112, 97, 114, 101] }) := hown3; rw [spb_cells, bys_cat] at hown3'; have Hown3 := Lib.hid hown3'; clear hown3' hown3 hgrow3))
    go_upto_region 5 with ((with_reducible refine wpList_store_row rfl 44 (.tmp 8) (.tmp 29) rfl w3.heap.size (hcs x y) ?_ ?_ 44 z32 ?_ ?_ ?_ ?_ ?_); (· rfl); (· rfl); (· exact heap_alloc_new _ _); (· exact hcs_info _ _); (· exact hcs_size _ _); (· exact hcs_one _ _))
    obtain ⟨W, hW⟩ : ∃ W, W = (w3.alloc (.cells #[.int .u8 0, .int .u8 0, .int .u8 0, .int .u8 0, .int .u8 0, .int .u8 0, .int .u8 0, .int .u8 0, .int .u8 0, .int .u8 0, .int .u8 0, .int .u8 0, .int .u8 0, .int .u8 0, .int .u8 0, .int .u8 0, .int .u8 0, .int .u8 0, .int .u8 0, .int .u8 0, .int .u8 0, .int .u8 0, .int .u8 0, .int .u8 0, .int .u8 0, .int .u8 0, .int .u8 0, .int .u8 0, .int .u8 0, .int .u8 0, .int .u8 0, .int .u8 0] 44)).setRow w3.heap.size (hcs x y) := ⟨_, rfl⟩
    rw [← hW]
    have hr0 : W.heap[w3.heap.size]? = some (.cells (hcs x y) 44 (0, 0)) := by rw [hW]; exact setRow_heap _ _ z32 _ _ _ (heap_alloc_new _ _)
    have hbW : Below w3.heap.size w3 W := by rw [hW]; exact below_setRow ((Below.refl _ _).alloc (Nat.le_refl _) _) (Nat.le_refl _) _
    clear hW
    obtain ⟨cs, hcs0⟩ : ∃ cs, cs = hcs x y := ⟨_, rfl⟩
    rw [← hcs0] at hr0
    have HCs := Lib.hid (hcs0.trans (hcs_bys x y))
    have HI := Lib.hid (show (Try.prog.info? 44).map (·.size) = some cs.size by rw [hcs0]; exact hcs_info _ _)
    have HR := Lib.hid hr0
    have HRb := Lib.hid (heap_lt hr0)
    obtain ⟨hb0, hhb⟩ : ∃ hb0, hb0 = w3.heap.size := ⟨_, rfl⟩
    rw [← hhb] at HR HRb ⊢
    have HBW := Lib.hid (HB3.out.trans (hbW.mono HB3.out.size))
    have hG5 := own_sl Hown3.out (cat_small HL0.out.small spb_small)
    obtain ⟨AG, cG, hAG, hsG, hzG⟩ := hG5
    cases hAG
    have HG5 := Lib.hid (hsG.below hbW)
    clear hr0 hcs0 hbW hhb hsG hzG hx hy
    have HG := Lib.hid (⟨HL0.out.small, fun hn0 => by
      obtain ⟨g', o', e', h1, h2⟩ := HG5.out.at_ (by omega)
      exact ⟨g', o', e', h1, fun i hi => by rw [h2 i (by omega)]; unfold cat; rw [if_pos hi]⟩⟩ : Sl W (some ⟨W0.heap.size, 0, none⟩) nb f)
    have HL := Lib.hid (HL0.out.below HBW.out)
    have HM := Lib.hid (HM0.out.below HBW.out HZ0.out)
    have HMb := Lib.hid (Nat.lt_of_lt_of_le HZ0.out HBW.out.size)
    obtain ⟨G, hG⟩ : ∃ G, G = W0.heap.size := ⟨_, rfl⟩
    rw [← hG] at HG HG5 ⊢
    clear hG
    obtain ⟨N, hN0⟩ : ∃ N, N = (max n 0).toNat := ⟨_, rfl⟩
    have hN := Lib.hid hN0
    clear hN0
    obtain ⟨S2, hS2⟩ := grp_string N (fun k => cat f nb (vb N k)) (fun k => nb + (k + 1))
    obtain ⟨St, hSt⟩ := grp_string nb (fun k => cat (cat f nb (vb nb k)) (nb + (k + 1)) f) (fun k => nb + (k + 1) + nb)
    obtain ⟨Sa, hSa⟩ : ∃ S, S = sof (cat (cat f nb (fun _ => cnt a)) (nb + 1) (ab a)) (nb + 1 + cnt a) := ⟨_, rfl⟩
    obtain ⟨Sh, hSh⟩ : ∃ S, S = sof (cat f nb (hb2 x y)) (nb + 32) := ⟨_, rfl⟩
    have HS2 := Lib.hid hS2
    have HSt := Lib.hid hSt
    have HSa := Lib.hid hSa
    have HSh := Lib.hid hSh
    clear hS2 hSt hSa hSh
    go_upto_region 5 with fail
    refine wp_region_held_drew (S := fun w' => Below W.heap.size W w') (by kernel_rfl) ?_ (fun hHeld => ?_)
    · exact (Below.refl _ _).drew
    refine wpAnyH_take (i := 0) (v := ?_) rfl (by kernel_rfl) (by kernel_rfl) (by kernel_rfl) (fun _ _ _ h => h) (Or.inl ⟨by kernel_rfl, ?_⟩) (by with_reducible assumption) ?_
    rotate_left
    · intro wz hSw
      (try dsimp only at hSw)
      go_simp
      (try with_reducible rfl)
    (try simp only [Act.put, List.setIfInBounds_toArray])
    refine wpAnyH_take (i := 1) (v := ?_) rfl (by kernel_rfl) (by kernel_rfl) (by kernel_rfl) (fun _ _ _ h => h) (Or.inl ⟨by kernel_rfl, ?_⟩) (by with_reducible assumption) ?_
    rotate_left
    · intro wz hSw
      (try dsimp only at hSw)
      go_simp
      (try with_reducible rfl)
    (try simp only [Act.put])
    refine wpAnyH_take (i := 4) (v := ?_) rfl (by kernel_rfl) (by kernel_rfl) (by kernel_rfl) (fun _ _ _ h => h) (Or.inl ⟨by kernel_rfl, ?_⟩) (by with_reducible assumption) ?_
    rotate_left
    · intro wz hSw
      (try dsimp only at hSw)
      go_simp
      (try with_reducible rfl)
    (try simp only [Act.put])
    refine wpAnyH_take (i := 5) (v := ?_) rfl (by kernel_rfl) (by kernel_rfl) (by kernel_rfl) (fun _ _ _ h => h) (Or.inl ⟨by kernel_rfl, ?_⟩) (by with_reducible assumption) ?_
    rotate_left
    · intro wz hSw
      (try dsimp only at hSw)
      go_simp
      (try with_reducible rfl)
    (try simp only [Act.put])
    refine wpAnyH_ready (rs := [2]) (by kernel_rfl) (by simp) ?_
    refine AllReadyH.cons rfl (fun K hK => ?_) AllReadyH.nil
    go_simp
    go_at_call 43
    refine (var_walk (some ⟨G, 0, none⟩) nb (nb + 50) f n N _ (HG.out.below hHeld) (fun h => by cases h) (by have := hnb.out; omega) hn.out hN.out).mono ?_
    rintro e z2 ⟨⟨v2, k, rfl, hg2, hv2⟩, hb2⟩
    obtain ⟨A2, c2, rfl, hs2, hz2⟩ := own_sl hv2 (cat_small HL.out.small (vb_small hg2))
    have Hg2 := Lib.hid hg2
    have Hs2 := Lib.hid hs2
    have HH2 := Lib.hid (hHeld.trans (hb2.mono hHeld.size))
    clear hg2 hv2 hs2 hz2 hb2
    go_wp2_with fail
    refine hK.out _ _ ?_ (fun hHeld => ?_)
    · exact HH2.out
    clear hK K
    (try simp only [Act.put, List.setIfInBounds_toArray, List.set_cons_zero, List.set_cons_succ])
    refine wpAnyH_strong (S' := fun w' => Below z2.heap.size z2 w') (fun w h => HH2.out.trans (h.mono HH2.out.size)) _ _ _ _ ?_
    have hH2 : (fun w' : World => Below z2.heap.size z2 w') z2 := Below.refl _ _
    clear hHeld
    refine wpAnyH_take (i := 3) (v := ?_) rfl (by kernel_rfl) (by kernel_rfl) (by kernel_rfl) (fun _ _ _ h => h) (Or.inl ⟨by kernel_rfl, ?_⟩) (by with_reducible assumption) ?_
    rotate_left
    · intro wz hSw
      (try dsimp only at hSw)
      have hcv := conv_sl (c := c2) (Hs2.out.below hSw) Hs2.out.none1
      rw [HS2.out k Hg2.out] at hcv
      go_simp
      (try with_reducible rfl)
    (try simp only [Act.put, List.setIfInBounds_toArray])
    refine wpAnyH_ready (rs := [6]) (by kernel_rfl) (by simp) ?_
    refine AllReadyH.cons rfl (fun K hK => ?_) AllReadyH.nil
    go_simp
    go_at_call 44
    refine (rvar_walk A nb c f n N _ (HL.out.below HH2.out) HA.out (by have := hnb.out; omega) hn.out hN.out).mono ?_
    rintro e z6 ⟨⟨v6, k6, rfl, hg6, hv6⟩, hb6⟩
    obtain ⟨A6, c6, rfl, hs6, hz6⟩ := own_sl hv6 (cat_small HL.out.small (vb_small hg6))
    have Hg6 := Lib.hid hg6
    have Hs6 := Lib.hid hs6
    have HH6 := Lib.hid hb6
    have HW6 := Lib.hid (HH2.out.trans (hb6.mono HH2.out.size))
    clear hg6 hv6 hs6 hz6 hb6
    go_wp2_with fail
    refine hK.out _ _ ?_ (fun hHeld => ?_)
    · exact HH6.out
    clear hK K
    (try simp only [Act.put, List.setIfInBounds_toArray, List.set_cons_zero, List.set_cons_succ])
    refine wpAnyH_strong (S' := fun w' => Below z6.heap.size z6 w') (fun w h => HH6.out.trans (h.mono HH6.out.size)) _ _ _ _ ?_
    have hH6 : (fun w' : World => Below z6.heap.size z6 w') z6 := Below.refl _ _
    clear hHeld
    refine wpAnyH_take (i := 7) (v := ?_) rfl (by kernel_rfl) (by kernel_rfl) (by kernel_rfl) (fun _ _ _ h => h) (Or.inl ⟨by kernel_rfl, ?_⟩) (by with_reducible assumption) ?_
    rotate_left
    · intro wz hSw
      (try dsimp only at hSw)
      have hcv := conv_sl (c := c6) (Hs6.out.below hSw) Hs6.out.none1
      rw [HS2.out k6 Hg6.out] at hcv
      go_simp
      (try with_reducible rfl)
    (try simp only [Act.put, List.setIfInBounds_toArray])
    refine wpAnyH_take (i := 8) (v := ?_) rfl (by kernel_rfl) (by kernel_rfl) (by kernel_rfl) (fun _ _ _ h => h) (Or.inl ⟨by kernel_rfl, ?_⟩) (by with_reducible assumption) ?_
    rotate_left
    · intro wz hSw
      (try dsimp only at hSw)
      go_simp
      (try with_reducible rfl)
    (try simp only [Act.put])
    refine wpAnyH_take (i := 9) (v := ?_) rfl (by kernel_rfl) (by kernel_rfl) (by kernel_rfl) (fun _ _ _ h => h) (Or.inl ⟨by kernel_rfl, ?_⟩) (by with_reducible assumption) ?_
    rotate_left
    · intro wz hSw
      (try dsimp only at hSw)
      go_simp
      (try with_reducible rfl)
    (try simp only [Act.put])
    refine wpAnyH_take (i := 10) (v := ?_) rfl (by kernel_rfl) (by kernel_rfl) (by kernel_rfl) (fun _ _ _ h => h) (Or.inl ⟨by kernel_rfl, ?_⟩) (by with_reducible assumption) ?_
    rotate_left
    · intro wz hSw
      (try dsimp only at hSw)
      go_simp
      (try with_reducible rfl)
    (try simp only [Act.put])
    refine wpAnyH_take (i := 11) (v := ?_) rfl (by kernel_rfl) (by kernel_rfl) (by kernel_rfl) (fun _ _ _ h => h) (Or.inl ⟨by kernel_rfl, ?_⟩) (by with_reducible assumption) ?_
    rotate_left
    · intro wz hSw
      (try dsimp only at hSw)
      have hwW := HW6.out.trans (hSw.mono HW6.out.size)
      obtain ⟨y0, y1, y2, y3⟩ := (HM.out.below hwW HMb.out).cells4
      go_simp
      (try with_reducible rfl)
    (try simp only [Act.put])
    refine wpAnyH_take (i := 14) (v := ?_) rfl (by kernel_rfl) (by kernel_rfl) (by kernel_rfl) (fun _ _ _ h => h) (Or.inl ⟨by kernel_rfl, ?_⟩) (by with_reducible assumption) ?_
    rotate_left
    · intro wz hSw
      (try dsimp only at hSw)
      go_simp
      (try with_reducible rfl)
    (try simp only [Act.put])
    refine wpAnyH_take (i := 15) (v := ?_) rfl (by kernel_rfl) (by kernel_rfl) (by kernel_rfl) (fun _ _ _ h => h) (Or.inl ⟨by kernel_rfl, ?_⟩) (by with_reducible assumption) ?_
    rotate_left
    · intro wz hSw
      (try dsimp only at hSw)
      have hwW := HW6.out.trans (hSw.mono HW6.out.size)
      obtain ⟨y0, y1, y2, y3⟩ := (HM.out.below hwW HMb.out).cells4
      go_simp
      (try with_reducible rfl)
    (try simp only [Act.put])
    refine wpAnyH_ready (rs := [12]) (by kernel_rfl) (by simp) ?_
    refine AllReadyH.cons rfl (fun K hK => ?_) AllReadyH.nil
    go_simp
    go_at_call 45
    refine ((by have h := oamount_walk (some ⟨G, 0, none⟩) nb (nb + 50) f a z6 Ha.out (HG.out.below HW6.out) (fun h => by cases h) (by have := hnb.out; omega); unfold U at h; exact h : Calls Try.prog _ _ z6 (AmtPost nb f a z6))).mono ?_
    rintro e z12 ⟨⟨v12, rfl, hv12⟩, hb12⟩
    obtain ⟨A12, c12, rfl, hs12, hz12⟩ := own_sl hv12 (cat_small (cat_small HL.out.small (fun _ => by have := cnt_le (m := 32) Ha.out; omega)) (ab_small _))
    have Hs12 := Lib.hid hs12
    have HH12 := Lib.hid hb12
    have HW12 := Lib.hid (HW6.out.trans (hb12.mono HW6.out.size))
    clear hv12 hs12 hz12 hb12
    go_wp2_with fail
    refine hK.out _ _ ?_ (fun hHeld => ?_)
    · exact HH12.out
    clear hK K
    (try simp only [Act.put, List.setIfInBounds_toArray, List.set_cons_zero, List.set_cons_succ])
    refine wpAnyH_strong (S' := fun w' => Below z12.heap.size z12 w') (fun w h => HH12.out.trans (h.mono HH12.out.size)) _ _ _ _ ?_
    have hH12 : (fun w' : World => Below z12.heap.size z12 w') z12 := Below.refl _ _
    clear hHeld
    refine wpAnyH_take (i := 13) (v := ?_) rfl (by kernel_rfl) (by kernel_rfl) (by kernel_rfl) (fun _ _ _ h => h) (Or.inl ⟨by kernel_rfl, ?_⟩) (by with_reducible assumption) ?_
    rotate_left
    · intro wz hSw
      (try dsimp only at hSw)
      have hcv := conv_sl (c := c12) (Hs12.out.below hSw) Hs12.out.none1
      rw [← HSa.out] at hcv
      go_simp
      (try with_reducible rfl)
    (try simp only [Act.put, List.setIfInBounds_toArray])
    refine wpAnyH_ready (rs := [16]) (by kernel_rfl) (by simp) ?_
    refine AllReadyH.cons rfl (fun K hK => ?_) AllReadyH.nil
    go_simp
    go_at_call 46
    refine ((by have h := ramountp_walk A nb c f a z12 Ha.out (HL.out.below HW12.out) HA.out (by have := hnb.out; omega); unfold U at h; exact h : Calls Try.prog _ _ z12 (AmtPost nb f a z12))).mono ?_
    rintro e z16 ⟨⟨v16, rfl, hv16⟩, hb16⟩
    obtain ⟨A16, c16, rfl, hs16, hz16⟩ := own_sl hv16 (cat_small (cat_small HL.out.small (fun _ => by have := cnt_le (m := 32) Ha.out; omega)) (ab_small _))
    have Hs16 := Lib.hid hs16
    have HH16 := Lib.hid hb16
    have HW16 := Lib.hid (HW12.out.trans (hb16.mono HW12.out.size))
    clear hv16 hs16 hz16 hb16
    go_wp2_with fail
    refine hK.out _ _ ?_ (fun hHeld => ?_)
    · exact HH16.out
    clear hK K
    (try simp only [Act.put, List.setIfInBounds_toArray, List.set_cons_zero, List.set_cons_succ])
    refine wpAnyH_strong (S' := fun w' => Below z16.heap.size z16 w') (fun w h => HH16.out.trans (h.mono HH16.out.size)) _ _ _ _ ?_
    have hH16 : (fun w' : World => Below z16.heap.size z16 w') z16 := Below.refl _ _
    clear hHeld
    refine wpAnyH_take (i := 17) (v := ?_) rfl (by kernel_rfl) (by kernel_rfl) (by kernel_rfl) (fun _ _ _ h => h) (Or.inl ⟨by kernel_rfl, ?_⟩) (by with_reducible assumption) ?_
    rotate_left
    · intro wz hSw
      (try dsimp only at hSw)
      have hcv := conv_sl (c := c16) (Hs16.out.below hSw) Hs16.out.none1
      rw [← HSa.out] at hcv
      go_simp
      (try with_reducible rfl)
    (try simp only [Act.put, List.setIfInBounds_toArray])
    refine wpAnyH_take (i := 18) (v := ?_) rfl (by kernel_rfl) (by kernel_rfl) (by kernel_rfl) (fun _ _ _ h => h) (Or.inl ⟨by kernel_rfl, ?_⟩) (by with_reducible assumption) ?_
    rotate_left
    · intro wz hSw
      (try dsimp only at hSw)
      go_simp
      (try with_reducible rfl)
    (try simp only [Act.put])
    refine wpAnyH_take (i := 19) (v := ?_) rfl (by kernel_rfl) (by kernel_rfl) (by kernel_rfl) (fun _ _ _ h => h) (Or.inl ⟨by kernel_rfl, ?_⟩) (by with_reducible assumption) ?_
    rotate_left
    · intro wz hSw
      (try dsimp only at hSw)
      go_simp
      (try with_reducible rfl)
    (try simp only [Act.put])
    refine wpAnyH_take (i := 20) (v := ?_) rfl (by kernel_rfl) (by kernel_rfl) (by kernel_rfl) (fun _ _ _ h => h) (Or.inl ⟨by kernel_rfl, ?_⟩) (by with_reducible assumption) ?_
    rotate_left
    · intro wz hSw
      (try dsimp only at hSw)
      go_simp
      (try with_reducible rfl)
    (try simp only [Act.put])
    refine wpAnyH_take (i := 21) (v := ?_) rfl (by kernel_rfl) (by kernel_rfl) (by kernel_rfl) (fun _ _ _ h => h) (Or.inl ⟨by kernel_rfl, ?_⟩) (by with_reducible assumption) ?_
    rotate_left
    · intro wz hSw
      (try dsimp only at hSw)
      go_simp
      (try with_reducible rfl)
    (try simp only [Act.put])
    refine wpAnyH_take (i := 22) (v := .agg cs) rfl (by kernel_rfl) (by kernel_rfl) (by kernel_rfl) (fun _ _ _ h => h) (Or.inl ⟨by kernel_rfl, ?_⟩) (by with_reducible assumption) ?_
    · intro wz hSw
      (try dsimp only at hSw)
      have hwW := HW16.out.trans (hSw.mono HW16.out.size)
      exact exec_load_row 44 (.tmp 8) rfl hb0 rfl 44 cs (0, 0) _ ((hwW.block hb0 HRb.out).trans HR.out) Try.underlying44 rfl HI.out
    (try simp only [Act.put])
    refine wpAnyH_take (i := 25) (v := ?_) rfl (by kernel_rfl) (by kernel_rfl) (by kernel_rfl) (fun _ _ _ h => h) (Or.inl ⟨by kernel_rfl, ?_⟩) (by with_reducible assumption) ?_
    rotate_left
    · intro wz hSw
      (try dsimp only at hSw)
      go_simp
      (try with_reducible rfl)
    (try simp only [Act.put])
    refine wpAnyH_take (i := 26) (v := .agg cs) rfl (by kernel_rfl) (by kernel_rfl) (by kernel_rfl) (fun _ _ _ h => h) (Or.inl ⟨by kernel_rfl, ?_⟩) (by with_reducible assumption) ?_
    · intro wz hSw
      (try dsimp only at hSw)
      have hwW := HW16.out.trans (hSw.mono HW16.out.size)
      exact exec_load_row 44 (.tmp 8) rfl hb0 rfl 44 cs (0, 0) _ ((hwW.block hb0 HRb.out).trans HR.out) Try.underlying44 rfl HI.out
    (try simp only [Act.put])
    refine wpAnyH_ready (rs := [23]) (by kernel_rfl) (by simp) ?_
    refine AllReadyH.cons rfl (fun K hK => ?_) AllReadyH.nil
    go_simp
    go_at_call 47
    refine (ohash_walk (some ⟨G, 0, none⟩) nb (nb + 50) f (hb2 x y) cs _ HCs.out (HG.out.below HW16.out) (fun h => by cases h) (by have := hnb.out; omega) Hg.out).mono ?_
    rintro e z23 ⟨⟨v23, rfl, hv23⟩, hb23⟩
    obtain ⟨A23, c23, rfl, hs23, hz23⟩ := own_sl hv23 (cat_small HL.out.small Hg.out)
    have Hs23 := Lib.hid hs23
    have HH23 := Lib.hid hb23
    have HW23 := Lib.hid (HW16.out.trans (hb23.mono HW16.out.size))
    clear hv23 hs23 hz23 hb23
    go_wp2_with fail
    refine hK.out _ _ ?_ (fun hHeld => ?_)
    · exact HH23.out
    clear hK K
    (try simp only [Act.put, List.setIfInBounds_toArray, List.set_cons_zero, List.set_cons_succ])
    refine wpAnyH_strong (S' := fun w' => Below z23.heap.size z23 w') (fun w h => HH23.out.trans (h.mono HH23.out.size)) _ _ _ _ ?_
    have hH23 : (fun w' : World => Below z23.heap.size z23 w') z23 := Below.refl _ _
    clear hHeld
    refine wpAnyH_take (i := 24) (v := ?_) rfl (by kernel_rfl) (by kernel_rfl) (by kernel_rfl) (fun _ _ _ h => h) (Or.inl ⟨by kernel_rfl, ?_⟩) (by with_reducible assumption) ?_
    rotate_left
    · intro wz hSw
      (try dsimp only at hSw)
      have hcv := conv_sl (c := c23) (Hs23.out.below hSw) Hs23.out.none1
      rw [← HSh.out] at hcv
      go_simp
      (try with_reducible rfl)
    (try simp only [Act.put, List.setIfInBounds_toArray])
    refine wpAnyH_ready (rs := [27]) (by kernel_rfl) (by simp) ?_
    refine AllReadyH.cons rfl (fun K hK => ?_) AllReadyH.nil
    go_simp
    go_at_call 48
    refine (rhashp_walk A nb c f (hb2 x y) cs _ HCs.out (HL.out.below HW23.out) HA.out (by have := hnb.out; omega) Hg.out).mono ?_
    rintro e z27 ⟨⟨v27, rfl, hv27⟩, hb27⟩
    obtain ⟨A27, c27, rfl, hs27, hz27⟩ := own_sl hv27 (cat_small HL.out.small Hg.out)
    have Hs27 := Lib.hid hs27
    have HH27 := Lib.hid hb27
    have HW27 := Lib.hid (HW23.out.trans (hb27.mono HW23.out.size))
    clear hv27 hs27 hz27 hb27
    go_wp2_with fail
    refine hK.out _ _ ?_ (fun hHeld => ?_)
    · exact HH27.out
    clear hK K
    (try simp only [Act.put, List.setIfInBounds_toArray, List.set_cons_zero, List.set_cons_succ])
    refine wpAnyH_strong (S' := fun w' => Below z27.heap.size z27 w') (fun w h => HH27.out.trans (h.mono HH27.out.size)) _ _ _ _ ?_
    have hH27 : (fun w' : World => Below z27.heap.size z27 w') z27 := Below.refl _ _
    clear hHeld
    refine wpAnyH_take (i := 28) (v := ?_) rfl (by kernel_rfl) (by kernel_rfl) (by kernel_rfl) (fun _ _ _ h => h) (Or.inl ⟨by kernel_rfl, ?_⟩) (by with_reducible assumption) ?_
    rotate_left
    · intro wz hSw
      (try dsimp only at hSw)
      have hcv := conv_sl (c := c27) (Hs27.out.below hSw) Hs27.out.none1
      rw [← HSh.out] at hcv
      go_simp
      (try with_reducible rfl)
    (try simp only [Act.put, List.setIfInBounds_toArray])
    refine wpAnyH_take (i := 29) (v := ?_) rfl (by kernel_rfl) (by kernel_rfl) (by kernel_rfl) (fun _ _ _ h => h) (Or.inl ⟨by kernel_rfl, ?_⟩) (by with_reducible assumption) ?_
    rotate_left
    · intro wz hSw
      (try dsimp only at hSw)
      go_simp
      (try with_reducible rfl)
    (try simp only [Act.put])
    refine wpAnyH_take (i := 30) (v := ?_) rfl (by kernel_rfl) (by kernel_rfl) (by kernel_rfl) (fun _ _ _ h => h) (Or.inl ⟨by kernel_rfl, ?_⟩) (by with_reducible assumption) ?_
    rotate_left
    · intro wz hSw
      (try dsimp only at hSw)
      go_simp
      (try with_reducible rfl)
    (try simp only [Act.put])
    refine wpAnyH_take (i := 31) (v := ?_) rfl (by kernel_rfl) (by kernel_rfl) (by kernel_rfl) (fun _ _ _ h => h) (Or.inl ⟨by kernel_rfl, ?_⟩) (by with_reducible assumption) ?_
    rotate_left
    · intro wz hSw
      (try dsimp only at hSw)
      go_simp
      (try with_reducible rfl)
    (try simp only [Act.put])
    refine wpAnyH_take (i := 32) (v := ?_) rfl (by kernel_rfl) (by kernel_rfl) (by kernel_rfl) (fun _ _ _ h => h) (Or.inl ⟨by kernel_rfl, ?_⟩) (by with_reducible assumption) ?_
    rotate_left
    · intro wz hSw
      (try dsimp only at hSw)
      go_simp
      (try with_reducible rfl)
    (try simp only [Act.put])
    refine wpAnyH_take (i := 33) (v := ?_) rfl (by kernel_rfl) (by kernel_rfl) (by kernel_rfl) (fun _ _ _ h => h) (Or.inl ⟨by kernel_rfl, ?_⟩) (by with_reducible assumption) ?_
    rotate_left
    · intro wz hSw
      (try dsimp only at hSw)
      go_simp
      (try with_reducible rfl)
    (try simp only [Act.put])
    refine wpAnyH_take (i := 36) (v := ?_) rfl (by kernel_rfl) (by kernel_rfl) (by kernel_rfl) (fun _ _ _ h => h) (Or.inl ⟨by kernel_rfl, ?_⟩) (by with_reducible assumption) ?_
    rotate_left
    · intro wz hSw
      (try dsimp only at hSw)
      go_simp
      (try with_reducible rfl)
    (try simp only [Act.put])
    refine wpAnyH_take (i := 37) (v := ?_) rfl (by kernel_rfl) (by kernel_rfl) (by kernel_rfl) (fun _ _ _ h => h) (Or.inl ⟨by kernel_rfl, ?_⟩) (by with_reducible assumption) ?_
    rotate_left
    · intro wz hSw
      (try dsimp only at hSw)
      go_simp
      (try with_reducible rfl)
    (try simp only [Act.put])
    refine wpAnyH_ready (rs := [34]) (by kernel_rfl) (by simp) ?_
    refine AllReadyH.cons rfl (fun K hK => ?_) AllReadyH.nil
    go_simp
    go_at_call 49
    refine (otext_walk (some ⟨G, 0, none⟩) A nb (nb + 50) nb c f f _ (HG.out.below HW27.out) (fun h => by cases h) (by have := hnb.out; omega) (HL.out.below HW27.out) HA.out (by have := hnb.out; omega)).mono ?_
    rintro e z34 ⟨⟨v34, k34, rfl, hg34, hv34⟩, hb34⟩
    obtain ⟨A34, c34, rfl, hs34, hz34⟩ := own_sl hv34 (cat_small (cat_small HL.out.small (vb_small hg34)) HL.out.small)
    have Hg34 := Lib.hid hg34
    have Hs34 := Lib.hid hs34
    have HH34 := Lib.hid hb34
    have HW34 := Lib.hid (HW27.out.trans (hb34.mono HW27.out.size))
    clear hg34 hv34 hs34 hz34 hb34
    go_wp2_with fail
    refine hK.out _ _ ?_ (fun hHeld => ?_)
    · exact HH34.out
    clear hK K
    (try simp only [Act.put, List.setIfInBounds_toArray, List.set_cons_zero, List.set_cons_succ])
    refine wpAnyH_strong (S' := fun w' => Below z34.heap.size z34 w') (fun w h => HH34.out.trans (h.mono HH34.out.size)) _ _ _ _ ?_
    have hH34 : (fun w' : World => Below z34.heap.size z34 w') z34 := Below.refl _ _
    clear hHeld
    refine wpAnyH_take (i := 35) (v := ?_) rfl (by kernel_rfl) (by kernel_rfl) (by kernel_rfl) (fun _ _ _ h => h) (Or.inl ⟨by kernel_rfl, ?_⟩) (by with_reducible assumption) ?_
    rotate_left
    · intro wz hSw
      (try dsimp only at hSw)
      have hcv := conv_sl (c := c34) (Hs34.out.below hSw) Hs34.out.none1
      rw [HSt.out k34 Hg34.out] at hcv
      go_simp
      (try with_reducible rfl)
    (try simp only [Act.put, List.setIfInBounds_toArray])
    refine wpAnyH_ready (rs := [38]) (by kernel_rfl) (by simp) ?_
    refine AllReadyH.cons rfl (fun K hK => ?_) AllReadyH.nil
    go_simp
    go_at_call 50
    refine (rtext_walk A A nb c nb c f f _ (HL.out.below HW34.out) HA.out (by have := hnb.out; omega) (HL.out.below HW34.out) HA.out (by have := hnb.out; omega)).mono ?_
    rintro e z38 ⟨⟨v38, k38, rfl, hg38, hv38⟩, hb38⟩
    obtain ⟨A38, c38, rfl, hs38, hz38⟩ := own_sl hv38 (cat_small (cat_small HL.out.small (vb_small hg38)) HL.out.small)
    have Hg38 := Lib.hid hg38
    have Hs38 := Lib.hid hs38
    have HH38 := Lib.hid hb38
    have HW38 := Lib.hid (HW34.out.trans (hb38.mono HW34.out.size))
    clear hg38 hv38 hs38 hz38 hb38
    go_wp2_with fail
    refine hK.out _ _ ?_ (fun hHeld => ?_)
    · exact HH38.out
    clear hK K
    (try simp only [Act.put, List.setIfInBounds_toArray, List.set_cons_zero, List.set_cons_succ])
    refine wpAnyH_strong (S' := fun w' => Below z38.heap.size z38 w') (fun w h => HH38.out.trans (h.mono HH38.out.size)) _ _ _ _ ?_
    have hH38 : (fun w' : World => Below z38.heap.size z38 w') z38 := Below.refl _ _
    clear hHeld
    refine wpAnyH_take (i := 39) (v := ?_) rfl (by kernel_rfl) (by kernel_rfl) (by kernel_rfl) (fun _ _ _ h => h) (Or.inl ⟨by kernel_rfl, ?_⟩) (by with_reducible assumption) ?_
    rotate_left
    · intro wz hSw
      (try dsimp only at hSw)
      have hcv := conv_sl (c := c38) (Hs38.out.below hSw) Hs38.out.none1
      rw [HSt.out k38 Hg38.out] at hcv
      go_simp
      (try with_reducible rfl)
    (try simp only [Act.put, List.setIfInBounds_toArray])
    refine wpAnyH_take (i := 40) (v := ?_) rfl (by kernel_rfl) (by kernel_rfl) (by kernel_rfl) (fun _ _ _ h => h) (Or.inl ⟨by kernel_rfl, ?_⟩) (by with_reducible assumption) ?_
    rotate_left
    · intro wz hSw
      (try dsimp only at hSw)
      go_simp
      (try with_reducible rfl)
    (try simp only [Act.put])
    refine wpAnyH_take (i := 41) (v := ?_) rfl (by kernel_rfl) (by kernel_rfl) (by kernel_rfl) (fun _ _ _ h => h) (Or.inl ⟨by kernel_rfl, ?_⟩) (by with_reducible assumption) ?_
    rotate_left
    · intro wz hSw
      (try dsimp only at hSw)
      go_simp
      (try with_reducible rfl)
    show wpAnyH _ _ _ _ _ _ _ (Act.put _ (some 71) _) _
    (try simp only [Act.put])
    refine wpAnyH_take (i := 42) (v := ?_) rfl (by kernel_rfl) (by kernel_rfl) (by kernel_rfl) (fun _ _ _ h => h) (Or.inl ⟨by kernel_rfl, ?_⟩) (by with_reducible assumption) ?_
    rotate_left
    · intro wz hSw
      (try dsimp only at hSw)
      go_simp
      (try with_reducible rfl)
    show wpAnyH _ _ _ _ _ _ _ (Act.put _ (some 9) _) _
    (try simp only [Act.put])
    refine wpAnyH_done (by kernel_rfl) ?_ _
    obtain ⟨SB, hSB⟩ : ∃ S, S = sof f nb := ⟨_, rfl⟩
    obtain ⟨SG, hSG⟩ : ∃ S, S = sof (cat f nb spb) (nb + 5) := ⟨_, rfl⟩
    have hcat : SB ++ { data := #[115, 112, 97, 114, 101] } = SG := by rw [hSB, hSG]; exact sof_spare f nb
    have hszB : ¬ 9223372036854775807 < SB.size + 5 := by rw [hSB]; unfold sof; rw [strOfNums_size, List.length_map, List.length_range]; have := hnb.out; omega
    have HSG := Lib.hid hSG
    have HSB := Lib.hid hSB
    have i5 : IntKind.i64.wrap ((nb : Int) + 5) = (nb : Int) + 5 := wrap_nat63 (n := nb + 5) (by have := hnb.out; omega)
    have i6 : (0 : Int) ≤ (nb : Int) + 5 := by omega
    have i7 : ((nb : Int) + 5).toNat = nb + 5 := by omega
    have i8 : (nb : Int) + 5 ≤ (nb : Int) + 50 := by omega
    have HBZ := Lib.hid (HX.out.trans ((HBW.out.trans (HW38.out.mono HBW.out.size)).mono HX.out.size))
    clear hSB hSG
    go_upto_region 6 with fail
    refine wp_region_held_drew (S := fun w' => Below z38.heap.size z38 w') (by kernel_rfl) ?_ (fun hHeld => ?_)
    · exact (Below.refl _ _).drew
    refine wpAnyH_take (i := 0) (v := ?_) rfl (by kernel_rfl) (by kernel_rfl) (by kernel_rfl) (fun _ _ _ h => h) (Or.inl ⟨by kernel_rfl, ?_⟩) (by with_reducible assumption) ?_
    rotate_left
    · intro wz hSw
      (try dsimp only at hSw)
      go_simp
      (try with_reducible rfl)
    (try simp only [Act.put])
    refine wpAnyH_take (i := 1) (v := ?_) rfl (by kernel_rfl) (by kernel_rfl) (by kernel_rfl) (fun _ _ _ h => h) (Or.inl ⟨by kernel_rfl, ?_⟩) (by with_reducible assumption) ?_
    rotate_left
    · intro wz hSw
      (try dsimp only at hSw)
      go_simp
      (try with_reducible rfl)
    (try simp only [Act.put])
    refine wpAnyH_take (i := 2) (v := ?_) rfl (by kernel_rfl) (by kernel_rfl) (by kernel_rfl) (fun _ _ _ h => h) (Or.inl ⟨by kernel_rfl, ?_⟩) (by with_reducible assumption) ?_
    rotate_left
    · intro wz hSw
      (try dsimp only at hSw)
      go_simp
      (try with_reducible rfl)
    (try simp only [Act.put])
    refine wpAnyH_take (i := 3) (v := ?_) rfl (by kernel_rfl) (by kernel_rfl) (by kernel_rfl) (fun _ _ _ h => h) (Or.inl ⟨by kernel_rfl, ?_⟩) (by with_reducible assumption) ?_
    rotate_left
    · intro wz hSw
      (try dsimp only at hSw)
      go_simp
      (try with_reducible rfl)
    (try simp only [Act.put])
    refine wpAnyH_take (i := 4) (v := ?_) rfl (by kernel_rfl) (by kernel_rfl) (by kernel_rfl) (fun _ _ _ h => h) (Or.inl ⟨by kernel_rfl, ?_⟩) (by with_reducible assumption) ?_
    rotate_left
    · intro wz hSw
      (try dsimp only at hSw)
      go_simp
      (try with_reducible rfl)
    (try simp only [Act.put])
    refine wpAnyH_take (i := 5) (v := ?_) rfl (by kernel_rfl) (by kernel_rfl) (by kernel_rfl) (fun _ _ _ h => h) (Or.inl ⟨by kernel_rfl, ?_⟩) (by with_reducible assumption) ?_
    rotate_left
    · intro wz hSw
      (try dsimp only at hSw)
      go_simp
      (try with_reducible rfl)
    (try simp only [Act.put])
    refine wpAnyH_take (i := 6) (v := ?_) rfl (by kernel_rfl) (by kernel_rfl) (by kernel_rfl) (fun _ _ _ h => h) (Or.inl ⟨by kernel_rfl, ?_⟩) (by with_reducible assumption) ?_
    rotate_left
    · intro wz hSw
      (try dsimp only at hSw)
      go_simp
      (try with_reducible rfl)
    (try simp only [Act.put])
    refine wpAnyH_take (i := 7) (v := ?_) rfl (by kernel_rfl) (by kernel_rfl) (by kernel_rfl) (fun _ _ _ h => h) (Or.inl ⟨by kernel_rfl, ?_⟩) (by with_reducible assumption) ?_
    rotate_left
    · intro wz hSw
      (try dsimp only at hSw)
      have hcv := conv_sl (c := nb + 50) (HG5.out.below (HW38.out.trans (hSw.mono HW38.out.size))) (fun h => by cases h)
      rw [← HSG.out] at hcv
      go_simp
      (try with_reducible rfl)
    (try simp only [Act.put])
    refine wpAnyH_take (i := 8) (v := ?_) rfl (by kernel_rfl) (by kernel_rfl) (by kernel_rfl) (fun _ _ _ h => h) (Or.inl ⟨by kernel_rfl, ?_⟩) (by with_reducible assumption) ?_
    rotate_left
    · intro wz hSw
      (try dsimp only at hSw)
      go_simp
      (try with_reducible rfl)
    (try simp only [Act.put])
    refine wpAnyH_take (i := 9) (v := ?_) rfl (by kernel_rfl) (by kernel_rfl) (by kernel_rfl) (fun _ _ _ h => h) (Or.inl ⟨by kernel_rfl, ?_⟩) (by with_reducible assumption) ?_
    rotate_left
    · intro wz hSw
      (try dsimp only at hSw)
      have hcv := conv_sl (c := c) (HL.out.below (HW38.out.trans (hSw.mono HW38.out.size))) HL.out.none1
      rw [← HSB.out] at hcv
      go_simp
      (try with_reducible rfl)
    (try simp only [Act.put])
    refine wpAnyH_take (i := 10) (v := ?_) rfl (by kernel_rfl) (by kernel_rfl) (by kernel_rfl) (fun _ _ _ h => h) (Or.inl ⟨by kernel_rfl, ?_⟩) (by with_reducible assumption) ?_
    rotate_left
    · intro wz hSw
      (try dsimp only at hSw)
      go_simp
      (try with_reducible rfl)
    (try simp only [Act.put])
    refine wpAnyH_take (i := 11) (v := ?_) rfl (by kernel_rfl) (by kernel_rfl) (by kernel_rfl) (fun _ _ _ h => h) (Or.inl ⟨by kernel_rfl, ?_⟩) (by with_reducible assumption) ?_
    rotate_left
    · intro wz hSw
      (try dsimp only at hSw)
      go_simp
      (try with_reducible rfl)
    (try simp only [Act.put])
    refine wpAnyH_take (i := 12) (v := ?_) rfl (by kernel_rfl) (by kernel_rfl) (by kernel_rfl) (fun _ _ _ h => h) (Or.inl ⟨by kernel_rfl, ?_⟩) (by with_reducible assumption) ?_
    rotate_left
    · intro wz hSw
      (try dsimp only at hSw)
      go_simp
      (try with_reducible rfl)
    (try simp only [Act.put])
    refine wpAnyH_take (i := 13) (v := ?_) rfl (by kernel_rfl) (by kernel_rfl) (by kernel_rfl) (fun _ _ _ h => h) (Or.inl ⟨by kernel_rfl, ?_⟩) (by with_reducible assumption) ?_
    rotate_left
    · intro wz hSw
      (try dsimp only at hSw)
      go_simp
      (try with_reducible rfl)
    (try simp only [Act.put])
    refine wpAnyH_ready (rs := [14]) (by kernel_rfl) (by simp) ?_
    refine AllReadyH.cons rfl (fun K hK => ?_) AllReadyH.nil
    go_simp
    go_at_call 42
    refine (lives04_walk _).mono ?_
    rintro e z14 ⟨rfl, hb14⟩
    have HH14 := Lib.hid (hHeld.trans (hb14.mono hHeld.size))
    clear hb14
    go_wp2_with fail
    refine hK.out _ _ ?_ (fun hHeld => ?_)
    · exact HH14.out
    clear hK K
    (try simp only [Act.put, List.setIfInBounds_toArray, List.set_cons_zero, List.set_cons_succ])
    refine wpAnyH_take (i := 15) (v := ?_) rfl (by kernel_rfl) (by kernel_rfl) (by kernel_rfl) (fun _ _ _ h => h) (Or.inl ⟨by kernel_rfl, ?_⟩) (by with_reducible assumption) ?_
    rotate_left
    · intro wz hSw
      (try dsimp only at hSw)
      go_simp
      (try with_reducible rfl)
    show wpAnyH _ _ _ _ _ _ _ (Act.put _ (some 87) _) _
    (try simp only [Act.put, List.setIfInBounds_toArray, List.set_cons_zero, List.set_cons_succ])
    refine wpAnyH_take (i := 16) (v := ?_) rfl (by kernel_rfl) (by kernel_rfl) (by kernel_rfl) (fun _ _ _ h => h) (Or.inl ⟨by kernel_rfl, ?_⟩) (by with_reducible assumption) ?_
    rotate_left
    · intro wz hSw
      (try dsimp only at hSw)
      go_simp
      (try with_reducible rfl)
    show wpAnyH _ _ _ _ _ _ _ (Act.put _ (some 6) _) _
    (try simp only [Act.put, List.setIfInBounds_toArray, List.set_cons_zero, List.set_cons_succ])
    refine wpAnyH_done (by kernel_rfl) ?_ _
    go_wp2
    go_ret
    exact ⟨rfl, HBZ.out.trans (HH14.out.mono HBZ.out.size)⟩
end Go.Proofs.Ytcodlbfomfjmfaa
