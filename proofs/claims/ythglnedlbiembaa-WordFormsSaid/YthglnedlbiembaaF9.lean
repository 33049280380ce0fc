/- u256.Parse, at any text. -/
import Derived.Test.YthglnedlbiembaaF8
import Derived.Test.YthglnedlbiembaaSPa
namespace Go.Proofs.Ythglnedlbiembaa
open Go.RowKit Go.Sort

theorem mul10_g (m y : Nat) (k : Bool) (w : World) (hm : m < 2 ^ 256) (hy : mulv m 10 = y) (hk : mulk m 10 = k) : Calls Try.prog 19 #[U m, .agg #[.int .u64 10, .int .u64 0, .int .u64 0, .int .u64 0]] w
    fun e w' => e = .returned (.tuple #[U y, .bool k]) ∧ Below w.heap.size w w' := by
  have h := mul_c m 10 w hm (by decide)
  rw [U_small (show 10 < 2 ^ 64 by decide), hy, hk] at h
  exact h
theorem addd_g (y d z : Nat) (k : Bool) (w : World) (hy : y < 2 ^ 256) (hd : d < 10) (hz : addv y d = z) (hk : addk y d = k) : Calls Try.prog 15 #[U y, .agg #[.int .u64 (d : Nat), .int .u64 0, .int .u64 0, .int .u64 0]] w
    fun e w' => e = .returned (.tuple #[U z, .bool k]) ∧ Below w.heap.size w w' := by
  have h := add_c y d w hy (by omega)
  rw [U_small (show d < 2 ^ 64 by omega), hz, hk] at h
  exact h
theorem of10_g (w : World) : Calls Try.prog 39 #[.int .u64 10] w fun e w' => e = .returned (.agg #[.int .u64 10, .int .u64 0, .int .u64 0, .int .u64 0]) ∧ Below w.heap.size w w' := of_walk 10 w
def UpRel (s : ByteArray) (w : World) (i : Value) (wr : World) : Prop :=
  ∃ k, k ≤ s.size ∧ i = .int .i64 (k : Nat) ∧ Arr .u64 wr w.heap.size 4 (fun _ => 0) ∧ Arr .u64 wr (w.heap.size + 1) 4 (limb (pnum (sbyte s) k)) ∧ pnum (sbyte s) k < 2 ^ 256 ∧ (∀ j, j < k → 48 ≤ sbyte s j ∧ sbyte s j ≤ 57) ∧ Below w.heap.size w wr ∧ w.heap.size + 1 < wr.heap.size
theorem step_ok {m d : Nat} (hm : m < 2 ^ 256) (hd : d < 10) : (mulk m 10 = true ∧ addk (mulv m 10) d = true ∧ addv (mulv m 10) d = m * 10 + d ∧ m * 10 + d < 2 ^ 256) ∨ ((mulk m 10 = false ∨ mulk m 10 = true ∧ addk (mulv m 10) d = false) ∧ ¬ m * 10 + d < 2 ^ 256) := by
  unfold mulk addk addv mulv
  by_cases h : m * 10 < 2 ^ 256
  · rw [if_pos h, decide_eq_true h]
    by_cases h2 : m * 10 + d < 2 ^ 256
    · rw [if_pos h2, decide_eq_true h2]; exact .inl ⟨rfl, rfl, rfl, h2⟩
    · rw [decide_eq_false h2]; exact .inr ⟨.inr ⟨rfl, rfl⟩, h2⟩
  · rw [decide_eq_false h]; exact .inr ⟨.inl rfl, by omega⟩
set_option maxRecDepth 100000 in
set_option maxHeartbeats 12000000 in
theorem uparse_walk (s : ByteArray) (w : World) (hs : s.size ≤ 200) : Calls Try.prog 29 #[.string s] w (ParseAny s w) := by
  by_cases h0 : s.size = 0
  · have e0 : s.toList.isEmpty = true := by
      rw [ByteArray.toList_eq, List.isEmpty_iff]
      exact List.eq_nil_of_length_eq_zero h0
    have Hno := Lib.hid (show ¬ pok (sbyte s) s.size from fun h => by have := h.1; omega)
    clear h0
    go_enter Try.func29, Try.ntmps29
    go_wp2
    refine bodyPost_ret (v := .tuple #[.agg #[.int .u64 0, .int .u64 0, .int .u64 0, .int .u64 0], .bool false]) (by simp [results, Try.results29, go_sem]) rfl ⟨.inr ⟨Hno.out, by rw [U_zero]⟩, (Below.refl _ _).alloc (Nat.le_refl _) _⟩
  · have e0 : s.toList.isEmpty = false := by
      rw [ByteArray.toList_eq, List.isEmpty_eq_false_iff]
      intro e
      exact h0 (congrArg List.length e)
    have hp0 : 0 < s.size := by omega
    by_cases hb : 1 < s.size ∧ (s[0]'hp0).toNat = 48
    · have p2 : (1 : Int) < (s.size : Int) := by omega
      have p3 : (((s[0]'hp0).toNat : Int) == 48) = true := by rw [hb.2]; rfl
      have Hno := Lib.hid (show ¬ pok (sbyte s) s.size from fun h => by
        rcases h.2.1 with h1 | h1
        · omega
        · exact h1 (by unfold sbyte; rw [dif_pos hp0]; exact hb.2))
      clear h0 hb
      go_enter Try.func29, Try.ntmps29
      go_wp2
      refine bodyPost_ret (v := .tuple #[.agg #[.int .u64 0, .int .u64 0, .int .u64 0, .int .u64 0], .bool false]) (by simp [results, Try.results29, go_sem]) rfl ⟨.inr ⟨Hno.out, by rw [U_zero]⟩, (Below.refl _ _).alloc (Nat.le_refl _) _⟩
    · have hd : (¬ (1 : Int) < (s.size : Int)) ∨ ((1 : Int) < (s.size : Int) ∧ (((s[0]'hp0).toNat : Int) == 48) = false) := by
        by_cases h1 : 1 < s.size
        · exact .inr ⟨by omega, by rw [beq_eq_false_iff_ne]; intro h; exact hb ⟨h1, by omega⟩⟩
        · exact .inl (by omega)
      have Hlead := Lib.hid (show s.size = 1 ∨ sbyte s 0 ≠ 48 by
        by_cases h1 : 1 < s.size
        · right; unfold sbyte; rw [dif_pos hp0]; exact fun h => hb ⟨h1, h⟩
        · left; omega)
      have Hd := Lib.hid hd
      clear h0 hb hd
      go_enter Try.func29, Try.ntmps29
      go_upto_region 1 with (fail)
      go_cut [21] (fun q wx => q = .bool false ∧ wx = w.alloc (.cells #[.int .u64 0, .int .u64 0, .int .u64 0, .int .u64 0] 24))
      case first =>
        rcases Hd.out with hgt | ⟨hgt, hb0⟩
        · go_wp2
          go_meet
          case rel => exact ⟨rfl, rfl⟩
        · go_wp2
          go_meet
          case rel => exact ⟨rfl, rfl⟩
      case rest =>
        obtain ⟨rfl, rfl⟩ := hcut
        go_wp2
        go_loopw [25] (UpRel s w) (fun i _ => s.size - (intOf i).toNat)
        case atStart =>
          refine ⟨0, by omega, rfl, (Arr.new4 (f := fun _ => 0) rfl).alloc _, ?_, (by show 0 < 2 ^ 256; decide), fun j h => absurd h (by omega), ((Below.refl _ _).alloc (Nat.le_refl _) _).alloc (by simp only [World.size_alloc]; omega) _, by simp⟩
          refine (Arr.new4 (f := fun _ => 0) (by simp)).congr fun i _ => by simp [limb, pnum]
        case round =>
          obtain ⟨k, hk, rfl, hz, ha, hm256, hdig, hbel, hws⟩ := hrel
          by_cases hlt : k < s.size
          · have hI : (k : Int) < (s.size : Int) := by omega
            obtain ⟨b, hb⟩ : ∃ b, b = (s[k]'hlt).toNat := ⟨_, rfl⟩
            have hbk : (s[k]'hlt).toNat = b := hb.symm
            have hsb : sbyte s k = b := by unfold sbyte; rw [dif_pos hlt]; exact hbk
            clear hb
            by_cases hd : 48 ≤ b ∧ b ≤ 57
            · obtain ⟨d, hdd⟩ : ∃ d, d = b - 48 := ⟨_, rfl⟩
              have hd10 : d < 10 := by omega
              have b1 : ¬ (b : Int) < 48 := by omega
              have b2 : ¬ (57 : Int) < (b : Int) := by omega
              have b3 : IntKind.u8.wrap ((b : Int) - 48) = (d : Int) := by rw [IntWalk.u8_in _ (by omega)]; omega
              have b4 : IntKind.u64.wrap (d : Int) = (d : Int) := IntWalk.u64_in _ (by omega)
              obtain ⟨m, hm⟩ : ∃ m, m = pnum (sbyte s) k := ⟨_, rfl⟩
              rw [← hm] at ha hm256
              have hnext : m * 10 + d = pnum (sbyte s) (k + 1) := by rw [hm, hdd, ← hsb]; rfl
              have hdig' : ∀ j, j < k + 1 → 48 ≤ sbyte s j ∧ sbyte s j ≤ 57 := fun j hj => by
                rcases Nat.lt_or_ge j k with h | h
                · exact hdig j h
                · obtain rfl : j = k := by omega
                  rw [hsb]; exact hd
              have Hnext := Lib.hid hnext
              have Hdig := Lib.hid hdig'
              have Hst := Lib.hid (step_ok hm256 hd10)
              have Hm := Lib.hid hm256
              obtain ⟨y, hy⟩ : ∃ y, y = mulv m 10 := ⟨_, rfl⟩
              obtain ⟨fits, hfits⟩ : ∃ y, y = mulk m 10 := ⟨_, rfl⟩
              obtain ⟨z, hzz⟩ : ∃ t, t = addv y d := ⟨_, rfl⟩
              obtain ⟨ok, hok⟩ : ∃ t, t = addk y d := ⟨_, rfl⟩
              have Hy := Lib.hid hy.symm
              have Hf := Lib.hid hfits.symm
              have Hz := Lib.hid hzz.symm
              have Ho := Lib.hid hok.symm
              have Hy256 := Lib.hid (show y < 2 ^ 256 by rw [hy]; exact mulv_lt _ _)
              clear hm hdd hnext hdig hdig' hd hsb hm256 hy hfits hzz hok
              obtain ⟨a0, a1, a2, a3⟩ := ha.cells4
              go_upto_region 9 with (fail)
              have HB := Lib.hid ha
              have HR := Lib.hid (show Arr .u64 wr w.heap.size 4 (fun _ => 0) ∧ Below w.heap.size w wr ∧ w.heap.size + 1 < wr.heap.size from ⟨hz, hbel, hws⟩)
              obtain ⟨W, hW⟩ : ∃ W, W = wr := ⟨_, rfl⟩
              rw [← hW] at HB HR a0 a1 a2 a3
              rw [← hW]
              clear hW ha hz hbel hws
              go_cut [6, 7] (fun p q wx => ∃ L, p = .pointer (some ⟨L, 0, none⟩) ∧ q = .bool fits ∧ Box wx L y ∧ W.heap.size ≤ L ∧ Below W.heap.size W wx)
              case first =>
                go_region_held3 (fun w' => w'.cell? ⟨w.heap.size + 1, 0, none⟩ = some (.int .u64 (limb m 0 : Nat)) ∧ w'.cell? ⟨w.heap.size + 1, 1, none⟩ = some (.int .u64 (limb m 1 : Nat)) ∧ w'.cell? ⟨w.heap.size + 1, 2, none⟩ = some (.int .u64 (limb m 2 : Nat)) ∧ w'.cell? ⟨w.heap.size + 1, 3, none⟩ = some (.int .u64 (limb m 3 : Nat)) ∧ Below W.heap.size W w')
                  ((refine hldW HB.out ?_; repeat (first | with_reducible exact k2 | with_reducible exact k1 | with_reducible exact Below.refl _ _ | with_reducible refine kpD ?_ | with_reducible refine kpA ?_ _ | with_reducible refine kpP ?_ (by omega) | with_reducible exact un_hldW (by with_reducible assumption))))
                  (first
                    | (go_at_call 19; refine (mul10_g m y fits _ Hm.out Hy.out Hf.out).mono ?_; rintro e v2 ⟨rfl, hv2⟩; have k2 := kpB (un_hldW (by with_reducible assumption)) hv2; have y2 := hv2.size; (try simp at y2); (first | (with_reducible have zA2 := carry0 zA hv2) | skip); (first | (with_reducible have zB2 := z_one hv2) | skip); (first | (obtain ⟨_, _, _, _⟩ := zA2.frees4; obtain ⟨_, _, _, _⟩ := zA2.cells4; have lzA2 := zA2.lt4) | skip); (first | (obtain ⟨_, _, _, _⟩ := zB2.frees4; obtain ⟨_, _, _, _⟩ := zB2.cells4; have lzB2 := zB2.lt4) | skip); unfold U)
                    | (go_at_call 39; refine (of10_g _).mono ?_; rintro e v1 ⟨rfl, hv1⟩; have k1 := kpB (un_hldW (by with_reducible assumption)) hv1; have y1 := k1.size; (first | (with_reducible have zA := z_one_d hv1) | skip)))
                all_goals
                  go_wp2
                  go_meet
                  case rel =>
                    refine ⟨_, rfl, rfl, ⟨?_, ?_⟩, ?_, ?_⟩
                    · repeat (first | with_reducible assumption | with_reducible exact Arr.new4 (f := limb y) rfl | with_reducible refine Arr.put4 (f := fun _ => 0) ?_)
                    · simp only [World.size_setCell, World.size_alloc]; omega
                    · omega
                    · repeat (first | with_reducible exact k2 | with_reducible refine kpA ?_ _ | with_reducible refine kpP ?_ (by omega))
              case rest =>
                obtain ⟨L, rfl, rfl, bl, hL, hbl⟩ := hcut
                have HR2 := Lib.hid (show Arr .u64 wc w.heap.size 4 (fun _ => 0) ∧ Arr .u64 wc (w.heap.size + 1) 4 (limb m) ∧ Below w.heap.size w wc ∧ w.heap.size + 1 < wc.heap.size from ⟨HR.out.1.below hbl HR.out.1.lt4, HB.out.below hbl HB.out.lt4, HR.out.2.1.trans (hbl.mono HR.out.2.1.size), Nat.lt_of_lt_of_le HR.out.2.2 hbl.size⟩)
                clear HB HR a0 a1 a2 a3 hbl hL
                obtain ⟨W2, hW⟩ : ∃ W, W = wc := ⟨_, rfl⟩
                have HB := Lib.hid bl.a
                obtain ⟨c0, c1, c2, c3⟩ := bl.a.cells4
                rw [← hW] at HB HR2 c0 c1 c2 c3
                rw [← hW]
                clear hW bl
                go_upto_region 10 with (fail)
                go_cut [8, 9] (fun p q wx => ∃ M, p = .pointer (some ⟨M, 0, none⟩) ∧ q = .bool ok ∧ Box wx M z ∧ W2.heap.size ≤ M ∧ Below W2.heap.size W2 wx)
                case first =>
                  go_region_held3 (fun w' => w'.cell? ⟨L, 0, none⟩ = some (.int .u64 (limb y 0 : Nat)) ∧ w'.cell? ⟨L, 1, none⟩ = some (.int .u64 (limb y 1 : Nat)) ∧ w'.cell? ⟨L, 2, none⟩ = some (.int .u64 (limb y 2 : Nat)) ∧ w'.cell? ⟨L, 3, none⟩ = some (.int .u64 (limb y 3 : Nat)) ∧ Below W2.heap.size W2 w')
                    ((refine hldW HB.out ?_; repeat (first | with_reducible exact k2 | with_reducible exact k1 | with_reducible exact Below.refl _ _ | with_reducible refine kpD ?_ | with_reducible refine kpA ?_ _ | with_reducible refine kpP ?_ (by omega) | with_reducible exact un_hldW (by with_reducible assumption))))
                    (first
                      | (go_at_call 15; refine (addd_g y d z ok _ Hy256.out hd10 Hz.out Ho.out).mono ?_; rintro e v2 ⟨rfl, hv2⟩; have k2 := kpB (un_hldW (by with_reducible assumption)) hv2; have y2 := hv2.size; (try simp at y2); (first | (with_reducible have zA2 := carry0 zA hv2) | skip); (first | (with_reducible have zB2 := z_one hv2) | skip); (first | (obtain ⟨_, _, _, _⟩ := zA2.frees4; obtain ⟨_, _, _, _⟩ := zA2.cells4; have lzA2 := zA2.lt4) | skip); (first | (obtain ⟨_, _, _, _⟩ := zB2.frees4; obtain ⟨_, _, _, _⟩ := zB2.cells4; have lzB2 := zB2.lt4) | skip); unfold U)
                      | (go_at_call 39; refine (of_walk d _).mono ?_; rintro e v1 ⟨rfl, hv1⟩; have k1 := kpB (un_hldW (by with_reducible assumption)) hv1; have y1 := k1.size; (first | (with_reducible have zA := z_one_d hv1) | skip)))
                  all_goals
                    go_wp2
                    go_meet
                    case rel =>
                      refine ⟨_, rfl, rfl, ⟨?_, ?_⟩, ?_, ?_⟩
                      · repeat (first | with_reducible assumption | with_reducible exact Arr.new4 (f := limb z) rfl | with_reducible refine Arr.put4 (f := fun _ => 0) ?_)
                      · simp only [World.size_setCell, World.size_alloc]; omega
                      · omega
                      · repeat (first | with_reducible exact k2 | with_reducible refine kpA ?_ _ | with_reducible refine kpP ?_ (by omega))
                case rest =>
                  obtain ⟨M, rfl, rfl, bm, hM, hbl⟩ := hcut
                  have HR3 := HR2.out
                  have hz3 := HR3.1.below hbl HR3.1.lt4
                  have ha3 := HR3.2.1.below hbl HR3.2.1.lt4
                  have hbel3 := HR3.2.2.1.trans (hbl.mono HR3.2.2.1.size)
                  have hws3 := Nat.lt_of_lt_of_le HR3.2.2.2 hbl.size
                  obtain ⟨d0, d1, d2, d3⟩ := bm.a.cells4
                  obtain ⟨x0, x1, x2, x3⟩ := ha3.cells4
                  obtain ⟨y0, y1, y2, y3⟩ := ha3.frees4
                  obtain ⟨z0, z1, z2, z3⟩ := hz3.cells4
                  obtain ⟨f0, f1, f2, f3⟩ := hz3.frees4
                  rcases Hst.out with ⟨g1, g2, g3, g4⟩ | ⟨g1, g2⟩
                  · have hft : fits = true := by rw [← Hf.out]; exact g1
                    have hot : ok = true := by rw [← Ho.out, ← Hy.out]; exact g2
                    have hzv : z = m * 10 + d := by rw [← Hz.out, ← Hy.out]; exact g3
                    have Hzv := Lib.hid hzv
                    have Hg4 := Lib.hid g4
                    subst hft hot
                    clear g1 g2 g3 g4 hzv
                    go_wp2
                    go_roundw
                    case rel =>
                      refine ⟨k + 1, by omega, by go_num, hz3.put4_far (by omega), ?_, by rw [← Hnext.out]; exact Hg4.out, Hdig.out, below_set4 hbel3 (by omega), by simp only [World.size_setCell]; exact hws3⟩
                      rw [← Hnext.out, ← Hzv.out]; exact ha3.put4
                    case measure => simp [intOf]; omega
                  · have Hno := Lib.hid (show ¬ pok (sbyte s) s.size from fun h => g2 (by
                      rw [Hnext.out]
                      exact Nat.lt_of_le_of_lt (pnum_mono (by omega)) h.2.2.2))
                    have part : fits = false ∨ fits = true ∧ ok = false := by
                      rw [← Hf.out, ← Ho.out, ← Hy.out]; exact g1
                    clear g1 g2
                    rcases part with rfl | ⟨rfl, rfl⟩
                    · go_wp2
                      refine bodyPost_ret (v := .tuple #[.agg #[.int .u64 0, .int .u64 0, .int .u64 0, .int .u64 0], .bool false]) (by simp [results, Try.results29, go_sem, z0, z1, z2, z3]) rfl ⟨.inr ⟨Hno.out, by rw [U_zero]⟩, below_set4 hbel3 (Nat.le_refl _)⟩
                    · go_wp2
                      refine bodyPost_ret (v := .tuple #[.agg #[.int .u64 0, .int .u64 0, .int .u64 0, .int .u64 0], .bool false]) (by simp [results, Try.results29, go_sem, z0, z1, z2, z3]) rfl ⟨.inr ⟨Hno.out, by rw [U_zero]⟩, below_set4 hbel3 (Nat.le_refl _)⟩
            · have Hno := Lib.hid (show ¬ pok (sbyte s) s.size from fun h => hd (by rw [← hsb]; exact h.2.2.1 k hlt))
              have part : b < 48 ∨ ¬ b < 48 ∧ 57 < b := by omega
              obtain ⟨z0, z1, z2, z3⟩ := hz.frees4
              obtain ⟨y0, y1, y2, y3⟩ := hz.cells4
              clear hd hdig hsb ha hm256
              rcases part with h1 | ⟨h1, h2⟩
              · have r1 : (b : Int) < 48 := by omega
                clear h1
                go_wp2
                refine bodyPost_ret (v := .tuple #[.agg #[.int .u64 0, .int .u64 0, .int .u64 0, .int .u64 0], .bool false]) (by simp [results, Try.results29, go_sem, y0, y1, y2, y3]) rfl ⟨.inr ⟨Hno.out, by rw [U_zero]⟩, below_set4 hbel (Nat.le_refl _)⟩
              · have r1 : ¬ (b : Int) < 48 := by omega
                have r2 : (57 : Int) < (b : Int) := by omega
                clear h1 h2
                go_wp2
                refine bodyPost_ret (v := .tuple #[.agg #[.int .u64 0, .int .u64 0, .int .u64 0, .int .u64 0], .bool false]) (by simp [results, Try.results29, go_sem, y0, y1, y2, y3]) rfl ⟨.inr ⟨Hno.out, by rw [U_zero]⟩, below_set4 hbel (Nat.le_refl _)⟩
          · have hke : k = s.size := by omega
            subst hke
            have hI : ¬ ((s.size : Nat) : Int) < (s.size : Int) := by omega
            have Hyes := Lib.hid (show pok (sbyte s) s.size from ⟨hp0, Hlead.out, hdig, hm256⟩)
            obtain ⟨N, hN⟩ : ∃ N, N = pnum (sbyte s) s.size := ⟨_, rfl⟩
            rw [← hN] at ha
            have HN := Lib.hid hN
            obtain ⟨s0, s1, s2, s3⟩ := ha.cells4
            obtain ⟨y0, y1, y2, y3⟩ := hz.frees4
            obtain ⟨z0, z1, z2, z3⟩ := hz.cells4
            clear hdig hm256 hN
            go_wp2
            refine bodyPost_ret (v := .tuple #[.agg #[.int .u64 (limb N 0 : Nat), .int .u64 (limb N 1 : Nat), .int .u64 (limb N 2 : Nat), .int .u64 (limb N 3 : Nat)], .bool true]) (by simp [results, Try.results29, go_sem, z0, z1, z2, z3]) rfl ⟨.inl ⟨Hyes.out, by rw [← HN.out]; rfl⟩, below_set4 hbel (Nat.le_refl _)⟩
end Go.Proofs.Ythglnedlbiembaa
