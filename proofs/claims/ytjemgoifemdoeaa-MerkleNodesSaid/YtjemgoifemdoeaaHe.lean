/- sha.cubeRoots, walked. -/
import Derived.Test.YtjemgoifemdoeaaHd
namespace Go.Proofs.Ytjemgoifemdoeaa
open Go.RowKit

def wz : Array Value := #[.int .u32 0, .int .u32 0, .int .u32 0, .int .u32 0, .int .u32 0, .int .u32 0, .int .u32 0, .int .u32 0, .int .u32 0, .int .u32 0, .int .u32 0, .int .u32 0, .int .u32 0, .int .u32 0, .int .u32 0, .int .u32 0, .int .u32 0, .int .u32 0, .int .u32 0, .int .u32 0, .int .u32 0, .int .u32 0, .int .u32 0, .int .u32 0, .int .u32 0, .int .u32 0, .int .u32 0, .int .u32 0, .int .u32 0, .int .u32 0, .int .u32 0, .int .u32 0, .int .u32 0, .int .u32 0, .int .u32 0, .int .u32 0, .int .u32 0, .int .u32 0, .int .u32 0, .int .u32 0, .int .u32 0, .int .u32 0, .int .u32 0, .int .u32 0, .int .u32 0, .int .u32 0, .int .u32 0, .int .u32 0, .int .u32 0, .int .u32 0, .int .u32 0, .int .u32 0, .int .u32 0, .int .u32 0, .int .u32 0, .int .u32 0, .int .u32 0, .int .u32 0, .int .u32 0, .int .u32 0, .int .u32 0, .int .u32 0, .int .u32 0, .int .u32 0]
theorem wz_vals : wz = (vals .u32 (fun _ => 0) 64).toArray := by kernel_rfl
theorem wz_info : (Try.prog.info? 84).map (·.size) = some 64 := by kernel_rfl
/-- the i-th constant -/
def cubeK (i : Nat) : Nat := rootC (primeF i) 35 % 2 ^ 32
def upTo (g : Nat → Nat) (k i : Nat) : Nat := if i < k then g i else 0
theorem upTo_succ (g : Nat → Nat) (k : Nat) : upd (upTo g k) k (g k) = upTo g (k + 1) := by
  funext i
  unfold upd upTo
  by_cases h : i = k
  · subst h; simp
  · rw [if_neg h]
    by_cases h2 : i < k
    · rw [if_pos h2, if_pos (by omega)]
    · rw [if_neg h2, if_neg (by omega)]
structure CbAt (w wr : World) (k : Nat) : Prop where
  res : wr.heap[w.heap.size]? = some (.cells wz 84 (0, 0))
  lst : wr.heap[w.heap.size + 1]? = some (.cells (vals .u32 (upTo cubeK k) 64).toArray 84 (0, 0))
  bel : Below w.heap.size w wr
def cb0 (w : World) : World := (w.alloc (.cells wz 84)).alloc (.cells wz 84)
theorem cb0_at (w : World) : CbAt w (cb0 w) 0 := by
  refine ⟨(heap_alloc_old _ _ (by simp)).trans (heap_alloc_new _ _), ?_, ((Below.refl w.heap.size w).alloc (Nat.le_refl _) _).alloc (by simp) _⟩
  have e1 : w.heap.size + 1 = (w.alloc (.cells wz 84)).heap.size := by simp
  rw [e1]
  refine (heap_alloc_new _ _).trans ?_
  rw [wz_vals]
  rfl
theorem CbAt.below {w wr wr' : World} {k : Nat} (h : CbAt w wr k) (hb : Below wr.heap.size wr wr') : CbAt w wr' k :=
  ⟨(hb.block _ (row_lt h.res)).trans h.res, (hb.block _ (row_lt h.lst)).trans h.lst, h.bel.trans (hb.mono h.bel.size)⟩
theorem CbAt.put {w wr : World} {k : Nat} (h : CbAt w wr k) (hk : k < 64) : CbAt w (wr.setCell ⟨w.heap.size + 1, k, none⟩ (.int .u32 (cubeK k : Nat))) (k + 1) := by
  refine ⟨(row_far (by omega)).trans h.res, ?_, h.bel.setCell (by show w.heap.size ≤ w.heap.size + 1; omega) _⟩
  rw [row_set h.lst, vals_set _ _ _ hk, upTo_succ]
theorem rootC_yes {p j x : Nat} (hx : x = rootC p j ||| 17179869184 / 2 ^ j) (h : cubeOk p x = true) : rootC p (j + 1) = x := by
  show (if cubeOk p _ then _ else _) = _
  rw [← hx, if_pos h]
theorem rootC_no {p j x : Nat} (hx : x = rootC p j ||| 17179869184 / 2 ^ j) (h : cubeOk p x = false) : rootC p (j + 1) = rootC p j := by
  show (if cubeOk p _ then _ else _) = _
  rw [← hx, if_neg (by rw [h]; decide)]
def RtRel (p : Nat) (wk : World) (r b : Value) (wr : World) : Prop :=
  ∃ j bt : Nat, j ≤ 35 ∧ bt = 17179869184 / 2 ^ j ∧ b = .int .u64 (bt : Nat) ∧ r = .int .u64 (rootC p j : Nat) ∧ wk = wr
set_option maxRecDepth 100000 in
set_option maxHeartbeats 4000000 in
theorem cubeRoots_walk (w : World) : Calls Try.prog 53 #[] w fun e w' => e = .returned (.agg (vals .u32 cubeK 64).toArray) ∧ Below w.heap.size w w' := by
  have H0 := Lib.hid (cb0_at w)
  have HP := Lib.hid (primes_walk (cb0 w))
  have HI := Lib.hid (fun (k : Nat) (hk : k < 64) (w : World) => idx64 primeF hk w)
  obtain ⟨cs, hcs⟩ : ∃ cs, cs = (vals .u64 primeF 64).toArray := ⟨_, rfl⟩
  rw [← hcs] at HP HI
  clear hcs
  go_enter Try.func53, Try.ntmps53
  go_wp2_with fail
  show Calls Try.prog _ _ (cb0 w) _
  refine HP.out.mono ?_
  rintro e w1 ⟨rfl, hb1⟩
  have H1 := Lib.hid (H0.out.below hb1)
  clear hb1
  go_wp2
  go_loopw [11] (fun i wr => ∃ k : Nat, k ≤ 64 ∧ i = .int .i64 (k : Nat) ∧ CbAt w wr k) (fun i _ => 64 - (intOf i).toNat)
  case atStart => exact ⟨0, by omega, rfl, H1.out⟩
  case round =>
    obtain ⟨k, hk, rfl, hc⟩ := hrel
    have HC := Lib.hid hc
    clear hc
    by_cases hlt : k < 64
    · have p1 : (k : Int) < 64 := by omega
      have hix := HI.out k hlt
      obtain ⟨p, hp⟩ : ∃ p, p = primeF k := ⟨_, rfl⟩
      rw [← hp] at hix
      have hp312 : p < 312 := by rw [hp]; exact prime_lt k
      have HPr := Lib.hid hp
      clear hp
      go_wp2
      go_loopw [4, 5] (RtRel p wr) (fun _ b _ => (intOf b).toNat)
      case atStart => exact ⟨0, 17179869184, by omega, by decide, rfl, rfl, by trivial⟩
      case round =>
        obtain ⟨j, bt, hj, hbt, rfl, rfl, rfl⟩ := hrel
        obtain ⟨r, hr⟩ : ∃ r, r = rootC p j := ⟨_, rfl⟩
        have hrl : r < 2 ^ 35 := by rw [hr]; exact rootC_lt p j
        have hbl : bt < 2 ^ 35 := by rw [hbt]; exact bit_lt j
        have hbh : bt / 2 = 17179869184 / 2 ^ (j + 1) := by rw [hbt]; exact bit_half j
        have hb0 : 0 < bt ↔ j < 35 := by rw [hbt]; exact bit_pos
        rw [← hr]
        have Hr := Lib.hid hr
        have Hbt := Lib.hid hbt
        have Hbh := Lib.hid hbh
        by_cases hb : 0 < bt
        · have q1 : (0 : Int) < bt := by omega
          have hj35 := hb0.1 hb
          obtain ⟨x, hx⟩ : ∃ x, x = r ||| bt := ⟨_, rfl⟩
          have hx36 : x < 2 ^ 36 := by rw [hx]; exact Nat.lt_of_lt_of_le (Nat.or_lt_two_pow hrl hbl) (by decide)
          have e0 : bits .or .u64 (r : Int) (bt : Int) = (x : Int) := by rw [hx]; exact bits_or64 (by omega) (by omega)
          obtain ⟨hi, hhi⟩ : ∃ h, h = x * x / 18446744073709551616 := ⟨_, rfl⟩
          obtain ⟨lo, hlo⟩ : ∃ h, h = x * x % 18446744073709551616 := ⟨_, rfl⟩
          obtain ⟨ov, hov⟩ : ∃ h, h = lo * x / 18446744073709551616 := ⟨_, rfl⟩
          obtain ⟨l2, hl2⟩ : ∃ h, h = lo * x % 18446744073709551616 := ⟨_, rfl⟩
          have hw := cube_words hx36
          rw [← hhi, ← hlo, ← hov, ← hl2] at hw
          obtain ⟨T, hT⟩ : ∃ T, T = x * x * x / 2 ^ 64 := ⟨_, rfl⟩
          rw [← hT] at hw
          obtain ⟨A, hA⟩ : ∃ A, A = hi * x := ⟨_, rfl⟩
          rw [← hA] at hw
          have a1 : (hi : Int) * (x : Int) = (A : Int) := by rw [hA, Int.natCast_mul]
          have a2 : (A : Int) + (ov : Int) = (T : Int) := by omega
          have hTl : T < 2 ^ 44 := hw.2.2
          have hAl : A < 2 ^ 44 := by omega
          have hol : ov < 2 ^ 44 := by omega
          obtain ⟨P, hP⟩ : ∃ P, P = p * 2 ^ 32 := ⟨_, rfl⟩
          have a3 : (p : Int) * 4294967296 = (P : Int) := by omega
          have hPl : P < 2 ^ 44 := by omega
          have hlol : lo < 18446744073709551616 := by rw [hlo]; exact Nat.mod_lt _ (by decide)
          have hl2l : l2 < 18446744073709551616 := by rw [hl2]; exact Nat.mod_lt _ (by decide)
          have HM1 := Lib.hid (fun w => (Try.bits_Mul64 x x (by omega) (by omega) w))
          have HM2 := Lib.hid (fun w => (Try.bits_Mul64 lo x hlol (by omega) w))
          rw [← hhi, ← hlo] at HM1
          rw [← hov, ← hl2] at HM2
          have HOK := Lib.hid (show cubeOk p x = (decide (T < P) || (decide (T = P) && decide (l2 = 0))) by unfold cubeOk; rw [← hT, ← hP, ← hw.2.1])
          have HX := Lib.hid hx
          have Hj := Lib.hid hj35
          have HB := Lib.hid hb
          clear hx hhi hlo hov hl2 hw hT hA hP hr hbt hbh hb0 hj35 hb
          go_wp2_with (first
            | (go_at_call 70; (with_reducible refine (HM2.out _).mono ?_); rintro e w3 ⟨rfl, rfl⟩)
            | (go_at_call 70; (with_reducible refine (HM1.out _).mono ?_); rintro e w3 ⟨rfl, rfl⟩))
          all_goals
            have hl0 : ((l2 : Int) == 0) = true ↔ l2 = 0 := by rw [beq_iff_eq]; omega
            have hl1 : ((l2 : Int) == 0) = false ↔ ¬ l2 = 0 := by rw [beq_eq_false_iff_ne]; omega
            try simp only [hl0, hl1] at *
            first
              | (have hok : cubeOk p x = true := by rw [HOK.out, Bool.or_eq_true, Bool.and_eq_true, decide_eq_true_iff, decide_eq_true_iff, decide_eq_true_iff]; omega
                 exact ⟨⟨j + 1, bt / 2, Hj.out, Hbh.out, by simp, by rw [rootC_yes (by rw [HX.out, Hr.out, Hbt.out]) hok], by trivial⟩, by have := HB.out; simp [intOf]; omega⟩)
              | (have hok : cubeOk p x = false := by
                   rw [HOK.out, Bool.or_eq_false_iff, Bool.and_eq_false_iff, decide_eq_false_iff_not, decide_eq_false_iff_not, decide_eq_false_iff_not]; omega
                 exact ⟨⟨j + 1, bt / 2, Hj.out, Hbh.out, by simp, by rw [rootC_no (by rw [HX.out, Hr.out, Hbt.out]) hok, ← Hr.out], by trivial⟩, by have := HB.out; simp [intOf]; omega⟩)
        · have q1 : ¬ (0 : Int) < bt := by omega
          have hj35 : j = 35 := by omega
          have hck : r % 2 ^ 32 = cubeK k := by unfold cubeK; rw [← HPr.out, ← hj35, Hr.out]
          have a0 : (r : Int) % 4294967296 = (cubeK k : Nat) := by rw [← hck]; omega
          have cl : wr.cell? ⟨w.heap.size + 1, k, none⟩ = some (.int .u32 (upTo cubeK k k : Nat)) := (row_cell HC.out.lst).trans (by rw [List.getElem?_toArray]; exact vals_get _ _ hlt)
          have gl : wr.frozen? ⟨w.heap.size + 1, k, none⟩ = false := row_free HC.out.lst
          have HCp := Lib.hid (HC.out.put hlt)
          obtain ⟨v, hv⟩ : ∃ v, v = cubeK k := ⟨_, rfl⟩
          rw [← hv] at a0 HCp
          clear hck hj35 hv hb0 hbt hbh hr
          go_wp2
          exact ⟨⟨k + 1, by omega, by simp, HCp.out⟩, by simp [intOf]; omega⟩
    · have p1 : ¬ (k : Int) < 64 := by omega
      obtain rfl : k = 64 := by omega
      obtain ⟨cz, hcz⟩ : ∃ cs, cs = (vals .u32 cubeK 64).toArray := ⟨_, rfl⟩
      have hr : wr.heap[w.heap.size + 1]? = some (.cells cz 84 (0, 0)) := by
        rw [hcz, show vals .u32 cubeK 64 = vals .u32 (upTo cubeK 64) 64 from vals_congr fun i hi => by unfold upTo; rw [if_pos hi]]; exact HC.out.lst
      have hsz : cz.size = 64 := by rw [hcz]; simp [vals_length]
      have R1 := Lib.hid hr
      have R0 := Lib.hid HC.out.res
      have Hi := Lib.hid (show (Try.prog.info? 84).map (·.size) = some cz.size by rw [hsz]; exact wz_info)
      have Hsz := Lib.hid (show wz.size = cz.size by rw [hsz]; rfl)
      have Hone := Lib.hid (show cz.all (·.oneCell') = true by rw [hcz]; exact vals_all _ _ _)
      have Hcs := Lib.hid hcz
      clear hr hcz hsz
      go_upto_region 17 with fail
      refine wp_region_lit (wpList_load_row rfl 84 (.tmp 1) rfl (w.heap.size + 1) rfl _ cz (0, 0) _ R1.out Try.underlying84 rfl Hi.out ?_)
      refine wpList_store_row rfl 84 (.tmp 0) (.tmp 59) rfl w.heap.size cz rfl rfl _ wz R0.out Hi.out Hsz.out Hone.out ?_
      refine wpList_nil ?_
      go_wp2
      refine bodyPost_ret (v := .agg cz) (results_cell_row rfl _ _ w.heap.size 84 cz (0, 0) _ rfl (setRow_heap _ _ wz _ _ _ R0.out) Try.underlying84 rfl Hi.out) rfl ?_
      exact ⟨by rw [Hcs.out], below_setRow HC.out.bel (Nat.le_refl _) _⟩
end Go.Proofs.Ytjemgoifemdoeaa
