/- sha.squareRoots, walked. -/
import Derived.Test.YtjemgoifemdoeaaHe
namespace Go.Proofs.Ytjemgoifemdoeaa
open Go.RowKit

def w8 : Array Value := #[.int .u32 0, .int .u32 0, .int .u32 0, .int .u32 0, .int .u32 0, .int .u32 0, .int .u32 0, .int .u32 0]
theorem w8_vals : w8 = (vals .u32 (fun _ => 0) 8).toArray := by kernel_rfl
theorem w8_info : (Try.prog.info? 40).map (·.size) = some 8 := by kernel_rfl
/-- is a square too great? -/
def sqOk (p x : Nat) : Bool := decide (x * x / 18446744073709551616 < p) || (decide (x * x / 18446744073709551616 = p) && decide (x * x % 18446744073709551616 = 0))
def rootS (p : Nat) : Nat → Nat
  | 0 => 0
  | j + 1 => if sqOk p (rootS p j ||| 34359738368 / 2 ^ j) then rootS p j ||| 34359738368 / 2 ^ j else rootS p j
theorem bit2_lt (j : Nat) : 34359738368 / 2 ^ j < 2 ^ 36 := Nat.lt_of_le_of_lt (Nat.div_le_self _ _) (by decide)
theorem rootS_lt (p : Nat) : ∀ j, rootS p j < 2 ^ 36
  | 0 => by show 0 < _; decide
  | j + 1 => by
    show (if _ then _ else _) < _
    split
    · exact Nat.or_lt_two_pow (rootS_lt p j) (bit2_lt j)
    · exact rootS_lt p j
theorem bit2_half (j : Nat) : 34359738368 / 2 ^ j / 2 = 34359738368 / 2 ^ (j + 1) := by rw [Nat.div_div_eq_div_mul, Nat.pow_succ]
theorem bit2_pos {j : Nat} : 0 < 34359738368 / 2 ^ j ↔ j < 36 := by
  constructor
  · intro h
    refine Nat.lt_of_not_le fun h35 => ?_
    have h1 : 2 ^ 36 ≤ 2 ^ j := Nat.pow_le_pow_right (by decide) h35
    rw [Nat.div_eq_of_lt (by omega)] at h
    omega
  · intro h
    have h1 : 2 ^ j ≤ 2 ^ 35 := Nat.pow_le_pow_right (by decide) (by omega)
    exact Nat.div_pos (by omega) (Nat.pow_pos (by decide))
/-- the i-th word that a sum begins with -/
def sqH (i : Nat) : Nat := rootS (primeF i) 36 % 2 ^ 32
structure SqAt (w wr : World) (k : Nat) : Prop where
  res : wr.heap[w.heap.size]? = some (.cells w8 40 (0, 0))
  lst : wr.heap[w.heap.size + 1]? = some (.cells (vals .u32 (upTo sqH k) 8).toArray 40 (0, 0))
  bel : Below w.heap.size w wr
def sq0 (w : World) : World := (w.alloc (.cells w8 40)).alloc (.cells w8 40)
theorem sq0_at (w : World) : SqAt w (sq0 w) 0 := by
  refine ⟨(heap_alloc_old _ _ (by simp)).trans (heap_alloc_new _ _), ?_, ((Below.refl w.heap.size w).alloc (Nat.le_refl _) _).alloc (by simp) _⟩
  have e1 : w.heap.size + 1 = (w.alloc (.cells w8 40)).heap.size := by simp
  rw [e1]
  refine (heap_alloc_new _ _).trans ?_
  rw [w8_vals]
  rfl
theorem SqAt.below {w wr wr' : World} {k : Nat} (h : SqAt w wr k) (hb : Below wr.heap.size wr wr') : SqAt w wr' k :=
  ⟨(hb.block _ (row_lt h.res)).trans h.res, (hb.block _ (row_lt h.lst)).trans h.lst, h.bel.trans (hb.mono h.bel.size)⟩
theorem SqAt.put {w wr : World} {k : Nat} (h : SqAt w wr k) (hk : k < 8) : SqAt w (wr.setCell ⟨w.heap.size + 1, k, none⟩ (.int .u32 (sqH k : Nat))) (k + 1) := by
  refine ⟨(row_far (by omega)).trans h.res, ?_, h.bel.setCell (by show w.heap.size ≤ w.heap.size + 1; omega) _⟩
  rw [row_set h.lst, vals_set _ _ _ hk, upTo_succ]
theorem rootS_yes {p j x : Nat} (hx : x = rootS p j ||| 34359738368 / 2 ^ j) (h : sqOk p x = true) : rootS p (j + 1) = x := by
  show (if sqOk p _ then _ else _) = _
  rw [← hx, if_pos h]
theorem rootS_no {p j x : Nat} (hx : x = rootS p j ||| 34359738368 / 2 ^ j) (h : sqOk p x = false) : rootS p (j + 1) = rootS p j := by
  show (if sqOk p _ then _ else _) = _
  rw [← hx, if_neg (by rw [h]; decide)]
def RsRel (p : Nat) (wk : World) (r b : Value) (wr : World) : Prop :=
  ∃ j bt : Nat, j ≤ 36 ∧ bt = 34359738368 / 2 ^ j ∧ b = .int .u64 (bt : Nat) ∧ r = .int .u64 (rootS p j : Nat) ∧ wk = wr
set_option maxRecDepth 100000 in
set_option maxHeartbeats 4000000 in
theorem squareRoots_walk (w : World) : Calls Try.prog 60 #[] w fun e w' => e = .returned (.agg (vals .u32 sqH 8).toArray) ∧ Below w.heap.size w w' := by
  have H0 := Lib.hid (sq0_at w)
  have HP := Lib.hid (primes_walk (sq0 w))
  have HI := Lib.hid (fun (k : Nat) (hk : k < 64) (w : World) => idx64 primeF hk w)
  obtain ⟨cs, hcs⟩ : ∃ cs, cs = (vals .u64 primeF 64).toArray := ⟨_, rfl⟩
  rw [← hcs] at HP HI
  clear hcs
  go_enter Try.func60, Try.ntmps60
  go_wp2_with fail
  show Calls Try.prog _ _ (sq0 w) _
  refine HP.out.mono ?_
  rintro e w1 ⟨rfl, hb1⟩
  have H1 := Lib.hid (H0.out.below hb1)
  clear hb1
  go_wp2
  go_loopw [10] (fun i wr => ∃ k : Nat, k ≤ 8 ∧ i = .int .i64 (k : Nat) ∧ SqAt w wr k) (fun i _ => 8 - (intOf i).toNat)
  case atStart => exact ⟨0, by omega, rfl, H1.out⟩
  case round =>
    obtain ⟨k, hk, rfl, hc⟩ := hrel
    have HC := Lib.hid hc
    clear hc
    by_cases hlt : k < 8
    · have p1 : (k : Int) < 64 := by omega
      have p2 : ((k : Int) == 8) = false := beq_eq_false_iff_ne.2 (by omega)
      have p3 : ¬ (k : Int) = 8 := by omega
      have hix := HI.out k (by omega)
      obtain ⟨p, hp⟩ : ∃ p, p = primeF k := ⟨_, rfl⟩
      rw [← hp] at hix
      have hp312 : p < 312 := by rw [hp]; exact prime_lt k
      have HPr := Lib.hid hp
      clear hp
      go_wp2
      go_loopw [4, 5] (RsRel p wr) (fun _ b _ => (intOf b).toNat)
      case atStart => exact ⟨0, 34359738368, by omega, by decide, rfl, rfl, by trivial⟩
      case round =>
        obtain ⟨j, bt, hj, hbt, rfl, rfl, rfl⟩ := hrel
        obtain ⟨r, hr⟩ : ∃ r, r = rootS p j := ⟨_, rfl⟩
        have hrl : r < 2 ^ 36 := by rw [hr]; exact rootS_lt p j
        have hbl : bt < 2 ^ 36 := by rw [hbt]; exact bit2_lt j
        have hbh : bt / 2 = 34359738368 / 2 ^ (j + 1) := by rw [hbt]; exact bit2_half j
        have hb0 : 0 < bt ↔ j < 36 := by rw [hbt]; exact bit2_pos
        rw [← hr]
        have Hr := Lib.hid hr
        have Hbt := Lib.hid hbt
        have Hbh := Lib.hid hbh
        by_cases hb : 0 < bt
        · have q1 : (0 : Int) < bt := by omega
          have hj36 := hb0.1 hb
          obtain ⟨x, hx⟩ : ∃ x, x = r ||| bt := ⟨_, rfl⟩
          have hx36 : x < 2 ^ 36 := by rw [hx]; exact Nat.or_lt_two_pow hrl hbl
          have e0 : bits .or .u64 (r : Int) (bt : Int) = (x : Int) := by rw [hx]; exact bits_or64 (by omega) (by omega)
          obtain ⟨T, hT⟩ : ∃ T, T = x * x / 18446744073709551616 := ⟨_, rfl⟩
          obtain ⟨l2, hl2⟩ : ∃ h, h = x * x % 18446744073709551616 := ⟨_, rfl⟩
          have HM1 := Lib.hid (fun w => (Try.bits_Mul64 x x (by omega) (by omega) w))
          rw [← hT, ← hl2] at HM1
          have HOK := Lib.hid (show sqOk p x = (decide (T < p) || (decide (T = p) && decide (l2 = 0))) by unfold sqOk; rw [← hT, ← hl2])
          have HX := Lib.hid hx
          have Hj := Lib.hid hj36
          have HB := Lib.hid hb
          clear hx hl2 hT hr hbt hbh hb0 hj36 hb
          go_wp2_with (go_at_call 70; (with_reducible refine (HM1.out _).mono ?_); rintro e w3 ⟨rfl, rfl⟩)
          all_goals
            have hl0 : ((l2 : Int) == 0) = true ↔ l2 = 0 := by rw [beq_iff_eq]; omega
            have hl1 : ((l2 : Int) == 0) = false ↔ ¬ l2 = 0 := by rw [beq_eq_false_iff_ne]; omega
            try simp only [hl0, hl1] at *
            first
              | (have hok : sqOk p x = true := by rw [HOK.out, Bool.or_eq_true, Bool.and_eq_true, decide_eq_true_iff, decide_eq_true_iff, decide_eq_true_iff]; omega
                 exact ⟨⟨j + 1, bt / 2, Hj.out, Hbh.out, by simp, by rw [rootS_yes (by rw [HX.out, Hr.out, Hbt.out]) hok], by trivial⟩, by have := HB.out; simp [intOf]; omega⟩)
              | (have hok : sqOk p x = false := by
                   rw [HOK.out, Bool.or_eq_false_iff, Bool.and_eq_false_iff, decide_eq_false_iff_not, decide_eq_false_iff_not, decide_eq_false_iff_not]; omega
                 exact ⟨⟨j + 1, bt / 2, Hj.out, Hbh.out, by simp, by rw [rootS_no (by rw [HX.out, Hr.out, Hbt.out]) hok, ← Hr.out], by trivial⟩, by have := HB.out; simp [intOf]; omega⟩)
        · have q1 : ¬ (0 : Int) < bt := by omega
          have hj36 : j = 36 := by omega
          have hck : r % 2 ^ 32 = sqH k := by unfold sqH; rw [← HPr.out, ← hj36, Hr.out]
          have a0 : (r : Int) % 4294967296 = (sqH k : Nat) := by rw [← hck]; omega
          have cl : wr.cell? ⟨w.heap.size + 1, k, none⟩ = some (.int .u32 (upTo sqH k k : Nat)) := (row_cell HC.out.lst).trans (by rw [List.getElem?_toArray]; exact vals_get _ _ hlt)
          have gl : wr.frozen? ⟨w.heap.size + 1, k, none⟩ = false := row_free HC.out.lst
          have HCp := Lib.hid (HC.out.put hlt)
          obtain ⟨v, hv⟩ : ∃ v, v = sqH k := ⟨_, rfl⟩
          rw [← hv] at a0 HCp
          clear hck hj36 hv hb0 hbt hbh hr
          go_wp2
          exact ⟨⟨k + 1, by omega, by simp, HCp.out⟩, by simp [intOf]; omega⟩
    · obtain rfl : k = 8 := by omega
      have hix : ∀ w, (Instr.index 102 (.agg cs) (.int .i64 8)).run Try.prog w = .ok (.int .u64 (primeF 8 : Nat)) w := HI.out 8 (by omega)
      obtain ⟨cz, hcz⟩ : ∃ cs, cs = (vals .u32 sqH 8).toArray := ⟨_, rfl⟩
      have hr : wr.heap[w.heap.size + 1]? = some (.cells cz 40 (0, 0)) := by
        rw [hcz, show vals .u32 sqH 8 = vals .u32 (upTo sqH 8) 8 from vals_congr fun i hi => by unfold upTo; rw [if_pos hi]]; exact HC.out.lst
      have hsz : cz.size = 8 := by rw [hcz]; simp [vals_length]
      have R1 := Lib.hid hr
      have R0 := Lib.hid HC.out.res
      have Hi := Lib.hid (show (Try.prog.info? 40).map (·.size) = some cz.size by rw [hsz]; exact w8_info)
      have Hsz := Lib.hid (show w8.size = cz.size by rw [hsz]; rfl)
      have Hone := Lib.hid (show cz.all (·.oneCell') = true by rw [hcz]; exact vals_all _ _ _)
      have Hcs := Lib.hid hcz
      clear hr hcz hsz
      go_upto_region 16 with fail
      refine wp_region_lit (wpList_load_row rfl 40 (.tmp 1) rfl (w.heap.size + 1) rfl _ cz (0, 0) _ R1.out Try.underlying40 rfl Hi.out ?_)
      refine wpList_store_row rfl 40 (.tmp 0) (.tmp 47) rfl w.heap.size cz rfl rfl _ w8 R0.out Hi.out Hsz.out Hone.out ?_
      refine wpList_nil ?_
      go_wp2
      refine bodyPost_ret (v := .agg cz) (results_cell_row rfl _ _ w.heap.size 40 cz (0, 0) _ rfl (setRow_heap _ _ w8 _ _ _ R0.out) Try.underlying40 rfl Hi.out) rfl ?_
      exact ⟨by rw [Hcs.out], below_setRow HC.out.bel (Nat.le_refl _) _⟩
end Go.Proofs.Ytjemgoifemdoeaa
