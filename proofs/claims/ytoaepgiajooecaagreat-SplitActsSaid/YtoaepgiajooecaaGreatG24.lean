/- math/bits.Div64, walked, for a divisor whose top bit is set. -/
import Derived.Test.YtoaepgiajooecaaGreatG20
import Derived.Test.YtoaepgiajooecaaGreatG23
import Derived.Test.YtoaepgiajooecaaGreatG19
import Derived.Deep.DeepCutAuto
import Derived.Deep.CutBlock
namespace Go.Proofs.YtoaepgiajooecaaGreat
open Go.RowKit

def dq (hi lo y : Nat) : Nat := (hi * 18446744073709551616 + lo) / y
def dr (hi lo y : Nat) : Nat := (hi * 18446744073709551616 + lo) % y
theorem lz_c (y : Nat) (hy : 2 ^ 63 ≤ y) (hy' : y < 2 ^ 64) (w : World) :
    Calls Tryz.prog 108 #[.int .u64 (y : Nat)] w fun e w' => e = .returned (.int .i64 0) ∧ w = w' := by
  refine (Tryz.bits_LeadingZeros64 (y : Int) w (by omega) (by omega)).mono ?_
  rintro e w' ⟨rfl, rfl⟩
  refine ⟨?_, rfl⟩
  have h : blen y = 63 + 1 := (blen_iff (by omega)).2 ⟨hy, hy'⟩
  rw [Int.toNat_natCast, bitLen_eq hy', h]; rfl

theorem q_bound {hi y y1 y0 : Nat} (h : hi < y) (hy : y = y1 * 4294967296 + y0) (h0 : y0 < 4294967296) (h1 : 2147483648 ≤ y1) : hi / y1 ≤ 4294967297 := by
  refine Nat.le_of_lt_succ ((Nat.div_lt_iff_lt_mul (by omega)).2 ?_)
  show hi < 4294967298 * y1
  omega
theorem wrap_left {hi n Q y u : Nat} (h : hi * 4294967296 + n = Q * y + u) (hu : u < 18446744073709551616) :
    IntKind.u64.wrap (IntKind.u64.wrap (IntKind.u64.wrap ((hi : Int) * 4294967296) + (n : Int)) - IntKind.u64.wrap ((Q : Int) * (y : Int))) = (u : Int) := by
  have h' : ((hi * 4294967296 + n : Nat) : Int) = ((Q * y + u : Nat) : Int) := by rw [h]
  rw [Int.natCast_add, Int.natCast_mul, Int.natCast_add, Int.natCast_mul] at h'
  simp only [IntKind.wrap_u64]
  generalize (Q : Int) * (y : Int) = x at *
  omega
theorem wrap_rest {hi q y1 r : Nat} (h : q * y1 + r = hi) (hhi : hi < 18446744073709551616) :
    IntKind.u64.wrap ((hi : Int) - IntKind.u64.wrap ((q : Int) * (y1 : Int))) = (r : Int) := by
  have h' : ((q * y1 + r : Nat) : Int) = (hi : Int) := by rw [h]
  rw [Int.natCast_add, Int.natCast_mul] at h'
  simp only [IntKind.wrap_u64]
  generalize (q : Int) * (y1 : Int) = x at *
  omega
theorem wrap_prod {q y0 p : Nat} (h : q * y0 = p) (hp : p < 18446744073709551616) : IntKind.u64.wrap ((q : Int) * (y0 : Int)) = (p : Int) := by
  have h' : (q : Int) * (y0 : Int) = (p : Int) := by rw [← h, Int.natCast_mul]
  rw [h']; exact IntWalk.u64_in _ (by omega)
theorem small_prod {q y0 : Nat} (hq : q ≤ 4294967296) (h0 : y0 < 4294967296) : q * y0 ≤ 4294967296 * 4294967295 := Nat.mul_le_mul hq (by omega)

/-- the state at the head of a digit's loop -/
def DigRel (u n y1 y0 : Nat) (a b : Value) : Prop :=
  ∃ q r : Nat, a = .int .u64 (q : Nat) ∧ b = .int .u64 (r : Nat) ∧ Guess 4294967296 u n y1 y0 q r ∧ q ≤ 4294967297 ∧ r < 4294967296
theorem dig_more {u n y1 y0 q r : Nat} (G : Guess 4294967296 u n y1 y0 q r) (hlt : (u * 4294967296 + n) / (y1 * 4294967296 + y0) < q) (hq : q ≤ 4294967297) (hr : r + y1 < 4294967296) :
    DigRel u n y1 y0 (.int .u64 ((q : Int) - 1)) (.int .u64 ((r : Int) + (y1 : Int))) := by
  have h0 : 0 < q := Nat.lt_of_le_of_lt (Nat.zero_le _) hlt
  exact ⟨q - 1, r + y1, by congr 1; clear hlt; omega, by congr 1, G.less hlt, by clear hlt; omega, hr⟩
theorem dig_break {u n y1 y0 y q r Q : Nat} (G : Guess 4294967296 u n y1 y0 q r) (hlt : (u * 4294967296 + n) / (y1 * 4294967296 + y0) < q) (hq : q ≤ 4294967297) (hr : 4294967296 ≤ r + y1)
    (h0 : y0 < 4294967296) (hy : y = y1 * 4294967296 + y0) (hyp : 0 < y) (hQ : Q = (u * 4294967296 + n) / y) : (.int .u64 ((q : Int) - 1) : Value) = .int .u64 (Q : Nat) := by
  have hq0 : 0 < q := Nat.lt_of_le_of_lt (Nat.zero_le _) hlt
  have e := (G.less hlt).exact_of_test (by rw [← hy]; exact hyp) (by have := small_prod (show q - 1 ≤ 4294967296 by omega) h0; clear hlt hQ G; omega)
  rw [← hy, ← hQ] at e
  congr 1; clear hlt hQ; omega
theorem dig_done {u n y1 y0 y q r Q : Nat} (G : Guess 4294967296 u n y1 y0 q r) (ht : q * y0 ≤ r * 4294967296 + n) (hy : y = y1 * 4294967296 + y0) (hyp : 0 < y) (hQ : Q = (u * 4294967296 + n) / y) :
    (.int .u64 (q : Nat) : Value) = .int .u64 (Q : Nat) := by
  rw [hQ, hy, ← G.exact_of_test (by rw [← hy]; exact hyp) ht]

def Div64Post (hi lo y : Nat) (w : World) (e : Ending) (w' : World) : Prop :=
  e = .returned (.tuple #[.int .u64 (dq hi lo y : Nat), .int .u64 (dr hi lo y : Nat)]) ∧ ∃ n, w' = w.drewN n

set_option maxRecDepth 100000 in
set_option maxHeartbeats 1000000 in
theorem div64_walk (hi lo y : Nat) (w : World) (hy : 2 ^ 63 ≤ y) (hy' : y < 2 ^ 64) (hh : hi < y) (hlo : lo < 2 ^ 64) :
    Calls Tryz.prog 101 #[.int .u64 (hi : Nat), .int .u64 (lo : Nat), .int .u64 (y : Nat)] w (Div64Post hi lo y w) := by
  have hy0 : ((y : Int) == 0) = false := by rw [beq_eq_false_iff_ne]; omega
  have Hy := Lib.hid hy
  have Hy' := Lib.hid hy'
  have Hlo := Lib.hid hlo
  clear hy hy' hlo
  obtain ⟨y1, hy1⟩ : ∃ n, n = y / 4294967296 := ⟨_, rfl⟩
  obtain ⟨y0, hy0'⟩ : ∃ n, n = y % 4294967296 := ⟨_, rfl⟩
  obtain ⟨n1, hn1⟩ : ∃ n, n = lo / 4294967296 := ⟨_, rfl⟩
  obtain ⟨n0, hn0⟩ : ∃ n, n = lo % 4294967296 := ⟨_, rfl⟩
  have d1 : (y : Int) / 4294967296 = (y1 : Int) := by omega
  have m1 : bits BinOp.and IntKind.u64 (y : Int) 4294967295 = (y0 : Int) := by
    rw [show (4294967295 : Int) = ((4294967295 : Nat) : Int) from rfl, u64_and_nat _ _ (by have := Hy'.out; omega) (by decide), hy0', Nat.and_two_pow_sub_one_eq_mod y 32]
  have d2 : (lo : Int) / 4294967296 = (n1 : Int) := by omega
  have m2 : bits BinOp.and IntKind.u64 (lo : Int) 4294967295 = (n0 : Int) := by
    rw [show (4294967295 : Int) = ((4294967295 : Nat) : Int) from rfl, u64_and_nat _ _ (by have := Hlo.out; omega) (by decide), hn0, Nat.and_two_pow_sub_one_eq_mod lo 32]
  have z1 : (lo : Int) / 18446744073709551616 = 0 := by have := Hlo.out; omega
  have o1 : bits BinOp.or IntKind.u64 (hi : Int) 0 = (hi : Int) := by
    rw [show (0 : Int) = ((0 : Nat) : Int) from rfl, u64_or_nat _ _ (by have := Hy'.out; omega) (by decide), Nat.or_zero]
  have w1 : IntKind.u64.wrap (y : Int) = (y : Int) := IntWalk.u64_in _ (by have := Hy'.out; omega)
  have w2 : IntKind.u64.wrap (hi : Int) = (hi : Int) := IntWalk.u64_in _ (by have := Hy'.out; omega)
  have w3 : IntKind.u64.wrap (lo : Int) = (lo : Int) := IntWalk.u64_in _ (by have := Hlo.out; omega)
  have by1 : y1 < 4294967296 := by have := Hy'.out; omega
  have cy1 : 2147483648 ≤ y1 := by have := Hy.out; omega
  have by0 : y0 < 4294967296 := by omega
  have bn1 : n1 < 4294967296 := by have := Hlo.out; omega
  have bn0 : n0 < 4294967296 := by omega
  have Hys : Hid (y = y1 * 4294967296 + y0) := Lib.hid (by omega)
  have Hls : Hid (lo = n1 * 4294967296 + n0) := Lib.hid (by omega)
  clear hy1 hy0' hn1 hn0
  by_cases hz : hi = 0
  · subst hz
    have hne : ((y : Int) == 0) = false := hy0
    have hy1 : (y : Int) ≠ 0 := by omega
    have e1 : (lo : Int) / (y : Int) = ((dq 0 lo y : Nat) : Int) := by unfold dq; rw [Nat.zero_mul, Nat.zero_add]; exact (Int.natCast_ediv _ _).symm
    have e2 : (lo : Int) % (y : Int) = ((dr 0 lo y : Nat) : Int) := by unfold dr; rw [Nat.zero_mul, Nat.zero_add]; exact (Int.natCast_emod _ _).symm
    have e3 : (lo : Int).tdiv (y : Int) = ((dq 0 lo y : Nat) : Int) := by rw [Int.tdiv_eq_ediv_of_nonneg (by omega)]; exact e1
    have e4 : (lo : Int).tmod (y : Int) = ((dr 0 lo y : Nat) : Int) := by rw [Int.tmod_eq_emod_of_nonneg (by omega)]; exact e2
    have l1 : dq 0 lo y < 18446744073709551616 := by unfold dq; rw [Nat.zero_mul, Nat.zero_add]; exact Nat.lt_of_le_of_lt (Nat.div_le_self _ _) Hlo.out
    have w4 : IntKind.u64.wrap ((dq 0 lo y : Nat) : Int) = ((dq 0 lo y : Nat) : Int) := IntWalk.u64_in _ (by omega)
    have l2 : dr 0 lo y < 18446744073709551616 := by unfold dr; rw [Nat.zero_mul, Nat.zero_add]; exact Nat.lt_of_le_of_lt (Nat.mod_le _ _) Hlo.out
    have w5 : IntKind.u64.wrap ((dr 0 lo y : Nat) : Int) = ((dr 0 lo y : Nat) : Int) := IntWalk.u64_in _ (by omega)
    clear l1 l2 by1 cy1 by0 bn1 bn0
    go_enter Tryz.func101, Tryz.ntmps101
    go_wp2
    go_region
    all_goals
      go_wp2
      go_ret2
      exact ⟨rfl, 1, rfl⟩
  · have hz0 : ((hi : Int) == 0) = false := by rw [beq_eq_false_iff_ne]; omega
    obtain ⟨q, hq⟩ : ∃ n, n = hi / y1 := ⟨_, rfl⟩
    obtain ⟨r, hr⟩ : ∃ n, n = hi % y1 := ⟨_, rfl⟩
    obtain ⟨Q1, hQ1⟩ : ∃ n, n = (hi * 4294967296 + n1) / y := ⟨_, rfl⟩
    obtain ⟨u, hu⟩ : ∃ n, n = (hi * 4294967296 + n1) % y := ⟨_, rfl⟩
    have huy : u < y := by rw [hu]; exact Nat.mod_lt _ (by omega)
    have dq1 : (hi : Int) / (y1 : Int) = (q : Int) := by rw [hq]; exact (Int.natCast_ediv _ _).symm
    have hq2 : q ≤ 4294967297 := by rw [hq]; exact q_bound hh Hys.out by0 cy1
    have hr2 : r < 4294967296 := by have := Nat.mod_lt hi (show 0 < y1 by omega); omega
    have wq : IntKind.u64.wrap (q : Int) = (q : Int) := IntWalk.u64_in _ (by omega)
    have g0 : Guess 4294967296 hi n1 y1 y0 q r := by rw [hq, hr]; exact guess_first (by omega) (by decide) bn1
    have dr1 := wrap_rest g0.sum (by have := Hy'.out; omega)
    have wu := wrap_left (show hi * 4294967296 + n1 = Q1 * y + u by rw [hQ1, hu]; exact (Nat.div_add_mod' _ _).symm) (by have := Hy'.out; omega)
    have G0 := Lib.hid g0
    have HQ1 := Lib.hid hQ1
    have Hu := Lib.hid hu
    have Wu := Lib.hid wu
    clear hq hr g0 hQ1 hu wu
    go_enter Tryz.func101, Tryz.ntmps101
    go_upto_block 0 with (go_at_call 108; refine (lz_c _ Hy.out Hy'.out _).mono ?_; rintro e w' ⟨rfl, rfl⟩)
    go_cut [15] (fun a wx => a = .int .u64 (Q1 : Nat) ∧ w = wx)
    case first =>
      have Hq2 := Lib.hid hq2
      have Hr2 := Lib.hid hr2
      clear hq2 hr2 wq dr1 dq1
      go_wp2
      go_loop [15, 16] (DigRel hi n1 y1 y0) (fun a _ => (intOf a).toNat)
      case atStart => exact ⟨q, r, rfl, rfl, G0.out, Hq2.out, Hr2.out⟩
      case round =>
        obtain ⟨q, r, rfl, rfl, G, hq, hr⟩ := hrel
        have hqI : (q : Int) ≤ 4294967297 := by omega
        have hrI : (r : Int) < 4294967296 := by omega
        have HG := Lib.hid G
        have Hq := Lib.hid hq
        have Hr := Lib.hid hr
        clear G hq hr
        by_cases hbig : 4294967296 ≤ q
        · have Hlt : Hid ((hi * 4294967296 + n1) / (y1 * 4294967296 + y0) < q) := Lib.hid (Nat.lt_of_lt_of_le (quot_lt (by rw [← Hys.out]; exact hh) bn1) hbig)
          have hbigI : (4294967296 : Int) ≤ (q : Int) := by omega
          have h1q : (1 : Int) ≤ (q : Int) := by omega
          clear hbig
          by_cases hbr : 4294967296 ≤ r + y1
          · have hbr' : (4294967296 : Int) ≤ (r : Int) + (y1 : Int) := by omega
            have Hbr := Lib.hid hbr
            clear hbr
            go_wp2
            go_meet
            case rel => exact ⟨dig_break HG.out Hlt.out Hq.out Hbr.out by0 Hys.out (Nat.lt_of_le_of_lt (Nat.zero_le _) hh) HQ1.out, rfl⟩
          · have hbr' : ¬ (4294967296 : Int) ≤ (r : Int) + (y1 : Int) := by omega
            have Hbr := Lib.hid hbr
            clear hbr
            go_wp2
            go_round
            case rel => exact dig_more HG.out Hlt.out Hq.out (Nat.lt_of_not_le Hbr.out)
            case measure => simp [intOf]; omega
        · have hbigI : ¬ (4294967296 : Int) ≤ (q : Int) := by omega
          obtain ⟨p, hp⟩ : ∃ n, n = q * y0 := ⟨_, rfl⟩
          have hpb : p ≤ 4294967296 * 4294967295 := by rw [hp]; exact small_prod (by omega) by0
          have wp := wrap_prod hp.symm (by omega)
          have hpI : (p : Int) ≤ 18446744069414584320 := by omega
          have Hbig := Lib.hid hbig
          have Hp := Lib.hid hp
          clear hbig hpb hp
          by_cases ht : r * 4294967296 + n1 < p
          · have htI : 4294967296 * (r : Int) + (n1 : Int) < (p : Int) := by omega
            have Hlt : Hid ((hi * 4294967296 + n1) / (y1 * 4294967296 + y0) < q) := Lib.hid (HG.out.big_of_test (by rw [← Hys.out]; exact Nat.lt_of_le_of_lt (Nat.zero_le _) hh) (by rw [← Hp.out]; exact ht))
            have h1q : (1 : Int) ≤ (q : Int) := by have := Nat.lt_of_le_of_lt (Nat.zero_le _) Hlt.out; omega
            clear ht
            by_cases hbr : 4294967296 ≤ r + y1
            · have hbr' : (4294967296 : Int) ≤ (r : Int) + (y1 : Int) := by omega
              have Hbr := Lib.hid hbr
              clear hbr
              go_wp2
              go_meet
              case rel => exact ⟨dig_break HG.out Hlt.out Hq.out Hbr.out by0 Hys.out (Nat.lt_of_le_of_lt (Nat.zero_le _) hh) HQ1.out, rfl⟩
            · have hbr' : ¬ (4294967296 : Int) ≤ (r : Int) + (y1 : Int) := by omega
              have Hbr := Lib.hid hbr
              clear hbr
              go_wp2
              go_round
              case rel => exact dig_more HG.out Hlt.out Hq.out (Nat.lt_of_not_le Hbr.out)
              case measure => simp [intOf]; omega
          · have htI : ¬ 4294967296 * (r : Int) + (n1 : Int) < (p : Int) := by omega
            have Ht := Lib.hid ht
            clear ht
            go_wp2
            go_meet
            case rel => exact ⟨dig_done HG.out (by rw [← Hp.out]; exact Nat.le_of_not_lt Ht.out) Hys.out (Nat.lt_of_le_of_lt (Nat.zero_le _) hh) HQ1.out, rfl⟩
    case rest =>
      obtain ⟨rfl, rfl⟩ := hcut
      obtain ⟨q, hq⟩ : ∃ n, n = u / y1 := ⟨_, rfl⟩
      obtain ⟨r, hr⟩ : ∃ n, n = u % y1 := ⟨_, rfl⟩
      obtain ⟨Q0, hQ0⟩ : ∃ n, n = (u * 4294967296 + n0) / y := ⟨_, rfl⟩
      obtain ⟨v, hv⟩ : ∃ n, n = (u * 4294967296 + n0) % y := ⟨_, rfl⟩
      have hvy : v < y := by rw [hv]; exact Nat.mod_lt _ (Nat.lt_of_le_of_lt (Nat.zero_le _) huy)
      have dq1 : (u : Int) / (y1 : Int) = (q : Int) := by rw [hq]; exact (Int.natCast_ediv _ _).symm
      have hq2 : q ≤ 4294967297 := by rw [hq]; exact q_bound huy Hys.out by0 cy1
      have hr2 : r < 4294967296 := by have := Nat.mod_lt u (show 0 < y1 by omega); omega
      have wq : IntKind.u64.wrap (q : Int) = (q : Int) := IntWalk.u64_in _ (by omega)
      have g0 : Guess 4294967296 u n0 y1 y0 q r := by rw [hq, hr]; exact guess_first (by omega) (by decide) bn0
      have dr1 := wrap_rest g0.sum (by have := Hy'.out; omega)
      have wu := Wu.out
      have wv := wrap_left (show u * 4294967296 + n0 = Q0 * y + v by rw [hQ0, hv]; exact (Nat.div_add_mod' _ _).symm) (by have := Hy'.out; omega)
      have bQ0 : Q0 < 4294967296 := by rw [hQ0]; exact quot_lt huy bn0
      have bQ1 : Q1 < 4294967296 := by rw [HQ1.out]; exact quot_lt hh bn1
      have two := two_digits (B := 4294967296) (u := hi) (n1 := n1) (n0 := n0) (y := y) (Nat.lt_of_le_of_lt (Nat.zero_le _) huy) bn0
      have ef : hi * 4294967296 * 4294967296 + (n1 * 4294967296 + n0) = hi * 18446744073709551616 + lo := by have := Hls.out; omega
      rw [ef, ← HQ1.out, ← Hu.out, ← hQ0, ← hv] at two
      have wf : IntKind.u64.wrap (IntKind.u64.wrap ((Q1 : Int) * 4294967296) + (Q0 : Int)) = (dq hi lo y : Nat) := by
        unfold dq; rw [two.1]; simp only [IntKind.wrap_u64]; omega
      have HT : Hid (v = dr hi lo y) := Lib.hid two.2.symm
      have G0 := Lib.hid g0
      have HQ0 := Lib.hid hQ0
      have Hv := Lib.hid hv
      have Wv := Lib.hid wv
      have Wf := Lib.hid wf
      clear hq hr g0 hQ0 hv wv wf two ef bQ0 bQ1
      go_upto_block 2 with (fail)
      go_cut [18] (fun a wx => a = .int .u64 (Q0 : Nat) ∧ w = wx)
      case first =>
        have Hq2 := Lib.hid hq2
        have Hr2 := Lib.hid hr2
        clear hq2 hr2 wq dr1 dq1 wu
        go_wp2
        go_loop [18, 16] (DigRel u n0 y1 y0) (fun a _ => (intOf a).toNat)
        case atStart => exact ⟨q, r, rfl, rfl, G0.out, Hq2.out, Hr2.out⟩
        case round =>
          obtain ⟨q, r, rfl, rfl, G, hq, hr⟩ := hrel
          have hqI : (q : Int) ≤ 4294967297 := by omega
          have hrI : (r : Int) < 4294967296 := by omega
          have HG := Lib.hid G
          have Hq := Lib.hid hq
          have Hr := Lib.hid hr
          clear G hq hr
          by_cases hbig : 4294967296 ≤ q
          · have Hlt : Hid ((u * 4294967296 + n0) / (y1 * 4294967296 + y0) < q) := Lib.hid (Nat.lt_of_lt_of_le (quot_lt (by rw [← Hys.out]; exact huy) bn0) hbig)
            have hbigI : (4294967296 : Int) ≤ (q : Int) := by omega
            have h1q : (1 : Int) ≤ (q : Int) := by omega
            clear hbig
            by_cases hbr : 4294967296 ≤ r + y1
            · have hbr' : (4294967296 : Int) ≤ (r : Int) + (y1 : Int) := by omega
              have Hbr := Lib.hid hbr
              clear hbr
              go_wp2
              go_meet
              case rel => exact ⟨dig_break HG.out Hlt.out Hq.out Hbr.out by0 Hys.out (Nat.lt_of_le_of_lt (Nat.zero_le _) huy) HQ0.out, rfl⟩
            · have hbr' : ¬ (4294967296 : Int) ≤ (r : Int) + (y1 : Int) := by omega
              have Hbr := Lib.hid hbr
              clear hbr
              go_wp2
              go_round
              case rel => exact dig_more HG.out Hlt.out Hq.out (Nat.lt_of_not_le Hbr.out)
              case measure => simp [intOf]; omega
          · have hbigI : ¬ (4294967296 : Int) ≤ (q : Int) := by omega
            obtain ⟨p, hp⟩ : ∃ n, n = q * y0 := ⟨_, rfl⟩
            have hpb : p ≤ 4294967296 * 4294967295 := by rw [hp]; exact small_prod (by omega) by0
            have wp := wrap_prod hp.symm (by omega)
            have hpI : (p : Int) ≤ 18446744069414584320 := by omega
            have Hbig := Lib.hid hbig
            have Hp := Lib.hid hp
            clear hbig hpb hp
            by_cases ht : r * 4294967296 + n0 < p
            · have htI : 4294967296 * (r : Int) + (n0 : Int) < (p : Int) := by omega
              have Hlt : Hid ((u * 4294967296 + n0) / (y1 * 4294967296 + y0) < q) := Lib.hid (HG.out.big_of_test (by rw [← Hys.out]; exact Nat.lt_of_le_of_lt (Nat.zero_le _) huy) (by rw [← Hp.out]; exact ht))
              have h1q : (1 : Int) ≤ (q : Int) := by have := Nat.lt_of_le_of_lt (Nat.zero_le _) Hlt.out; omega
              clear ht
              by_cases hbr : 4294967296 ≤ r + y1
              · have hbr' : (4294967296 : Int) ≤ (r : Int) + (y1 : Int) := by omega
                have Hbr := Lib.hid hbr
                clear hbr
                go_wp2
                go_meet
                case rel => exact ⟨dig_break HG.out Hlt.out Hq.out Hbr.out by0 Hys.out (Nat.lt_of_le_of_lt (Nat.zero_le _) huy) HQ0.out, rfl⟩
              · have hbr' : ¬ (4294967296 : Int) ≤ (r : Int) + (y1 : Int) := by omega
                have Hbr := Lib.hid hbr
                clear hbr
                go_wp2
                go_round
                case rel => exact dig_more HG.out Hlt.out Hq.out (Nat.lt_of_not_le Hbr.out)
                case measure => simp [intOf]; omega
            · have htI : ¬ 4294967296 * (r : Int) + (n0 : Int) < (p : Int) := by omega
              have Ht := Lib.hid ht
              clear ht
              go_wp2
              go_meet
              case rel => exact ⟨dig_done HG.out (by rw [← Hp.out]; exact Nat.le_of_not_lt Ht.out) Hys.out (Nat.lt_of_le_of_lt (Nat.zero_le _) huy) HQ0.out, rfl⟩
      case rest =>
        obtain ⟨rfl, rfl⟩ := hcut
        have wv := Wv.out
        have wf := Wf.out
        have w9 : IntKind.u64.wrap (v : Int) = (v : Int) := IntWalk.u64_in _ (by have := Hy'.out; omega)
        go_wp2
        go_ret2
        exact ⟨by rw [HT.out]; rfl, 0, rfl⟩
end Go.Proofs.YtoaepgiajooecaaGreat

namespace Go.Proofs.YtoaepgiajooecaaGreat
open Go.RowKit

theorem run_add64y (x c : Nat) (hc : c ≤ 1) (w : World) :
    (callFunc 102 #[.int .u64 (x : Nat), .int .u64 0, .int .u64 (c : Nat)]).run Tryz.prog w =
      .ok (.value (.tuple #[.int .u64 (s64 x 0 c : Nat), .int .u64 (c64 x 0 c : Nat)])) w := run_add64n x 0 c hc w

/-- the words of R * 2^64 + n -/
def withNext (n R : Nat) : Nat → Nat
  | 0 => n
  | i + 1 => limb R i
theorem val_withNext {n R : Nat} (hR : R < 2 ^ 256) : val (withNext n R) 5 = R * 2 ^ 64 + n := by
  have h := val4_limb hR
  simp only [val] at h ⊢
  simp only [withNext]
  omega
theorem withNext_lt {n R : Nat} (hn : n < 2 ^ 64) : ∀ i, withNext n R i < 2 ^ 64
  | 0 => hn
  | _ + 1 => limb_lt _ _

structure NwMem (w wr : World) (R D L : Nat) : Prop where
  r : Arr .u64 wr w.heap.size 4 (limb R)
  d : Arr .u64 wr (w.heap.size + 1) 4 (limb D)
  z : Arr .u64 wr (w.heap.size + 1 + 1) 4 (fun _ => 0)
  b : Below w.heap.size w wr
  l : w.heap.size + 1 + 1 < L
  s : L < wr.heap.size

theorem NwMem.drewN {w wr : World} {R D L : Nat} (h : NwMem w wr R D L) (n : Nat) : NwMem w (wr.drewN n) R D L :=
  ⟨h.r.drewN n, h.d.drewN n, h.z.drewN n, below_drewN h.b n, h.l, h.s⟩
theorem NwMem.set {w wr : World} {R D L k : Nat} {v : Value} (h : NwMem w wr R D L) : NwMem w (wr.setCell ⟨L, k, none⟩ v) R D L :=
  ⟨h.r.set_far (by have := h.l; omega), h.d.set_far (by have := h.l; omega), h.z.set_far (by have := h.l; omega), h.b.setCell (by have := h.l; simp; omega) _, h.l, by rw [World.size_setCell]; exact h.s⟩

/-- the guess is subtracted: the state at the head of that loop -/
def NwSub (w : World) (R D L g X : Nat) (c b i : Value) (wr : World) : Prop :=
  ∃ (k d e : Nat) (f : Nat → Nat), k ≤ 4 ∧ i = .int .i64 (k : Nat) ∧ c = .int .u64 (d : Nat) ∧ d < 2 ^ 64 ∧ b = .int .u64 (e : Nat) ∧ e ≤ 1 ∧ (∀ j, f j < 2 ^ 64) ∧
    val f 5 + val (limb D) k * g = X + (e + d) * 2 ^ (64 * k) ∧ Arr .u64 wr L 5 f ∧ NwMem w wr R D L
/-- the guess is put right: the state at the head of that loop -/
def NwFix (w : World) (R D L X : Nat) (gv b : Value) (wr : World) : Prop :=
  ∃ (g e : Nat) (f : Nat → Nat), gv = .int .u64 (g : Nat) ∧ g < 2 ^ 64 ∧ X / D ≤ g ∧ b = .int .u64 (e : Nat) ∧ e ≤ 1 ∧ (∀ j, f j < 2 ^ 64) ∧
    val f 5 + D * g = X + e * (2 ^ 64 * 2 ^ 256) ∧ Arr .u64 wr L 5 f ∧ NwMem w wr R D L
/-- the divisor is added: the state at the head of that loop -/
def NwAdd (w : World) (R D L V : Nat) (c i : Value) (wr : World) : Prop :=
  ∃ (k d : Nat) (f : Nat → Nat), k ≤ 4 ∧ i = .int .i64 (k : Nat) ∧ c = .int .u64 (d : Nat) ∧ d ≤ 1 ∧ (∀ j, f j < 2 ^ 64) ∧
    val f 5 + d * 2 ^ (64 * k) = V + val (limb D) k ∧ Arr .u64 wr L 5 f ∧ NwMem w wr R D L

theorem top_word {D : Nat} (h : D < 2 ^ 256) : limb D 3 * 2 ^ 192 ≤ D ∧ D < (limb D 3 + 1) * 2 ^ 192 := by
  have e : limb D 3 = D / 2 ^ 192 := by
    unfold limb; rw [Nat.mod_eq_of_lt]; exact (Nat.div_lt_iff_lt_mul (by decide)).2 h
  rw [e]; omega
theorem top_big {D : Nat} (h : D < 2 ^ 256) (h2 : 2 ^ 255 ≤ D) : 2 ^ 63 ≤ limb D 3 := by have := (top_word h).2; omega
theorem guess_over {R n D : Nat} (hR : R < D) (hD : D < 2 ^ 256) (hDn : 2 ^ 255 ≤ D) (hn : n < 2 ^ 64) (hc : limb R 3 < limb D 3) :
    (R * 2 ^ 64 + n) / D ≤ dq (limb R 3) (limb R 2) (limb D 3) ∧ dq (limb R 3) (limb R 2) (limb D 3) < 2 ^ 64 := by
  have h3 := top_big hD hDn
  refine ⟨word_over (P := 2 ^ 192) (by decide) ?_ (top_word hD).1 (by omega), quot_lt hc (limb_lt _ _)⟩
  have h := val4_limb (show R < 2 ^ 256 by omega)
  simp only [val] at h
  have l0 := limb_lt R 0
  have l1 := limb_lt R 1
  omega
theorem guess_most {R n D : Nat} (hR : R < D) (hn : n < 2 ^ 64) : (R * 2 ^ 64 + n) / D ≤ 18446744073709551615 := by
  have := quot_lt (B := 18446744073709551616) hR hn
  exact Nat.le_of_lt_succ this

theorem nw_step {x g d e fi : Nat} (hx : x < 2 ^ 64) (hg : g < 2 ^ 64) (hd : d < 2 ^ 64) (he : e ≤ 1) (hf : fi < 2 ^ 64) :
    mh x g + c64 (ml x g) d 0 < 2 ^ 64 ∧ r64 fi (s64 (ml x g) d 0) e + x * g + (e + d) = fi + (b64 fi (s64 (ml x g) d 0) e + (mh x g + c64 (ml x g) d 0)) * 2 ^ 64 := by
  have h1 := mhl x g
  have h2 := sc64 (ml x g) d 0
  have h3 := rb64 fi (s64 (ml x g) d 0) e hf (s64_lt _ _ _) he
  have h4 : x * g ≤ (2 ^ 64 - 1) * (2 ^ 64 - 1) := Nat.mul_le_mul (by omega) (by omega)
  generalize s64 (ml x g) d 0 = s1 at *
  generalize r64 fi s1 e = r at *
  generalize b64 fi s1 e = b at *
  generalize c64 (ml x g) d 0 = c1 at *
  generalize x * g = xg at *
  omega
theorem nw_sub_math {v v' fi r vD g X e d P x B M : Nat} (hv : v' + fi * P = v + r * P) (h : v + vD * g = X + (e + d) * P) (hs : r + x * g + (e + d) = fi + B * M) :
    v' + (vD + x * P) * g = X + B * (M * P) := by
  have h1 := congrArg (· * P) hs
  simp only [Nat.add_mul] at h1 h
  have e1 : (vD + x * P) * g = vD * g + x * g * P := by rw [Nat.add_mul, Nat.mul_right_comm]
  rw [e1, ← Nat.mul_assoc]
  omega

theorem nw_done {f : Nat → Nat} {X D g e : Nat} (he : e = 0) (hv : val f 5 + D * g = X + e * (2 ^ 64 * 2 ^ 256)) (hg : X / D ≤ g) (hD : D < 2 ^ 256) (hD0 : 0 < D) : g = X / D ∧ val f 4 = X % D := by
  rw [he, Nat.zero_mul, Nat.add_zero] at hv
  have h1 : g ≤ X / D := (Nat.le_div_iff_mul_le hD0).2 (by rw [Nat.mul_comm]; omega)
  have h2 : g = X / D := Nat.le_antisymm h1 hg
  have h3 := Nat.div_add_mod X D
  rw [← h2] at h3
  have h4 := Nat.mod_lt X hD0
  have h5 : val f 5 = val f 4 + f 4 * 2 ^ (64 * 4) := rfl
  refine ⟨h2, ?_⟩
  have h6 : f 4 = 0 := by
    rcases Nat.eq_zero_or_pos (f 4) with h | h
    · exact h
    · have := Nat.mul_le_mul_right (2 ^ (64 * 4)) h; omega
  rw [h6] at h5
  omega
theorem nw_big {f : Nat → Nat} {X D g : Nat} (hv : val f 5 + D * g = X + 1 * (2 ^ 64 * 2 ^ 256)) (hf : ∀ j, f j < 2 ^ 64) (hD0 : 0 < D) : X / D < g := by
  have h : val f 5 < 2 ^ 64 * 2 ^ (64 * 4) := val_lt' 4 hf
  refine (Nat.div_lt_iff_lt_mul hD0).2 ?_
  rw [Nat.mul_comm]
  generalize val f 5 = v at *
  omega
theorem nw_fix_math {v v' V D g X s x4 d c' : Nat} (hv : V + D * g = X + 1 * (2 ^ 64 * 2 ^ 256)) (h : v + d * 2 ^ 256 = V + D) (h4 : v' + x4 * 2 ^ 256 = v + s * 2 ^ 256) (hs : s + c' * 2 ^ 64 = x4 + 0 + d) (hg : 1 ≤ g) (hc : c' ≤ 1) :
    v' + D * (g - 1) = X + (1 - c') * (2 ^ 64 * 2 ^ 256) := by
  obtain ⟨k, rfl⟩ : ∃ k, g = k + 1 := ⟨g - 1, by omega⟩
  rw [Nat.mul_add, Nat.mul_one] at hv
  simp only [Nat.add_sub_cancel]
  generalize D * k = Dk at *
  omega

def NwPost (R n D : Nat) (w : World) (e : Ending) (w' : World) : Prop :=
  e = .returned (.tuple #[.int .u64 ((R * 2 ^ 64 + n) / D : Nat), U ((R * 2 ^ 64 + n) % D)]) ∧ Below w.heap.size w w'

set_option maxRecDepth 100000 in
set_option maxHeartbeats 2000000 in
theorem nw_walk (R n D : Nat) (w : World) (hR : R < D) (hD : D < 2 ^ 256) (hDn : 2 ^ 255 ≤ D) (hn : n < 2 ^ 64) :
    Calls Tryz.prog 98 #[U R, .int .u64 (n : Nat), U D] w (NwPost R n D w) := by
  have hadd := run_add64n
  have haddz := run_add64z
  have haddy := run_add64y
  have hsub := run_sub64n
  have HR := Lib.hid hR
  have HD := Lib.hid hD
  have HDn := Lib.hid hDn
  have Hn := Lib.hid hn
  clear hR hD hDn hn
  obtain ⟨X, hX⟩ : ∃ x, x = R * 2 ^ 64 + n := ⟨_, rfl⟩
  have HX := Lib.hid hX
  clear hX
  unfold U
  go_enter Tryz.func98, Tryz.ntmps98
  go_upto_if 22 with (fail)
  go_cut [8] (fun g wx => ∃ g' : Nat, g = .int .u64 (g' : Nat) ∧ Hid (X / D ≤ g' ∧ g' < 2 ^ 64) ∧ Arr .u64 wx w.heap.size 4 (limb R) ∧ Arr .u64 wx (w.heap.size + 1) 4 (limb D) ∧ Arr .u64 wx (w.heap.size + 1 + 1) 4 (fun _ => 0) ∧ Below w.heap.size w wx ∧ wx.heap.size = w.heap.size + 1 + 1 + 1)
  case first =>
    have hd3 := Lib.hid (top_big HD.out HDn.out)
    by_cases hc : limb R 3 < limb D 3
    · have hcI : (limb R 3 : Int) < (limb D 3 : Int) := by omega
      go_wp2_with (go_at_call 101; refine (div64_walk _ _ _ _ hd3.out (limb_lt _ _) hc (limb_lt _ _)).mono ?_; rintro e w' ⟨rfl, m, rfl⟩)
      go_meet
      case rel =>
        refine ⟨_, rfl, Lib.hid (by rw [HX.out]; exact guess_over HR.out HD.out HDn.out Hn.out hc), ?_, ?_, ?_, ?_, ?_⟩
        · exact (((Arr.new4 (f := limb R) rfl).alloc _).alloc _).drewN _
        · exact ((Arr.new4 (f := limb D) (by simp)).alloc _).drewN _
        · exact (Arr.new4 (f := fun _ => 0) (by simp)).drewN _
        · exact below_drewN ((((Below.refl _ _).alloc (Nat.le_refl _) _).alloc (by simp only [World.size_alloc]; omega) _).alloc (by simp only [World.size_alloc]; omega) _) _
        · simp
    · have hcI : ¬ (limb R 3 : Int) < (limb D 3 : Int) := by omega
      go_wp2
      go_meet
      case rel =>
        refine ⟨18446744073709551615, rfl, Lib.hid ⟨by rw [HX.out]; exact guess_most HR.out Hn.out, by decide⟩, ?_, ?_, ?_, ?_, ?_⟩
        · exact ((Arr.new4 (f := limb R) rfl).alloc _).alloc _
        · exact (Arr.new4 (f := limb D) (by simp)).alloc _
        · exact Arr.new4 (f := fun _ => 0) (by simp)
        · exact (((Below.refl _ _).alloc (Nat.le_refl _) _).alloc (by simp only [World.size_alloc]; omega) _).alloc (by simp only [World.size_alloc]; omega) _
        · simp
  case rest =>
    obtain ⟨g, rfl, Hg, hr, hd, hz, hbel, hsz⟩ := hcut
    obtain ⟨r0, r1, r2, r3⟩ := hr.cells4
    go_wp2
    go_loopw [10, 11, 43] (NwSub w R D (w.heap.size + 1 + 1 + 1) g X) (fun _ _ i _ => 4 - (intOf i).toNat)
    case atStart =>
      refine ⟨0, 0, 0, withNext n R, by omega, rfl, rfl, by omega, rfl, by omega, withNext_lt Hn.out, ?_, ?_, ⟨hr.alloc _, hd.alloc _, hz.alloc _, hbel.alloc (by omega) _, by omega, by rw [World.size_alloc]; omega⟩⟩
      · rw [val_withNext (by have := HR.out; have := HD.out; omega), HX.out]; simp only [val]; omega
      · rw [← hsz]
        refine Arr.alloc_new _ _ _ fun i hi => ?_
        rcases (by omega : i = 0 ∨ i = 1 ∨ i = 2 ∨ i = 3 ∨ i = 4) with rfl | rfl | rfl | rfl | rfl <;> rfl
    case round =>
      clear r0 r1 r2 r3 hr hd hz hbel hsz
      obtain ⟨k, d, e, f, hk, rfl, rfl, hdl, rfl, hel, hf, hv, ha, hm⟩ := hrel
      by_cases hlt : k < 4
      · have d1 := hm.d.cell k hlt
        have f1 := ha.cell k (by omega)
        have f2 := ha.free k (by omega)
        have st := nw_step (limb_lt D k) Hg.out.2 hdl hel (hf k)
        have wd : IntKind.u64.wrap ((mh (limb D k) g : Int) + (c64 (ml (limb D k) g) d 0 : Int)) = ((mh (limb D k) g + c64 (ml (limb D k) g) d 0 : Nat) : Int) := by
          rw [← Int.natCast_add, wrap_u64 st.1]
        have St := Lib.hid st
        have Hv := Lib.hid hv
        have Hf := Lib.hid hf
        have Hdl := Lib.hid hdl
        clear st hv hf hdl
        go_wp2_with (go_at_call 103; refine (mul64_c _ _ (limb_lt _ _) Hg.out.2 _).mono ?_; rintro e w' ⟨rfl, rfl⟩)
        go_roundw
        case rel =>
          refine ⟨k + 1, mh (limb D k) g + c64 (ml (limb D k) g) d 0, b64 (f k) (s64 (ml (limb D k) g) d 0) e, upd f k (r64 (f k) (s64 (ml (limb D k) g) d 0) e), by omega, by go_num, by rw [Int.natCast_add], St.out.1, rfl, b64_le _ _ _, upd_lt Hf.out (r64_lt _ _ _), ?_, ha.set (by omega), hm.set⟩
          rw [pow_succ64]
          exact nw_sub_math (val_upd_at f _ (show k < 5 by omega)) Hv.out St.out.2
        case measure => simp [intOf]; omega
      · have hk4 : k = 4 := by omega
        have hkI : ¬ (k : Int) < 4 := by omega
        have f1 := ha.cell 4 (by omega)
        have f2 := ha.free 4 (by omega)
        have hDv := val4_limb HD.out
        rw [hk4, hDv] at hv
        clear hk4
        have Hv := Lib.hid hv
        have Hf := Lib.hid hf
        have Hdl := Lib.hid hdl
        clear hv hf hdl hDv
        go_wp2
        go_loopw [8, 11] (NwFix w R D (w.heap.size + 1 + 1 + 1) X) (fun g _ _ => (intOf g).toNat)
        case atStart =>
          refine ⟨g, b64 (f 4) d e, upd f 4 (r64 (f 4) d e), rfl, Hg.out.2, Hg.out.1, rfl, b64_le _ _ _, upd_lt Hf.out (r64_lt _ _ _), ?_, ha.set (by omega), hm.set⟩
          have h1 := val_upd_at f (r64 (f 4) d e) (show 4 < 5 by omega)
          have h2 := rb64 (f 4) d e (Hf.out 4) Hdl.out hel
          have h3 := Hv.out
          generalize D * g = Dg at *
          generalize val f 5 = v at *
          generalize val (upd f 4 (r64 (f 4) d e)) 5 = v' at *
          omega
        case round =>
          clear hk hlt ha hm Hf Hdl Hv f1 f2 hel
          obtain ⟨g, e, f, rfl, hg, hge, rfl, hel, hf, hv, ha, hm⟩ := hrel
          by_cases he : e = 0
          · have ht : ((e : Int) != 0) = false := by rw [he]; rfl
            have dn := nw_done he hv hge HD.out (by have := HDn.out; omega)
            have Dn := Lib.hid dn
            have Hf := Lib.hid hf
            obtain ⟨y0, y1, y2, y3⟩ := hm.z.frees4
            obtain ⟨z0, z1, z2, z3⟩ := hm.z.cells4
            have f0 := ha.cell 0 (by omega)
            have f1 := ha.cell 1 (by omega)
            have f2 := ha.cell 2 (by omega)
            have f3 := ha.cell 3 (by omega)
            clear hv hge hg hf dn he
            go_wp2
            go_region
            all_goals
              go_wp2
              refine bodyPost_ret (v := .tuple #[.int .u64 (g : Nat), .agg #[.int .u64 (f 0 : Nat), .int .u64 (f 1 : Nat), .int .u64 (f 2 : Nat), .int .u64 (f 3 : Nat)]]) (by simp [results, Tryz.results98, go_sem, z0, z1, z2, z3]) rfl ⟨?_, below_set4 (below_drewN hm.b 1) (by omega)⟩
              rw [U_of Hf.out, Dn.out.2, Dn.out.1, HX.out]
          · have he1 : e = 1 := by omega
            have ht : ((e : Int) != 0) = true := by rw [bne_iff_ne]; omega
            rw [he1] at hv
            have hbig := nw_big hv hf (by have := HDn.out; omega)
            have hg1 : 1 ≤ g := by have := Nat.lt_of_le_of_lt (Nat.zero_le _) hbig; omega
            have eI : (1 : Int) ≤ (e : Int) := by omega
            have He := Lib.hid he1
            clear he1
            have h1q : (1 : Int) ≤ (g : Int) := by omega
            have gq : (g : Int) ≤ 18446744073709551615 := by omega
            have Hg := Lib.hid hg
            have Hbig := Lib.hid hbig
            have Hv := Lib.hid hv
            have Hf := Lib.hid hf
            clear hg hbig hge hv hf he
            go_wp2
            go_loopw [16, 88] (NwAdd w R D (w.heap.size + 1 + 1 + 1) (val f 5)) (fun _ i _ => 4 - (intOf i).toNat)
            case atStart => exact ⟨0, 0, f, by omega, rfl, rfl, by omega, Hf.out, by simp only [val], ha, hm⟩
            case round =>
              clear ha hm
              obtain ⟨j, c, f', hj, rfl, rfl, hc, hf', hv', ha, hm⟩ := hrel
              by_cases hjl : j < 4
              · have d1 := hm.d.cell j hjl
                have f1 := ha.cell j (by omega)
                have f2 := ha.free j (by omega)
                have Hv' := Lib.hid hv'
                have Hf' := Lib.hid hf'
                clear hv' hf'
                go_wp2
                go_region_with (fail)
                all_goals
                  go_wp2
                  go_roundw
                  case rel =>
                    refine ⟨j + 1, c64 (f' j) (limb D j) c, upd f' j (s64 (f' j) (limb D j) c), by omega, by go_num, rfl, c64_le (Hf'.out j) (limb_lt _ _) hc, upd_lt Hf'.out (s64_lt _ _ _), ?_, ha.drew.set (by omega), (hm.drewN 1).set⟩
                    have h1 := val_upd_at f' (s64 (f' j) (limb D j) c) (show j < 5 by omega)
                    have h2 := congrArg (· * 2 ^ (64 * j)) (sc64 (f' j) (limb D j) c)
                    have h3 := Hv'.out
                    have e1 : val (limb D) (j + 1) = val (limb D) j + limb D j * 2 ^ (64 * j) := rfl
                    rw [pow_succ64, e1]
                    simp only [Nat.add_mul, Nat.mul_assoc] at h2
                    omega
                  case measure => simp [intOf]; omega
              · obtain rfl : j = 4 := by omega
                have f1 := ha.cell 4 (by omega)
                have f2 := ha.free 4 (by omega)
                have hDv := val4_limb HD.out
                rw [hDv] at hv'
                have hc' := c64_le (hf' 4) (show 0 < 2 ^ 64 by decide) hc
                have Hv' := Lib.hid hv'
                have Hf' := Lib.hid hf'
                have hcI : (c64 (f' 4) 0 c : Int) ≤ 1 := by omega
                clear hv' hf' hDv
                go_wp2
                go_roundw
                case rel =>
                  refine ⟨g - 1, 1 - c64 (f' 4) 0 c, upd f' 4 (s64 (f' 4) 0 c), by congr 1; omega, by have := Hg.out; omega, by have := Hbig.out; omega, by congr 1; have := He.out; omega, by omega, upd_lt Hf'.out (s64_lt _ _ _), ?_, ha.set (by omega), hm.set⟩
                  exact nw_fix_math Hv.out Hv'.out (val_upd_at f' _ (show 4 < 5 by omega)) (sc64 (f' 4) 0 c) hg1 hc'
                case measure => simp [intOf]; omega
end Go.Proofs.YtoaepgiajooecaaGreat

namespace Go.Proofs.YtoaepgiajooecaaGreat
open Go.RowKit

def DivPost (a b : Nat) (w : World) (e : Ending) (w' : World) : Prop :=
  e = .returned (.tuple #[U (if b = 0 then 0 else a / b), U (if b = 0 then 0 else a % b), .bool (decide (b ≠ 0))]) ∧ Below w.heap.size w w'
theorem divPost_yes {a b q r : Nat} {w w' : World} {e : Ending} (h : b ≠ 0) (hq : q = a / b) (hr : r = a % b) (he : e = .returned (.tuple #[U q, U r, .bool true])) (hw : Below w.heap.size w w') : DivPost a b w e w' := by
  unfold DivPost; rw [if_neg h, if_neg h, decide_eq_true h, ← hq, ← hr]; exact ⟨he, hw⟩
theorem divPost_no {a b : Nat} {w w' : World} {e : Ending} (h : b = 0) (he : e = .returned (.tuple #[U 0, U 0, .bool false])) (hw : Below w.heap.size w w') : DivPost a b w e w' := by
  unfold DivPost; rw [if_pos h, if_pos h, decide_eq_false (by simpa using h)]; exact ⟨he, hw⟩

structure DivMem (w wr : World) (D A R L8 L9 L10 L11 : Nat) (q : Nat → Nat) : Prop where
  z2 : Arr .u64 wr (w.heap.size + 1 + 1) 4 (fun _ => 0)
  z3 : Arr .u64 wr (w.heap.size + 1 + 1 + 1) 4 (fun _ => 0)
  d : Arr .u64 wr L8 4 (limb D)
  a : Arr .u64 wr L9 8 (limb A)
  r : Arr .u64 wr L10 4 (limb R)
  q : Arr .u64 wr L11 4 q
  b : Below w.heap.size w wr
  o1 : w.heap.size + 1 + 1 + 1 < L8
  o2 : L8 < L9
  o3 : L9 < L10
  o4 : L10 < L11
  o5 : L11 < wr.heap.size
theorem DivMem.drewN {w wr : World} {D A R L8 L9 L10 L11 : Nat} {q : Nat → Nat} (h : DivMem w wr D A R L8 L9 L10 L11 q) (n : Nat) : DivMem w (wr.drewN n) D A R L8 L9 L10 L11 q :=
  ⟨h.z2.drewN n, h.z3.drewN n, h.d.drewN n, h.a.drewN n, h.r.drewN n, h.q.drewN n, below_drewN h.b n, h.o1, h.o2, h.o3, h.o4, h.o5⟩
theorem DivMem.below {w wr w' : World} {D A R L8 L9 L10 L11 : Nat} {q : Nat → Nat} (h : DivMem w wr D A R L8 L9 L10 L11 q) (hb : Below wr.heap.size wr w') : DivMem w w' D A R L8 L9 L10 L11 q := by
  have := h.o1; have := h.o2; have := h.o3; have := h.o4; have := h.o5; have := hb.size
  exact ⟨h.z2.below hb (by omega), h.z3.below hb (by omega), h.d.below hb (by omega), h.a.below hb (by omega), h.r.below hb (by omega), h.q.below hb (by omega), h.b.trans (hb.mono (by omega)), h.o1, h.o2, h.o3, h.o4, by omega⟩
/-- a quotient's word is stored, and the new rest -/
theorem DivMem.step {w wr : World} {D A R R' L8 L9 L10 L11 k v : Nat} {q : Nat → Nat} (h : DivMem w wr D A R L8 L9 L10 L11 q) (hk : k < 4) :
    DivMem w (((((wr.setCell ⟨L11, k, none⟩ (.int .u64 (v : Nat))).setCell ⟨L10, 0, none⟩ (.int .u64 (limb R' 0 : Nat))).setCell ⟨L10, 1, none⟩ (.int .u64 (limb R' 1 : Nat))).setCell ⟨L10, 2, none⟩ (.int .u64 (limb R' 2 : Nat))).setCell ⟨L10, 3, none⟩ (.int .u64 (limb R' 3 : Nat)))
      D A R' L8 L9 L10 L11 (upd q k v) := by
  have := h.o1; have := h.o2; have := h.o3; have := h.o4; have := h.o5
  refine ⟨?_, ?_, ?_, ?_, ?_, ?_, ?_, h.o1, h.o2, h.o3, h.o4, by simp only [World.size_setCell]; exact h.o5⟩
  · exact ((((h.z2.set_far (by omega)).set_far (by omega)).set_far (by omega)).set_far (by omega)).set_far (by omega)
  · exact ((((h.z3.set_far (by omega)).set_far (by omega)).set_far (by omega)).set_far (by omega)).set_far (by omega)
  · exact ((((h.d.set_far (by omega)).set_far (by omega)).set_far (by omega)).set_far (by omega)).set_far (by omega)
  · exact ((((h.a.set_far (by omega)).set_far (by omega)).set_far (by omega)).set_far (by omega)).set_far (by omega)
  · refine Arr.congr (((((h.r.set_far (by omega)).set (by omega)).set (by omega)).set (by omega)).set (by omega)) fun i hi => ?_
    rcases (by omega : i = 0 ∨ i = 1 ∨ i = 2 ∨ i = 3) with rfl | rfl | rfl | rfl <;> simp [upd]
  · exact ((((h.q.set hk).set_far (by omega)).set_far (by omega)).set_far (by omega)).set_far (by omega)
  · exact ((((h.b.setCell (by simp; omega) _).setCell (by simp; omega) _).setCell (by simp; omega) _).setCell (by simp; omega) _).setCell (by simp; omega) _

/-- the state at the head of Div's loop -/
def DivRel (w : World) (D A L8 L9 L10 L11 : Nat) (i : Value) (wr : World) : Prop :=
  ∃ (k R : Nat) (q : Nat → Nat), k ≤ 4 ∧ i = .int .i64 (k : Nat) ∧ (∀ j, q j < 2 ^ 64) ∧ (∀ j, j < 4 - k → q j = 0) ∧
    R = A / 2 ^ (64 * (4 - k)) % D ∧ val q 4 = A / 2 ^ (64 * (4 - k)) / D * 2 ^ (64 * (4 - k)) ∧ DivMem w wr D A R L8 L9 L10 L11 q
theorem div_step {A D m : Nat} (hD : 0 < D) :
    A / 2 ^ (64 * m) / D = A / 2 ^ (64 * (m + 1)) / D * 2 ^ 64 + (A / 2 ^ (64 * (m + 1)) % D * 2 ^ 64 + limb A m) / D ∧
    A / 2 ^ (64 * m) % D = (A / 2 ^ (64 * (m + 1)) % D * 2 ^ 64 + limb A m) % D := by
  have e : A / 2 ^ (64 * m) = A / 2 ^ (64 * (m + 1)) * 2 ^ 64 + limb A m := by
    unfold limb
    rw [pow_succ64, Nat.mul_comm (2 ^ 64), ← Nat.div_div_eq_div_mul]
    exact (Nat.div_add_mod' _ _).symm
  rw [e]
  generalize A / 2 ^ (64 * (m + 1)) = Y
  have e2 : Y * 2 ^ 64 + limb A m = D * (Y / D * 2 ^ 64) + (Y % D * 2 ^ 64 + limb A m) := by
    have h := Nat.div_add_mod Y D
    have h1 := congrArg (· * 2 ^ 64) h
    simp only [Nat.add_mul, Nat.mul_assoc] at h1
    omega
  constructor
  · rw [e2, Nat.mul_add_div hD]
  · rw [e2, Nat.mul_add_mod]

theorem div_round {A D k R qn Rn X : Nat} {q : Nat → Nat} (hk : k < 4) (hD : 0 < D) (hR : R = A / 2 ^ (64 * (4 - k)) % D) (hv : val q 4 = A / 2 ^ (64 * (4 - k)) / D * 2 ^ (64 * (4 - k)))
    (hq0 : ∀ j, j < 4 - k → q j = 0) (hX : X = R * 2 ^ 64 + limb A (3 - k)) (hqn : qn = X / D) (hRn : Rn = X % D) :
    qn < 2 ^ 64 ∧ (∀ j, j < 4 - (k + 1) → upd q (3 - k) qn j = 0) ∧ Rn = A / 2 ^ (64 * (4 - (k + 1))) % D ∧ val (upd q (3 - k) qn) 4 = A / 2 ^ (64 * (4 - (k + 1))) / D * 2 ^ (64 * (4 - (k + 1))) := by
  obtain ⟨m, hm⟩ : ∃ m, m = 3 - k := ⟨_, rfl⟩
  rw [show 4 - k = m + 1 by omega] at hR hv hq0
  rw [← hm] at hX ⊢
  rw [show 4 - (k + 1) = m by omega]
  have st := div_step (A := A) (m := m) hD
  rw [← hR, ← hX, ← hqn, ← hRn] at st
  have hRD : R < D := by rw [hR]; exact Nat.mod_lt _ hD
  refine ⟨?_, fun j hj => ?_, st.2.symm, ?_⟩
  · rw [hqn, hX]; exact quot_lt hRD (limb_lt _ _)
  · rw [upd_ne _ (by omega)]; exact hq0 j (by omega)
  · have h1 := val_upd_at q qn (show m < 4 by omega)
    rw [hq0 m (by omega), hv, pow_succ64, Nat.zero_mul, Nat.add_zero] at h1
    rw [h1, st.1, Nat.add_mul, Nat.mul_assoc]; simp only [pow_succ64]
theorem div_end {a b s A D R : Nat} {q : Nat → Nat} (hb : b ≠ 0) (hA : A = a * 2 ^ s) (hD : D = b * 2 ^ s) (hR : R = A / 2 ^ (64 * (4 - 4)) % D) (hv : val q 4 = A / 2 ^ (64 * (4 - 4)) / D * 2 ^ (64 * (4 - 4))) :
    val q 4 = a / b ∧ R = a % b * 2 ^ s := by
  have e : (2 : Nat) ^ (64 * (4 - 4)) = 1 := rfl
  rw [e, Nat.div_one] at hR
  rw [e, Nat.div_one, Nat.mul_one] at hv
  have hp : 0 < 2 ^ s := Nat.pow_pos (by decide)
  rw [hv, hR, hA, hD, Nat.mul_div_mul_right _ _ hp, Nat.mul_mod_mul_right]
  exact ⟨rfl, rfl⟩

set_option maxRecDepth 100000 in
set_option maxHeartbeats 2000000 in
theorem div_walk (a b : Nat) (w : World) (hal : a < 2 ^ 256) (hbl : b < 2 ^ 256) :
    Calls Tryz.prog 80 #[U a, U b] w (DivPost a b w) := by
  have heq := fun w => eq0_run hbl w
  have Hal := Lib.hid hal
  have Hbl := Lib.hid hbl
  clear hal hbl
  unfold U
  by_cases hb0 : b = 0
  · have hd : decide (b = 0) = true := decide_eq_true hb0
    have Hb0 := Lib.hid hb0
    clear hb0
    go_enter Tryz.func80, Tryz.ntmps80
    go_wp2
    refine bodyPost_ret (v := .tuple #[.agg #[.int .u64 0, .int .u64 0, .int .u64 0, .int .u64 0], .agg #[.int .u64 0, .int .u64 0, .int .u64 0, .int .u64 0], .bool false]) (by simp [results, Tryz.results80, go_sem]) rfl (divPost_no Hb0.out (by rw [U_zero]) ?_)
    exact ((((Below.refl _ _).alloc (Nat.le_refl _) _).alloc (by simp only [World.size_alloc]; omega) _).alloc (by simp only [World.size_alloc]; omega) _).alloc (by simp only [World.size_alloc]; omega) _
  · have hd : decide (b = 0) = false := decide_eq_false hb0
    have Hb0 := Lib.hid hb0
    clear hb0
    go_enter Tryz.func80, Tryz.ntmps80
    obtain ⟨s, hs⟩ : ∃ s, s = 256 - blen b := ⟨_, rfl⟩
    have hbl : blen b ≤ 256 := blen_le Hbl.out
    have hb1 : 1 ≤ blen b := by rw [blen_pos Hb0.out]; omega
    have es : (256 : Int) - (blen b : Int) = (s : Int) := by omega
    have hs' : s < 256 := by omega
    obtain ⟨D, hD⟩ : ∃ D, D = b * 2 ^ s := ⟨_, rfl⟩
    obtain ⟨A, hA⟩ : ∃ A, A = a * 2 ^ s := ⟨_, rfl⟩
    have hDl : D < 2 ^ 256 := by
      rw [hD, show 256 = blen b + s by omega, Nat.pow_add]
      exact Nat.mul_lt_mul_of_pos_right (lt_blen b) (Nat.pow_pos (by decide))
    have hDn : 2 ^ 255 ≤ D := by
      rw [hD, show 255 = blen b - 1 + s by omega, Nat.pow_add]
      exact Nat.mul_le_mul_right _ (by rw [blen_pos Hb0.out]; exact Nat.log2_self_le Hb0.out)
    have HD := Lib.hid hD
    have HA := Lib.hid hA
    have HDl := Lib.hid hDl
    have HDn := Lib.hid hDn
    have Hs := Lib.hid hs
    clear hs hD hA hDl hDn hbl hb1
    have ga : ∀ W, Below (w.heap.size + 1 + 1 + 1 + 1) ((((w.alloc (.cells #[.int .u64 (limb a 0 : Nat), .int .u64 (limb a 1 : Nat), .int .u64 (limb a 2 : Nat), .int .u64 (limb a 3 : Nat)] 44)).alloc (.cells #[.int .u64 (limb b 0 : Nat), .int .u64 (limb b 1 : Nat), .int .u64 (limb b 2 : Nat), .int .u64 (limb b 3 : Nat)] 44)).alloc (.cells #[.int .u64 0, .int .u64 0, .int .u64 0, .int .u64 0] 44)).alloc (.cells #[.int .u64 0, .int .u64 0, .int .u64 0, .int .u64 0] 44)) W →
        Arr .u64 W w.heap.size 4 (limb a) ∧ Arr .u64 W (w.heap.size + 1) 4 (limb b) ∧ Arr .u64 W (w.heap.size + 1 + 1) 4 (fun _ => 0) ∧ Arr .u64 W (w.heap.size + 1 + 1 + 1) 4 (fun _ => 0) ∧ Below w.heap.size w W := fun W hW =>
      ⟨Arr.below ((((Arr.new4 (f := limb a) rfl).alloc _).alloc _).alloc _) hW (by omega),
       Arr.below (((Arr.new4 (f := limb b) (by simp)).alloc _).alloc _) hW (by omega),
       Arr.below ((Arr.new4 (f := fun _ => 0) (by simp)).alloc _) hW (by omega),
       Arr.below (Arr.new4 (f := fun _ => 0) (by simp)) hW (by omega),
       (((((Below.refl _ _).alloc (Nat.le_refl _) _).alloc (by simp only [World.size_alloc]; omega) _).alloc (by simp only [World.size_alloc]; omega) _).alloc (by simp only [World.size_alloc]; omega) _).trans (hW.mono (by omega))⟩
    have Ga := Lib.hid ga
    clear ga
    go_wp2_with (go_at_call 81; refine (bits_walk b _ Hbl.out).mono ?_; rintro e w1 ⟨rfl, hb1⟩; obtain ⟨ma, mb, mc, md, me⟩ := Ga.out w1 (by simpa using hb1); obtain ⟨c0, c1, c2, c3⟩ := mb.cells4)
    refine (shl_walk b s _ Hbl.out hs').mono ?_
    rintro e w2 ⟨rfl, hb2⟩
    rw [← HD.out]
    go_wp2_with fail
    refine (low_walk D _).mono ?_
    rintro e w3 ⟨rfl, hb3⟩
    rw [Nat.mod_eq_of_lt HDl.out]
    unfold U
    have z1 : w1.heap.size ≤ w2.heap.size := hb2.size
    have z2 : w2.heap.size ≤ w3.heap.size := hb3.size
    have z0 : w.heap.size + 1 + 1 + 1 + 1 ≤ w1.heap.size := by have := hb1.size; simpa using this
    have z3 : w.heap.size < w3.heap.size := by omega
    have ma3 : Arr .u64 w3 w.heap.size 4 (limb a) := (ma.below hb2 (by omega)).below hb3 (by omega)
    obtain ⟨a0, a1, a2, a3⟩ := ma3.cells4
    go_wp2_with fail
    refine (shl_walk a s _ Hal.out hs').mono ?_
    rintro e w5 ⟨rfl, hb5⟩
    rw [← HA.out]
    unfold U8
    go_wp2_with fail
    refine (high_walk A _).mono ?_
    rintro e w6 ⟨rfl, hb6⟩
    obtain ⟨R0, hR0⟩ : ∃ r, r = A / 2 ^ 256 := ⟨_, rfl⟩
    rw [← hR0]
    unfold U
    have HR0 := Lib.hid hR0
    clear hR0
    go_wp2_with fail
    have z4 : w3.heap.size + 1 ≤ w5.heap.size := by have := hb5.size; simpa using this
    have z5 : w5.heap.size + 1 ≤ w6.heap.size := by have := hb6.size; simpa using this
    obtain ⟨L8, hL8⟩ : ∃ n, n = w3.heap.size := ⟨_, rfl⟩
    obtain ⟨L9, hL9⟩ : ∃ n, n = w5.heap.size := ⟨_, rfl⟩
    obtain ⟨L10, hL10⟩ : ∃ n, n = w6.heap.size := ⟨_, rfl⟩
    obtain ⟨L11, hL11⟩ : ∃ n, n = w6.heap.size + 1 := ⟨_, rfl⟩
    have mem : DivMem w ((w6.alloc (.cells #[.int .u64 (limb R0 0 : Nat), .int .u64 (limb R0 1 : Nat), .int .u64 (limb R0 2 : Nat), .int .u64 (limb R0 3 : Nat)] 44)).alloc (.cells #[.int .u64 0, .int .u64 0, .int .u64 0, .int .u64 0] 44)) D A R0 L8 L9 L10 L11 (fun _ => 0) := by
      refine ⟨?_, ?_, ?_, ?_, ?_, ?_, ?_, by omega, by omega, by omega, by omega, by rw [hL11]; simp⟩
      · exact (((((((mc.below hb2 (by omega)).below hb3 (by omega)).alloc _).below hb5 (by simp only [World.size_alloc]; omega)).alloc _).below hb6 (by simp only [World.size_alloc]; omega)).alloc _).alloc _
      · exact (((((((md.below hb2 (by omega)).below hb3 (by omega)).alloc _).below hb5 (by simp only [World.size_alloc]; omega)).alloc _).below hb6 (by simp only [World.size_alloc]; omega)).alloc _).alloc _
      · exact (((((Arr.new4 (f := limb D) (by omega)).below hb5 (by simp only [World.size_alloc]; omega)).alloc _).below hb6 (by simp only [World.size_alloc]; omega)).alloc _).alloc _
      · exact (((Arr.new8 (f := limb A) (by omega)).below hb6 (by simp only [World.size_alloc]; omega)).alloc _).alloc _
      · exact (Arr.new4 (f := limb R0) (by omega)).alloc _
      · exact Arr.new4 (f := fun _ => 0) (by simp only [World.size_alloc]; omega)
      · exact (((((((me.trans (hb2.mono (by omega))).trans (hb3.mono (by omega))).alloc (by omega) _).trans (hb5.mono (by simp only [World.size_alloc]; omega))).alloc (by omega) _).trans (hb6.mono (by simp only [World.size_alloc]; omega))).alloc (by omega) _).alloc (by simp only [World.size_alloc]; omega) _
    rw [← hL11, ← hL8, ← hL9, ← hL10]
    have HL : Hid (0 < D) := Lib.hid (by have := HDn.out; omega)
    have Mem := Lib.hid mem
    clear mem a0 a1 a2 a3 ma3 z0 z1 z2 z3 z4 z5 hL8 hL9 hL10 hL11 ma mb mc md me c0 c1 c2 c3 hb1 hb2 hb3 hb5 hb6
    go_loopw [31] (DivRel w D A L8 L9 L10 L11) (fun i _ => 4 - (intOf i).toNat)
    case atStart =>
      have hA : A < 2 ^ 256 * 2 ^ s := by rw [HA.out]; exact Nat.mul_lt_mul_of_pos_right Hal.out (Nat.pow_pos (by decide))
      have hR : R0 < 2 ^ s := by rw [HR0.out]; exact (Nat.div_lt_iff_lt_mul (by decide)).2 (by rw [Nat.mul_comm]; exact hA)
      have hsD : 2 ^ s ≤ D := by rw [HD.out]; exact Nat.le_mul_of_pos_left _ (Nat.pos_of_ne_zero Hb0.out)
      refine ⟨0, R0, fun _ => 0, by omega, rfl, by simp, by simp, ?_, ?_, Mem.out⟩
      · show R0 = A / 2 ^ 256 % D
        rw [← HR0.out, Nat.mod_eq_of_lt (by omega)]
      · show val (fun _ => 0) 4 = A / 2 ^ 256 / D * 2 ^ 256
        rw [← HR0.out, Nat.div_eq_of_lt (by omega), val_zero, Nat.zero_mul]
    case round =>
      obtain ⟨k, R, q, hk, rfl, hq, hq0, hR, hv, mem⟩ := hrel
      by_cases hlt : k < 4
      · have hRD : R < D := by rw [hR]; exact Nat.mod_lt _ HL.out
        obtain ⟨d0, d1, d2, d3⟩ := mem.d.cells4
        obtain ⟨r0, r1, r2, r3⟩ := mem.r.cells4
        have n1 := mem.a.cell (3 - k) (by omega)
        have ne1 : L10 ≠ L11 := by have := mem.o4; omega
        have ne2 : L11 ≠ L10 := by have := mem.o4; omega
        have i1 : IntKind.i64.wrap (3 - (k : Int)) = 3 - (k : Int) := IntWalk.i64_in _ (by omega)
        have i2 : (3 : Int) - (k : Int) = ((3 - k : Nat) : Int) := by omega
        have i3 : ((3 - k : Nat) : Int) < 8 := by omega
        have i4 : ((3 - k : Nat) : Int) < 4 := by omega
        have Hq := Lib.hid hq
        have Hq0 := Lib.hid hq0
        have HRD := Lib.hid hRD
        have HR := Lib.hid hR
        have Hv := Lib.hid hv
        clear hq hq0 hRD hR hv
        go_wp2
        go_region_with (go_at_call 98; refine (nw_walk R (limb A (3 - k)) D _ HRD.out HDl.out HDn.out (limb_lt _ _)).mono ?_; rintro e w' ⟨rfl, hb⟩; obtain ⟨X, hX⟩ : ∃ x, x = R * 2 ^ 64 + limb A (3 - k) := ⟨_, rfl⟩; rw [← hX]; obtain ⟨qn, hqn⟩ : ∃ x, x = X / D := ⟨_, rfl⟩; obtain ⟨Rn, hRn⟩ : ∃ x, x = X % D := ⟨_, rfl⟩; rw [← hqn, ← hRn]; obtain ⟨y0, y1, y2, y3⟩ := ((mem.drewN 1).below hb).r.frees4; have yq := ((mem.drewN 1).below hb).q.free (3 - k) (by omega); have xq := ((mem.drewN 1).below hb).q.cell (3 - k) (by omega); obtain ⟨x0, x1, x2, x3⟩ := ((mem.drewN 1).below hb).r.cells4; have st := Lib.hid (div_round hlt HL.out HR.out Hv.out Hq0.out hX hqn hRn); have mm := Lib.hid (((mem.drewN 1).below hb).step (k := 3 - k) (v := qn) (R' := Rn) (by omega)); clear hX hqn hRn; unfold U)
        all_goals
          go_wp2
          go_roundw
          case rel => exact ⟨k + 1, _, _, by omega, by go_num, upd_lt Hq.out st.out.1, st.out.2.1, st.out.2.2.1, st.out.2.2.2, mm.out⟩
          case measure => simp [intOf]; omega
      · have hk4 : k = 4 := by omega
        have hkI : ¬ (k : Int) < 4 := by omega
        rw [hk4] at hR hv
        have fin := div_end Hb0.out HA.out HD.out hR hv
        have hq' : Arr .u64 wr L11 4 (limb (a / b)) := mem.q.congr fun i hi => by rw [← fin.1, limb_val 4 (fun i _ => hq i) i hi]
        have hR256 : R < 2 ^ 256 := by have := HDl.out; have := Nat.mod_lt (A / 2 ^ (64 * (4 - 4))) HL.out; rw [← hR] at this; omega
        have HR256 := Lib.hid hR256
        have Fin := Lib.hid fin
        clear hq hq0 hR hv hk4 hR256 fin
        obtain ⟨q0, q1, q2, q3⟩ := hq'.cells4
        obtain ⟨r0, r1, r2, r3⟩ := mem.r.cells4
        obtain ⟨qv, hqv⟩ : ∃ x, x = a / b := ⟨_, rfl⟩
        obtain ⟨rv, hrv⟩ : ∃ x, x = a % b := ⟨_, rfl⟩
        rw [← hqv] at q0 q1 q2 q3
        have Hqv := Lib.hid hqv
        have Hrv := Lib.hid hrv
        clear hqv hrv
        have eR : R / 2 ^ s = rv := by rw [Fin.out.2, Hrv.out, Nat.mul_div_cancel _ (Nat.pow_pos (by decide))]
        have ER := Lib.hid eR
        clear eR
        go_wp2
        go_region_with (go_at_call 99; refine (shr_walk R s _ HR256.out hs').mono ?_; rintro e w' ⟨rfl, hb⟩; rw [ER.out]; obtain ⟨y0, y1, y2, y3⟩ := ((mem.drewN 1).below hb).z2.frees4; obtain ⟨x0, x1, x2, x3⟩ := ((mem.drewN 1).below hb).z2.cells4; obtain ⟨u0, u1, u2, u3⟩ := ((mem.drewN 1).below hb).z3.frees4; obtain ⟨v0, v1, v2, v3⟩ := ((mem.drewN 1).below hb).z3.cells4; obtain ⟨q0', q1', q2', q3'⟩ := ((hq'.drewN 1).below hb mem.o5).cells4; rw [← Hqv.out] at q0' q1' q2' q3'; have mm := Lib.hid ((mem.drewN 1).below hb).b; unfold U)
        all_goals
          go_wp2
          refine bodyPost_ret (v := .tuple #[.agg #[.int .u64 (limb qv 0 : Nat), .int .u64 (limb qv 1 : Nat), .int .u64 (limb qv 2 : Nat), .int .u64 (limb qv 3 : Nat)], .agg #[.int .u64 (limb rv 0 : Nat), .int .u64 (limb rv 1 : Nat), .int .u64 (limb rv 2 : Nat), .int .u64 (limb rv 3 : Nat)], .bool true]) (by simp [results, Tryz.results80, go_sem, x0, x1, x2, x3, v0, v1, v2, v3]) rfl (divPost_yes Hb0.out Hqv.out Hrv.out rfl ?_)
          exact below_set4 (below_set4 mm.out (by omega)) (by omega)
end Go.Proofs.YtoaepgiajooecaaGreat
