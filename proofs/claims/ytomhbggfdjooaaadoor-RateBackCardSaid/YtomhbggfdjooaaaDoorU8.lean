/- math/bits.Div64, walked, for a divisor whose top bit is set. -/
import Derived.Test.YtomhbggfdjooaaaDoorU5
import Derived.Test.YtomhbggfdjooaaaDoorDivMath
import Derived.Deep.DeepCutAuto
import Derived.Deep.CutBlock
namespace Go.Proofs.YtomhbggfdjooaaaDoor
open Go.RowKit

def dq (hi lo y : Nat) : Nat := (hi * 18446744073709551616 + lo) / y
def dr (hi lo y : Nat) : Nat := (hi * 18446744073709551616 + lo) % y
theorem lz_c (y : Nat) (hy : 2 ^ 63 ≤ y) (hy' : y < 2 ^ 64) (w : World) :
    Calls Tryd.prog 62 #[.int .u64 (y : Nat)] w fun e w' => e = .returned (.int .i64 0) ∧ w = w' := by
  refine (Tryd.bits_LeadingZeros64 (y : Int) w (by omega) (by omega)).mono ?_
  rintro e w' ⟨rfl, rfl⟩
  refine ⟨?_, rfl⟩
  have h : blen y = 63 + 1 := (blen_iff (by omega)).2 ⟨hy, hy'⟩
  rw [Int.toNat_natCast, bitLen_eq hy', h]; rfl

theorem q_bound {hi y y1 y0 : Nat} (h : hi < y) (hy : y = y1 * 4294967296 + y0) (h0 : y0 < 4294967296) (h1 : 2147483648 ≤ y1) : hi / y1 ≤ 4294967297 := by
  refine Nat.le_of_lt_succ ((Nat.div_lt_iff_lt_mul (by omega)).2 ?_)
  show hi < 4294967298 * y1
  omega
theorem wrap_left {hi n Q y u : Nat} (h : hi * 4294967296 + n = Q * y + u) (hu : u < 18446744073709551616) :
    IntKind.u64.wrap (IntKind.u64.wrap (IntKind.u64.wrap ((hi : Int) * 4294967296) + (n : Int)) - IntKind.u64.wrap ((Q : Int) * (y : Int))) = (u : Int) := by
  have h' : ((hi * 4294967296 + n : Nat) : Int) = ((Q * y + u : Nat) : Int) := by rw [h]
  rw [Int.natCast_add, Int.natCast_mul, Int.natCast_add, Int.natCast_mul] at h'
  simp only [IntKind.wrap_u64]
  generalize (Q : Int) * (y : Int) = x at *
  omega
theorem wrap_rest {hi q y1 r : Nat} (h : q * y1 + r = hi) (hhi : hi < 18446744073709551616) :
    IntKind.u64.wrap ((hi : Int) - IntKind.u64.wrap ((q : Int) * (y1 : Int))) = (r : Int) := by
  have h' : ((q * y1 + r : Nat) : Int) = (hi : Int) := by rw [h]
  rw [Int.natCast_add, Int.natCast_mul] at h'
  simp only [IntKind.wrap_u64]
  generalize (q : Int) * (y1 : Int) = x at *
  omega
theorem wrap_prod {q y0 p : Nat} (h : q * y0 = p) (hp : p < 18446744073709551616) : IntKind.u64.wrap ((q : Int) * (y0 : Int)) = (p : Int) := by
  have h' : (q : Int) * (y0 : Int) = (p : Int) := by rw [← h, Int.natCast_mul]
  rw [h']; exact IntWalk.u64_in _ (by omega)
theorem small_prod {q y0 : Nat} (hq : q ≤ 4294967296) (h0 : y0 < 4294967296) : q * y0 ≤ 4294967296 * 4294967295 := Nat.mul_le_mul hq (by omega)

/-- the state at the head of a digit's loop -/
def DigRel (u n y1 y0 : Nat) (a b : Value) : Prop :=
  ∃ q r : Nat, a = .int .u64 (q : Nat) ∧ b = .int .u64 (r : Nat) ∧ Guess 4294967296 u n y1 y0 q r ∧ q ≤ 4294967297 ∧ r < 4294967296
theorem dig_more {u n y1 y0 q r : Nat} (G : Guess 4294967296 u n y1 y0 q r) (hlt : (u * 4294967296 + n) / (y1 * 4294967296 + y0) < q) (hq : q ≤ 4294967297) (hr : r + y1 < 4294967296) :
    DigRel u n y1 y0 (.int .u64 ((q : Int) - 1)) (.int .u64 ((r : Int) + (y1 : Int))) := by
  have h0 : 0 < q := Nat.lt_of_le_of_lt (Nat.zero_le _) hlt
  exact ⟨q - 1, r + y1, by congr 1; clear hlt; omega, by congr 1, G.less hlt, by clear hlt; omega, hr⟩
theorem dig_break {u n y1 y0 y q r Q : Nat} (G : Guess 4294967296 u n y1 y0 q r) (hlt : (u * 4294967296 + n) / (y1 * 4294967296 + y0) < q) (hq : q ≤ 4294967297) (hr : 4294967296 ≤ r + y1)
    (h0 : y0 < 4294967296) (hy : y = y1 * 4294967296 + y0) (hyp : 0 < y) (hQ : Q = (u * 4294967296 + n) / y) : (.int .u64 ((q : Int) - 1) : Value) = .int .u64 (Q : Nat) := by
  have hq0 : 0 < q := Nat.lt_of_le_of_lt (Nat.zero_le _) hlt
  have e := (G.less hlt).exact_of_test (by rw [← hy]; exact hyp) (by have := small_prod (show q - 1 ≤ 4294967296 by omega) h0; clear hlt hQ G; omega)
  rw [← hy, ← hQ] at e
  congr 1; clear hlt hQ; omega
theorem dig_done {u n y1 y0 y q r Q : Nat} (G : Guess 4294967296 u n y1 y0 q r) (ht : q * y0 ≤ r * 4294967296 + n) (hy : y = y1 * 4294967296 + y0) (hyp : 0 < y) (hQ : Q = (u * 4294967296 + n) / y) :
    (.int .u64 (q : Nat) : Value) = .int .u64 (Q : Nat) := by
  rw [hQ, hy, ← G.exact_of_test (by rw [← hy]; exact hyp) ht]

def Div64Post (hi lo y : Nat) (w : World) (e : Ending) (w' : World) : Prop :=
  e = .returned (.tuple #[.int .u64 (dq hi lo y : Nat), .int .u64 (dr hi lo y : Nat)]) ∧ ∃ n, w' = w.drewN n

set_option maxRecDepth 100000 in
set_option maxHeartbeats 1000000 in
theorem div64_walk (hi lo y : Nat) (w : World) (hy : 2 ^ 63 ≤ y) (hy' : y < 2 ^ 64) (hh : hi < y) (hlo : lo < 2 ^ 64) :
    Calls Tryd.prog 60 #[.int .u64 (hi : Nat), .int .u64 (lo : Nat), .int .u64 (y : Nat)] w (Div64Post hi lo y w) := by
  have hy0 : ((y : Int) == 0) = false := by rw [beq_eq_false_iff_ne]; omega
  have Hy := Lib.hid hy
  have Hy' := Lib.hid hy'
  have Hlo := Lib.hid hlo
  clear hy hy' hlo
  obtain ⟨y1, hy1⟩ : ∃ n, n = y / 4294967296 := ⟨_, rfl⟩
  obtain ⟨y0, hy0'⟩ : ∃ n, n = y % 4294967296 := ⟨_, rfl⟩
  obtain ⟨n1, hn1⟩ : ∃ n, n = lo / 4294967296 := ⟨_, rfl⟩
  obtain ⟨n0, hn0⟩ : ∃ n, n = lo % 4294967296 := ⟨_, rfl⟩
  have d1 : (y : Int) / 4294967296 = (y1 : Int) := by omega
  have m1 : bits BinOp.and IntKind.u64 (y : Int) 4294967295 = (y0 : Int) := by
    rw [show (4294967295 : Int) = ((4294967295 : Nat) : Int) from rfl, u64_and_nat _ _ (by have := Hy'.out; omega) (by decide), hy0', Nat.and_two_pow_sub_one_eq_mod y 32]
  have d2 : (lo : Int) / 4294967296 = (n1 : Int) := by omega
  have m2 : bits BinOp.and IntKind.u64 (lo : Int) 4294967295 = (n0 : Int) := by
    rw [show (4294967295 : Int) = ((4294967295 : Nat) : Int) from rfl, u64_and_nat _ _ (by have := Hlo.out; omega) (by decide), hn0, Nat.and_two_pow_sub_one_eq_mod lo 32]
  have z1 : (lo : Int) / 18446744073709551616 = 0 := by have := Hlo.out; omega
  have o1 : bits BinOp.or IntKind.u64 (hi : Int) 0 = (hi : Int) := by
    rw [show (0 : Int) = ((0 : Nat) : Int) from rfl, u64_or_nat _ _ (by have := Hy'.out; omega) (by decide), Nat.or_zero]
  have w1 : IntKind.u64.wrap (y : Int) = (y : Int) := IntWalk.u64_in _ (by have := Hy'.out; omega)
  have w2 : IntKind.u64.wrap (hi : Int) = (hi : Int) := IntWalk.u64_in _ (by have := Hy'.out; omega)
  have w3 : IntKind.u64.wrap (lo : Int) = (lo : Int) := IntWalk.u64_in _ (by have := Hlo.out; omega)
  have by1 : y1 < 4294967296 := by have := Hy'.out; omega
  have cy1 : 2147483648 ≤ y1 := by have := Hy.out; omega
  have by0 : y0 < 4294967296 := by omega
  have bn1 : n1 < 4294967296 := by have := Hlo.out; omega
  have bn0 : n0 < 4294967296 := by omega
  have Hys : Hid (y = y1 * 4294967296 + y0) := Lib.hid (by omega)
  have Hls : Hid (lo = n1 * 4294967296 + n0) := Lib.hid (by omega)
  clear hy1 hy0' hn1 hn0
  by_cases hz : hi = 0
  · subst hz
    have hne : ((y : Int) == 0) = false := hy0
    have hy1 : (y : Int) ≠ 0 := by omega
    have e1 : (lo : Int) / (y : Int) = ((dq 0 lo y : Nat) : Int) := by unfold dq; rw [Nat.zero_mul, Nat.zero_add]; exact (Int.natCast_ediv _ _).symm
    have e2 : (lo : Int) % (y : Int) = ((dr 0 lo y : Nat) : Int) := by unfold dr; rw [Nat.zero_mul, Nat.zero_add]; exact (Int.natCast_emod _ _).symm
    have e3 : (lo : Int).tdiv (y : Int) = ((dq 0 lo y : Nat) : Int) := by rw [Int.tdiv_eq_ediv_of_nonneg (by omega)]; exact e1
    have e4 : (lo : Int).tmod (y : Int) = ((dr 0 lo y : Nat) : Int) := by rw [Int.tmod_eq_emod_of_nonneg (by omega)]; exact e2
    have l1 : dq 0 lo y < 18446744073709551616 := by unfold dq; rw [Nat.zero_mul, Nat.zero_add]; exact Nat.lt_of_le_of_lt (Nat.div_le_self _ _) Hlo.out
    have w4 : IntKind.u64.wrap ((dq 0 lo y : Nat) : Int) = ((dq 0 lo y : Nat) : Int) := IntWalk.u64_in _ (by omega)
    have l2 : dr 0 lo y < 18446744073709551616 := by unfold dr; rw [Nat.zero_mul, Nat.zero_add]; exact Nat.lt_of_le_of_lt (Nat.mod_le _ _) Hlo.out
    have w5 : IntKind.u64.wrap ((dr 0 lo y : Nat) : Int) = ((dr 0 lo y : Nat) : Int) := IntWalk.u64_in _ (by omega)
    clear l1 l2 by1 cy1 by0 bn1 bn0
    go_enter Tryd.func60, Tryd.ntmps60
    go_wp2
    go_region
    all_goals
      go_wp2
      go_ret2
      exact ⟨rfl, 1, rfl⟩
  · have hz0 : ((hi : Int) == 0) = false := by rw [beq_eq_false_iff_ne]; omega
    obtain ⟨q, hq⟩ : ∃ n, n = hi / y1 := ⟨_, rfl⟩
    obtain ⟨r, hr⟩ : ∃ n, n = hi % y1 := ⟨_, rfl⟩
    obtain ⟨Q1, hQ1⟩ : ∃ n, n = (hi * 4294967296 + n1) / y := ⟨_, rfl⟩
    obtain ⟨u, hu⟩ : ∃ n, n = (hi * 4294967296 + n1) % y := ⟨_, rfl⟩
    have huy : u < y := by rw [hu]; exact Nat.mod_lt _ (by omega)
    have dq1 : (hi : Int) / (y1 : Int) = (q : Int) := by rw [hq]; exact (Int.natCast_ediv _ _).symm
    have hq2 : q ≤ 4294967297 := by rw [hq]; exact q_bound hh Hys.out by0 cy1
    have hr2 : r < 4294967296 := by have := Nat.mod_lt hi (show 0 < y1 by omega); omega
    have wq : IntKind.u64.wrap (q : Int) = (q : Int) := IntWalk.u64_in _ (by omega)
    have g0 : Guess 4294967296 hi n1 y1 y0 q r := by rw [hq, hr]; exact guess_first (by omega) (by decide) bn1
    have dr1 := wrap_rest g0.sum (by have := Hy'.out; omega)
    have wu := wrap_left (show hi * 4294967296 + n1 = Q1 * y + u by rw [hQ1, hu]; exact (Nat.div_add_mod' _ _).symm) (by have := Hy'.out; omega)
    have G0 := Lib.hid g0
    have HQ1 := Lib.hid hQ1
    have Hu := Lib.hid hu
    have Wu := Lib.hid wu
    clear hq hr g0 hQ1 hu wu
    go_enter Tryd.func60, Tryd.ntmps60
    go_upto_block 0 with (go_at_call 62; refine (lz_c _ Hy.out Hy'.out _).mono ?_; rintro e w' ⟨rfl, rfl⟩)
    go_cut [15] (fun a wx => a = .int .u64 (Q1 : Nat) ∧ w = wx)
    case first =>
      have Hq2 := Lib.hid hq2
      have Hr2 := Lib.hid hr2
      clear hq2 hr2 wq dr1 dq1
      go_wp2
      go_loop [15, 16] (DigRel hi n1 y1 y0) (fun a _ => (intOf a).toNat)
      case atStart => exact ⟨q, r, rfl, rfl, G0.out, Hq2.out, Hr2.out⟩
      case round =>
        obtain ⟨q, r, rfl, rfl, G, hq, hr⟩ := hrel
        have hqI : (q : Int) ≤ 4294967297 := by omega
        have hrI : (r : Int) < 4294967296 := by omega
        have HG := Lib.hid G
        have Hq := Lib.hid hq
        have Hr := Lib.hid hr
        clear G hq hr
        by_cases hbig : 4294967296 ≤ q
        · have Hlt : Hid ((hi * 4294967296 + n1) / (y1 * 4294967296 + y0) < q) := Lib.hid (Nat.lt_of_lt_of_le (quot_lt (by rw [← Hys.out]; exact hh) bn1) hbig)
          have hbigI : (4294967296 : Int) ≤ (q : Int) := by omega
          have h1q : (1 : Int) ≤ (q : Int) := by omega
          clear hbig
          by_cases hbr : 4294967296 ≤ r + y1
          · have hbr' : (4294967296 : Int) ≤ (r : Int) + (y1 : Int) := by omega
            have Hbr := Lib.hid hbr
            clear hbr
            go_wp2
            go_meet
            case rel => exact ⟨dig_break HG.out Hlt.out Hq.out Hbr.out by0 Hys.out (Nat.lt_of_le_of_lt (Nat.zero_le _) hh) HQ1.out, rfl⟩
          · have hbr' : ¬ (4294967296 : Int) ≤ (r : Int) + (y1 : Int) := by omega
            have Hbr := Lib.hid hbr
            clear hbr
            go_wp2
            go_round
            case rel => exact dig_more HG.out Hlt.out Hq.out (Nat.lt_of_not_le Hbr.out)
            case measure => simp [intOf]; omega
        · have hbigI : ¬ (4294967296 : Int) ≤ (q : Int) := by omega
          obtain ⟨p, hp⟩ : ∃ n, n = q * y0 := ⟨_, rfl⟩
          have hpb : p ≤ 4294967296 * 4294967295 := by rw [hp]; exact small_prod (by omega) by0
          have wp := wrap_prod hp.symm (by omega)
          have hpI : (p : Int) ≤ 18446744069414584320 := by omega
          have Hbig := Lib.hid hbig
          have Hp := Lib.hid hp
          clear hbig hpb hp
          by_cases ht : r * 4294967296 + n1 < p
          · have htI : 4294967296 * (r : Int) + (n1 : Int) < (p : Int) := by omega
            have Hlt : Hid ((hi * 4294967296 + n1) / (y1 * 4294967296 + y0) < q) := Lib.hid (HG.out.big_of_test (by rw [← Hys.out]; exact Nat.lt_of_le_of_lt (Nat.zero_le _) hh) (by rw [← Hp.out]; exact ht))
            have h1q : (1 : Int) ≤ (q : Int) := by have := Nat.lt_of_le_of_lt (Nat.zero_le _) Hlt.out; omega
            clear ht
            by_cases hbr : 4294967296 ≤ r + y1
            · have hbr' : (4294967296 : Int) ≤ (r : Int) + (y1 : Int) := by omega
              have Hbr := Lib.hid hbr
              clear hbr
              go_wp2
              go_meet
              case rel => exact ⟨dig_break HG.out Hlt.out Hq.out Hbr.out by0 Hys.out (Nat.lt_of_le_of_lt (Nat.zero_le _) hh) HQ1.out, rfl⟩
            · have hbr' : ¬ (4294967296 : Int) ≤ (r : Int) + (y1 : Int) := by omega
              have Hbr := Lib.hid hbr
              clear hbr
              go_wp2
              go_round
              case rel => exact dig_more HG.out Hlt.out Hq.out (Nat.lt_of_not_le Hbr.out)
              case measure => simp [intOf]; omega
          · have htI : ¬ 4294967296 * (r : Int) + (n1 : Int) < (p : Int) := by omega
            have Ht := Lib.hid ht
            clear ht
            go_wp2
            go_meet
            case rel => exact ⟨dig_done HG.out (by rw [← Hp.out]; exact Nat.le_of_not_lt Ht.out) Hys.out (Nat.lt_of_le_of_lt (Nat.zero_le _) hh) HQ1.out, rfl⟩
    case rest =>
      obtain ⟨rfl, rfl⟩ := hcut
      obtain ⟨q, hq⟩ : ∃ n, n = u / y1 := ⟨_, rfl⟩
      obtain ⟨r, hr⟩ : ∃ n, n = u % y1 := ⟨_, rfl⟩
      obtain ⟨Q0, hQ0⟩ : ∃ n, n = (u * 4294967296 + n0) / y := ⟨_, rfl⟩
      obtain ⟨v, hv⟩ : ∃ n, n = (u * 4294967296 + n0) % y := ⟨_, rfl⟩
      have hvy : v < y := by rw [hv]; exact Nat.mod_lt _ (Nat.lt_of_le_of_lt (Nat.zero_le _) huy)
      have dq1 : (u : Int) / (y1 : Int) = (q : Int) := by rw [hq]; exact (Int.natCast_ediv _ _).symm
      have hq2 : q ≤ 4294967297 := by rw [hq]; exact q_bound huy Hys.out by0 cy1
      have hr2 : r < 4294967296 := by have := Nat.mod_lt u (show 0 < y1 by omega); omega
      have wq : IntKind.u64.wrap (q : Int) = (q : Int) := IntWalk.u64_in _ (by omega)
      have g0 : Guess 4294967296 u n0 y1 y0 q r := by rw [hq, hr]; exact guess_first (by omega) (by decide) bn0
      have dr1 := wrap_rest g0.sum (by have := Hy'.out; omega)
      have wu := Wu.out
      have wv := wrap_left (show u * 4294967296 + n0 = Q0 * y + v by rw [hQ0, hv]; exact (Nat.div_add_mod' _ _).symm) (by have := Hy'.out; omega)
      have bQ0 : Q0 < 4294967296 := by rw [hQ0]; exact quot_lt huy bn0
      have bQ1 : Q1 < 4294967296 := by rw [HQ1.out]; exact quot_lt hh bn1
      have two := two_digits (B := 4294967296) (u := hi) (n1 := n1) (n0 := n0) (y := y) (Nat.lt_of_le_of_lt (Nat.zero_le _) huy) bn0
      have ef : hi * 4294967296 * 4294967296 + (n1 * 4294967296 + n0) = hi * 18446744073709551616 + lo := by have := Hls.out; omega
      rw [ef, ← HQ1.out, ← Hu.out, ← hQ0, ← hv] at two
      have wf : IntKind.u64.wrap (IntKind.u64.wrap ((Q1 : Int) * 4294967296) + (Q0 : Int)) = (dq hi lo y : Nat) := by
        unfold dq; rw [two.1]; simp only [IntKind.wrap_u64]; omega
      have HT : Hid (v = dr hi lo y) := Lib.hid two.2.symm
      have G0 := Lib.hid g0
      have HQ0 := Lib.hid hQ0
      have Hv := Lib.hid hv
      have Wv := Lib.hid wv
      have Wf := Lib.hid wf
      clear hq hr g0 hQ0 hv wv wf two ef bQ0 bQ1
      go_upto_block 2 with (fail)
      go_cut [18] (fun a wx => a = .int .u64 (Q0 : Nat) ∧ w = wx)
      case first =>
        have Hq2 := Lib.hid hq2
        have Hr2 := Lib.hid hr2
        clear hq2 hr2 wq dr1 dq1 wu
        go_wp2
        go_loop [18, 16] (DigRel u n0 y1 y0) (fun a _ => (intOf a).toNat)
        case atStart => exact ⟨q, r, rfl, rfl, G0.out, Hq2.out, Hr2.out⟩
        case round =>
          obtain ⟨q, r, rfl, rfl, G, hq, hr⟩ := hrel
          have hqI : (q : Int) ≤ 4294967297 := by omega
          have hrI : (r : Int) < 4294967296 := by omega
          have HG := Lib.hid G
          have Hq := Lib.hid hq
          have Hr := Lib.hid hr
          clear G hq hr
          by_cases hbig : 4294967296 ≤ q
          · have Hlt : Hid ((u * 4294967296 + n0) / (y1 * 4294967296 + y0) < q) := Lib.hid (Nat.lt_of_lt_of_le (quot_lt (by rw [← Hys.out]; exact huy) bn0) hbig)
            have hbigI : (4294967296 : Int) ≤ (q : Int) := by omega
            have h1q : (1 : Int) ≤ (q : Int) := by omega
            clear hbig
            by_cases hbr : 4294967296 ≤ r + y1
            · have hbr' : (4294967296 : Int) ≤ (r : Int) + (y1 : Int) := by omega
              have Hbr := Lib.hid hbr
              clear hbr
              go_wp2
              go_meet
              case rel => exact ⟨dig_break HG.out Hlt.out Hq.out Hbr.out by0 Hys.out (Nat.lt_of_le_of_lt (Nat.zero_le _) huy) HQ0.out, rfl⟩
            · have hbr' : ¬ (4294967296 : Int) ≤ (r : Int) + (y1 : Int) := by omega
              have Hbr := Lib.hid hbr
              clear hbr
              go_wp2
              go_round
              case rel => exact dig_more HG.out Hlt.out Hq.out (Nat.lt_of_not_le Hbr.out)
              case measure => simp [intOf]; omega
          · have hbigI : ¬ (4294967296 : Int) ≤ (q : Int) := by omega
            obtain ⟨p, hp⟩ : ∃ n, n = q * y0 := ⟨_, rfl⟩
            have hpb : p ≤ 4294967296 * 4294967295 := by rw [hp]; exact small_prod (by omega) by0
            have wp := wrap_prod hp.symm (by omega)
            have hpI : (p : Int) ≤ 18446744069414584320 := by omega
            have Hbig := Lib.hid hbig
            have Hp := Lib.hid hp
            clear hbig hpb hp
            by_cases ht : r * 4294967296 + n0 < p
            · have htI : 4294967296 * (r : Int) + (n0 : Int) < (p : Int) := by omega
              have Hlt : Hid ((u * 4294967296 + n0) / (y1 * 4294967296 + y0) < q) := Lib.hid (HG.out.big_of_test (by rw [← Hys.out]; exact Nat.lt_of_le_of_lt (Nat.zero_le _) huy) (by rw [← Hp.out]; exact ht))
              have h1q : (1 : Int) ≤ (q : Int) := by have := Nat.lt_of_le_of_lt (Nat.zero_le _) Hlt.out; omega
              clear ht
              by_cases hbr : 4294967296 ≤ r + y1
              · have hbr' : (4294967296 : Int) ≤ (r : Int) + (y1 : Int) := by omega
                have Hbr := Lib.hid hbr
                clear hbr
                go_wp2
                go_meet
                case rel => exact ⟨dig_break HG.out Hlt.out Hq.out Hbr.out by0 Hys.out (Nat.lt_of_le_of_lt (Nat.zero_le _) huy) HQ0.out, rfl⟩
              · have hbr' : ¬ (4294967296 : Int) ≤ (r : Int) + (y1 : Int) := by omega
                have Hbr := Lib.hid hbr
                clear hbr
                go_wp2
                go_round
                case rel => exact dig_more HG.out Hlt.out Hq.out (Nat.lt_of_not_le Hbr.out)
                case measure => simp [intOf]; omega
            · have htI : ¬ 4294967296 * (r : Int) + (n0 : Int) < (p : Int) := by omega
              have Ht := Lib.hid ht
              clear ht
              go_wp2
              go_meet
              case rel => exact ⟨dig_done HG.out (by rw [← Hp.out]; exact Nat.le_of_not_lt Ht.out) Hys.out (Nat.lt_of_le_of_lt (Nat.zero_le _) huy) HQ0.out, rfl⟩
      case rest =>
        obtain ⟨rfl, rfl⟩ := hcut
        have wv := Wv.out
        have wf := Wf.out
        have w9 : IntKind.u64.wrap (v : Int) = (v : Int) := IntWalk.u64_in _ (by have := Hy'.out; omega)
        go_wp2
        go_ret2
        exact ⟨by rw [HT.out]; rfl, 0, rfl⟩
end Go.Proofs.YtomhbggfdjooaaaDoor
