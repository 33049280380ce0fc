/- tallageref01.Bits, FromBytes, walked. -/
import Derived.Test.YtnjcnlbphaodcaaGreatG13
import Derived.Test.YtnjcnlbphaodcaaGreatG32
namespace Go.Proofs.YtnjcnlbphaodcaaGreat
open Go.RowKit Go.Sort

theorem bit_limb (N w r : Nat) (hr : r < 64) : limb N w / 2 ^ r % 2 = N / 2 ^ (64 * w + r) % 2 := by
  unfold limb
  have e : N / 2 ^ (64 * w + r) = N / 2 ^ (64 * w) / 2 ^ r := by rw [Nat.div_div_eq_div_mul, ← Nat.pow_add]
  rw [e]
  generalize N / 2 ^ (64 * w) = X
  have h : (2 : Nat) ^ 64 = 2 ^ r * (2 * 2 ^ (63 - r)) := by
    rw [← Nat.pow_succ', ← Nat.pow_add]; congr 1; omega
  rw [h, Nat.mod_mul_right_div_self, Nat.mod_mul_right_mod]
theorem and_bit64 {x r : Nat} (hx : x < 2 ^ 64) : bits BinOp.and IntKind.u64 ((x : Int) / 2 ^ r) 1 = ((x / 2 ^ r % 2 : Nat) : Int) := by
  have e : (x : Int) / 2 ^ r = ((x / 2 ^ r : Nat) : Int) := by rw [Int.natCast_ediv, Int.natCast_pow]; rfl
  have h := u64_and_nat (x / 2 ^ r) 1 (Nat.lt_of_le_of_lt (Nat.div_le_self _ _) hx) (by decide)
  rw [e]
  rw [nat_mask1] at h
  exact h
/-- the bits above k are nought -/
def RbRel (a : Nat) (w : World) (x : Value) (wr : World) : Prop :=
  ∃ k : Nat, k ≤ 256 ∧ x = .int .i64 ((k : Int) - 1) ∧ a < 2 ^ k ∧ Arr .u64 wr w.heap.size 4 (limb a) ∧ Below w.heap.size w wr
theorem bit_one {a i : Nat} (h : a < 2 ^ (i + 1)) (hb : a / 2 ^ i % 2 = 1) : blen a = i + 1 := by
  have hp : 0 < 2 ^ i := Nat.pow_pos (by decide)
  have h1 : 1 ≤ a / 2 ^ i := by
    generalize a / 2 ^ i = x at hb ⊢; omega
  have h2 : 2 ^ i ≤ a := by have := (Nat.le_div_iff_mul_le hp).1 h1; omega
  exact (blen_iff (by omega)).2 ⟨h2, h⟩
theorem bit_nought {a i : Nat} (h : a < 2 ^ (i + 1)) (hb : a / 2 ^ i % 2 = 0) : a < 2 ^ i := by
  have hp : 0 < 2 ^ i := Nat.pow_pos (by decide)
  have h1 : a / 2 ^ i < 2 := (Nat.div_lt_iff_lt_mul hp).2 (by rw [Nat.mul_comm]; exact h)
  have h2 : a / 2 ^ i < 1 := by
    generalize a / 2 ^ i = x at hb h1 ⊢; omega
  have := (Nat.div_lt_iff_lt_mul hp).1 h2
  omega

end Go.Proofs.YtnjcnlbphaodcaaGreat

namespace Go.Proofs.YtnjcnlbphaodcaaGreat
open Go.RowKit Go.Sort

theorem limb_q {Y c q r : Nat} (hr : r < 8) (hc : c < 256) :
    limb (Y * 2 ^ (64 * q + (r * 8 + 8)) + c * 2 ^ (64 * q + r * 8)) q = limb (Y * 2 ^ (64 * q + (r * 8 + 8))) q + c * 2 ^ (r * 8) ∧ limb (Y * 2 ^ (64 * q + (r * 8 + 8))) q % 2 ^ (r * 8 + 8) = 0 := by
  have hp : 0 < 2 ^ (64 * q) := Nat.pow_pos (by decide)
  have e1 : (Y * 2 ^ (64 * q + (r * 8 + 8)) + c * 2 ^ (64 * q + r * 8)) / 2 ^ (64 * q) = Y * 2 ^ (r * 8 + 8) + c * 2 ^ (r * 8) := by
    rw [Nat.pow_add 2 (64 * q) (r * 8 + 8), Nat.pow_add 2 (64 * q) (r * 8), Nat.mul_left_comm Y, Nat.mul_left_comm c, ← Nat.mul_add, Nat.mul_div_cancel_left _ hp]
  have e2 : Y * 2 ^ (64 * q + (r * 8 + 8)) / 2 ^ (64 * q) = Y * 2 ^ (r * 8 + 8) := by
    rw [Nat.pow_add 2 (64 * q) (r * 8 + 8), Nat.mul_left_comm Y, Nat.mul_div_cancel_left _ hp]
  have h64 : 2 ^ 64 = 2 ^ (r * 8 + 8) * 2 ^ (64 - (r * 8 + 8)) := by rw [← Nat.pow_add]; congr 1; omega
  have hpp : 2 ^ (r * 8 + 8) = 256 * 2 ^ (r * 8) := by rw [Nat.pow_add, Nat.mul_comm]
  have hcs : c * 2 ^ (r * 8) < 2 ^ (r * 8 + 8) := by rw [hpp]; exact Nat.mul_lt_mul_of_pos_right hc (Nat.pow_pos (by decide))
  have m1 : Y * 2 ^ (r * 8 + 8) % 2 ^ 64 = Y % 2 ^ (64 - (r * 8 + 8)) * 2 ^ (r * 8 + 8) := by
    rw [h64, Nat.mul_comm Y, Nat.mul_mod_mul_left, Nat.mul_comm]
  have m2 : (Y * 2 ^ (r * 8 + 8) + c * 2 ^ (r * 8)) % 2 ^ 64 = Y * 2 ^ (r * 8 + 8) % 2 ^ 64 + c * 2 ^ (r * 8) := by
    rw [Nat.add_mod, Nat.mod_eq_of_lt (a := c * 2 ^ (r * 8)) (Nat.lt_of_lt_of_le hcs (Nat.pow_le_pow_right (by decide) (by omega))), Nat.mod_eq_of_lt]
    rw [m1]
    have h1 : Y % 2 ^ (64 - (r * 8 + 8)) + 1 ≤ 2 ^ (64 - (r * 8 + 8)) := Nat.mod_lt _ (Nat.pow_pos (by decide))
    have h2 := Nat.mul_le_mul_right (2 ^ (r * 8 + 8)) h1
    rw [Nat.add_mul, Nat.one_mul, Nat.mul_comm (2 ^ (64 - (r * 8 + 8))), ← h64] at h2
    omega
  unfold limb
  rw [e1, e2]
  exact ⟨m2, by rw [m1]; exact Nat.mul_mod_left _ _⟩
theorem limb_other {Y c q r i : Nat} (hr : r < 8) (hc : c < 256) (hi : i ≠ q) :
    limb (Y * 2 ^ (64 * q + (r * 8 + 8)) + c * 2 ^ (64 * q + r * 8)) i = limb (Y * 2 ^ (64 * q + (r * 8 + 8))) i := by
  unfold limb
  rcases Nat.lt_or_ge i q with h | h
  · have e : ∀ x, 64 * q + x = 64 * i + (64 + (64 * (q - i - 1) + x)) := fun x => by omega
    rw [e (r * 8 + 8), e (r * 8)]
    simp only [Nat.pow_add]
    have d : ∀ y z : Nat, y * (2 ^ (64 * i) * (2 ^ 64 * z)) / 2 ^ (64 * i) % 2 ^ 64 = 0 := fun y z => by
      rw [Nat.mul_left_comm, Nat.mul_div_cancel_left _ (Nat.pow_pos (by decide)), Nat.mul_left_comm]; exact Nat.mul_mod_right _ _
    rw [d, show Y * (2 ^ (64 * i) * (2 ^ 64 * (2 ^ (64 * (q - i - 1)) * (2 ^ (r * 8) * 2 ^ 8)))) + c * (2 ^ (64 * i) * (2 ^ 64 * (2 ^ (64 * (q - i - 1)) * 2 ^ (r * 8)))) = (Y * 2 ^ 8 + c) * (2 ^ (64 * i) * (2 ^ 64 * (2 ^ (64 * (q - i - 1)) * 2 ^ (r * 8)))) by
      rw [Nat.add_mul]; congr 1; simp only [Nat.mul_assoc, Nat.mul_comm, Nat.mul_left_comm], d]
  · have e : 64 * i = 64 * q + (r * 8 + 8) + (64 * i - (64 * q + (r * 8 + 8))) := by omega
    have hz : c * 2 ^ (64 * q + r * 8) < 2 ^ (64 * q + (r * 8 + 8)) := by
      rw [show 64 * q + (r * 8 + 8) = 8 + (64 * q + r * 8) by omega, Nat.pow_add 2 8]
      exact Nat.mul_lt_mul_of_pos_right hc (Nat.pow_pos (by decide))
    rw [e, Nat.pow_add 2 (64 * q + (r * 8 + 8)), ← Nat.div_div_eq_div_mul, ← Nat.div_div_eq_div_mul, Nat.mul_comm Y, Nat.mul_add_div (Nat.pow_pos (by decide)), Nat.div_eq_of_lt hz, Nat.add_zero, Nat.mul_div_cancel_left _ (Nat.pow_pos (by decide))]
end Go.Proofs.YtnjcnlbphaodcaaGreat

namespace Go.Proofs.YtnjcnlbphaodcaaGreat
open Go.RowKit Go.Sort

theorem bnum_byte {f : Nat → Nat} (h : ∀ i, f i < 256) : ∀ n m, m < n → bnum f n / 2 ^ (8 * m) % 256 = f (31 - m)
  | 0, m, hm => absurd hm (by omega)
  | n + 1, m, hm => by
    simp only [bnum]
    by_cases e : m = n
    · subst e
      rw [Nat.add_mul_div_right _ _ (Nat.pow_pos (by decide)), Nat.div_eq_of_lt (bnum_lt h m), Nat.zero_add, Nat.mod_eq_of_lt (h _)]
    · have ih := bnum_byte h n m (by omega)
      have e2 : 2 ^ (8 * n) = 2 ^ (8 * m) * (256 * 2 ^ (8 * (n - m - 1))) := by
        rw [show (256 : Nat) = 2 ^ 8 from rfl, ← Nat.pow_add, ← Nat.pow_add]; congr 1; omega
      rw [e2, Nat.mul_left_comm, Nat.add_mul_div_left _ _ (Nat.pow_pos (by decide)), Nat.mul_left_comm, Nat.add_mul_mod_self_left, ih]
/-- the number of the first i of 32 bytes, where it stands -/
def topv (N i : Nat) : Nat := N / 2 ^ (8 * (32 - i)) * 2 ^ (8 * (32 - i))
theorem topv_step {N i : Nat} (hi : i < 32) : topv N (i + 1) = N / 2 ^ (64 * ((31 - i) / 8) + ((31 - i) % 8 * 8 + 8)) * 2 ^ (64 * ((31 - i) / 8) + ((31 - i) % 8 * 8 + 8)) + N / 2 ^ (8 * (31 - i)) % 256 * 2 ^ (64 * ((31 - i) / 8) + (31 - i) % 8 * 8) ∧
    topv N i = N / 2 ^ (64 * ((31 - i) / 8) + ((31 - i) % 8 * 8 + 8)) * 2 ^ (64 * ((31 - i) / 8) + ((31 - i) % 8 * 8 + 8)) := by
  have e1 : 64 * ((31 - i) / 8) + ((31 - i) % 8 * 8 + 8) = 8 * (32 - i) := by omega
  have e2 : 64 * ((31 - i) / 8) + (31 - i) % 8 * 8 = 8 * (31 - i) := by omega
  rw [e1, e2]
  refine ⟨?_, rfl⟩
  unfold topv
  have e3 : 2 ^ (8 * (32 - i)) = 256 * 2 ^ (8 * (31 - i)) := by
    rw [show (256 : Nat) = 2 ^ 8 from rfl, ← Nat.pow_add]; congr 1; omega
  rw [show 32 - (i + 1) = 31 - i by omega, e3, ← Nat.mul_assoc, ← Nat.add_mul, Nat.mul_comm 256, ← Nat.div_div_eq_div_mul]
  congr 1
  exact (Nat.div_add_mod' _ _).symm
theorem topv_word {N i c : Nat} (hi : i < 32) (hc : c = N / 2 ^ (8 * (31 - i)) % 256) (j : Nat) :
    limb (topv N (i + 1)) j = upd (limb (topv N i)) ((31 - i) / 8) (limb (topv N i) ((31 - i) / 8) + c * 2 ^ ((31 - i) % 8 * 8)) j ∧ limb (topv N i) ((31 - i) / 8) % 2 ^ ((31 - i) % 8 * 8 + 8) = 0 := by
  have hcl : c < 256 := by rw [hc]; exact Nat.mod_lt _ (by decide)
  obtain ⟨h1, h2⟩ := topv_step (N := N) hi
  rw [← hc] at h1
  rw [h1, h2]
  refine ⟨?_, (limb_q (Nat.mod_lt _ (by decide)) hcl).2⟩
  by_cases e : j = (31 - i) / 8
  · rw [e, upd_same]; exact (limb_q (Nat.mod_lt _ (by decide)) hcl).1
  · rw [upd_ne _ e]; exact limb_other (Nat.mod_lt _ (by decide)) hcl e
theorem or_top64 {x c r : Nat} (hx : x % 2 ^ (r * 8 + 8) = 0) (hc : c < 256) (hr : r < 8) (hl : x < 2 ^ 64) : bits BinOp.or IntKind.u64 (x : Int) (IntKind.u64.wrap ((c : Int) * 2 ^ (r * 8))) = ((x + c * 2 ^ (r * 8) : Nat) : Int) ∧ x + c * 2 ^ (r * 8) < 2 ^ 64 := by
  have hcs : c * 2 ^ (r * 8) < 2 ^ (r * 8 + 8) := by
    rw [show r * 8 + 8 = 8 + r * 8 by omega, Nat.pow_add 2 8]; exact Nat.mul_lt_mul_of_pos_right hc (Nat.pow_pos (by decide))
  have h2 : 2 ^ (r * 8 + 8) ≤ 2 ^ 64 := Nat.pow_le_pow_right (by decide) (by omega)
  have e : IntKind.u64.wrap ((c : Int) * 2 ^ (r * 8)) = ((c * 2 ^ (r * 8) : Nat) : Int) := by
    rw [show (c : Int) * 2 ^ (r * 8) = ((c * 2 ^ (r * 8) : Nat) : Int) by rw [Int.natCast_mul, Int.natCast_pow]; rfl]
    exact wrap_u64 (by omega)
  have hj : x ||| c * 2 ^ (r * 8) = x + c * 2 ^ (r * 8) := nat_join (r * 8 + 8) _ _ hx hcs
  rw [e, u64_or_nat _ _ (by omega) (by omega), hj]
  refine ⟨rfl, ?_⟩
  rw [← hj]
  exact Nat.or_lt_two_pow hl (by omega)

def RfbRel (f : Nat → Nat) (w : World) (i : Value) (wr : World) : Prop :=
  ∃ k, k ≤ 32 ∧ i = .int .i64 (k : Nat) ∧ Arr .u64 wr w.heap.size 4 (fun _ => 0) ∧ Arr .u64 wr (w.heap.size + 1) 4 (limb (topv (bnum f 32) k)) ∧ Below w.heap.size w wr ∧ w.heap.size + 1 < wr.heap.size

set_option maxRecDepth 100000 in
set_option maxHeartbeats 1000000 in
theorem rfb_walk (A : Option Addr) (n c : Nat) (f : Nat → Nat) (w : World) (hs : Sl w A n f) : Calls Tryz.prog 84 #[.slice A n c] w (FbPost n f w) := by
  by_cases hn : n = 32
  · have ht : ((n : Int) != 32) = false := by rw [hn]; rfl
    obtain ⟨g, o, rfl, hg, hc⟩ := hs.at_ (by omega)
    have Hs := Lib.hid hs.small
    have Hn := Lib.hid hn
    have Hc := Lib.hid hc
    clear hs hc
    subst hn
    go_enter Tryz.func84, Tryz.ntmps84
    go_wp2
    go_loopw [14] (RfbRel f w) (fun i _ => 32 - (intOf i).toNat)
    case atStart =>
      refine ⟨0, by omega, rfl, (Arr.new4 (f := fun _ => 0) rfl).alloc _, (Arr.new4 (f := fun _ => 0) (by simp)).congr fun i _ => ?_, ((Below.refl _ _).alloc (Nat.le_refl _) _).alloc (by simp only [World.size_alloc]; omega) _, by simp⟩
      have h0 : topv (bnum f 32) 0 = 0 := by unfold topv; rw [Nat.div_eq_of_lt (bnum_lt Hs.out 32), Nat.zero_mul]
      rw [h0]; simp [limb]
    case round =>
      obtain ⟨k, hk, rfl, hz, ha, hbel, hsz⟩ := hrel
      by_cases hlt : k < 32
      · obtain ⟨N, hN⟩ : ∃ N, N = bnum f 32 := ⟨_, rfl⟩
        rw [← hN] at ha
        have hby := bnum_byte Hs.out 32 (31 - k) (by omega)
        rw [← hN, show 31 - (31 - k) = k by omega] at hby
        have lb := topv_word (N := N) hlt hby.symm
        have hl0 := limb_lt (topv N k) ((31 - k) / 8)
        obtain ⟨q, hq⟩ : ∃ q, q = (31 - k) / 8 := ⟨_, rfl⟩
        obtain ⟨r, hr⟩ : ∃ r, r = (31 - k) % 8 := ⟨_, rfl⟩
        rw [← hq, ← hr] at lb
        rw [← hq] at hl0
        have e1 : ((31 : Int) - (k : Int)).tdiv 8 = (q : Int) := by rw [Int.tdiv_eq_ediv_of_nonneg (by omega)]; omega
        have e2 : ((31 : Int) - (k : Int)).tmod 8 = (r : Int) := by rw [Int.tmod_eq_emod_of_nonneg (by omega)]; omega
        have e3 : ((31 : Int) - (k : Int)) / 8 = (q : Int) := by omega
        have hq4 : q < 4 := by omega
        have q7 : (q : Int) < 4 := by omega
        have hr8 : r < 8 := by omega
        have a1 := ha.cell q hq4
        have f1 := ha.free q hq4
        have b1 : wr.cell? ⟨g, o + k, none⟩ = some (.int .u8 (f k : Nat)) := by rw [hbel.cell (p := ⟨g, o + k, none⟩) hg]; exact Hc.out _ (by omega)
        have o1 := or_top64 (lb 0).2 (Hs.out k) hr8 hl0
        obtain ⟨nw, hnw⟩ : ∃ x, x = limb (topv N k) q + f k * 2 ^ (r * 8) := ⟨_, rfl⟩
        rw [← hnw] at o1
        have o2 : bits BinOp.or IntKind.u64 (limb (topv N k) q : Int) (IntKind.u64.wrap ((f k : Int) * 2 ^ (8 * r))) = (nw : Int) := by rw [Nat.mul_comm 8 r]; exact o1.1
        have i1 : IntKind.i64.wrap (31 - (k : Int)) = 31 - (k : Int) := IntWalk.i64_in _ (by omega)
        have i4 : IntKind.i64.wrap (8 * (r : Int)) = 8 * (r : Int) := IntWalk.i64_in _ (by omega)
        have i5 : IntKind.u64.wrap (8 * (r : Int)) = 8 * (r : Int) := IntWalk.u64_in _ (by omega)
        have i6 : (8 * (r : Int)).toNat = 8 * r := by omega
        have w1 : IntKind.u64.wrap (f k : Int) = (f k : Int) := IntWalk.u64_in _ (by have := Hs.out k; omega)
        have k32 : (k : Int) < 32 := by omega
        have Lb := Lib.hid lb
        have Hnw := Lib.hid hnw
        have HN := Lib.hid hN
        clear hq hr lb hnw o1 hby hN hl0
        go_wp2
        refine ⟨⟨k + 1, by omega, by go_num, hz.set_far (by omega), (ha.set hq4).congr fun i hi => ?_, hbel.setCell (by simp) _, by rw [World.size_setCell]; exact hsz⟩, by simp [intOf]; omega⟩
        rw [← HN.out, (Lb.out i).1, Hnw.out]
      · obtain rfl : k = 32 := by omega
        obtain ⟨v, hv⟩ : ∃ v, v = bnum f 32 := ⟨_, rfl⟩
        have htv : topv (bnum f 32) 32 = v := by rw [hv]; unfold topv; rw [Nat.sub_self, Nat.mul_zero, Nat.pow_zero, Nat.div_one, Nat.mul_one]
        rw [htv] at ha
        have Hv := Lib.hid hv
        clear hv htv
        obtain ⟨s0, s1, s2, s3⟩ := ha.cells4
        obtain ⟨y0, y1, y2, y3⟩ := hz.frees4
        obtain ⟨z0, z1, z2, z3⟩ := hz.cells4
        go_wp2
        refine bodyPost_ret (v := .tuple #[.agg #[.int .u64 (limb v 0 : Nat), .int .u64 (limb v 1 : Nat), .int .u64 (limb v 2 : Nat), .int .u64 (limb v 3 : Nat)], .bool true]) (by simp [results, Tryz.results84, go_sem, z0, z1, z2, z3]) rfl (fbPost_yes rfl (by rw [← Hv.out]; rfl) (below_set4 hbel (by omega)))
  · have ht : ((n : Int) != 32) = true := by rw [bne_iff_ne]; omega
    have Hn := Lib.hid hn
    clear hn
    go_enter Tryz.func84, Tryz.ntmps84
    go_wp2
    refine bodyPost_ret (v := .tuple #[.agg #[.int .u64 0, .int .u64 0, .int .u64 0, .int .u64 0], .bool false]) (by simp [results, Tryz.results84, go_sem]) rfl (fbPost_no Hn.out (by rw [U_zero]) ?_)
    exact ((Below.refl _ _).alloc (Nat.le_refl _) _).alloc (by simp only [World.size_alloc]; omega) _
end Go.Proofs.YtnjcnlbphaodcaaGreat
