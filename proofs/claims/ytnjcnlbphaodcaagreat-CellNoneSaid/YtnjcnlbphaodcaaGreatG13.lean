/- u256.Bits, walked. -/
import Derived.Test.YtnjcnlbphaodcaaGreatG12
import Derived.Test.YtnjcnlbphaodcaaGreatG03
namespace Go.Proofs.YtnjcnlbphaodcaaGreat
open Go.RowKit

/-- how many binary digits -/
def blen (n : Nat) : Nat := if n = 0 then 0 else n.log2 + 1
theorem blen_zero : blen 0 = 0 := rfl
theorem blen_pos {n : Nat} (h : n ≠ 0) : blen n = n.log2 + 1 := if_neg h
theorem blen_iff {n k : Nat} (h : n ≠ 0) : blen n = k + 1 ↔ 2 ^ k ≤ n ∧ n < 2 ^ (k + 1) := by
  rw [blen_pos h, ← Nat.log2_eq_iff h]; omega
theorem blen_le {n k : Nat} (h : n < 2 ^ k) : blen n ≤ k := by
  by_cases h0 : n = 0
  · subst h0; rw [blen_zero]; omega
  · rw [blen_pos h0]; exact (Nat.log2_lt h0).2 h
theorem lt_blen (n : Nat) : n < 2 ^ blen n := by
  by_cases h0 : n = 0
  · subst h0; decide
  · rw [blen_pos h0]; exact Nat.lt_log2_self
theorem bitLenAux_eq : ∀ (f x : Nat), x < 2 ^ f → Lib.bitLenAux f x = blen x
  | 0, x, h => by have : x = 0 := by simpa using h
                  subst this; rfl
  | f + 1, x, h => by
    rw [Lib.bitLenAux]
    by_cases h0 : x = 0
    · rw [if_pos h0, h0]; rfl
    · rw [if_neg h0, bitLenAux_eq f (x / 2) (by rw [Nat.pow_succ] at h; omega), blen_pos h0]
      by_cases h1 : x < 2
      · obtain rfl : x = 1 := by omega
        decide
      · rw [blen_pos (by omega), Nat.log2_def x, if_pos (by omega)]; omega
theorem bitLen_eq {x : Nat} (h : x < 2 ^ 64) : Lib.bitLen x = blen x := bitLenAux_eq 64 x h
theorem blen_join {v l m : Nat} (hl : l ≠ 0) (hv : v < 2 ^ m) : blen (v + l * 2 ^ m) = m + blen l := by
  have hp : 0 < 2 ^ m := Nat.pow_pos (by decide)
  have hne : v + l * 2 ^ m ≠ 0 := by have := Nat.mul_pos (Nat.pos_of_ne_zero hl) hp; omega
  rw [blen_pos hl, ← Nat.add_assoc, blen_iff hne]
  have h1 : 2 ^ l.log2 ≤ l := Nat.log2_self_le hl
  have h2 : l + 1 ≤ 2 ^ (l.log2 + 1) := Nat.lt_log2_self
  constructor
  · have := Nat.mul_le_mul_right (2 ^ m) h1
    rw [Nat.pow_add, Nat.mul_comm (2 ^ m)]; omega
  · have := Nat.mul_le_mul_right (2 ^ m) h2
    rw [Nat.add_mul, Nat.one_mul] at this
    rw [show m + l.log2 + 1 = (l.log2 + 1) + m by omega, Nat.pow_add]; omega

def BitsPost (a : Nat) (w : World) (e : Ending) (w' : World) : Prop := e = .returned (.int .i64 (blen a : Nat)) ∧ Below w.heap.size w w'
theorem bitsPost_mk {a m : Nat} {w w' : World} (h : m = blen a) (hb : Below w.heap.size w w') : BitsPost a w (.returned (.int .i64 (m : Nat))) w' := ⟨by rw [h], hb⟩
def BitsRel (a : Nat) (w : World) (c i : Value) (wr : World) : Prop :=
  ∃ (k m : Nat), k ≤ 4 ∧ i = .int .i64 (k : Nat) ∧ c = .int .i64 (m : Nat) ∧ m = blen (val (limb a) k) ∧ Arr .u64 wr w.heap.size 4 (limb a) ∧ Below w.heap.size w wr

end Go.Proofs.YtnjcnlbphaodcaaGreat

namespace Go.Proofs.YtnjcnlbphaodcaaGreat
open Go.RowKit

def shlLo (x l r : Nat) : Nat := x + l * 2 ^ r % 18446744073709551616
def shlHi (l r : Nat) : Nat := l / 2 ^ (64 - r)
theorem shlLo_lt {x l r : Nat} (hx : x < 2 ^ r) (hr : r < 64) : shlLo x l r < 2 ^ 64 := by
  unfold shlLo
  have h64 : 18446744073709551616 = 2 ^ r * 2 ^ (64 - r) := by rw [← Nat.pow_add, show r + (64 - r) = 64 by omega]
  have h1 : l * 2 ^ r % 18446744073709551616 = l % 2 ^ (64 - r) * 2 ^ r := by rw [h64, Nat.mul_comm (2 ^ r), Nat.mul_mod_mul_right]
  have h2 : l % 2 ^ (64 - r) + 1 ≤ 2 ^ (64 - r) := Nat.mod_lt _ (Nat.pow_pos (by decide))
  have h3 := Nat.mul_le_mul_right (2 ^ r) h2
  have h5 : 2 ^ 64 = 2 ^ (64 - r) * 2 ^ r := by rw [← Nat.pow_add, show 64 - r + r = 64 by omega]
  rw [h1, h5]; rw [Nat.add_mul] at h3; omega
theorem or_join {x l r : Nat} (hx : x < 2 ^ r) (hr : r < 64) : bits BinOp.or IntKind.u64 (x : Int) (IntKind.u64.wrap ((l : Int) * 2 ^ r)) = ((shlLo x l r : Nat) : Int) := by
  have h64 : 18446744073709551616 = 2 ^ r * 2 ^ (64 - r) := by rw [← Nat.pow_add, show r + (64 - r) = 64 by omega]
  have hle : 2 ^ r ≤ 2 ^ 64 := Nat.pow_le_pow_right (by decide) (by omega)
  have hw : IntKind.u64.wrap ((l : Int) * 2 ^ r) = ((l * 2 ^ r % 18446744073709551616 : Nat) : Int) := by
    rw [IntKind.wrap_u64, Int.natCast_emod, Int.natCast_mul, Int.natCast_pow]; rfl
  rw [hw, u64_or_nat _ _ (by omega) (Nat.mod_lt _ (by decide)), Nat.or_comm, nat_join r _ _ ?_ hx, Nat.add_comm]
  · rfl
  · rw [h64, Nat.mod_mul_right_mod]; exact Nat.mul_mod_left _ _
theorem or_high {x l r : Nat} (hx : x = 0) (hl : l < 2 ^ 64) : bits BinOp.or IntKind.u64 (x : Int) ((l : Int) / 2 ^ (64 - r)) = ((shlHi l r : Nat) : Int) := by
  have hw : (l : Int) / 2 ^ (64 - r) = ((shlHi l r : Nat) : Int) := by
    unfold shlHi; rw [Int.natCast_ediv, Int.natCast_pow]; rfl
  have hlt : shlHi l r < 18446744073709551616 := Nat.lt_of_le_of_lt (Nat.div_le_self _ _) hl
  rw [hw, hx, u64_or_nat _ _ (by decide) hlt, Nat.zero_or]
theorem shl_parts {x l r : Nat} (hl : l < 2 ^ 64) (hr : r < 64) : x + l * 2 ^ r = shlLo x l r + shlHi l r * 2 ^ 64 ∧ shlHi l r < 2 ^ r := by
  unfold shlLo shlHi
  have h64 : 2 ^ 64 = 2 ^ (64 - r) * 2 ^ r := by rw [← Nat.pow_add]; congr 1; omega
  have hd : l * 2 ^ r / 2 ^ 64 = l / 2 ^ (64 - r) := by rw [h64, Nat.mul_div_mul_right _ _ (Nat.pow_pos (by decide))]
  refine ⟨?_, (Nat.div_lt_iff_lt_mul (Nat.pow_pos (by decide))).2 (by rw [Nat.mul_comm, ← h64]; exact hl)⟩
  rw [← hd]; have := Nat.mod_add_div' (l * 2 ^ r) (2 ^ 64); omega

def ShlPost (a by_ : Nat) (w : World) (e : Ending) (w' : World) : Prop := e = .returned (U8 (a * 2 ^ by_)) ∧ Below w.heap.size w w'
def ShlRel (a words rest : Nat) (w : World) (i : Value) (wr : World) : Prop :=
  ∃ (k : Nat) (f : Nat → Nat), k ≤ 4 ∧ i = .int .i64 (k : Nat) ∧ (∀ j, f j < 2 ^ 64) ∧ (∀ j, k + words < j → f j = 0) ∧ f (k + words) < 2 ^ rest ∧ val f 8 = val (limb a) k * 2 ^ (64 * words + rest) ∧
    Arr .u64 wr w.heap.size 4 (limb a) ∧ Arr .u64 wr (w.heap.size + 1) 8 (fun _ => 0) ∧ Arr .u64 wr (w.heap.size + 1 + 1) 8 f ∧
    Below w.heap.size w wr ∧ w.heap.size + 1 + 1 < wr.heap.size

end Go.Proofs.YtnjcnlbphaodcaaGreat

namespace Go.Proofs.YtnjcnlbphaodcaaGreat
open Go.RowKit

/-- the number of the last k of 32 bytes, the greatest first -/
def bnum (f : Nat → Nat) : Nat → Nat
  | 0 => 0
  | k + 1 => bnum f k + f (31 - k) * 2 ^ (8 * k)
theorem bnum_lt {f : Nat → Nat} (h : ∀ i, f i < 256) : ∀ k, bnum f k < 2 ^ (8 * k)
  | 0 => by simp [bnum]
  | k + 1 => by
    have h1 := bnum_lt h k
    have h2 : f (31 - k) + 1 ≤ 2 ^ 8 := h (31 - k)
    have h3 := Nat.mul_le_mul_right (2 ^ (8 * k)) h2
    have h4 : 2 ^ (8 * (k + 1)) = 2 ^ 8 * 2 ^ (8 * k) := by rw [← Nat.pow_add]; congr 1; omega
    simp only [bnum]; rw [h4]; rw [Nat.add_mul] at h3; omega
/-- one byte more: what becomes of the words -/
theorem limb_byte {v x k : Nat} (hv : v < 2 ^ (8 * k)) (hx : x < 256) (i : Nat) :
    limb (v + x * 2 ^ (8 * k)) i = upd (limb v) (k / 8) (limb v (k / 8) + x * 2 ^ (k % 8 * 8)) i ∧ limb v (k / 8) < 2 ^ (k % 8 * 8) := by
  have hk : 2 ^ (8 * k) = 2 ^ (64 * (k / 8)) * 2 ^ (k % 8 * 8) := by rw [← Nat.pow_add]; congr 1; omega
  have hp : 0 < 2 ^ (64 * (k / 8)) := Nat.pow_pos (by decide)
  have hlow : v / 2 ^ (64 * (k / 8)) < 2 ^ (k % 8 * 8) := (Nat.div_lt_iff_lt_mul hp).2 (by rw [Nat.mul_comm, ← hk]; exact hv)
  have hr : 2 ^ (k % 8 * 8) * 256 ≤ 2 ^ 64 := by
    rw [show (256 : Nat) = 2 ^ 8 from rfl, ← Nat.pow_add]; exact Nat.pow_le_pow_right (by decide) (by omega)
  have hl : limb v (k / 8) = v / 2 ^ (64 * (k / 8)) := Nat.mod_eq_of_lt (Nat.lt_of_lt_of_le hlow (by omega))
  refine ⟨?_, by rw [hl]; exact hlow⟩
  by_cases hi : i = k / 8
  · subst hi
    rw [upd_same, hl]
    unfold limb
    rw [hk, show v + x * (2 ^ (64 * (k / 8)) * 2 ^ (k % 8 * 8)) = v + x * 2 ^ (k % 8 * 8) * 2 ^ (64 * (k / 8)) by rw [Nat.mul_comm (2 ^ (64 * (k / 8))), ← Nat.mul_assoc], Nat.add_mul_div_right _ _ hp, Nat.mod_eq_of_lt]
    have h1 := Nat.mul_le_mul_right (2 ^ (k % 8 * 8)) (show x + 1 ≤ 256 by omega)
    rw [Nat.add_mul, Nat.one_mul, Nat.mul_comm 256] at h1
    omega
  · rw [upd_ne _ hi]
    rcases Nat.lt_or_ge i (k / 8) with h | h
    · unfold limb
      have e : 2 ^ (8 * k) = 2 ^ (64 * i) * (2 ^ 64 * 2 ^ (8 * k - 64 * i - 64)) := by rw [← Nat.pow_add, ← Nat.pow_add]; congr 1; omega
      rw [e, Nat.mul_left_comm x, Nat.add_mul_div_left _ _ (Nat.pow_pos (by decide)), Nat.mul_left_comm x, Nat.add_mul_mod_self_left]
    · have h64 : 2 ^ (8 * (k + 1)) ≤ 2 ^ (64 * i) := Nat.pow_le_pow_right (by decide) (by omega)
      have h4 : 2 ^ (8 * (k + 1)) = 256 * 2 ^ (8 * k) := by rw [show (256 : Nat) = 2 ^ 8 from rfl, ← Nat.pow_add]; congr 1; omega
      have h1 := Nat.mul_le_mul_right (2 ^ (8 * k)) (show x + 1 ≤ 256 by omega)
      rw [Nat.add_mul, Nat.one_mul] at h1
      unfold limb
      rw [Nat.div_eq_of_lt (by omega), Nat.div_eq_of_lt (by omega)]
theorem or_run {x l r : Nat} (hx : x < 2 ^ r) (hr : r < 64) (hf : x + l * 2 ^ r < 2 ^ 64) : bits BinOp.or IntKind.u64 (x : Int) (IntKind.u64.wrap ((l : Int) * 2 ^ r)) = ((x + l * 2 ^ r : Nat) : Int) := by
  rw [or_join hx hr]; congr 1; unfold shlLo; rw [Nat.mod_eq_of_lt (by omega)]

def FbPost (n : Nat) (f : Nat → Nat) (w : World) (e : Ending) (w' : World) : Prop :=
  e = .returned (.tuple #[U (if n = 32 then bnum f 32 else 0), .bool (decide (n = 32))]) ∧ Below w.heap.size w w'
theorem fbPost_yes {n : Nat} {f : Nat → Nat} {w w' : World} {e : Ending} (h : n = 32) (he : e = .returned (.tuple #[U (bnum f 32), .bool true])) (hw : Below w.heap.size w w') : FbPost n f w e w' := by
  unfold FbPost; rw [if_pos h, decide_eq_true h]; exact ⟨he, hw⟩
theorem fbPost_no {n : Nat} {f : Nat → Nat} {w w' : World} {e : Ending} (h : n ≠ 32) (he : e = .returned (.tuple #[U 0, .bool false])) (hw : Below w.heap.size w w') : FbPost n f w e w' := by
  unfold FbPost; rw [if_neg h, decide_eq_false h]; exact ⟨he, hw⟩
def FbRel (f : Nat → Nat) (w : World) (i : Value) (wr : World) : Prop :=
  ∃ k, k ≤ 32 ∧ i = .int .i64 (k : Nat) ∧ Arr .u64 wr w.heap.size 4 (fun _ => 0) ∧ Arr .u64 wr (w.heap.size + 1) 4 (limb (bnum f k)) ∧ Below w.heap.size w wr ∧ w.heap.size + 1 < wr.heap.size

set_option maxRecDepth 100000 in
set_option maxHeartbeats 1000000 in
theorem fb_walk (A : Option Addr) (n c : Nat) (f : Nat → Nat) (w : World) (hs : Sl w A n f) : Calls Tryz.prog 53 #[.slice A n c] w (FbPost n f w) := by
  by_cases hn : n = 32
  · have ht : ((n : Int) != 32) = false := by rw [hn]; rfl
    obtain ⟨g, o, rfl, hg, hc⟩ := hs.at_ (by omega)
    have Hs := Lib.hid hs.small
    have Hn := Lib.hid hn
    have Hc := Lib.hid hc
    clear hs hc
    subst hn
    go_enter Tryz.func53, Tryz.ntmps53
    go_wp2
    go_loopw [12] (FbRel f w) (fun i _ => 32 - (intOf i).toNat)
    case atStart =>
      refine ⟨0, by omega, rfl, (Arr.new4 (f := fun _ => 0) rfl).alloc _, (Arr.new4 (f := fun _ => 0) (by simp)).congr fun i _ => ?_, ((Below.refl _ _).alloc (Nat.le_refl _) _).alloc (by simp only [World.size_alloc]; omega) _, by simp⟩
      simp [bnum, limb]
    case round =>
      obtain ⟨k, hk, rfl, hz, ha, hbel, hsz⟩ := hrel
      by_cases hlt : k < 32
      · have lb := limb_byte (bnum_lt Hs.out k) (Hs.out (31 - k))
        obtain ⟨q, hq⟩ : ∃ q, q = k / 8 := ⟨_, rfl⟩
        obtain ⟨r, hr⟩ : ∃ r, r = k % 8 := ⟨_, rfl⟩
        rw [← hq, ← hr] at lb
        have e1 : (k : Int).tdiv 8 = (q : Int) := by rw [Int.tdiv_eq_ediv_of_nonneg (by omega)]; omega
        have e2 : (k : Int).tmod 8 = (r : Int) := by rw [Int.tmod_eq_emod_of_nonneg (by omega)]; omega
        have e3 : (k : Int) / 8 = (q : Int) := by omega
        have hq4 : q < 4 := by omega
        have hr8 : r < 8 := by omega
        have a1 := ha.cell q hq4
        have f1 := ha.free q hq4
        have b1 : wr.cell? ⟨g, o + (31 - k), none⟩ = some (.int .u8 (f (31 - k) : Nat)) := by rw [hbel.cell (p := ⟨g, o + (31 - k), none⟩) hg]; exact Hc.out _ (by omega)
        have hsum : limb (bnum f k) q + f (31 - k) * 2 ^ (r * 8) < 2 ^ 64 := by
          have := (lb 0).2
          have h2 := limb_lt (bnum f k + f (31 - k) * 2 ^ (8 * k)) q
          rw [(lb q).1, upd_same] at h2; exact h2
        have o1 := or_run (lb 0).2 (show r * 8 < 64 by omega) hsum
        obtain ⟨nw, hnw⟩ : ∃ x, x = limb (bnum f k) q + f (31 - k) * 2 ^ (r * 8) := ⟨_, rfl⟩
        rw [← hnw] at o1
        have i1 : IntKind.i64.wrap (31 - (k : Int)) = ((31 - k : Nat) : Int) := by rw [IntWalk.i64_in _ (by omega)]; omega
        have i2 : (31 : Int) - (k : Int) = ((31 - k : Nat) : Int) := by omega
        have i3 : ((31 - k : Nat) : Int) < 32 := by omega
        have w1 : IntKind.u64.wrap (f (31 - k) : Int) = (f (31 - k) : Int) := IntWalk.u64_in _ (by have := Hs.out (31 - k); omega)
        have Lb := Lib.hid lb
        have Hnw := Lib.hid hnw
        clear hq hr lb hnw hsum
        go_wp2
        go_region
        go_wp2
        go_roundw
        case rel =>
          refine ⟨k + 1, by omega, by go_num, hz.drew.set_far (by omega), (ha.drew.set hq4).congr fun i hi => ?_, (below_drewN hbel 1).setCell (by simp) _, by show _ < (wr.setCell _ _).heap.size; rw [World.size_setCell]; exact hsz⟩
          have e : bnum f (k + 1) = bnum f k + f (31 - k) * 2 ^ (8 * k) := rfl
          rw [e, (Lb.out i).1, Hnw.out]
        case measure => simp [intOf]; omega
      · obtain rfl : k = 32 := by omega
        obtain ⟨v, hv⟩ : ∃ v, v = bnum f 32 := ⟨_, rfl⟩
        rw [← hv] at ha
        have Hv := Lib.hid hv
        clear hv
        obtain ⟨s0, s1, s2, s3⟩ := ha.cells4
        obtain ⟨y0, y1, y2, y3⟩ := hz.frees4
        obtain ⟨z0, z1, z2, z3⟩ := hz.cells4
        go_wp2
        refine bodyPost_ret (v := .tuple #[.agg #[.int .u64 (limb v 0 : Nat), .int .u64 (limb v 1 : Nat), .int .u64 (limb v 2 : Nat), .int .u64 (limb v 3 : Nat)], .bool true]) (by simp [results, Tryz.results53, go_sem, z0, z1, z2, z3]) rfl (fbPost_yes rfl (by rw [← Hv.out]; rfl) (below_set4 hbel (by omega)))
  · have ht : ((n : Int) != 32) = true := by rw [bne_iff_ne]; omega
    have Hn := Lib.hid hn
    clear hn
    go_enter Tryz.func53, Tryz.ntmps53
    go_wp2
    refine bodyPost_ret (v := .tuple #[.agg #[.int .u64 0, .int .u64 0, .int .u64 0, .int .u64 0], .bool false]) (by simp [results, Tryz.results53, go_sem]) rfl (fbPost_no Hn.out (by rw [U_zero]) ?_)
    exact ((Below.refl _ _).alloc (Nat.le_refl _) _).alloc (by simp only [World.size_alloc]; omega) _
end Go.Proofs.YtnjcnlbphaodcaaGreat
