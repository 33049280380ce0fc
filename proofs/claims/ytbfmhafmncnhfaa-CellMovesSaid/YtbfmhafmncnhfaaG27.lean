/- tallageref01.Minus, walked. -/
import Derived.Test.YtbfmhafmncnhfaaG26
import Derived.Test.YtbfmhafmncnhfaaG13
namespace Go.Proofs.Ytbfmhafmncnhfaa
open Go.RowKit Go.Sort

theorem nval_split (g : Nat → Nat) (n : Nat) : ∀ d, ∃ q, nval g (n + d) = nval g n + q * 2 ^ (32 * n)
  | 0 => ⟨0, by simp⟩
  | d + 1 => by
    obtain ⟨q, hq⟩ := nval_split g n d
    refine ⟨q + g (n + d) * 2 ^ (32 * d), ?_⟩
    show nval g (n + d) + g (n + d) * 2 ^ (32 * (n + d)) = _
    rw [hq, Nat.add_mul, Nat.mul_assoc, ← Nat.pow_add, show 32 * d + 32 * n = 32 * (n + d) by omega]; omega
theorem nval_low {g : Nat → Nat} {n m : Nat} (h : nval g m < 2 ^ (32 * n)) : nval (padw g m) n = nval g m := by
  rcases Nat.lt_or_ge n m with h1 | h1
  · obtain ⟨q, hq⟩ := nval_split g n (m - n)
    rw [show n + (m - n) = m by omega] at hq
    have h2 : nval (padw g m) n = nval g n := nval_congr n fun i hi => by unfold padw; rw [if_pos (by omega)]
    rw [h2]
    rcases Nat.eq_zero_or_pos q with h3 | h3
    · rw [h3] at hq; omega
    · have := Nat.mul_le_mul_right (2 ^ (32 * n)) h3; omega
  · exact nval_pad g h1
def MinusRel (n m : Nat) (f g : Nat → Nat) (w : World) (x y z : Value) (wr : World) : Prop :=
  ∃ (k b : Nat) (h : Nat → Nat), z = .int .i64 (k : Nat) ∧ y = .int .u64 (b : Nat) ∧ b ≤ 1 ∧ k ≤ n ∧ (∀ i, h i < 2 ^ 32) ∧
    nval h k + nval (padw g m) k = nval f k + b * 2 ^ (32 * k) ∧ wr.ownsRow w.heap.size 126 1 x k (u32s h k) ∧ Below w.heap.size w wr
def MinusPost (N M n : Nat) (w : World) (e : Ending) (w' : World) : Prop :=
  ((N < M ∧ e = .returned (.tuple #[.slice none 0 0, .bool false])) ∨ (M ≤ N ∧ ∃ v, e = .returned (.tuple #[v, .bool true]) ∧ NatV w' v (N - M) n)) ∧ Below w.heap.size w w'
theorem minus_next {n m k b lo b' y : Nat} {f g h : Nat → Nat} {w wr : World} {x : Value} (hk : k < n) (hh : ∀ i, h i < 2 ^ 32)
    (hv : nval h k + nval (padw g m) k = nval f k + b * 2 ^ (32 * k)) (hy : y = b + padw g m k) (hb' : b' ≤ 1) (hlo : lo + y = f k + b' * 4294967296) (hlol : lo < 4294967296)
    (hown : wr.ownsRow w.heap.size 126 1 x (k + 1) (u32s h k ++ [.int .u32 (lo : Nat)])) (hbel : Below w.heap.size w wr) : MinusRel n m f g w x (.int .u64 (b' : Nat)) (.int .i64 ((k + 1 : Nat) : Int)) wr := by
  refine ⟨k + 1, b', upd h k lo, rfl, rfl, hb', by omega, upd_lt hh (by omega), ?_, ?_, hbel⟩
  · rw [nval_upd, pow_succ32]
    simp only [nval]
    have e2 := congrArg (· * 2 ^ (32 * k)) hlo
    rw [hy] at e2
    simp only [Nat.add_mul, Nat.mul_assoc] at e2
    have e3 : (4294967296 : Nat) = 2 ^ 32 := rfl
    rw [e3] at e2
    omega
  · rw [u32s_upd]; exact hown

end Go.Proofs.Ytbfmhafmncnhfaa

namespace Go.Proofs.Ytbfmhafmncnhfaa
open Go.RowKit Go.Sort

/-- a word of 64 bits out of the first k of 32 -/
def outw (f : Nat → Nat) (k j : Nat) : Nat := padw f k (2 * j) + padw f k (2 * j + 1) * 4294967296
theorem outw_lt {f : Nat → Nat} (hf : ∀ i, f i < 2 ^ 32) (k j : Nat) : outw f k j < 2 ^ 64 := by
  have := padw_lt hf k (2 * j)
  have := padw_lt hf k (2 * j + 1)
  unfold outw; omega
theorem outw_val {f : Nat → Nat} {n : Nat} (hn : n ≤ 8) : val (outw f n) 4 = nval f n := by
  rw [← nval_pad f hn]
  simp only [val, nval, outw, Nat.reduceMul, Nat.reduceAdd]
  omega
theorem outw_far {f : Nat → Nat} {k i : Nat} (h : i ≠ k / 2) : outw f (k + 1) i = outw f k i := by
  unfold outw padw
  have h1 : (2 * i < k + 1) = (2 * i < k) := by apply propext; omega
  have h2 : (2 * i + 1 < k + 1) = (2 * i + 1 < k) := by apply propext; omega
  simp only [h1, h2]
theorem or_even {f : Nat → Nat} {j : Nat} (hf : ∀ i, f i < 2 ^ 32) : bits BinOp.or IntKind.u64 ((outw f (2 * j) j : Nat) : Int) ((f (2 * j) : Nat) : Int) = ((outw f (2 * j + 1) j : Nat) : Int) := by
  have h := hf (2 * j)
  have e0 : outw f (2 * j) j = 0 := by unfold outw padw; rw [if_neg (by omega), if_neg (by omega)]
  have e1 : outw f (2 * j + 1) j = f (2 * j) := by unfold outw padw; rw [if_pos (by omega), if_neg (by omega)]; omega
  rw [e0, e1, u64_or_nat _ _ (by decide) (by omega), Nat.zero_or]
theorem or_odd {f : Nat → Nat} {j : Nat} (hf : ∀ i, f i < 2 ^ 32) : bits BinOp.or IntKind.u64 ((outw f (2 * j + 1) j : Nat) : Int) ((f (2 * j + 1) : Nat) * 4294967296 : Int) = ((outw f (2 * j + 1 + 1) j : Nat) : Int) := by
  have h := hf (2 * j)
  have h1 := hf (2 * j + 1)
  have e0 : outw f (2 * j + 1) j = f (2 * j) := by unfold outw padw; rw [if_pos (by omega), if_neg (by omega)]; omega
  have e1 : outw f (2 * j + 1 + 1) j = f (2 * j) + f (2 * j + 1) * 4294967296 := by unfold outw padw; rw [if_pos (by omega), if_pos (by omega)]
  have e2 : ((f (2 * j + 1) : Nat) * 4294967296 : Int) = ((f (2 * j + 1) * 4294967296 : Nat) : Int) := by omega
  rw [e0, e1, e2, u64_or_nat _ _ (by omega) (by omega), Nat.or_comm, nat_join 32 _ _ ?_ h, Nat.add_comm]
  omega
def ToURel (n : Nat) (f : Nat → Nat) (w W1 : World) (x : Value) (wr : World) : Prop :=
  ∃ k : Nat, k ≤ n ∧ x = .int .i64 (k : Nat) ∧ Arr .u64 wr w.heap.size 4 (fun _ => 0) ∧ Arr .u64 wr (w.heap.size + 1) 4 (outw f k) ∧ Below (w.heap.size + 1) W1 wr ∧ w.heap.size + 1 < wr.heap.size
def ToUPost (N : Nat) (w : World) (e : Ending) (w' : World) : Prop :=
  e = .returned (.tuple #[U (if N < 2 ^ 256 then N else 0), .bool (decide (N < 2 ^ 256))]) ∧ Below w.heap.size w w'
theorem toUPost_yes {N n : Nat} {w w' : World} {e : Ending} (hn : n = N) (h : N < 2 ^ 256) (he : e = .returned (.tuple #[U n, .bool true])) (hw : Below w.heap.size w w') : ToUPost N w e w' := by
  subst hn; unfold ToUPost; rw [if_pos h, decide_eq_true h]; exact ⟨he, hw⟩
theorem toUPost_no {N : Nat} {w w' : World} {e : Ending} (h : ¬ N < 2 ^ 256) (he : e = .returned (.tuple #[U 0, .bool false])) (hw : Below w.heap.size w w') : ToUPost N w e w' := by
  unfold ToUPost; rw [if_neg h, decide_eq_false h]; exact ⟨he, hw⟩

set_option maxRecDepth 100000 in
set_option maxHeartbeats 4000000 in
theorem toU_walk (v : Value) (n : Nat) (f : Nat → Nat) (w : World) (h : Ws w v n f) (hn : n ≤ 100) :
    Calls Try.prog 75 #[v] w (ToUPost (nval f n) w) := by
  have Hh := Lib.hid h
  clear h
  go_enter Try.func75, Try.ntmps75
  go_wp2_with fail
  refine (trim_walk _ _ _ _ (Hh.out.below ((Below.refl _ _).alloc (Nat.le_refl _) _)) (by omega)).mono ?_
  rintro e w1 ⟨v1, n1, rfl, hn1, hw1, hv1, ht1, rfl⟩
  obtain ⟨A, ca, rfl, oa⟩ := hw1.open_
  have Hf := Lib.hid hw1.small
  have Oa := Lib.hid oa
  have Hv1 := Lib.hid hv1
  have Ht1 := Lib.hid ht1
  clear hw1 oa hv1 ht1
  by_cases h8 : n1 ≤ 8
  · have q1 : ¬ (8 : Int) < (n1 : Int) := by omega
    have hNl : nval f n < 2 ^ 256 := by
      rw [← Hv1.out]
      exact Nat.lt_of_lt_of_le (nval_lt n1 (fun i _ => Hf.out i)) (Nat.pow_le_pow_right (by decide) (by omega))
    have HNl := Lib.hid hNl
    clear hNl
    go_wp2
    go_loopw [15] (ToURel n1 f w (w.alloc (.cells #[.int .u64 0, .int .u64 0, .int .u64 0, .int .u64 0] 55))) (fun x _ => n1 - (intOf x).toNat)
    case atStart =>
      refine ⟨0, Nat.zero_le _, rfl, (Arr.new4 (f := fun _ => 0) rfl).alloc _, ?_, (Below.refl _ _).alloc (by simp only [World.size_alloc]; omega) _, by simp⟩
      exact Arr.congr (Arr.new4 (f := fun _ => 0) (by simp)) fun i _ => by unfold outw padw; rw [if_neg (by omega), if_neg (by omega)]
    case round =>
      obtain ⟨k, hk, rfl, hz, hs, hbel, hsz⟩ := hrel
      by_cases hlt : k < n1
      · have q2 : (k : Int) < (n1 : Int) := by omega
        obtain ⟨ga, ofa, rfl, hga, hxa⟩ := Oa.out (by omega)
        have hga' : ga < w.heap.size + 1 := by simpa using hga
        have c1 : wr.cell? ⟨ga, ofa + k, none⟩ = some (.int .u32 (f k : Nat)) := by rw [hbel.cell (p := ⟨ga, ofa + k, none⟩) hga']; exact hxa k hlt
        obtain ⟨j, hj⟩ : ∃ j, j = k / 2 := ⟨_, rfl⟩
        have hj4 : j < 4 := by omega
        have jI : (j : Int) < 4 := by omega
        have e1 : (k : Int) / 2 = (j : Int) := by omega
        have e2 : (k : Int).tdiv 2 = (j : Int) := by rw [Int.tdiv_eq_ediv_of_nonneg (by omega)]; omega
        have c4 := hs.cell j hj4
        have f4 := hs.free j hj4
        have s0 : IntKind.u64.wrap ((f k : Nat) : Int) = ((f k : Nat) : Int) := wrap_u64 (by have := Hf.out k; omega)
        have Hj := Lib.hid hj
        have hcong : ∀ i, i < 4 → upd (outw f k) j (outw f (k + 1) j) i = outw f (k + 1) i := fun i _ => by
          by_cases hi : i = j
          · rw [hi, upd_same]
          · rw [upd_ne _ hi, outw_far (by rw [← hj]; exact hi)]
        have Hcong := Lib.hid hcong
        have cases2 : (∃ h : Hid (k = 2 * j), True) ∨ (∃ h : Hid (k = 2 * j + 1), True) := by
          rcases (show k = 2 * j ∨ k = 2 * j + 1 by omega) with h | h
          · exact .inl ⟨Lib.hid h, trivial⟩
          · exact .inr ⟨Lib.hid h, trivial⟩
        clear hj hxa hga hcong
        rcases cases2 with ⟨hkj, _⟩ | ⟨hkj, _⟩
        · have e3 : (k : Int).tmod 2 = 0 := by have := hkj.out; rw [Int.tmod_eq_emod_of_nonneg (by omega)]; omega
          have o1 := or_even (j := j) Hf.out
          rw [← hkj.out] at o1
          go_wp2
          go_roundw
          case rel =>
            refine ⟨k + 1, by omega, by go_num, hz.set_far (by omega), (hs.set hj4).congr Hcong.out, hbel.setCell (by simp) _, by rw [World.size_setCell]; exact hsz⟩
          case measure => simp [intOf]; omega
        · have e3 : (k : Int).tmod 2 = 1 := by have := hkj.out; rw [Int.tmod_eq_emod_of_nonneg (by omega)]; omega
          have o1 := or_odd (j := j) Hf.out
          rw [← hkj.out] at o1
          have s5 : IntKind.u64.wrap ((f k : Nat) * 4294967296 : Int) = ((f k : Nat) * 4294967296 : Int) := by
            have := Hf.out k
            rw [show ((f k : Nat) * 4294967296 : Int) = ((f k * 4294967296 : Nat) : Int) by omega]; exact wrap_u64 (by omega)
          go_wp2
          go_roundw
          case rel =>
            refine ⟨k + 1, by omega, by go_num, hz.set_far (by omega), (hs.set hj4).congr Hcong.out, hbel.setCell (by simp) _, by rw [World.size_setCell]; exact hsz⟩
          case measure => simp [intOf]; omega
      · have q2 : ¬ (k : Int) < (n1 : Int) := by omega
        have hkn : k = n1 := by omega
        have hval : val (outw f k) 4 = nval f n := by rw [hkn, outw_val h8]; exact Hv1.out
        have Hval := Lib.hid hval
        clear hval hkn
        have hb2 := Lib.hid (((Below.refl w.heap.size w).alloc (Nat.le_refl _) _).trans (hbel.mono (by omega)))
        obtain ⟨s0, s1, s2, s3⟩ := hs.cells4
        obtain ⟨y0, y1, y2, y3⟩ := hz.frees4
        obtain ⟨z0, z1, z2, z3⟩ := hz.cells4
        go_wp2
        refine bodyPost_ret (v := .tuple #[.agg #[.int .u64 (outw f k 0 : Nat), .int .u64 (outw f k 1 : Nat), .int .u64 (outw f k 2 : Nat), .int .u64 (outw f k 3 : Nat)], .bool true]) (by simp [results, Try.results75, go_sem, z0, z1, z2, z3]) rfl (toUPost_yes Hval.out HNl.out ?_ (below_set4 hb2.out (by omega)))
        rw [U_of (outw_lt Hf.out k)]
  · have q1 : (8 : Int) < (n1 : Int) := by omega
    have hN : ¬ nval f n < 2 ^ 256 := by
      rw [← Hv1.out]
      obtain ⟨i, rfl⟩ : ∃ i, n1 = i + 1 := ⟨n1 - 1, by omega⟩
      rcases Ht1.out with h2 | h2
      · omega
      · rw [Nat.add_sub_cancel] at h2
        have h3 : 2 ^ 256 ≤ 2 ^ (32 * i) := Nat.pow_le_pow_right (by decide) (by omega)
        have h4 := Nat.mul_le_mul_right (2 ^ (32 * i)) (show 1 ≤ f i by omega)
        simp only [nval]
        omega
    have HN := Lib.hid hN
    clear hN
    go_wp2
    refine bodyPost_ret (v := .tuple #[.agg #[.int .u64 0, .int .u64 0, .int .u64 0, .int .u64 0], .bool false]) (by simp [results, Try.results75, go_sem]) rfl (toUPost_no HN.out (by rw [U_zero]) ((Below.refl _ _).alloc (Nat.le_refl _) _))
end Go.Proofs.Ytbfmhafmncnhfaa

namespace Go.Proofs.Ytbfmhafmncnhfaa
open Go.RowKit Go.Sort

set_option maxRecDepth 100000 in
theorem told_walk (v : Value) (n : Nat) (f : Nat → Nat) (w : World) (h : Ws w v n f) (hn : n ≤ 100) :
    Calls Try.prog 54 #[v] w (ToUPost (nval f n) w) := by
  have Hh := Lib.hid h
  clear h
  obtain ⟨x, hx⟩ : ∃ x, x = if nval f n < 2 ^ 256 then nval f n else 0 := ⟨_, rfl⟩
  obtain ⟨ok, hok⟩ : ∃ x, x = decide (nval f n < 2 ^ 256) := ⟨_, rfl⟩
  unfold ToUPost
  rw [← hx, ← hok]
  have Hx := Lib.hid hx
  have Hok := Lib.hid hok
  clear hx hok
  unfold U
  go_enter Try.func54, Try.ntmps54
  go_wp2_with (go_at_call 75; refine (toU_walk _ n f _ (Hh.out.below ((Below.refl _ _).alloc (Nat.le_refl _) _)) hn).mono ?_; rintro e w1 ⟨rfl, hb1⟩; rw [← Hx.out, ← Hok.out]; have hz : Arr .u64 w1 w.heap.size 4 (fun _ => 0) := Arr.below (Arr.new4 (f := fun _ => 0) rfl) hb1 (by rw [World.size_alloc]; omega); obtain ⟨y0, y1, y2, y3⟩ := hz.frees4; obtain ⟨z0, z1, z2, z3⟩ := hz.cells4; unfold U)
  refine bodyPost_ret (v := .tuple #[.agg #[.int .u64 (limb x 0 : Nat), .int .u64 (limb x 1 : Nat), .int .u64 (limb x 2 : Nat), .int .u64 (limb x 3 : Nat)], .bool ok]) (by simp [results, Try.results54, go_sem, z0, z1, z2, z3]) rfl ⟨rfl, below_set4 (((Below.refl _ _).alloc (Nat.le_refl _) _).trans (hb1.mono (by rw [World.size_alloc]; omega))) (by omega)⟩

theorem told_c (v : Value) (N m : Nat) (w : World) (h : NatV w v N m) (hm : m ≤ 100) : Calls Try.prog 54 #[v] w (ToUPost N w) := by
  obtain ⟨n, f, h1, h2, h3, h4⟩ := h
  rw [← h3]; exact told_walk v n f w h2 (by omega)
theorem plus_c (va vb : Value) (N M : Nat) (w : World) (ha : NatV w va N 8) (hb : NatV w vb M 8) :
    Calls Try.prog 55 #[va, vb] w fun e w' => (∃ v, e = .returned v ∧ NatV w' v (N + M) 9) ∧ Below w.heap.size w w' := by
  obtain ⟨n, f, h1, h2, h3, _⟩ := ha
  obtain ⟨m, g, k1, k2, k3, _⟩ := hb
  rw [← h3, ← k3]
  refine (plus_walk va vb n m f g w h2 k2 (by omega) (by omega)).mono fun e w' ⟨⟨v, he, n', f', p1, p2, p3, p4⟩, hw⟩ => ⟨⟨v, he, n', f', by omega, p2, p3, p4⟩, hw⟩
theorem ofn_c (a : Nat) (w : World) (ha : a < 2 ^ 256) : Calls Try.prog 56 #[.agg #[.int .u64 (limb a 0 : Nat), .int .u64 (limb a 1 : Nat), .int .u64 (limb a 2 : Nat), .int .u64 (limb a 3 : Nat)]] w fun e w' => (∃ v, e = .returned v ∧ NatV w' v a 8) ∧ Below w.heap.size w w' := ofn_walk a w ha

theorem held2 {w w' : World} {a b : Nat} (h : Two' w w' a b) : w'.cell? ⟨w.heap.size, 0, none⟩ = some (.int .u64 (limb a 0 : Nat)) ∧ w'.cell? ⟨w.heap.size, 1, none⟩ = some (.int .u64 (limb a 1 : Nat)) ∧ w'.cell? ⟨w.heap.size, 2, none⟩ = some (.int .u64 (limb a 2 : Nat)) ∧ w'.cell? ⟨w.heap.size, 3, none⟩ = some (.int .u64 (limb a 3 : Nat)) ∧ w'.cell? ⟨w.heap.size + 1, 0, none⟩ = some (.int .u64 (limb b 0 : Nat)) ∧ w'.cell? ⟨w.heap.size + 1, 1, none⟩ = some (.int .u64 (limb b 1 : Nat)) ∧ w'.cell? ⟨w.heap.size + 1, 2, none⟩ = some (.int .u64 (limb b 2 : Nat)) ∧ w'.cell? ⟨w.heap.size + 1, 3, none⟩ = some (.int .u64 (limb b 3 : Nat)) ∧ Two' w w' a b := by
  obtain ⟨a0, a1, a2, a3⟩ := h.a.cells4
  obtain ⟨b0, b1, b2, b3⟩ := h.b.cells4
  exact ⟨a0, a1, a2, a3, b0, b1, b2, b3, h⟩
theorem un_held2 {w w' : World} {a b : Nat} (h : w'.cell? ⟨w.heap.size, 0, none⟩ = some (.int .u64 (limb a 0 : Nat)) ∧ w'.cell? ⟨w.heap.size, 1, none⟩ = some (.int .u64 (limb a 1 : Nat)) ∧ w'.cell? ⟨w.heap.size, 2, none⟩ = some (.int .u64 (limb a 2 : Nat)) ∧ w'.cell? ⟨w.heap.size, 3, none⟩ = some (.int .u64 (limb a 3 : Nat)) ∧ w'.cell? ⟨w.heap.size + 1, 0, none⟩ = some (.int .u64 (limb b 0 : Nat)) ∧ w'.cell? ⟨w.heap.size + 1, 1, none⟩ = some (.int .u64 (limb b 1 : Nat)) ∧ w'.cell? ⟨w.heap.size + 1, 2, none⟩ = some (.int .u64 (limb b 2 : Nat)) ∧ w'.cell? ⟨w.heap.size + 1, 3, none⟩ = some (.int .u64 (limb b 3 : Nat)) ∧ Two' w w' a b) : Two' w w' a b := h.2.2.2.2.2.2.2.2

set_option maxRecDepth 100000 in
set_option maxHeartbeats 4000000 in
theorem radd_walk (a b : Nat) (w : World) (ha : a < 2 ^ 256) (hb : b < 2 ^ 256) :
    Calls Try.prog 29 #[U a, U b] w fun e w' => e = .returned (.tuple #[U (addv a b), .bool (addk a b)]) ∧ Below w.heap.size w w' := by
  have Ha := Lib.hid ha
  have Hb := Lib.hid hb
  obtain ⟨x, hx⟩ : ∃ x, x = addv a b := ⟨_, rfl⟩
  obtain ⟨ok, hok⟩ : ∃ x, x = addk a b := ⟨_, rfl⟩
  rw [← hx, ← hok]
  have Hx := Lib.hid hx
  have Hok := Lib.hid hok
  clear ha hb hx hok
  unfold U
  go_enter Try.func29, Try.ntmps29
  go_upto_region 1 with (fail)
  have T0 := Lib.hid ((two_first (a := a) (b := b) (w := w) (t1 := 55) (t2 := 55)).alloc (.cells #[.int .u64 0, .int .u64 0, .int .u64 0, .int .u64 0] 55))
  have Z0 := Lib.hid (Arr.new4 (κ := .u64) (w := (w.alloc (.cells #[.int .u64 (limb a 0 : Nat), .int .u64 (limb a 1 : Nat), .int .u64 (limb a 2 : Nat), .int .u64 (limb a 3 : Nat)] 55)).alloc (.cells #[.int .u64 (limb b 0 : Nat), .int .u64 (limb b 1 : Nat), .int .u64 (limb b 2 : Nat), .int .u64 (limb b 3 : Nat)] 55)) (t := 55) (f := fun _ => 0) (b := w.heap.size + 1 + 1) (by simp))
  go_region_held3 (fun w' => w'.cell? ⟨w.heap.size, 0, none⟩ = some (.int .u64 (limb a 0 : Nat)) ∧ w'.cell? ⟨w.heap.size, 1, none⟩ = some (.int .u64 (limb a 1 : Nat)) ∧ w'.cell? ⟨w.heap.size, 2, none⟩ = some (.int .u64 (limb a 2 : Nat)) ∧ w'.cell? ⟨w.heap.size, 3, none⟩ = some (.int .u64 (limb a 3 : Nat)) ∧ w'.cell? ⟨w.heap.size + 1, 0, none⟩ = some (.int .u64 (limb b 0 : Nat)) ∧ w'.cell? ⟨w.heap.size + 1, 1, none⟩ = some (.int .u64 (limb b 1 : Nat)) ∧ w'.cell? ⟨w.heap.size + 1, 2, none⟩ = some (.int .u64 (limb b 2 : Nat)) ∧ w'.cell? ⟨w.heap.size + 1, 3, none⟩ = some (.int .u64 (limb b 3 : Nat)) ∧ Two' w w' a b)
    ((refine held2 ?_; repeat (first | with_reducible exact u4 | with_reducible exact u3 | with_reducible exact u2 | with_reducible exact u1 | with_reducible exact T0.out | with_reducible refine Two'.drew ?_ | with_reducible refine Two'.put4 ?_ (by omega) | with_reducible exact un_held2 (by with_reducible assumption))))
    (first
      | (go_at_call 54; refine (told_c v3 (a + b) 9 _ hv3 (by omega)).mono ?_; rintro e w4 ⟨rfl, hb4⟩; rw [show (if a + b < 2 ^ 256 then a + b else 0) = x from Hx.out.symm, show decide (a + b < 2 ^ 256) = ok from Hok.out.symm]; have u4 := u3.below hb4; have zz4 := zz3.below hb4 zz3.lt4; obtain ⟨y0, y1, y2, y3⟩ := zz4.frees4; obtain ⟨z0, z1, z2, z3⟩ := zz4.cells4; unfold U)
      | (go_at_call 55; refine (plus_c v1 v2 a b _ (hv1.below hb2) hv2).mono ?_; rintro e w3 ⟨⟨v3, rfl, hv3⟩, hb3⟩; have u3 := u2.below hb3; have zz3 := zz2.below hb3 zz2.lt4)
      | (go_at_call 56; with_reducible refine (ofn_c b _ Hb.out).mono ?_; rintro e w2 ⟨⟨v2, rfl, hv2⟩, hb2⟩; have u2 := u1.below hb2; have zz2 := zz1.below hb2 zz1.lt4)
      | (go_at_call 56; with_reducible refine (ofn_c a _ Ha.out).mono ?_; rintro e w1 ⟨⟨v1, rfl, hv1⟩, hb1⟩; have u1 : Two' w w1 a b := Two'.below (un_held2 (by with_reducible assumption)) hb1; have zz1 := Z0.out.drew.below hb1 Z0.out.drew.lt4))
  go_wp2
  refine bodyPost_ret (v := .tuple #[.agg #[.int .u64 (limb x 0 : Nat), .int .u64 (limb x 1 : Nat), .int .u64 (limb x 2 : Nat), .int .u64 (limb x 3 : Nat)], .bool ok]) (by simp [results, Try.results29, go_sem, z0, z1, z2, z3]) rfl ⟨rfl, below_set4 u4.l (by omega)⟩

def subv (a b : Nat) : Nat := if b ≤ a then a - b else 0
def subk (a b : Nat) : Bool := decide (b ≤ a)
theorem subv_lt {a : Nat} (b : Nat) (h : a < 2 ^ 256) : subv a b < 2 ^ 256 := by unfold subv; split <;> omega
end Go.Proofs.Ytbfmhafmncnhfaa
