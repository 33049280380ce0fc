/- tallageref01.ToU, told, walked. -/
import Derived.Test.YtedkhpnlhkjjgaaG30
import Derived.Test.YtedkhpnlhkjjgaaG15
import Derived.Test.YtedkhpnlhkjjgaaG28
import Derived.Test.YtedkhpnlhkjjgaaG27
import Derived.Test.YtedkhpnlhkjjgaaG29
namespace Go.Proofs.Ytedkhpnlhkjjgaa
open Go.RowKit Go.Sort

/-- a word of 64 bits out of the first k of 32 -/
def outw (f : Nat → Nat) (k j : Nat) : Nat := padw f k (2 * j) + padw f k (2 * j + 1) * 4294967296
theorem outw_lt {f : Nat → Nat} (hf : ∀ i, f i < 2 ^ 32) (k j : Nat) : outw f k j < 2 ^ 64 := by
  have := padw_lt hf k (2 * j)
  have := padw_lt hf k (2 * j + 1)
  unfold outw; omega
theorem outw_val {f : Nat → Nat} {n : Nat} (hn : n ≤ 8) : val (outw f n) 4 = nval f n := by
  rw [← nval_pad f hn]
  simp only [val, nval, outw, Nat.reduceMul, Nat.reduceAdd]
  omega
theorem outw_far {f : Nat → Nat} {k i : Nat} (h : i ≠ k / 2) : outw f (k + 1) i = outw f k i := by
  unfold outw padw
  have h1 : (2 * i < k + 1) = (2 * i < k) := by apply propext; omega
  have h2 : (2 * i + 1 < k + 1) = (2 * i + 1 < k) := by apply propext; omega
  simp only [h1, h2]
theorem or_even {f : Nat → Nat} {j : Nat} (hf : ∀ i, f i < 2 ^ 32) : bits BinOp.or IntKind.u64 ((outw f (2 * j) j : Nat) : Int) ((f (2 * j) : Nat) : Int) = ((outw f (2 * j + 1) j : Nat) : Int) := by
  have h := hf (2 * j)
  have e0 : outw f (2 * j) j = 0 := by unfold outw padw; rw [if_neg (by omega), if_neg (by omega)]
  have e1 : outw f (2 * j + 1) j = f (2 * j) := by unfold outw padw; rw [if_pos (by omega), if_neg (by omega)]; omega
  rw [e0, e1, u64_or_nat _ _ (by decide) (by omega), Nat.zero_or]
theorem or_odd {f : Nat → Nat} {j : Nat} (hf : ∀ i, f i < 2 ^ 32) : bits BinOp.or IntKind.u64 ((outw f (2 * j + 1) j : Nat) : Int) ((f (2 * j + 1) : Nat) * 4294967296 : Int) = ((outw f (2 * j + 1 + 1) j : Nat) : Int) := by
  have h := hf (2 * j)
  have h1 := hf (2 * j + 1)
  have e0 : outw f (2 * j + 1) j = f (2 * j) := by unfold outw padw; rw [if_pos (by omega), if_neg (by omega)]; omega
  have e1 : outw f (2 * j + 1 + 1) j = f (2 * j) + f (2 * j + 1) * 4294967296 := by unfold outw padw; rw [if_pos (by omega), if_pos (by omega)]
  have e2 : ((f (2 * j + 1) : Nat) * 4294967296 : Int) = ((f (2 * j + 1) * 4294967296 : Nat) : Int) := by omega
  rw [e0, e1, e2, u64_or_nat _ _ (by omega) (by omega), Nat.or_comm, nat_join 32 _ _ ?_ h, Nat.add_comm]
  omega
def ToURel (n : Nat) (f : Nat → Nat) (w W1 : World) (x : Value) (wr : World) : Prop :=
  ∃ k : Nat, k ≤ n ∧ x = .int .i64 (k : Nat) ∧ Arr .u64 wr w.heap.size 4 (fun _ => 0) ∧ Arr .u64 wr (w.heap.size + 1) 4 (outw f k) ∧ Below (w.heap.size + 1) W1 wr ∧ w.heap.size + 1 < wr.heap.size
def ToUPost (N : Nat) (w : World) (e : Ending) (w' : World) : Prop :=
  e = .returned (.tuple #[U (if N < 2 ^ 256 then N else 0), .bool (decide (N < 2 ^ 256))]) ∧ Below w.heap.size w w'
theorem toUPost_yes {N n : Nat} {w w' : World} {e : Ending} (hn : n = N) (h : N < 2 ^ 256) (he : e = .returned (.tuple #[U n, .bool true])) (hw : Below w.heap.size w w') : ToUPost N w e w' := by
  subst hn; unfold ToUPost; rw [if_pos h, decide_eq_true h]; exact ⟨he, hw⟩
theorem toUPost_no {N : Nat} {w w' : World} {e : Ending} (h : ¬ N < 2 ^ 256) (he : e = .returned (.tuple #[U 0, .bool false])) (hw : Below w.heap.size w w') : ToUPost N w e w' := by
  unfold ToUPost; rw [if_neg h, decide_eq_false h]; exact ⟨he, hw⟩

set_option maxRecDepth 100000 in
set_option maxHeartbeats 4000000 in
theorem toU_walk (v : Value) (n : Nat) (f : Nat → Nat) (w : World) (h : Ws w v n f) (hn : n ≤ 100) :
    Calls Try.prog 131 #[v] w (ToUPost (nval f n) w) := by
  have Hh := Lib.hid h
  clear h
  go_enter Try.func131, Try.ntmps131
  go_wp2_with fail
  refine (trim_walk _ _ _ _ (Hh.out.below ((Below.refl _ _).alloc (Nat.le_refl _) _)) (by omega)).mono ?_
  rintro e w1 ⟨v1, n1, rfl, hn1, hw1, hv1, ht1, rfl⟩
  obtain ⟨A, ca, rfl, oa⟩ := hw1.open_
  have Hf := Lib.hid hw1.small
  have Oa := Lib.hid oa
  have Hv1 := Lib.hid hv1
  have Ht1 := Lib.hid ht1
  clear hw1 oa hv1 ht1
  by_cases h8 : n1 ≤ 8
  · have q1 : ¬ (8 : Int) < (n1 : Int) := by omega
    have hNl : nval f n < 2 ^ 256 := by
      rw [← Hv1.out]
      exact Nat.lt_of_lt_of_le (nval_lt n1 (fun i _ => Hf.out i)) (Nat.pow_le_pow_right (by decide) (by omega))
    have HNl := Lib.hid hNl
    clear hNl
    go_wp2
    go_loopw [15] (ToURel n1 f w (w.alloc (.cells #[.int .u64 0, .int .u64 0, .int .u64 0, .int .u64 0] 29))) (fun x _ => n1 - (intOf x).toNat)
    case atStart =>
      refine ⟨0, Nat.zero_le _, rfl, (Arr.new4 (f := fun _ => 0) rfl).alloc _, ?_, (Below.refl _ _).alloc (by simp only [World.size_alloc]; omega) _, by simp⟩
      exact Arr.congr (Arr.new4 (f := fun _ => 0) (by simp)) fun i _ => by unfold outw padw; rw [if_neg (by omega), if_neg (by omega)]
    case round =>
      obtain ⟨k, hk, rfl, hz, hs, hbel, hsz⟩ := hrel
      by_cases hlt : k < n1
      · have q2 : (k : Int) < (n1 : Int) := by omega
        obtain ⟨ga, ofa, rfl, hga, hxa⟩ := Oa.out (by omega)
        have hga' : ga < w.heap.size + 1 := by simpa using hga
        have c1 : wr.cell? ⟨ga, ofa + k, none⟩ = some (.int .u32 (f k : Nat)) := by rw [hbel.cell (p := ⟨ga, ofa + k, none⟩) hga']; exact hxa k hlt
        obtain ⟨j, hj⟩ : ∃ j, j = k / 2 := ⟨_, rfl⟩
        have hj4 : j < 4 := by omega
        have jI : (j : Int) < 4 := by omega
        have e1 : (k : Int) / 2 = (j : Int) := by omega
        have e2 : (k : Int).tdiv 2 = (j : Int) := by rw [Int.tdiv_eq_ediv_of_nonneg (by omega)]; omega
        have c4 := hs.cell j hj4
        have f4 := hs.free j hj4
        have s0 : IntKind.u64.wrap ((f k : Nat) : Int) = ((f k : Nat) : Int) := wrap_u64 (by have := Hf.out k; omega)
        have Hj := Lib.hid hj
        have hcong : ∀ i, i < 4 → upd (outw f k) j (outw f (k + 1) j) i = outw f (k + 1) i := fun i _ => by
          by_cases hi : i = j
          · rw [hi, upd_same]
          · rw [upd_ne _ hi, outw_far (by rw [← hj]; exact hi)]
        have Hcong := Lib.hid hcong
        have cases2 : (∃ h : Hid (k = 2 * j), True) ∨ (∃ h : Hid (k = 2 * j + 1), True) := by
          rcases (show k = 2 * j ∨ k = 2 * j + 1 by omega) with h | h
          · exact .inl ⟨Lib.hid h, trivial⟩
          · exact .inr ⟨Lib.hid h, trivial⟩
        clear hj hxa hga hcong
        rcases cases2 with ⟨hkj, _⟩ | ⟨hkj, _⟩
        · have e3 : (k : Int).tmod 2 = 0 := by have := hkj.out; rw [Int.tmod_eq_emod_of_nonneg (by omega)]; omega
          have o1 := or_even (j := j) Hf.out
          rw [← hkj.out] at o1
          go_wp2
          go_roundw
          case rel =>
            refine ⟨k + 1, by omega, by go_num, hz.set_far (by omega), (hs.set hj4).congr Hcong.out, hbel.setCell (by simp) _, by rw [World.size_setCell]; exact hsz⟩
          case measure => simp [intOf]; omega
        · have e3 : (k : Int).tmod 2 = 1 := by have := hkj.out; rw [Int.tmod_eq_emod_of_nonneg (by omega)]; omega
          have o1 := or_odd (j := j) Hf.out
          rw [← hkj.out] at o1
          have s5 : IntKind.u64.wrap ((f k : Nat) * 4294967296 : Int) = ((f k : Nat) * 4294967296 : Int) := by
            have := Hf.out k
            rw [show ((f k : Nat) * 4294967296 : Int) = ((f k * 4294967296 : Nat) : Int) by omega]; exact wrap_u64 (by omega)
          go_wp2
          go_roundw
          case rel =>
            refine ⟨k + 1, by omega, by go_num, hz.set_far (by omega), (hs.set hj4).congr Hcong.out, hbel.setCell (by simp) _, by rw [World.size_setCell]; exact hsz⟩
          case measure => simp [intOf]; omega
      · have q2 : ¬ (k : Int) < (n1 : Int) := by omega
        have hkn : k = n1 := by omega
        have hval : val (outw f k) 4 = nval f n := by rw [hkn, outw_val h8]; exact Hv1.out
        have Hval := Lib.hid hval
        clear hval hkn
        have hb2 := Lib.hid (((Below.refl w.heap.size w).alloc (Nat.le_refl _) _).trans (hbel.mono (by omega)))
        obtain ⟨s0, s1, s2, s3⟩ := hs.cells4
        obtain ⟨y0, y1, y2, y3⟩ := hz.frees4
        obtain ⟨z0, z1, z2, z3⟩ := hz.cells4
        go_wp2
        refine bodyPost_ret (v := .tuple #[.agg #[.int .u64 (outw f k 0 : Nat), .int .u64 (outw f k 1 : Nat), .int .u64 (outw f k 2 : Nat), .int .u64 (outw f k 3 : Nat)], .bool true]) (by simp [results, Try.results131, go_sem, z0, z1, z2, z3]) rfl (toUPost_yes Hval.out HNl.out ?_ (below_set4 hb2.out (by omega)))
        rw [U_of (outw_lt Hf.out k)]
  · have q1 : (8 : Int) < (n1 : Int) := by omega
    have hN : ¬ nval f n < 2 ^ 256 := by
      rw [← Hv1.out]
      obtain ⟨i, rfl⟩ : ∃ i, n1 = i + 1 := ⟨n1 - 1, by omega⟩
      rcases Ht1.out with h2 | h2
      · omega
      · rw [Nat.add_sub_cancel] at h2
        have h3 : 2 ^ 256 ≤ 2 ^ (32 * i) := Nat.pow_le_pow_right (by decide) (by omega)
        have h4 := Nat.mul_le_mul_right (2 ^ (32 * i)) (show 1 ≤ f i by omega)
        simp only [nval]
        omega
    have HN := Lib.hid hN
    clear hN
    go_wp2
    refine bodyPost_ret (v := .tuple #[.agg #[.int .u64 0, .int .u64 0, .int .u64 0, .int .u64 0], .bool false]) (by simp [results, Try.results131, go_sem]) rfl (toUPost_no HN.out (by rw [U_zero]) ((Below.refl _ _).alloc (Nat.le_refl _) _))
end Go.Proofs.Ytedkhpnlhkjjgaa

namespace Go.Proofs.Ytedkhpnlhkjjgaa
open Go.RowKit Go.Sort

set_option maxRecDepth 100000 in
theorem told_walk (v : Value) (n : Nat) (f : Nat → Nat) (w : World) (h : Ws w v n f) (hn : n ≤ 100) :
    Calls Try.prog 90 #[v] w (ToUPost (nval f n) w) := by
  have Hh := Lib.hid h
  clear h
  obtain ⟨x, hx⟩ : ∃ x, x = if nval f n < 2 ^ 256 then nval f n else 0 := ⟨_, rfl⟩
  obtain ⟨ok, hok⟩ : ∃ x, x = decide (nval f n < 2 ^ 256) := ⟨_, rfl⟩
  unfold ToUPost
  rw [← hx, ← hok]
  have Hx := Lib.hid hx
  have Hok := Lib.hid hok
  clear hx hok
  unfold U
  go_enter Try.func90, Try.ntmps90
  go_wp2_with (go_at_call 131; refine (toU_walk _ n f _ (Hh.out.below ((Below.refl _ _).alloc (Nat.le_refl _) _)) hn).mono ?_; rintro e w1 ⟨rfl, hb1⟩; rw [← Hx.out, ← Hok.out]; have hz : Arr .u64 w1 w.heap.size 4 (fun _ => 0) := Arr.below (Arr.new4 (f := fun _ => 0) rfl) hb1 (by rw [World.size_alloc]; omega); obtain ⟨y0, y1, y2, y3⟩ := hz.frees4; obtain ⟨z0, z1, z2, z3⟩ := hz.cells4; unfold U)
  refine bodyPost_ret (v := .tuple #[.agg #[.int .u64 (limb x 0 : Nat), .int .u64 (limb x 1 : Nat), .int .u64 (limb x 2 : Nat), .int .u64 (limb x 3 : Nat)], .bool ok]) (by simp [results, Try.results90, go_sem, z0, z1, z2, z3]) rfl ⟨rfl, below_set4 (((Below.refl _ _).alloc (Nat.le_refl _) _).trans (hb1.mono (by rw [World.size_alloc]; omega))) (by omega)⟩

theorem told_c (v : Value) (N m : Nat) (w : World) (h : NatV w v N m) (hm : m ≤ 100) : Calls Try.prog 90 #[v] w (ToUPost N w) := by
  obtain ⟨n, f, h1, h2, h3, h4⟩ := h
  rw [← h3]; exact told_walk v n f w h2 (by omega)
theorem plus_c (va vb : Value) (N M : Nat) (w : World) (ha : NatV w va N 8) (hb : NatV w vb M 8) :
    Calls Try.prog 91 #[va, vb] w fun e w' => (∃ v, e = .returned v ∧ NatV w' v (N + M) 9) ∧ Below w.heap.size w w' := by
  obtain ⟨n, f, h1, h2, h3, _⟩ := ha
  obtain ⟨m, g, k1, k2, k3, _⟩ := hb
  rw [← h3, ← k3]
  refine (plus_walk va vb n m f g w h2 k2 (by omega) (by omega)).mono fun e w' ⟨⟨v, he, n', f', p1, p2, p3, p4⟩, hw⟩ => ⟨⟨v, he, n', f', by omega, p2, p3, p4⟩, hw⟩
theorem ncmp_c (va vb : Value) (N M : Nat) (w : World) (ha : NatV w va N 8) (hb : NatV w vb M 8) :
    Calls Try.prog 104 #[va, vb] w fun e w' => e = .returned (.int .i64 (cmpU N M)) ∧ Below w.heap.size w w' := by
  obtain ⟨n, f, h1, h2, h3, _⟩ := ha
  obtain ⟨m, g, k1, k2, k3, _⟩ := hb
  rw [← h3, ← k3]
  exact ncmp_walk va vb n m f g w h2 k2 (by omega) (by omega)
theorem ofn_c (a : Nat) (w : World) (ha : a < 2 ^ 256) : Calls Try.prog 92 #[.agg #[.int .u64 (limb a 0 : Nat), .int .u64 (limb a 1 : Nat), .int .u64 (limb a 2 : Nat), .int .u64 (limb a 3 : Nat)]] w fun e w' => (∃ v, e = .returned v ∧ NatV w' v a 8) ∧ Below w.heap.size w w' := ofn_walk a w ha

theorem held2 {w w' : World} {a b : Nat} (h : Two' w w' a b) : w'.cell? ⟨w.heap.size, 0, none⟩ = some (.int .u64 (limb a 0 : Nat)) ∧ w'.cell? ⟨w.heap.size, 1, none⟩ = some (.int .u64 (limb a 1 : Nat)) ∧ w'.cell? ⟨w.heap.size, 2, none⟩ = some (.int .u64 (limb a 2 : Nat)) ∧ w'.cell? ⟨w.heap.size, 3, none⟩ = some (.int .u64 (limb a 3 : Nat)) ∧ w'.cell? ⟨w.heap.size + 1, 0, none⟩ = some (.int .u64 (limb b 0 : Nat)) ∧ w'.cell? ⟨w.heap.size + 1, 1, none⟩ = some (.int .u64 (limb b 1 : Nat)) ∧ w'.cell? ⟨w.heap.size + 1, 2, none⟩ = some (.int .u64 (limb b 2 : Nat)) ∧ w'.cell? ⟨w.heap.size + 1, 3, none⟩ = some (.int .u64 (limb b 3 : Nat)) ∧ Two' w w' a b := by
  obtain ⟨a0, a1, a2, a3⟩ := h.a.cells4
  obtain ⟨b0, b1, b2, b3⟩ := h.b.cells4
  exact ⟨a0, a1, a2, a3, b0, b1, b2, b3, h⟩
theorem un_held2 {w w' : World} {a b : Nat} (h : w'.cell? ⟨w.heap.size, 0, none⟩ = some (.int .u64 (limb a 0 : Nat)) ∧ w'.cell? ⟨w.heap.size, 1, none⟩ = some (.int .u64 (limb a 1 : Nat)) ∧ w'.cell? ⟨w.heap.size, 2, none⟩ = some (.int .u64 (limb a 2 : Nat)) ∧ w'.cell? ⟨w.heap.size, 3, none⟩ = some (.int .u64 (limb a 3 : Nat)) ∧ w'.cell? ⟨w.heap.size + 1, 0, none⟩ = some (.int .u64 (limb b 0 : Nat)) ∧ w'.cell? ⟨w.heap.size + 1, 1, none⟩ = some (.int .u64 (limb b 1 : Nat)) ∧ w'.cell? ⟨w.heap.size + 1, 2, none⟩ = some (.int .u64 (limb b 2 : Nat)) ∧ w'.cell? ⟨w.heap.size + 1, 3, none⟩ = some (.int .u64 (limb b 3 : Nat)) ∧ Two' w w' a b) : Two' w w' a b := h.2.2.2.2.2.2.2.2

set_option maxRecDepth 100000 in
set_option maxHeartbeats 4000000 in
theorem radd_walk (a b : Nat) (w : World) (ha : a < 2 ^ 256) (hb : b < 2 ^ 256) :
    Calls Try.prog 44 #[U a, U b] w fun e w' => e = .returned (.tuple #[U (addv a b), .bool (addk a b)]) ∧ Below w.heap.size w w' := by
  have Ha := Lib.hid ha
  have Hb := Lib.hid hb
  obtain ⟨x, hx⟩ : ∃ x, x = addv a b := ⟨_, rfl⟩
  obtain ⟨ok, hok⟩ : ∃ x, x = addk a b := ⟨_, rfl⟩
  rw [← hx, ← hok]
  have Hx := Lib.hid hx
  have Hok := Lib.hid hok
  clear ha hb hx hok
  unfold U
  go_enter Try.func44, Try.ntmps44
  go_upto_region 1 with (fail)
  have T0 := Lib.hid ((two_first (a := a) (b := b) (w := w) (t1 := 29) (t2 := 29)).alloc (.cells #[.int .u64 0, .int .u64 0, .int .u64 0, .int .u64 0] 29))
  have Z0 := Lib.hid (Arr.new4 (κ := .u64) (w := (w.alloc (.cells #[.int .u64 (limb a 0 : Nat), .int .u64 (limb a 1 : Nat), .int .u64 (limb a 2 : Nat), .int .u64 (limb a 3 : Nat)] 29)).alloc (.cells #[.int .u64 (limb b 0 : Nat), .int .u64 (limb b 1 : Nat), .int .u64 (limb b 2 : Nat), .int .u64 (limb b 3 : Nat)] 29)) (t := 29) (f := fun _ => 0) (b := w.heap.size + 1 + 1) (by simp))
  go_region_held3 (fun w' => w'.cell? ⟨w.heap.size, 0, none⟩ = some (.int .u64 (limb a 0 : Nat)) ∧ w'.cell? ⟨w.heap.size, 1, none⟩ = some (.int .u64 (limb a 1 : Nat)) ∧ w'.cell? ⟨w.heap.size, 2, none⟩ = some (.int .u64 (limb a 2 : Nat)) ∧ w'.cell? ⟨w.heap.size, 3, none⟩ = some (.int .u64 (limb a 3 : Nat)) ∧ w'.cell? ⟨w.heap.size + 1, 0, none⟩ = some (.int .u64 (limb b 0 : Nat)) ∧ w'.cell? ⟨w.heap.size + 1, 1, none⟩ = some (.int .u64 (limb b 1 : Nat)) ∧ w'.cell? ⟨w.heap.size + 1, 2, none⟩ = some (.int .u64 (limb b 2 : Nat)) ∧ w'.cell? ⟨w.heap.size + 1, 3, none⟩ = some (.int .u64 (limb b 3 : Nat)) ∧ Two' w w' a b)
    ((refine held2 ?_; repeat (first | with_reducible exact u4 | with_reducible exact u3 | with_reducible exact u2 | with_reducible exact u1 | with_reducible exact T0.out | with_reducible refine Two'.drew ?_ | with_reducible refine Two'.put4 ?_ (by omega) | with_reducible exact un_held2 (by with_reducible assumption))))
    (first
      | (go_at_call 90; refine (told_c v3 (a + b) 9 _ hv3 (by omega)).mono ?_; rintro e w4 ⟨rfl, hb4⟩; rw [show (if a + b < 2 ^ 256 then a + b else 0) = x from Hx.out.symm, show decide (a + b < 2 ^ 256) = ok from Hok.out.symm]; have u4 := u3.below hb4; have zz4 := zz3.below hb4 zz3.lt4; obtain ⟨y0, y1, y2, y3⟩ := zz4.frees4; obtain ⟨z0, z1, z2, z3⟩ := zz4.cells4; unfold U)
      | (go_at_call 91; refine (plus_c v1 v2 a b _ (hv1.below hb2) hv2).mono ?_; rintro e w3 ⟨⟨v3, rfl, hv3⟩, hb3⟩; have u3 := u2.below hb3; have zz3 := zz2.below hb3 zz2.lt4)
      | (go_at_call 92; with_reducible refine (ofn_c b _ Hb.out).mono ?_; rintro e w2 ⟨⟨v2, rfl, hv2⟩, hb2⟩; have u2 := u1.below hb2; have zz2 := zz1.below hb2 zz1.lt4)
      | (go_at_call 92; with_reducible refine (ofn_c a _ Ha.out).mono ?_; rintro e w1 ⟨⟨v1, rfl, hv1⟩, hb1⟩; have u1 : Two' w w1 a b := Two'.below (un_held2 (by with_reducible assumption)) hb1; have zz1 := Z0.out.drew.below hb1 Z0.out.drew.lt4))
  go_wp2
  refine bodyPost_ret (v := .tuple #[.agg #[.int .u64 (limb x 0 : Nat), .int .u64 (limb x 1 : Nat), .int .u64 (limb x 2 : Nat), .int .u64 (limb x 3 : Nat)], .bool ok]) (by simp [results, Try.results44, go_sem, z0, z1, z2, z3]) rfl ⟨rfl, below_set4 u4.l (by omega)⟩

def subv (a b : Nat) : Nat := if b ≤ a then a - b else 0
def subk (a b : Nat) : Bool := decide (b ≤ a)
theorem subv_lt {a : Nat} (b : Nat) (h : a < 2 ^ 256) : subv a b < 2 ^ 256 := by unfold subv; split <;> omega
set_option maxRecDepth 100000 in
set_option maxHeartbeats 4000000 in
theorem rcmp_walk (a b : Nat) (w : World) (ha : a < 2 ^ 256) (hb : b < 2 ^ 256) :
    Calls Try.prog 52 #[U a, U b] w fun e w' => e = .returned (.int .i64 (cmpU a b)) ∧ Below w.heap.size w w' := by
  have Ha := Lib.hid ha
  have Hb := Lib.hid hb
  obtain ⟨c, hc⟩ : ∃ x, x = cmpU a b := ⟨_, rfl⟩
  rw [← hc]
  have Hc := Lib.hid hc
  clear ha hb hc
  unfold U
  go_enter Try.func52, Try.ntmps52
  go_upto_region 1 with (fail)
  have T0 := Lib.hid (two_first (a := a) (b := b) (w := w) (t1 := 29) (t2 := 29))
  go_region_held3 (fun w' => w'.cell? ⟨w.heap.size, 0, none⟩ = some (.int .u64 (limb a 0 : Nat)) ∧ w'.cell? ⟨w.heap.size, 1, none⟩ = some (.int .u64 (limb a 1 : Nat)) ∧ w'.cell? ⟨w.heap.size, 2, none⟩ = some (.int .u64 (limb a 2 : Nat)) ∧ w'.cell? ⟨w.heap.size, 3, none⟩ = some (.int .u64 (limb a 3 : Nat)) ∧ w'.cell? ⟨w.heap.size + 1, 0, none⟩ = some (.int .u64 (limb b 0 : Nat)) ∧ w'.cell? ⟨w.heap.size + 1, 1, none⟩ = some (.int .u64 (limb b 1 : Nat)) ∧ w'.cell? ⟨w.heap.size + 1, 2, none⟩ = some (.int .u64 (limb b 2 : Nat)) ∧ w'.cell? ⟨w.heap.size + 1, 3, none⟩ = some (.int .u64 (limb b 3 : Nat)) ∧ Two' w w' a b)
    ((refine held2 ?_; repeat (first | with_reducible exact u3 | with_reducible exact u2 | with_reducible exact u1 | with_reducible exact T0.out | with_reducible refine Two'.drew ?_ | with_reducible exact un_held2 (by with_reducible assumption))))
    (first
      | (go_at_call 104; refine (ncmp_c v1 v2 a b _ (hv1.below hb2) hv2).mono ?_; rintro e w3 ⟨rfl, hb3⟩; have u3 := u2.below hb3; rw [← Hc.out])
      | (go_at_call 92; with_reducible refine (ofn_c b _ Hb.out).mono ?_; rintro e w2 ⟨⟨v2, rfl, hv2⟩, hb2⟩; have u2 := u1.below hb2)
      | (go_at_call 92; with_reducible refine (ofn_c a _ Ha.out).mono ?_; rintro e w1 ⟨⟨v1, rfl, hv1⟩, hb1⟩; have u1 : Two' w w1 a b := Two'.below (un_held2 (by with_reducible assumption)) hb1))
  go_wp2
  go_ret
  exact ⟨rfl, u3.l⟩
end Go.Proofs.Ytedkhpnlhkjjgaa

namespace Go.Proofs.Ytedkhpnlhkjjgaa
open Go.RowKit Go.Maps Go.Sort

structure MgI (m : Nat) (rx ra : Nat → Nat) (x : Nat) : Prop where
  le : ∀ k, k < m → ra k ≤ 1000000000000000000
  fall : ∀ j k, j < k → k < m → ra k ≤ ra j
  ord : 0 < m → rx (m - 1) ≤ x
theorem MgI.start (rx ra : Nat → Nat) (x : Nat) : MgI 0 rx ra x := ⟨fun k h => absurd h (by omega), fun j k _ h => absurd h (by omega), fun h => absurd h (by omega)⟩
theorem MgI.later {m : Nat} {rx ra : Nat → Nat} {x x' : Nat} (h : MgI m rx ra x) (hx : x ≤ x') : MgI m rx ra x' := ⟨h.le, h.fall, fun h0 => Nat.le_trans (h.ord h0) hx⟩
theorem MgI.val {m : Nat} {rx ra : Nat → Nat} {x : Nat} (h : MgI m rx ra x) : mval m ra ≤ 1000000000000000000 := by
  unfold mval
  split
  · exact Nat.le_refl _
  · exact h.le _ (by omega)
theorem MgI.step {m : Nat} {rx ra : Nat → Nat} {x y : Nat} {m' : Nat} {rx' ra' : Nat → Nat} (h : MgI m rx ra x) (hy : y ≤ mval m ra) (hp : PushR m rx ra (x : Nat) y 0 m' rx' ra') : MgI m' rx' ra' x ∧ mval m' ra' = y ∧ m' ≤ m + 1 := by
  have hv := h.val
  have hyw : y ≤ 1000000000000000000 := by omega
  have hyr : 0 < m → y ≤ ra (m - 1) := fun h0 => by
    unfold mval at hy; rw [if_neg (by omega)] at hy; exact hy
  rcases hp with ⟨h1, _⟩ | ⟨hb, ⟨h1, _⟩ | ⟨_, h2, h3, h4, rfl, rfl, rfl⟩ | ⟨_, h2, h3, rfl, rfl, rfl⟩ | ⟨_, h2, rfl, rfl, rfl⟩⟩
  · omega
  · omega
  · exact ⟨h, by unfold mval; rw [if_neg (by omega)]; exact h4, by omega⟩
  · refine ⟨⟨fun k hk => ?_, fun j k hjk hk => ?_, fun _ => by omega⟩, by unfold mval updN; rw [if_neg (by omega), if_pos rfl], by omega⟩
    · unfold updN; split
      · exact hyw
      · exact h.le k hk
    · unfold updN
      rw [if_neg (show ¬ j = m' - 1 by omega)]
      split
      · rename_i e
        have := hyr h2
        by_cases hj : j = m' - 1
        · omega
        · have := h.fall j (m' - 1) (by omega) (by omega); omega
      · exact h.fall j k hjk hk
  · refine ⟨⟨fun k hk => ?_, fun j k hjk hk => ?_, fun _ => ?_⟩, by unfold mval updN; rw [if_neg (by omega), if_pos (by omega)], by omega⟩
    · unfold updN; split
      · exact hyw
      · exact h.le k (by omega)
    · unfold updN
      rw [if_neg (show ¬ j = m by omega)]
      split
      · rename_i e
        have := hyr (by omega)
        by_cases hj : j = m - 1
        · subst hj; exact this
        · have := h.fall j (m - 1) (by omega) (by omega); omega
      · exact h.fall j k hjk (by omega)
    · unfold updN
      rw [if_pos (by omega)]
      omega
/-- block by block it falls -/
theorem mat_le {m : Nat} {rx ra : Nat → Nat} {x : Nat} (h : MgI m rx ra x) {b b' : Int} (hb : b ≤ b') {y y' : Nat} (h1 : mat m rx ra b y) (h2 : mat m rx ra b' y') : y' ≤ y := by
  rcases h2 with ⟨rfl, g⟩ | ⟨k', k1', rfl, k3', k4'⟩
  · rcases h1 with ⟨rfl, _⟩ | ⟨k, k1, _, k3, _⟩
    · exact Nat.le_refl _
    · have := g k k1; omega
  · rcases h1 with ⟨rfl, _⟩ | ⟨k, k1, rfl, k3, k4⟩
    · exact h.le k' k1'
    · rcases Nat.lt_trichotomy k k' with e | e | e
      · exact h.fall k k' e k1'
      · subst e; exact Nat.le_refl _
      · have := k4' k e k1; omega
theorem mat_top {m : Nat} {rx ra : Nat → Nat} {x : Nat} (h : MgI m rx ra x) {b : Int} {y : Nat} (h1 : mat m rx ra b y) : y ≤ 1000000000000000000 := by
  rcases h1 with ⟨rfl, _⟩ | ⟨k, k1, rfl, _, _⟩
  · exact Nat.le_refl _
  · exact h.le k k1
theorem rcmpV (a b : Nat) (h : a ≤ b) (hb : b ≤ 1000000000000000000) : ∃ c : Int, c ≤ 0 ∧ ∀ W, Calls Try.prog 52 #[V1 (a : Nat), V1 (b : Nat)] W fun e w' => e = .returned (.int .i64 c) ∧ Below W.heap.size W w' := by
  refine ⟨cmpU a b, (cmpU_le a b).2 h, fun W => ?_⟩
  have := rcmp_walk a b W (by omega) (by omega)
  rw [U_sm a (by omega), U_sm b (by omega)] at this
  exact this
theorem eqV (a b : Nat) (w : World) : (Op.equalIn 10000 29 (.agg #[.int .u64 (a : Nat), .int .u64 0, .int .u64 0, .int .u64 0]) (.agg #[.int .u64 (b : Nat), .int .u64 0, .int .u64 0, .int .u64 0])).run Try.prog w = .ok (decide (a = b)) w := by
  rw [eqU]
  by_cases h : a = b
  · subst h; simp
  · have : ((a : Int) == (b : Int)) = false := by rw [beq_eq_false_iff_ne]; omega
    rw [this, decide_eq_false h]; rfl
end Go.Proofs.Ytedkhpnlhkjjgaa
