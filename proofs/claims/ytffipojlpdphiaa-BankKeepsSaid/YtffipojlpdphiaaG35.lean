/- tallageref01.ToU, told, walked. -/
import Derived.Test.YtffipojlpdphiaaG34
import Derived.Test.YtffipojlpdphiaaG13
import Derived.OwnWalk
namespace Go.Proofs.Ytffipojlpdphiaa
open Go.RowKit Go.Sort

/-- a word of 64 bits out of the first k of 32 -/
def outw (f : Nat → Nat) (k j : Nat) : Nat := padw f k (2 * j) + padw f k (2 * j + 1) * 4294967296
theorem outw_lt {f : Nat → Nat} (hf : ∀ i, f i < 2 ^ 32) (k j : Nat) : outw f k j < 2 ^ 64 := by
  have := padw_lt hf k (2 * j)
  have := padw_lt hf k (2 * j + 1)
  unfold outw; omega
theorem outw_val {f : Nat → Nat} {n : Nat} (hn : n ≤ 8) : val (outw f n) 4 = nval f n := by
  rw [← nval_pad f hn]
  simp only [val, nval, outw, Nat.reduceMul, Nat.reduceAdd]
  omega
theorem outw_far {f : Nat → Nat} {k i : Nat} (h : i ≠ k / 2) : outw f (k + 1) i = outw f k i := by
  unfold outw padw
  have h1 : (2 * i < k + 1) = (2 * i < k) := by apply propext; omega
  have h2 : (2 * i + 1 < k + 1) = (2 * i + 1 < k) := by apply propext; omega
  simp only [h1, h2]
theorem or_even {f : Nat → Nat} {j : Nat} (hf : ∀ i, f i < 2 ^ 32) : bits BinOp.or IntKind.u64 ((outw f (2 * j) j : Nat) : Int) ((f (2 * j) : Nat) : Int) = ((outw f (2 * j + 1) j : Nat) : Int) := by
  have h := hf (2 * j)
  have e0 : outw f (2 * j) j = 0 := by unfold outw padw; rw [if_neg (by omega), if_neg (by omega)]
  have e1 : outw f (2 * j + 1) j = f (2 * j) := by unfold outw padw; rw [if_pos (by omega), if_neg (by omega)]; omega
  rw [e0, e1, u64_or_nat _ _ (by decide) (by omega), Nat.zero_or]
theorem or_odd {f : Nat → Nat} {j : Nat} (hf : ∀ i, f i < 2 ^ 32) : bits BinOp.or IntKind.u64 ((outw f (2 * j + 1) j : Nat) : Int) ((f (2 * j + 1) : Nat) * 4294967296 : Int) = ((outw f (2 * j + 1 + 1) j : Nat) : Int) := by
  have h := hf (2 * j)
  have h1 := hf (2 * j + 1)
  have e0 : outw f (2 * j + 1) j = f (2 * j) := by unfold outw padw; rw [if_pos (by omega), if_neg (by omega)]; omega
  have e1 : outw f (2 * j + 1 + 1) j = f (2 * j) + f (2 * j + 1) * 4294967296 := by unfold outw padw; rw [if_pos (by omega), if_pos (by omega)]
  have e2 : ((f (2 * j + 1) : Nat) * 4294967296 : Int) = ((f (2 * j + 1) * 4294967296 : Nat) : Int) := by omega
  rw [e0, e1, e2, u64_or_nat _ _ (by omega) (by omega), Nat.or_comm, nat_join 32 _ _ ?_ h, Nat.add_comm]
  omega
def ToURel (n : Nat) (f : Nat → Nat) (w W1 : World) (x : Value) (wr : World) : Prop :=
  ∃ k : Nat, k ≤ n ∧ x = .int .i64 (k : Nat) ∧ Arr .u64 wr w.heap.size 4 (fun _ => 0) ∧ Arr .u64 wr (w.heap.size + 1) 4 (outw f k) ∧ Below (w.heap.size + 1) W1 wr ∧ w.heap.size + 1 < wr.heap.size
def ToUPost (N : Nat) (w : World) (e : Ending) (w' : World) : Prop :=
  e = .returned (.tuple #[U (if N < 2 ^ 256 then N else 0), .bool (decide (N < 2 ^ 256))]) ∧ Below w.heap.size w w'
theorem toUPost_yes {N n : Nat} {w w' : World} {e : Ending} (hn : n = N) (h : N < 2 ^ 256) (he : e = .returned (.tuple #[U n, .bool true])) (hw : Below w.heap.size w w') : ToUPost N w e w' := by
  subst hn; unfold ToUPost; rw [if_pos h, decide_eq_true h]; exact ⟨he, hw⟩
theorem toUPost_no {N : Nat} {w w' : World} {e : Ending} (h : ¬ N < 2 ^ 256) (he : e = .returned (.tuple #[U 0, .bool false])) (hw : Below w.heap.size w w') : ToUPost N w e w' := by
  unfold ToUPost; rw [if_neg h, decide_eq_false h]; exact ⟨he, hw⟩

set_option maxRecDepth 100000 in
set_option maxHeartbeats 4000000 in
theorem toU_walk (v : Value) (n : Nat) (f : Nat → Nat) (w : World) (h : Ws w v n f) (hn : n ≤ 100) :
    Calls Try.prog 150 #[v] w (ToUPost (nval f n) w) := by
  have Hh := Lib.hid h
  clear h
  go_enter Try.func150, Try.ntmps150
  go_wp2_with fail
  refine (trim_walk _ _ _ _ (Hh.out.below ((Below.refl _ _).alloc (Nat.le_refl _) _)) (by omega)).mono ?_
  rintro e w1 ⟨v1, n1, rfl, hn1, hw1, hv1, ht1, rfl⟩
  obtain ⟨A, ca, rfl, oa⟩ := hw1.open_
  have Hf := Lib.hid hw1.small
  have Oa := Lib.hid oa
  have Hv1 := Lib.hid hv1
  have Ht1 := Lib.hid ht1
  clear hw1 oa hv1 ht1
  by_cases h8 : n1 ≤ 8
  · have q1 : ¬ (8 : Int) < (n1 : Int) := by omega
    have hNl : nval f n < 2 ^ 256 := by
      rw [← Hv1.out]
      exact Nat.lt_of_lt_of_le (nval_lt n1 (fun i _ => Hf.out i)) (Nat.pow_le_pow_right (by decide) (by omega))
    have HNl := Lib.hid hNl
    clear hNl
    go_wp2
    go_loopw [15] (ToURel n1 f w (w.alloc (.cells #[.int .u64 0, .int .u64 0, .int .u64 0, .int .u64 0] 52))) (fun x _ => n1 - (intOf x).toNat)
    case atStart =>
      refine ⟨0, Nat.zero_le _, rfl, (Arr.new4 (f := fun _ => 0) rfl).alloc _, ?_, (Below.refl _ _).alloc (by simp only [World.size_alloc]; omega) _, by simp⟩
      exact Arr.congr (Arr.new4 (f := fun _ => 0) (by simp)) fun i _ => by unfold outw padw; rw [if_neg (by omega), if_neg (by omega)]
    case round =>
      obtain ⟨k, hk, rfl, hz, hs, hbel, hsz⟩ := hrel
      by_cases hlt : k < n1
      · have q2 : (k : Int) < (n1 : Int) := by omega
        obtain ⟨ga, ofa, rfl, hga, hxa⟩ := Oa.out (by omega)
        have hga' : ga < w.heap.size + 1 := by simpa using hga
        have c1 : wr.cell? ⟨ga, ofa + k, none⟩ = some (.int .u32 (f k : Nat)) := by rw [hbel.cell (p := ⟨ga, ofa + k, none⟩) hga']; exact hxa k hlt
        obtain ⟨j, hj⟩ : ∃ j, j = k / 2 := ⟨_, rfl⟩
        have hj4 : j < 4 := by omega
        have jI : (j : Int) < 4 := by omega
        have e1 : (k : Int) / 2 = (j : Int) := by omega
        have e2 : (k : Int).tdiv 2 = (j : Int) := by rw [Int.tdiv_eq_ediv_of_nonneg (by omega)]; omega
        have c4 := hs.cell j hj4
        have f4 := hs.free j hj4
        have s0 : IntKind.u64.wrap ((f k : Nat) : Int) = ((f k : Nat) : Int) := wrap_u64 (by have := Hf.out k; omega)
        have Hj := Lib.hid hj
        have hcong : ∀ i, i < 4 → upd (outw f k) j (outw f (k + 1) j) i = outw f (k + 1) i := fun i _ => by
          by_cases hi : i = j
          · rw [hi, upd_same]
          · rw [upd_ne _ hi, outw_far (by rw [← hj]; exact hi)]
        have Hcong := Lib.hid hcong
        have cases2 : (∃ h : Hid (k = 2 * j), True) ∨ (∃ h : Hid (k = 2 * j + 1), True) := by
          rcases (show k = 2 * j ∨ k = 2 * j + 1 by omega) with h | h
          · exact .inl ⟨Lib.hid h, trivial⟩
          · exact .inr ⟨Lib.hid h, trivial⟩
        clear hj hxa hga hcong
        rcases cases2 with ⟨hkj, _⟩ | ⟨hkj, _⟩
        · have e3 : (k : Int).tmod 2 = 0 := by have := hkj.out; rw [Int.tmod_eq_emod_of_nonneg (by omega)]; omega
          have o1 := or_even (j := j) Hf.out
          rw [← hkj.out] at o1
          go_wp2
          go_roundw
          case rel =>
            refine ⟨k + 1, by omega, by go_num, hz.set_far (by omega), (hs.set hj4).congr Hcong.out, hbel.setCell (by simp) _, by rw [World.size_setCell]; exact hsz⟩
          case measure => simp [intOf]; omega
        · have e3 : (k : Int).tmod 2 = 1 := by have := hkj.out; rw [Int.tmod_eq_emod_of_nonneg (by omega)]; omega
          have o1 := or_odd (j := j) Hf.out
          rw [← hkj.out] at o1
          have s5 : IntKind.u64.wrap ((f k : Nat) * 4294967296 : Int) = ((f k : Nat) * 4294967296 : Int) := by
            have := Hf.out k
            rw [show ((f k : Nat) * 4294967296 : Int) = ((f k * 4294967296 : Nat) : Int) by omega]; exact wrap_u64 (by omega)
          go_wp2
          go_roundw
          case rel =>
            refine ⟨k + 1, by omega, by go_num, hz.set_far (by omega), (hs.set hj4).congr Hcong.out, hbel.setCell (by simp) _, by rw [World.size_setCell]; exact hsz⟩
          case measure => simp [intOf]; omega
      · have q2 : ¬ (k : Int) < (n1 : Int) := by omega
        have hkn : k = n1 := by omega
        have hval : val (outw f k) 4 = nval f n := by rw [hkn, outw_val h8]; exact Hv1.out
        have Hval := Lib.hid hval
        clear hval hkn
        have hb2 := Lib.hid (((Below.refl w.heap.size w).alloc (Nat.le_refl _) _).trans (hbel.mono (by omega)))
        obtain ⟨s0, s1, s2, s3⟩ := hs.cells4
        obtain ⟨y0, y1, y2, y3⟩ := hz.frees4
        obtain ⟨z0, z1, z2, z3⟩ := hz.cells4
        go_wp2
        refine bodyPost_ret (v := .tuple #[.agg #[.int .u64 (outw f k 0 : Nat), .int .u64 (outw f k 1 : Nat), .int .u64 (outw f k 2 : Nat), .int .u64 (outw f k 3 : Nat)], .bool true]) (by simp [results, Try.results150, go_sem, z0, z1, z2, z3]) rfl (toUPost_yes Hval.out HNl.out ?_ (below_set4 hb2.out (by omega)))
        rw [U_of (outw_lt Hf.out k)]
  · have q1 : (8 : Int) < (n1 : Int) := by omega
    have hN : ¬ nval f n < 2 ^ 256 := by
      rw [← Hv1.out]
      obtain ⟨i, rfl⟩ : ∃ i, n1 = i + 1 := ⟨n1 - 1, by omega⟩
      rcases Ht1.out with h2 | h2
      · omega
      · rw [Nat.add_sub_cancel] at h2
        have h3 : 2 ^ 256 ≤ 2 ^ (32 * i) := Nat.pow_le_pow_right (by decide) (by omega)
        have h4 := Nat.mul_le_mul_right (2 ^ (32 * i)) (show 1 ≤ f i by omega)
        simp only [nval]
        omega
    have HN := Lib.hid hN
    clear hN
    go_wp2
    refine bodyPost_ret (v := .tuple #[.agg #[.int .u64 0, .int .u64 0, .int .u64 0, .int .u64 0], .bool false]) (by simp [results, Try.results150, go_sem]) rfl (toUPost_no HN.out (by rw [U_zero]) ((Below.refl _ _).alloc (Nat.le_refl _) _))
end Go.Proofs.Ytffipojlpdphiaa

namespace Go.Proofs.Ytffipojlpdphiaa
open Go.RowKit Go.Sort

set_option maxRecDepth 100000 in
theorem told_walk (v : Value) (n : Nat) (f : Nat → Nat) (w : World) (h : Ws w v n f) (hn : n ≤ 100) :
    Calls Try.prog 87 #[v] w (ToUPost (nval f n) w) := by
  have Hh := Lib.hid h
  clear h
  obtain ⟨x, hx⟩ : ∃ x, x = if nval f n < 2 ^ 256 then nval f n else 0 := ⟨_, rfl⟩
  obtain ⟨ok, hok⟩ : ∃ x, x = decide (nval f n < 2 ^ 256) := ⟨_, rfl⟩
  unfold ToUPost
  rw [← hx, ← hok]
  have Hx := Lib.hid hx
  have Hok := Lib.hid hok
  clear hx hok
  unfold U
  go_enter Try.func87, Try.ntmps87
  go_wp2_with (go_at_call 150; refine (toU_walk _ n f _ (Hh.out.below ((Below.refl _ _).alloc (Nat.le_refl _) _)) hn).mono ?_; rintro e w1 ⟨rfl, hb1⟩; rw [← Hx.out, ← Hok.out]; have hz : Arr .u64 w1 w.heap.size 4 (fun _ => 0) := Arr.below (Arr.new4 (f := fun _ => 0) rfl) hb1 (by rw [World.size_alloc]; omega); obtain ⟨y0, y1, y2, y3⟩ := hz.frees4; obtain ⟨z0, z1, z2, z3⟩ := hz.cells4; unfold U)
  refine bodyPost_ret (v := .tuple #[.agg #[.int .u64 (limb x 0 : Nat), .int .u64 (limb x 1 : Nat), .int .u64 (limb x 2 : Nat), .int .u64 (limb x 3 : Nat)], .bool ok]) (by simp [results, Try.results87, go_sem, z0, z1, z2, z3]) rfl ⟨rfl, below_set4 (((Below.refl _ _).alloc (Nat.le_refl _) _).trans (hb1.mono (by rw [World.size_alloc]; omega))) (by omega)⟩

theorem told_c (v : Value) (N m : Nat) (w : World) (h : NatV w v N m) (hm : m ≤ 100) : Calls Try.prog 87 #[v] w (ToUPost N w) := by
  obtain ⟨n, f, h1, h2, h3, h4⟩ := h
  rw [← h3]; exact told_walk v n f w h2 (by omega)
theorem plus_c (va vb : Value) (N M : Nat) (w : World) (ha : NatV w va N 8) (hb : NatV w vb M 8) :
    Calls Try.prog 88 #[va, vb] w fun e w' => (∃ v, e = .returned v ∧ NatV w' v (N + M) 9) ∧ Below w.heap.size w w' := by
  obtain ⟨n, f, h1, h2, h3, _⟩ := ha
  obtain ⟨m, g, k1, k2, k3, _⟩ := hb
  rw [← h3, ← k3]
  refine (plus_walk va vb n m f g w h2 k2 (by omega) (by omega)).mono fun e w' ⟨⟨v, he, n', f', p1, p2, p3, p4⟩, hw⟩ => ⟨⟨v, he, n', f', by omega, p2, p3, p4⟩, hw⟩
theorem minus_yes_c (va vb : Value) (N M : Nat) (w : World) (ha : NatV w va N 8) (hb : NatV w vb M 8) (h : M ≤ N) :
    Calls Try.prog 166 #[va, vb] w fun e w' => (∃ v, e = .returned (.tuple #[v, .bool true]) ∧ NatV w' v (N - M) 8) ∧ Below w.heap.size w w' := by
  obtain ⟨n, f, h1, h2, h3, _⟩ := ha
  obtain ⟨m, g, k1, k2, k3, _⟩ := hb
  rw [← h3, ← k3]
  refine (minus_walk va vb n m f g w h2 k2 (by omega) (by omega)).mono fun e w' ⟨hr, hw⟩ => ⟨?_, hw⟩
  rcases hr with ⟨h5, _⟩ | ⟨_, v, he, n', f', p1, p2, p3, p4⟩
  · omega
  · exact ⟨v, he, n', f', by omega, p2, p3, p4⟩
theorem minus_no_c (va vb : Value) (N M : Nat) (w : World) (ha : NatV w va N 8) (hb : NatV w vb M 8) (h : N < M) :
    Calls Try.prog 166 #[va, vb] w fun e w' => e = .returned (.tuple #[.slice none 0 0, .bool false]) ∧ Below w.heap.size w w' := by
  obtain ⟨n, f, h1, h2, h3, _⟩ := ha
  obtain ⟨m, g, k1, k2, k3, _⟩ := hb
  refine (minus_walk va vb n m f g w h2 k2 (by omega) (by omega)).mono fun e w' ⟨hr, hw⟩ => ⟨?_, hw⟩
  rcases hr with ⟨_, h5⟩ | ⟨h5, _⟩
  · exact h5
  · omega
theorem ncmp_c (va vb : Value) (N M : Nat) (w : World) (ha : NatV w va N 8) (hb : NatV w vb M 8) :
    Calls Try.prog 186 #[va, vb] w fun e w' => e = .returned (.int .i64 (cmpU N M)) ∧ Below w.heap.size w w' := by
  obtain ⟨n, f, h1, h2, h3, _⟩ := ha
  obtain ⟨m, g, k1, k2, k3, _⟩ := hb
  rw [← h3, ← k3]
  exact ncmp_walk va vb n m f g w h2 k2 (by omega) (by omega)
theorem ofn_c (a : Nat) (w : World) (ha : a < 2 ^ 256) : Calls Try.prog 89 #[.agg #[.int .u64 (limb a 0 : Nat), .int .u64 (limb a 1 : Nat), .int .u64 (limb a 2 : Nat), .int .u64 (limb a 3 : Nat)]] w fun e w' => (∃ v, e = .returned v ∧ NatV w' v a 8) ∧ Below w.heap.size w w' := ofn_walk a w ha

theorem held2 {w w' : World} {a b : Nat} (h : Two' w w' a b) : w'.cell? ⟨w.heap.size, 0, none⟩ = some (.int .u64 (limb a 0 : Nat)) ∧ w'.cell? ⟨w.heap.size, 1, none⟩ = some (.int .u64 (limb a 1 : Nat)) ∧ w'.cell? ⟨w.heap.size, 2, none⟩ = some (.int .u64 (limb a 2 : Nat)) ∧ w'.cell? ⟨w.heap.size, 3, none⟩ = some (.int .u64 (limb a 3 : Nat)) ∧ w'.cell? ⟨w.heap.size + 1, 0, none⟩ = some (.int .u64 (limb b 0 : Nat)) ∧ w'.cell? ⟨w.heap.size + 1, 1, none⟩ = some (.int .u64 (limb b 1 : Nat)) ∧ w'.cell? ⟨w.heap.size + 1, 2, none⟩ = some (.int .u64 (limb b 2 : Nat)) ∧ w'.cell? ⟨w.heap.size + 1, 3, none⟩ = some (.int .u64 (limb b 3 : Nat)) ∧ Two' w w' a b := by
  obtain ⟨a0, a1, a2, a3⟩ := h.a.cells4
  obtain ⟨b0, b1, b2, b3⟩ := h.b.cells4
  exact ⟨a0, a1, a2, a3, b0, b1, b2, b3, h⟩
theorem un_held2 {w w' : World} {a b : Nat} (h : w'.cell? ⟨w.heap.size, 0, none⟩ = some (.int .u64 (limb a 0 : Nat)) ∧ w'.cell? ⟨w.heap.size, 1, none⟩ = some (.int .u64 (limb a 1 : Nat)) ∧ w'.cell? ⟨w.heap.size, 2, none⟩ = some (.int .u64 (limb a 2 : Nat)) ∧ w'.cell? ⟨w.heap.size, 3, none⟩ = some (.int .u64 (limb a 3 : Nat)) ∧ w'.cell? ⟨w.heap.size + 1, 0, none⟩ = some (.int .u64 (limb b 0 : Nat)) ∧ w'.cell? ⟨w.heap.size + 1, 1, none⟩ = some (.int .u64 (limb b 1 : Nat)) ∧ w'.cell? ⟨w.heap.size + 1, 2, none⟩ = some (.int .u64 (limb b 2 : Nat)) ∧ w'.cell? ⟨w.heap.size + 1, 3, none⟩ = some (.int .u64 (limb b 3 : Nat)) ∧ Two' w w' a b) : Two' w w' a b := h.2.2.2.2.2.2.2.2

set_option maxRecDepth 100000 in
set_option maxHeartbeats 4000000 in
theorem radd_walk (a b : Nat) (w : World) (ha : a < 2 ^ 256) (hb : b < 2 ^ 256) :
    Calls Try.prog 25 #[U a, U b] w fun e w' => e = .returned (.tuple #[U (addv a b), .bool (addk a b)]) ∧ Below w.heap.size w w' := by
  have Ha := Lib.hid ha
  have Hb := Lib.hid hb
  obtain ⟨x, hx⟩ : ∃ x, x = addv a b := ⟨_, rfl⟩
  obtain ⟨ok, hok⟩ : ∃ x, x = addk a b := ⟨_, rfl⟩
  rw [← hx, ← hok]
  have Hx := Lib.hid hx
  have Hok := Lib.hid hok
  clear ha hb hx hok
  unfold U
  go_enter Try.func25, Try.ntmps25
  go_upto_region 1 with (fail)
  have T0 := Lib.hid ((two_first (a := a) (b := b) (w := w) (t1 := 52) (t2 := 52)).alloc (.cells #[.int .u64 0, .int .u64 0, .int .u64 0, .int .u64 0] 52))
  have Z0 := Lib.hid (Arr.new4 (κ := .u64) (w := (w.alloc (.cells #[.int .u64 (limb a 0 : Nat), .int .u64 (limb a 1 : Nat), .int .u64 (limb a 2 : Nat), .int .u64 (limb a 3 : Nat)] 52)).alloc (.cells #[.int .u64 (limb b 0 : Nat), .int .u64 (limb b 1 : Nat), .int .u64 (limb b 2 : Nat), .int .u64 (limb b 3 : Nat)] 52)) (t := 52) (f := fun _ => 0) (b := w.heap.size + 1 + 1) (by simp))
  go_region_held3 (fun w' => w'.cell? ⟨w.heap.size, 0, none⟩ = some (.int .u64 (limb a 0 : Nat)) ∧ w'.cell? ⟨w.heap.size, 1, none⟩ = some (.int .u64 (limb a 1 : Nat)) ∧ w'.cell? ⟨w.heap.size, 2, none⟩ = some (.int .u64 (limb a 2 : Nat)) ∧ w'.cell? ⟨w.heap.size, 3, none⟩ = some (.int .u64 (limb a 3 : Nat)) ∧ w'.cell? ⟨w.heap.size + 1, 0, none⟩ = some (.int .u64 (limb b 0 : Nat)) ∧ w'.cell? ⟨w.heap.size + 1, 1, none⟩ = some (.int .u64 (limb b 1 : Nat)) ∧ w'.cell? ⟨w.heap.size + 1, 2, none⟩ = some (.int .u64 (limb b 2 : Nat)) ∧ w'.cell? ⟨w.heap.size + 1, 3, none⟩ = some (.int .u64 (limb b 3 : Nat)) ∧ Two' w w' a b)
    ((refine held2 ?_; repeat (first | with_reducible exact u4 | with_reducible exact u3 | with_reducible exact u2 | with_reducible exact u1 | with_reducible exact T0.out | with_reducible refine Two'.drew ?_ | with_reducible refine Two'.put4 ?_ (by omega) | with_reducible exact un_held2 (by with_reducible assumption))))
    (first
      | (go_at_call 87; refine (told_c v3 (a + b) 9 _ hv3 (by omega)).mono ?_; rintro e w4 ⟨rfl, hb4⟩; rw [show (if a + b < 2 ^ 256 then a + b else 0) = x from Hx.out.symm, show decide (a + b < 2 ^ 256) = ok from Hok.out.symm]; have u4 := u3.below hb4; have zz4 := zz3.below hb4 zz3.lt4; obtain ⟨y0, y1, y2, y3⟩ := zz4.frees4; obtain ⟨z0, z1, z2, z3⟩ := zz4.cells4; unfold U)
      | (go_at_call 88; refine (plus_c v1 v2 a b _ (hv1.below hb2) hv2).mono ?_; rintro e w3 ⟨⟨v3, rfl, hv3⟩, hb3⟩; have u3 := u2.below hb3; have zz3 := zz2.below hb3 zz2.lt4)
      | (go_at_call 89; with_reducible refine (ofn_c b _ Hb.out).mono ?_; rintro e w2 ⟨⟨v2, rfl, hv2⟩, hb2⟩; have u2 := u1.below hb2; have zz2 := zz1.below hb2 zz1.lt4)
      | (go_at_call 89; with_reducible refine (ofn_c a _ Ha.out).mono ?_; rintro e w1 ⟨⟨v1, rfl, hv1⟩, hb1⟩; have u1 : Two' w w1 a b := Two'.below (un_held2 (by with_reducible assumption)) hb1; have zz1 := Z0.out.drew.below hb1 Z0.out.drew.lt4))
  go_wp2
  refine bodyPost_ret (v := .tuple #[.agg #[.int .u64 (limb x 0 : Nat), .int .u64 (limb x 1 : Nat), .int .u64 (limb x 2 : Nat), .int .u64 (limb x 3 : Nat)], .bool ok]) (by simp [results, Try.results25, go_sem, z0, z1, z2, z3]) rfl ⟨rfl, below_set4 u4.l (by omega)⟩

def subv (a b : Nat) : Nat := if b ≤ a then a - b else 0
def subk (a b : Nat) : Bool := decide (b ≤ a)
theorem subv_lt {a : Nat} (b : Nat) (h : a < 2 ^ 256) : subv a b < 2 ^ 256 := by unfold subv; split <;> omega
set_option maxRecDepth 100000 in
set_option maxHeartbeats 4000000 in
theorem rsub_walk (a b : Nat) (w : World) (ha : a < 2 ^ 256) (hb : b < 2 ^ 256) :
    Calls Try.prog 111 #[U a, U b] w fun e w' => e = .returned (.tuple #[U (subv a b), .bool (subk a b)]) ∧ Below w.heap.size w w' := by
  have Ha := Lib.hid ha
  have Hb := Lib.hid hb
  by_cases hle : b ≤ a
  · have hx : subv a b = a - b := if_pos hle
    have hok : subk a b = true := decide_eq_true hle
    rw [hx, hok]
    obtain ⟨x, hx'⟩ : ∃ x, x = a - b := ⟨_, rfl⟩
    have hxl : x < 2 ^ 256 := by omega
    rw [← hx']
    have Hx := Lib.hid hx'
    have Hxl := Lib.hid hxl
    have Hle := Lib.hid hle
    clear ha hb hx hok hx' hxl hle
    unfold U
    go_enter Try.func111, Try.ntmps111
    go_upto_region 1 with (fail)
    have T0 := Lib.hid ((two_first (a := a) (b := b) (w := w) (t1 := 52) (t2 := 52)).alloc (.cells #[.int .u64 0, .int .u64 0, .int .u64 0, .int .u64 0] 52))
    have Z0 := Lib.hid (Arr.new4 (κ := .u64) (w := (w.alloc (.cells #[.int .u64 (limb a 0 : Nat), .int .u64 (limb a 1 : Nat), .int .u64 (limb a 2 : Nat), .int .u64 (limb a 3 : Nat)] 52)).alloc (.cells #[.int .u64 (limb b 0 : Nat), .int .u64 (limb b 1 : Nat), .int .u64 (limb b 2 : Nat), .int .u64 (limb b 3 : Nat)] 52)) (t := 52) (f := fun _ => 0) (b := w.heap.size + 1 + 1) (by simp))
    go_region_held3 (fun w' => w'.cell? ⟨w.heap.size, 0, none⟩ = some (.int .u64 (limb a 0 : Nat)) ∧ w'.cell? ⟨w.heap.size, 1, none⟩ = some (.int .u64 (limb a 1 : Nat)) ∧ w'.cell? ⟨w.heap.size, 2, none⟩ = some (.int .u64 (limb a 2 : Nat)) ∧ w'.cell? ⟨w.heap.size, 3, none⟩ = some (.int .u64 (limb a 3 : Nat)) ∧ w'.cell? ⟨w.heap.size + 1, 0, none⟩ = some (.int .u64 (limb b 0 : Nat)) ∧ w'.cell? ⟨w.heap.size + 1, 1, none⟩ = some (.int .u64 (limb b 1 : Nat)) ∧ w'.cell? ⟨w.heap.size + 1, 2, none⟩ = some (.int .u64 (limb b 2 : Nat)) ∧ w'.cell? ⟨w.heap.size + 1, 3, none⟩ = some (.int .u64 (limb b 3 : Nat)) ∧ Two' w w' a b)
      ((refine held2 ?_; repeat (first | with_reducible exact u3 | with_reducible exact u2 | with_reducible exact u1 | with_reducible exact T0.out | with_reducible refine Two'.drew ?_ | with_reducible exact un_held2 (by with_reducible assumption))))
      (first
        | (go_at_call 166; refine (minus_yes_c v1 v2 a b _ (hv1.below hb2) hv2 Hle.out).mono ?_; rintro e w3 ⟨⟨v3, rfl, hv3⟩, hb3⟩; have u3 := u2.below hb3; have zz3 := zz2.below hb3 zz2.lt4)
        | (go_at_call 89; with_reducible refine (ofn_c b _ Hb.out).mono ?_; rintro e w2 ⟨⟨v2, rfl, hv2⟩, hb2⟩; have u2 := u1.below hb2; have zz2 := zz1.below hb2 zz1.lt4)
        | (go_at_call 89; with_reducible refine (ofn_c a _ Ha.out).mono ?_; rintro e w1 ⟨⟨v1, rfl, hv1⟩, hb1⟩; have u1 : Two' w w1 a b := Two'.below (un_held2 (by with_reducible assumption)) hb1; have zz1 := Z0.out.drew.below hb1 Z0.out.drew.lt4))
    go_wp2_with (go_at_call 87; refine (told_c v3 (a - b) 8 _ hv3 (by omega)).mono ?_; rintro e w4 ⟨rfl, hb4⟩; rw [← Hx.out, if_pos Hxl.out, decide_eq_true Hxl.out]; have u4 := u3.below hb4; have zz4 := zz3.below hb4 zz3.lt4; obtain ⟨y0, y1, y2, y3⟩ := zz4.frees4; obtain ⟨z0, z1, z2, z3⟩ := zz4.cells4; unfold U)
    refine bodyPost_ret (v := .tuple #[.agg #[.int .u64 (limb x 0 : Nat), .int .u64 (limb x 1 : Nat), .int .u64 (limb x 2 : Nat), .int .u64 (limb x 3 : Nat)], .bool true]) (by simp [results, Try.results111, go_sem, z0, z1, z2, z3]) rfl ⟨rfl, below_set4 u4.l (by omega)⟩
  · have hx : subv a b = 0 := if_neg hle
    have hok : subk a b = false := decide_eq_false hle
    rw [hx, hok, U_zero]
    have Hlt := Lib.hid (show a < b by omega)
    clear ha hb hx hok hle
    unfold U
    go_enter Try.func111, Try.ntmps111
    go_upto_region 1 with (fail)
    have T0 := Lib.hid ((two_first (a := a) (b := b) (w := w) (t1 := 52) (t2 := 52)).alloc (.cells #[.int .u64 0, .int .u64 0, .int .u64 0, .int .u64 0] 52))
    have Z0 := Lib.hid (Arr.new4 (κ := .u64) (w := (w.alloc (.cells #[.int .u64 (limb a 0 : Nat), .int .u64 (limb a 1 : Nat), .int .u64 (limb a 2 : Nat), .int .u64 (limb a 3 : Nat)] 52)).alloc (.cells #[.int .u64 (limb b 0 : Nat), .int .u64 (limb b 1 : Nat), .int .u64 (limb b 2 : Nat), .int .u64 (limb b 3 : Nat)] 52)) (t := 52) (f := fun _ => 0) (b := w.heap.size + 1 + 1) (by simp))
    go_region_held3 (fun w' => w'.cell? ⟨w.heap.size, 0, none⟩ = some (.int .u64 (limb a 0 : Nat)) ∧ w'.cell? ⟨w.heap.size, 1, none⟩ = some (.int .u64 (limb a 1 : Nat)) ∧ w'.cell? ⟨w.heap.size, 2, none⟩ = some (.int .u64 (limb a 2 : Nat)) ∧ w'.cell? ⟨w.heap.size, 3, none⟩ = some (.int .u64 (limb a 3 : Nat)) ∧ w'.cell? ⟨w.heap.size + 1, 0, none⟩ = some (.int .u64 (limb b 0 : Nat)) ∧ w'.cell? ⟨w.heap.size + 1, 1, none⟩ = some (.int .u64 (limb b 1 : Nat)) ∧ w'.cell? ⟨w.heap.size + 1, 2, none⟩ = some (.int .u64 (limb b 2 : Nat)) ∧ w'.cell? ⟨w.heap.size + 1, 3, none⟩ = some (.int .u64 (limb b 3 : Nat)) ∧ Two' w w' a b)
      ((refine held2 ?_; repeat (first | with_reducible exact u3 | with_reducible exact u2 | with_reducible exact u1 | with_reducible exact T0.out | with_reducible refine Two'.drew ?_ | with_reducible exact un_held2 (by with_reducible assumption))))
      (first
        | (go_at_call 166; refine (minus_no_c v1 v2 a b _ (hv1.below hb2) hv2 Hlt.out).mono ?_; rintro e w3 ⟨rfl, hb3⟩; have u3 := u2.below hb3; have zz3 := zz2.below hb3 zz2.lt4)
        | (go_at_call 89; with_reducible refine (ofn_c b _ Hb.out).mono ?_; rintro e w2 ⟨⟨v2, rfl, hv2⟩, hb2⟩; have u2 := u1.below hb2; have zz2 := zz1.below hb2 zz1.lt4)
        | (go_at_call 89; with_reducible refine (ofn_c a _ Ha.out).mono ?_; rintro e w1 ⟨⟨v1, rfl, hv1⟩, hb1⟩; have u1 : Two' w w1 a b := Two'.below (un_held2 (by with_reducible assumption)) hb1; have zz1 := Z0.out.drew.below hb1 Z0.out.drew.lt4))
    obtain ⟨y0, y1, y2, y3⟩ := zz3.frees4
    obtain ⟨z0, z1, z2, z3⟩ := zz3.cells4
    go_wp2
    refine bodyPost_ret (v := .tuple #[.agg #[.int .u64 0, .int .u64 0, .int .u64 0, .int .u64 0], .bool false]) (by simp [results, Try.results111, go_sem, z0, z1, z2, z3]) rfl ⟨rfl, below_set4 u3.l (by omega)⟩

end Go.Proofs.Ytffipojlpdphiaa

namespace Go.Proofs.Ytffipojlpdphiaa
open Go.RowKit Go.Sort

theorem wpList_make_arr {P : Program} (w : World) {ops : Array Oper} {rest : List Oper} {o : Oper} {a : Act} {Q : Exit → Act → World → Prop}
    (hg : o.guard = none) (l c : Operand) (t : TypeId) (hop : o.op = Op.makeSlice t l c)
    (e : TypeId) (i : TypeInfo) (z : Value) (size : Nat) (h1 : P.underlying t = some (.slice e)) (h2 : P.info? e = some i) (h3 : i.zero = some z) (h4 : i.size = size)
    (kl kc : IntKind) (L C : Int) (n m : Nat) (hl : a.eval l = .int kl L) (hc : a.eval c = .int kc C) (hL : L = (n : Int)) (hC : C = (m : Int)) (hnm : n ≤ m) (b2 : i.bytes * m ≤ 281474976710656) (b3 : m ≤ maxLen)
    (hK : wpList P ops Q rest (a.put o.dst (.slice (some ⟨w.heap.size, 0, none⟩) n m)) (w.alloc (.cells (madeCells z.cells (m * size)) e))) :
    wpList P ops Q (o :: rest) a w := by
  subst h4
  have h63' : (m : Int) ≤ 9223372036854775807 := by
    have h := b3
    simp [maxLen] at h
    omega
  have hb' : (i.bytes : Int) * (m : Int) ≤ 281474976710656 := by
    have h : ((i.bytes * m : Nat) : Int) ≤ 281474976710656 := by omega
    rwa [Int.natCast_mul] at h
  have hr := run_make (P := P) w t e i z h1 h2 h3 kl kc n m (by omega) (by omega) hb' h63'
  simp only [Int.toNat_natCast] at hr
  refine wpList_plain hg fun K hK' => ?_
  subst hL
  subst hC
  unfold Oper.wp
  simp [execOp, hop, hl, hc, hr, Result.andThen]
  exact hK' _ _ hK
theorem Arr.Ws {w : World} {g N : Nat} {F : Nat → Nat} (h : Arr .u32 w g N F) (hF : ∀ i, F i < 2 ^ 32) (hg : g < w.heap.size) : Ws w (.slice (some ⟨g, 0, none⟩) N N) N F :=
  ⟨hF, .inr ⟨g, 0, N, rfl, Nat.le_refl _, hg, fun i hi => by rw [Nat.zero_add]; exact h.cell i hi⟩⟩
theorem nval_upd_at (f : Nat → Nat) (v : Nat) {i : Nat} : ∀ {n : Nat}, i < n → nval (upd f i v) n + f i * 2 ^ (32 * i) = nval f n + v * 2 ^ (32 * i)
  | 0, h => by omega
  | n + 1, h => by
    simp only [nval]
    by_cases hi : i = n
    · subst hi
      have e := nval_congr (f := upd f i v) (g := f) i (fun j hj => upd_ne f (by omega))
      rw [e, upd_same]; omega
    · have := nval_upd_at f v (show i < n by omega)
      rw [upd_ne f (fun e => hi e.symm)]; omega

def TimOut (n m : Nat) (f g : Nat → Nat) (B : Nat) (w : World) (x : Value) (wr : World) : Prop :=
  ∃ (i : Nat) (F : Nat → Nat), i ≤ n ∧ x = .int .i64 (i : Nat) ∧ (∀ t, F t < 2 ^ 32) ∧ (∀ t, i + m ≤ t → F t = 0) ∧ nval F (n + m) = nval f i * nval g m ∧
    Arr .u32 wr B (n + m) F ∧ Below w.heap.size w wr ∧ w.heap.size ≤ B ∧ B < wr.heap.size
def TimIn (n m i V0 : Nat) (f g : Nat → Nat) (B : Nat) (w : World) (y z : Value) (wr : World) : Prop :=
  ∃ (j c : Nat) (F : Nat → Nat), j ≤ m + 1 ∧ z = .int .i64 (j : Nat) ∧ y = .int .u64 (c : Nat) ∧ c < 2 ^ 32 ∧ (j = m + 1 → c = 0) ∧ (∀ t, F t < 2 ^ 32) ∧ (∀ t, i + m + 1 ≤ t → F t = 0) ∧ (j ≤ m → F (i + m) = 0) ∧
    nval F (n + m) + c * 2 ^ (32 * (i + j)) = V0 + f i * nval (padw g m) j * 2 ^ (32 * i) ∧
    Arr .u32 wr B (n + m) F ∧ Below w.heap.size w wr ∧ w.heap.size ≤ B ∧ B < wr.heap.size
theorem tim_math {Fk x gj lo hi c v v' V0 vb P Q R M X : Nat} (hv : v' + Fk * P = v + lo * P) (h : v + c * P = V0 + x * vb * Q) (hs : lo + hi * M = X) (hX : X = Fk + c + x * gj) (hP : P = R * Q) :
    v' + hi * (M * P) = V0 + x * (vb + gj * R) * Q := by
  have h1 := congrArg (· * P) hs
  simp only [Nat.add_mul, Nat.mul_assoc, hX] at h1
  have e : x * (vb + gj * R) * Q = x * vb * Q + x * (gj * P) := by rw [hP, Nat.mul_add, Nat.add_mul, Nat.mul_assoc, Nat.mul_assoc, Nat.mul_assoc]
  rw [e]
  omega

end Go.Proofs.Ytffipojlpdphiaa
