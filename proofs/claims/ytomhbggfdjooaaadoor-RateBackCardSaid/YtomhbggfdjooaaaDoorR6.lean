/- tallageref01.ToU, told, walked. -/
import Derived.Test.YtomhbggfdjooaaaDoorR5
import Derived.Test.YtomhbggfdjooaaaDoorU6
namespace Go.Proofs.YtomhbggfdjooaaaDoor
open Go.RowKit Go.Sort

/-- a word of 64 bits out of the first k of 32 -/
def outw (f : Nat → Nat) (k j : Nat) : Nat := padw f k (2 * j) + padw f k (2 * j + 1) * 4294967296
theorem outw_lt {f : Nat → Nat} (hf : ∀ i, f i < 2 ^ 32) (k j : Nat) : outw f k j < 2 ^ 64 := by
  have := padw_lt hf k (2 * j)
  have := padw_lt hf k (2 * j + 1)
  unfold outw; omega
theorem outw_val {f : Nat → Nat} {n : Nat} (hn : n ≤ 8) : val (outw f n) 4 = nval f n := by
  rw [← nval_pad f hn]
  simp only [val, nval, outw, Nat.reduceMul, Nat.reduceAdd]
  omega
theorem outw_far {f : Nat → Nat} {k i : Nat} (h : i ≠ k / 2) : outw f (k + 1) i = outw f k i := by
  unfold outw padw
  have h1 : (2 * i < k + 1) = (2 * i < k) := by apply propext; omega
  have h2 : (2 * i + 1 < k + 1) = (2 * i + 1 < k) := by apply propext; omega
  simp only [h1, h2]
theorem or_even {f : Nat → Nat} {j : Nat} (hf : ∀ i, f i < 2 ^ 32) : bits BinOp.or IntKind.u64 ((outw f (2 * j) j : Nat) : Int) ((f (2 * j) : Nat) : Int) = ((outw f (2 * j + 1) j : Nat) : Int) := by
  have h := hf (2 * j)
  have e0 : outw f (2 * j) j = 0 := by unfold outw padw; rw [if_neg (by omega), if_neg (by omega)]
  have e1 : outw f (2 * j + 1) j = f (2 * j) := by unfold outw padw; rw [if_pos (by omega), if_neg (by omega)]; omega
  rw [e0, e1, u64_or_nat _ _ (by decide) (by omega), Nat.zero_or]
theorem or_odd {f : Nat → Nat} {j : Nat} (hf : ∀ i, f i < 2 ^ 32) : bits BinOp.or IntKind.u64 ((outw f (2 * j + 1) j : Nat) : Int) ((f (2 * j + 1) : Nat) * 4294967296 : Int) = ((outw f (2 * j + 1 + 1) j : Nat) : Int) := by
  have h := hf (2 * j)
  have h1 := hf (2 * j + 1)
  have e0 : outw f (2 * j + 1) j = f (2 * j) := by unfold outw padw; rw [if_pos (by omega), if_neg (by omega)]; omega
  have e1 : outw f (2 * j + 1 + 1) j = f (2 * j) + f (2 * j + 1) * 4294967296 := by unfold outw padw; rw [if_pos (by omega), if_pos (by omega)]
  have e2 : ((f (2 * j + 1) : Nat) * 4294967296 : Int) = ((f (2 * j + 1) * 4294967296 : Nat) : Int) := by omega
  rw [e0, e1, e2, u64_or_nat _ _ (by omega) (by omega), Nat.or_comm, nat_join 32 _ _ ?_ h, Nat.add_comm]
  omega
def ToURel (n : Nat) (f : Nat → Nat) (w W1 : World) (x : Value) (wr : World) : Prop :=
  ∃ k : Nat, k ≤ n ∧ x = .int .i64 (k : Nat) ∧ Arr .u64 wr w.heap.size 4 (fun _ => 0) ∧ Arr .u64 wr (w.heap.size + 1) 4 (outw f k) ∧ Below (w.heap.size + 1) W1 wr ∧ w.heap.size + 1 < wr.heap.size
def ToUPost (N : Nat) (w : World) (e : Ending) (w' : World) : Prop :=
  e = .returned (.tuple #[U (if N < 2 ^ 256 then N else 0), .bool (decide (N < 2 ^ 256))]) ∧ Below w.heap.size w w'
theorem toUPost_yes {N n : Nat} {w w' : World} {e : Ending} (hn : n = N) (h : N < 2 ^ 256) (he : e = .returned (.tuple #[U n, .bool true])) (hw : Below w.heap.size w w') : ToUPost N w e w' := by
  subst hn; unfold ToUPost; rw [if_pos h, decide_eq_true h]; exact ⟨he, hw⟩
theorem toUPost_no {N : Nat} {w w' : World} {e : Ending} (h : ¬ N < 2 ^ 256) (he : e = .returned (.tuple #[U 0, .bool false])) (hw : Below w.heap.size w w') : ToUPost N w e w' := by
  unfold ToUPost; rw [if_neg h, decide_eq_false h]; exact ⟨he, hw⟩

set_option maxRecDepth 100000 in
set_option maxHeartbeats 4000000 in
theorem toU_walk (v : Value) (n : Nat) (f : Nat → Nat) (w : World) (h : Ws w v n f) (hn : n ≤ 100) :
    Calls Tryd.prog 35 #[v] w (ToUPost (nval f n) w) := by
  have Hh := Lib.hid h
  clear h
  go_enter Tryd.func35, Tryd.ntmps35
  go_wp2_with fail
  refine (trim_walk _ _ _ _ (Hh.out.below ((Below.refl _ _).alloc (Nat.le_refl _) _)) (by omega)).mono ?_
  rintro e w1 ⟨v1, n1, rfl, hn1, hw1, hv1, ht1, rfl⟩
  obtain ⟨A, ca, rfl, oa⟩ := hw1.open_
  have Hf := Lib.hid hw1.small
  have Oa := Lib.hid oa
  have Hv1 := Lib.hid hv1
  have Ht1 := Lib.hid ht1
  clear hw1 oa hv1 ht1
  by_cases h8 : n1 ≤ 8
  · have q1 : ¬ (8 : Int) < (n1 : Int) := by omega
    have hNl : nval f n < 2 ^ 256 := by
      rw [← Hv1.out]
      exact Nat.lt_of_lt_of_le (nval_lt n1 (fun i _ => Hf.out i)) (Nat.pow_le_pow_right (by decide) (by omega))
    have HNl := Lib.hid hNl
    clear hNl
    go_wp2
    go_loopw [15] (ToURel n1 f w (w.alloc (.cells #[.int .u64 0, .int .u64 0, .int .u64 0, .int .u64 0] 24))) (fun x _ => n1 - (intOf x).toNat)
    case atStart =>
      refine ⟨0, Nat.zero_le _, rfl, (Arr.new4 (f := fun _ => 0) rfl).alloc _, ?_, (Below.refl _ _).alloc (by simp only [World.size_alloc]; omega) _, by simp⟩
      exact Arr.congr (Arr.new4 (f := fun _ => 0) (by simp)) fun i _ => by unfold outw padw; rw [if_neg (by omega), if_neg (by omega)]
    case round =>
      obtain ⟨k, hk, rfl, hz, hs, hbel, hsz⟩ := hrel
      by_cases hlt : k < n1
      · have q2 : (k : Int) < (n1 : Int) := by omega
        obtain ⟨ga, ofa, rfl, hga, hxa⟩ := Oa.out (by omega)
        have hga' : ga < w.heap.size + 1 := by simpa using hga
        have c1 : wr.cell? ⟨ga, ofa + k, none⟩ = some (.int .u32 (f k : Nat)) := by rw [hbel.cell (p := ⟨ga, ofa + k, none⟩) hga']; exact hxa k hlt
        obtain ⟨j, hj⟩ : ∃ j, j = k / 2 := ⟨_, rfl⟩
        have hj4 : j < 4 := by omega
        have jI : (j : Int) < 4 := by omega
        have e1 : (k : Int) / 2 = (j : Int) := by omega
        have e2 : (k : Int).tdiv 2 = (j : Int) := by rw [Int.tdiv_eq_ediv_of_nonneg (by omega)]; omega
        have c4 := hs.cell j hj4
        have f4 := hs.free j hj4
        have s0 : IntKind.u64.wrap ((f k : Nat) : Int) = ((f k : Nat) : Int) := wrap_u64 (by have := Hf.out k; omega)
        have Hj := Lib.hid hj
        have hcong : ∀ i, i < 4 → upd (outw f k) j (outw f (k + 1) j) i = outw f (k + 1) i := fun i _ => by
          by_cases hi : i = j
          · rw [hi, upd_same]
          · rw [upd_ne _ hi, outw_far (by rw [← hj]; exact hi)]
        have Hcong := Lib.hid hcong
        have cases2 : (∃ h : Hid (k = 2 * j), True) ∨ (∃ h : Hid (k = 2 * j + 1), True) := by
          rcases (show k = 2 * j ∨ k = 2 * j + 1 by omega) with h | h
          · exact .inl ⟨Lib.hid h, trivial⟩
          · exact .inr ⟨Lib.hid h, trivial⟩
        clear hj hxa hga hcong
        rcases cases2 with ⟨hkj, _⟩ | ⟨hkj, _⟩
        · have e3 : (k : Int).tmod 2 = 0 := by have := hkj.out; rw [Int.tmod_eq_emod_of_nonneg (by omega)]; omega
          have o1 := or_even (j := j) Hf.out
          rw [← hkj.out] at o1
          go_wp2
          go_roundw
          case rel =>
            refine ⟨k + 1, by omega, by go_num, hz.set_far (by omega), (hs.set hj4).congr Hcong.out, hbel.setCell (by simp) _, by rw [World.size_setCell]; exact hsz⟩
          case measure => simp [intOf]; omega
        · have e3 : (k : Int).tmod 2 = 1 := by have := hkj.out; rw [Int.tmod_eq_emod_of_nonneg (by omega)]; omega
          have o1 := or_odd (j := j) Hf.out
          rw [← hkj.out] at o1
          have s5 : IntKind.u64.wrap ((f k : Nat) * 4294967296 : Int) = ((f k : Nat) * 4294967296 : Int) := by
            have := Hf.out k
            rw [show ((f k : Nat) * 4294967296 : Int) = ((f k * 4294967296 : Nat) : Int) by omega]; exact wrap_u64 (by omega)
          go_wp2
          go_roundw
          case rel =>
            refine ⟨k + 1, by omega, by go_num, hz.set_far (by omega), (hs.set hj4).congr Hcong.out, hbel.setCell (by simp) _, by rw [World.size_setCell]; exact hsz⟩
          case measure => simp [intOf]; omega
      · have q2 : ¬ (k : Int) < (n1 : Int) := by omega
        have hkn : k = n1 := by omega
        have hval : val (outw f k) 4 = nval f n := by rw [hkn, outw_val h8]; exact Hv1.out
        have Hval := Lib.hid hval
        clear hval hkn
        have hb2 := Lib.hid (((Below.refl w.heap.size w).alloc (Nat.le_refl _) _).trans (hbel.mono (by omega)))
        obtain ⟨s0, s1, s2, s3⟩ := hs.cells4
        obtain ⟨y0, y1, y2, y3⟩ := hz.frees4
        obtain ⟨z0, z1, z2, z3⟩ := hz.cells4
        go_wp2
        refine bodyPost_ret (v := .tuple #[.agg #[.int .u64 (outw f k 0 : Nat), .int .u64 (outw f k 1 : Nat), .int .u64 (outw f k 2 : Nat), .int .u64 (outw f k 3 : Nat)], .bool true]) (by simp [results, Tryd.results35, go_sem, z0, z1, z2, z3]) rfl (toUPost_yes Hval.out HNl.out ?_ (below_set4 hb2.out (by omega)))
        rw [U_of (outw_lt Hf.out k)]
  · have q1 : (8 : Int) < (n1 : Int) := by omega
    have hN : ¬ nval f n < 2 ^ 256 := by
      rw [← Hv1.out]
      obtain ⟨i, rfl⟩ : ∃ i, n1 = i + 1 := ⟨n1 - 1, by omega⟩
      rcases Ht1.out with h2 | h2
      · omega
      · rw [Nat.add_sub_cancel] at h2
        have h3 : 2 ^ 256 ≤ 2 ^ (32 * i) := Nat.pow_le_pow_right (by decide) (by omega)
        have h4 := Nat.mul_le_mul_right (2 ^ (32 * i)) (show 1 ≤ f i by omega)
        simp only [nval]
        omega
    have HN := Lib.hid hN
    clear hN
    go_wp2
    refine bodyPost_ret (v := .tuple #[.agg #[.int .u64 0, .int .u64 0, .int .u64 0, .int .u64 0], .bool false]) (by simp [results, Tryd.results35, go_sem]) rfl (toUPost_no HN.out (by rw [U_zero]) ((Below.refl _ _).alloc (Nat.le_refl _) _))
end Go.Proofs.YtomhbggfdjooaaaDoor
