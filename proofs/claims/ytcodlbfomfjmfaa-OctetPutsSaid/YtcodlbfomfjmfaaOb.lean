/- octet.Var, walked. -/
import Derived.Test.YtcodlbfomfjmfaaOa
namespace Go.Proofs.Ytcodlbfomfjmfaa
open Go.RowKit

/-- so many full groups has N -/
structure Grp (N k : Nat) : Prop where
  big : ∀ j, j < k → 128 ≤ N / 128 ^ j
  low : N / 128 ^ k < 128
theorem Grp.one {N k k' : Nat} (h : Grp N k) (h' : Grp N k') : k = k' := by
  rcases Nat.lt_trichotomy k k' with h1 | h1 | h1
  · have := h'.big k h1; have := h.low; omega
  · exact h1
  · have := h.big k' h1; have := h'.low; omega
/-- the bytes of N in groups -/
def vb (N k i : Nat) : Nat := if i < k then N / 128 ^ i % 128 + 128 else N / 128 ^ i
theorem grp_step (N k : Nat) : N / 128 ^ k / 128 = N / 128 ^ (k + 1) := by rw [Nat.div_div_eq_div_mul, ← Nat.pow_succ]
def VarRel (N : Nat) (w : World) (x l : Value) (wr : World) : Prop :=
  ∃ k : Nat, x = .int .i64 (N / 128 ^ k : Nat) ∧ k ≤ 9 ∧ (∀ j, j < k → 128 ≤ N / 128 ^ j) ∧ wr.ownsRow w.heap.size 5 1 l k (bys (fun i => N / 128 ^ i % 128 + 128) k) ∧ Below w.heap.size w wr
theorem or_bits (y : Nat) : bits .or .u8 ((y : Int) % 128) 128 = ((y % 128 + 128 : Nat) : Int) := by
  have h : ∀ x : Fin 128, bits .or .u8 ((x.val : Nat) : Int) 128 = ((x.val + 128 : Nat) : Int) := by decide
  have := h ⟨y % 128, Nat.mod_lt _ (by decide)⟩
  simpa using this
theorem obyte_cell (w : World) (x : Nat) (t : TypeId) : ∀ j u, ([.int .u8 (x : Nat)] : List Value)[j]? = some u → (w.alloc (.cells #[.int .u8 (x : Nat)] t)).cell? ((⟨w.heap.size, 0, none⟩ : Addr).add j) = some u := by
  intro j u h
  match j, h with
  | 0, h => simp at h; subst h; simp [Addr.add]
theorem obyte_one (x : Int) : ∀ u ∈ ([.int .u8 x] : List Value), u.oneCell' = true := fun u hu => by simp at hu; subst hu; rfl
theorem grp_lt {N k : Nat} (hN : N < 2 ^ 63) (h : 128 ≤ N / 128 ^ k) : k < 8 := by
  by_cases h8 : 8 ≤ k
  · have h1 : N / 128 ^ k ≤ N / 128 ^ 8 := Nat.div_le_div_left (Nat.pow_le_pow_right (by decide) h8) (by decide)
    have h2 : N / 128 ^ 8 < 128 := by omega
    omega
  · omega
theorem grp_most {N k : Nat} (h : Grp N k) (hN : N < 2 ^ 63) : k < 9 := by
  cases k with
  | zero => omega
  | succ j => have := grp_lt hN (h.big j (by omega)); omega
theorem vb_bys {N k : Nat} : bys (fun i => N / 128 ^ i % 128 + 128) k ++ [.int .u8 (N / 128 ^ k : Nat)] = bys (vb N k) (k + 1) := by
  rw [bys_succ]
  congr 1
  · exact bys_congr fun i hi => by simp [vb, hi]
  · simp [vb]
theorem vb_small {N k : Nat} (h : Grp N k) (i : Nat) : vb N k i < 256 := by
  unfold vb
  split
  · have := Nat.mod_lt (N / 128 ^ i) (show 0 < 128 by decide); omega
  · rename_i h1
    have h2 : N / 128 ^ i ≤ N / 128 ^ k := Nat.div_le_div_left (Nat.pow_le_pow_right (by decide) (by omega)) (Nat.pow_pos (by decide))
    have := h.low
    omega
set_option maxRecDepth 100000 in
set_option maxHeartbeats 2000000 in
theorem var_walk (A : Option Addr) (nb c : Nat) (f : Nat → Nat) (n : Int) (N : Nat) (w : World) (hl : Sl w A nb f) (hA : A = none → nb = 0 ∧ c = 0) (hnb : nb ≤ 2 ^ 18) (hn : n < 2 ^ 63) (hN : N = (max n 0).toNat) :
    Calls Try.prog 43 #[.slice A nb c, .int .i64 n] w fun e w' => (∃ v k, e = .returned v ∧ Grp N k ∧ w'.ownsRow w.heap.size 5 1 v (nb + (k + 1)) (bys (cat f nb (vb N k)) (nb + (k + 1)))) ∧ Below w.heap.size w w' := by
  obtain ⟨i0, hi, hz0, hz1, hz2⟩ := info_parts oinfoU8
  have hNl : N < 2 ^ 63 := by omega
  have HL := Lib.hid hl
  have HA := Lib.hid hA
  have H0 : n < 0 → (0 : Int) = ((N / 128 ^ 0 : Nat) : Int) := fun h => by simp; omega
  have H1 : ¬ n < 0 → n = ((N / 128 ^ 0 : Nat) : Int) := fun h => by simp; omega
  have G0 := Lib.hid H0
  have G1 := Lib.hid H1
  have HNl := Lib.hid hNl
  clear hl hA hN H0 H1 hNl
  go_enter Try.func43, Try.ntmps43
  go_wp2
  all_goals
    go_loopw [1, 5] (VarRel N w) (fun x _ _ => (intOf x).toNat)
    case atStart =>
      refine ⟨0, ?_, by omega, fun j hj => absurd hj (by omega), World.ownsRow_nil _ _ _ _, Below.refl _ _⟩
      congr 1
      first
        | exact G0.out (by omega)
        | exact G1.out (by omega)
    case round =>
      obtain ⟨k, rfl, hk, hbig, hv, hb⟩ := hrel
      obtain ⟨y, hy⟩ : ∃ y, y = N / 128 ^ k := ⟨_, rfl⟩
      have hyl : y < 2 ^ 63 := by rw [hy]; exact Nat.lt_of_le_of_lt (Nat.div_le_self _ _) HNl.out
      rw [← hy]
      have HY := Lib.hid hy
      have Hbig := Lib.hid hbig
      have hbs := hb.size
      by_cases hlt : 128 ≤ y
      · have hk8 : k < 8 := grp_lt HNl.out (by rw [← hy]; exact hlt)
        obtain ⟨z, hz⟩ : ∃ z, z = y % 128 + 128 := ⟨_, rfl⟩
        have hor := or_bits y
        rw [← hz] at hor
        have HZ := Lib.hid hz
        have p1 : (128 : Int) ≤ y := by omega
        have V := hv.alloc (.cells #[.int .u8 (z : Int)] 5)
        have hst : y / 128 = N / 128 ^ (k + 1) := by rw [hy, grp_step]
        have Hst := Lib.hid hst
        clear hy hbig hst hz
        go_wp2_with (at_builtin; refine wpList_append_own _ rfl _ _ _ rfl w.heap.size 5 i0 (.int .u8 0) 1 1 Try.underlying33 hi hz0 hz1 hz2 rfl (by omega) _ k _ rfl V ⟨wr.heap.size, 0, none⟩ 1 1 [.int .u8 (z : Int)] rfl rfl (obyte_cell _ _ _) (obyte_one _) (by unfold maxLen; omega) (by omega) (by simp; omega) ?_)
        intro v2 w2 hown hgrow _
        have ez : bys (fun i => N / 128 ^ i % 128 + 128) k ++ [.int .u8 (z : Int)] = bys (fun i => N / 128 ^ i % 128 + 128) (k + 1) := by rw [bys_succ, HZ.out, HY.out]
        rw [ez] at hown
        have Hown := Lib.hid hown
        have Hb := Lib.hid ((hb.alloc hbs (.cells #[.int .u8 (z : Int)] 5)).grown hgrow (by simp; omega) (fun q hq => (hv.lt q hq).1))
        have Hnew := Lib.hid (fun j (hj : j < k + 1) => (Nat.lt_or_eq_of_le (Nat.le_of_lt_succ hj)).elim (Hbig.out j) (fun (e : j = k) => by rw [e, ← HY.out]; exact hlt))
        clear hown hgrow hb hv V ez
        go_wp2
        refine ⟨⟨k + 1, ?_, by omega, Hnew.out, Hown.out, Hb.out⟩, ?_⟩
        · rw [← Hst.out]; simp
        · simp [intOf]; omega
      · have p1 : ¬ (128 : Int) ≤ y := by omega
        have hk9 := hk
        have V := hv.alloc (.cells #[.int .u8 (y : Int)] 5)
        have q1 : (y : Int) % 256 = y := by omega
        have Hg := Lib.hid (⟨hbig, by rw [← hy]; omega⟩ : Grp N k)
        clear hy hbig
        go_wp2_with (at_builtin; refine wpList_append_own _ rfl _ _ _ rfl w.heap.size 5 i0 (.int .u8 0) 1 1 Try.underlying33 hi hz0 hz1 hz2 rfl (by omega) _ k _ rfl V ⟨wr.heap.size, 0, none⟩ 1 1 [.int .u8 (y : Int)] rfl rfl (obyte_cell _ _ _) (obyte_one _) (by unfold maxLen; omega) (by omega) (by simp; omega) ?_)
        intro v2 w2 hown hgrow _
        have ez : bys (fun i => N / 128 ^ i % 128 + 128) k ++ [.int .u8 (y : Int)] = bys (vb N k) (k + 1) := by rw [HY.out]; exact vb_bys
        rw [ez] at hown
        have Hb := (hb.alloc hbs (.cells #[.int .u8 (y : Int)] 5)).grown hgrow (by simp; omega) (fun q hq => (hv.lt q hq).1)
        have hbs2 := Hb.size
        have hs0 := HL.out.below Hb
        obtain ⟨A1, c1, rfl, hs1, z1⟩ := own_sl hown (vb_small Hg.out)
        have HC := Lib.hid (concat2_c A A1 nb (k + 1) c c1 f (vb N k) w2 hs0 hs1 HA.out z1 (by omega) (by omega) 33)
        have HB := Lib.hid Hb
        clear hown hgrow hb hv V ez hs0 hs1 z1 Hb
        go_wp2_with (go_at_call 110; refine HC.out.mono ?_; rintro e w3 ⟨⟨v3, rfl, hv3⟩, hb3⟩)
        go_ret
        exact ⟨⟨_, k, rfl, Hg.out, own_base hv3 hbs2⟩, HB.out.trans (hb3.mono hbs2)⟩
end Go.Proofs.Ytcodlbfomfjmfaa
