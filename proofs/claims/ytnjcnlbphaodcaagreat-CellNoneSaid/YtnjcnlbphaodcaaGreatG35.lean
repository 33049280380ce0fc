/- The document's amounts in its store (tallageref10): Amount, SetAmount. -/
import Derived.Test.YtnjcnlbphaodcaaGreatG34
import Derived.Test.YtnjcnlbphaodcaaGreatG19
import Derived.Test.YtnjcnlbphaodcaaGreatG32
import Derived.Test.YtnjcnlbphaodcaaGreatG15
import Derived.Test.YtnjcnlbphaodcaaGreatG16
namespace Go.Proofs.YtnjcnlbphaodcaaGreat
open Go.RowKit Go.Maps Go.Sort

set_option maxRecDepth 100000 in
set_option maxHeartbeats 1000000 in
theorem ramt9_walk (a : Nat) (w : World) : Calls Tryz.prog 43 #[U a] w fun e w' => e = .returned (.string (amtStr a)) ∧ Below w.heap.size w w' := by
  have HB := Lib.hid (fun (W : World) => (rbytes_walk a W).mono fun e w' h => (show (∃ g cap, e = .returned (.slice (some ⟨g, 0, none⟩) 32 cap) ∧ ∀ i, i < 32 → w'.cell? ⟨g, i, none⟩ = some (.int .u8 (byteAt a (31 - i) : Nat))) ∧ Below W.heap.size W w' from by
    obtain ⟨⟨v, he, ho⟩, hb⟩ := h
    refine ⟨?_, hb⟩
    have ho2 := ho
    rcases ho.2 with ⟨rfl, h0⟩ | ⟨g, cap, cur, rfl, _⟩
    · cases h0
    · refine ⟨g, cap, he, fun i hi => ?_⟩
      rw [ho2.cellAt i (by omega)]
      simp [u8s, hi]))
  unfold U at HB ⊢
  go_enter Tryz.func43, Tryz.ntmps43
  go_wp2_with (go_at_call 64; refine (HB.out _).mono ?_; rintro e w1 ⟨⟨g, cap, rfl, hA⟩, hb1⟩; have hcv := run_convert_bytes_arg (P := Tryz.prog) w1 82 5 Tryz.underlying82 Tryz.underlying5 g 0 32 cap (amtL a) (by simp [amtL]) (fun i hi => by rw [Nat.zero_add, amtL_get a i hi]; exact hA i hi) 9 Tryz.underlying9; have HB1 := Lib.hid hb1; clear hA hb1)
  go_ret
  exact ⟨rfl, by first | exact HB1.out | exact ((Below.refl _ _).alloc (Nat.le_refl _) _).trans (HB1.out.mono (by simp))⟩
set_option maxRecDepth 100000 in
set_option maxHeartbeats 1000000 in
theorem ramount_at (w W : World) (m : Nat) (L : SL) (R : List Ch) (k : ByteArray) (a : Nat) (h : DS w W m L R) (hr : Rising (skeys L)) (hN : L.length ≤ 1000000) (he : amtAt L k a) (ha : a < 2 ^ 256) :
    Calls Tryz.prog 45 #[.pointer (some ⟨m, 0, none⟩), .string k] W fun e W' => e = .returned (U a) ∧ Below W.heap.size W W' := by
  obtain ⟨V, hV⟩ : ∃ V, V = (sget L k).getD ⟨#[]⟩ := ⟨_, rfl⟩
  have hV2 : fbv V = a := by
    rw [hV]
    rcases he with ⟨rfl, he⟩ | he
    · rw [he]; decide
    · rw [he]; exact amt_fbv a ha
  obtain ⟨ok, hok⟩ : ∃ ok, decide (V.size = 32) = ok := ⟨_, rfl⟩
  have hG := fun (W1 : World) (hb : Below W.heap.size W W1) => rget_walk m L k W1 (h.below hb).dl hr hN
  rw [← hV] at hG
  obtain ⟨is, his⟩ : ∃ y, y = (sget L k).isSome := ⟨_, rfl⟩
  rw [← his] at hG
  have HG := Lib.hid hG
  have hT := fun w => rtoAmount_walk V a ok w hV2 hok
  unfold U at hT ⊢
  have HT := Lib.hid hT
  have hb0 := (Below.refl W.heap.size W).alloc (Nat.le_refl _) (.cells #[.int .u64 0, .int .u64 0, .int .u64 0, .int .u64 0] 24)
  have r0 := heap_alloc_new W (.cells #[.int .u64 0, .int .u64 0, .int .u64 0, .int .u64 0] 24)
  have H0 := Lib.hid (And.intro hb0 r0)
  clear h hr hN he ha hV hV2 hok hG his hT hb0 r0
  go_enter Tryz.func45, Tryz.ntmps45
  go_wp2_with (first
    | (go_at_call 68; refine (HT.out _).mono ?_; rintro e w2 ⟨rfl, hb2⟩; have r2 := (hb2.block _ (hp_lt H0.out.2)).trans H0.out.2; have hbx := (Below.refl w2.heap.size w2).alloc (Nat.le_refl _) (.cells #[.int .u64 (limb a 0 : Nat), .int .u64 (limb a 1 : Nat), .int .u64 (limb a 2 : Nat), .int .u64 (limb a 3 : Nat)] 24); have rx := (hbx.block _ (hp_lt r2)).trans r2; have RX := Lib.hid rx; have H2 := Lib.hid (H0.out.1.trans ((hb2.trans (hbx.mono hb2.size)).mono H0.out.1.size)); have d0 := (hp_cell (i := 0) rx).trans rfl; have d1 := (hp_cell (i := 1) rx).trans rfl; have d2 := (hp_cell (i := 2) rx).trans rfl; have d3 := (hp_cell (i := 3) rx).trans rfl; have g0 := hp_free (i := 0) rx; have g1 := hp_free (i := 1) rx; have g2 := hp_free (i := 2) rx; have g3 := hp_free (i := 3) rx; clear hb2 r2 hbx rx)
    | (go_at_call 61; refine (HG.out _ H0.out.1).mono ?_; rintro e w1 ⟨rfl, rfl⟩))
  obtain ⟨e0, e1, e2, e3⟩ := ((arr_zero RX.out).put4 (n := a)).cells4
  refine bodyPost_ret (v := .agg #[.int .u64 (limb a 0 : Nat), .int .u64 (limb a 1 : Nat), .int .u64 (limb a 2 : Nat), .int .u64 (limb a 3 : Nat)]) (by simp [results, Tryz.results45, go_sem, e0, e1, e2, e3]) rfl ⟨rfl, below_set4 H2.out (Nat.le_refl _)⟩
/-- the changes that SetAmount leaves -/
def setAR (L : SL) (R : List Ch) (k : ByteArray) (a : Nat) : List Ch := if a = 0 then delR L R k else setR L R k (amtStr a)
theorem delR_le (L : SL) (R : List Ch) (k : ByteArray) : (delR L R k).length ≤ R.length + 1 := by
  unfold delR
  split <;> simp
theorem setAR_le (L : SL) (R : List Ch) (k : ByteArray) (a : Nat) : (setAR L R k a).length ≤ R.length + 1 := by
  unfold setAR
  split
  · exact delR_le L R k
  · unfold setR
    split
    · omega
    · split <;> simp
set_option maxRecDepth 100000 in
set_option maxHeartbeats 1000000 in
theorem rsetAmount_walk (w W : World) (m : Nat) (L : SL) (R : List Ch) (k : ByteArray) (a : Nat) (h : DS w W m L R) (hk0 : k ≠ ⟨#[]⟩) (hr : Rising (skeys L)) (hN : L.length < 1000000) (hR : R.length < 1000000) (ha : a < 2 ^ 256) :
    Calls Tryz.prog 20 #[.pointer (some ⟨m, 0, none⟩), .string k, U a] W fun e W' => e = .returned (.tuple #[]) ∧ DSTo w W W' m (setA L k a) (setAR L R k a) := by
  have hb0 := (Below.refl W.heap.size W).alloc (Nat.le_refl _) (.cells #[.int .u64 (limb a 0 : Nat), .int .u64 (limb a 1 : Nat), .int .u64 (limb a 2 : Nat), .int .u64 (limb a 3 : Nat)] 24)
  have hq0 := fun w => eq0_run ha w
  by_cases h0 : a = 0
  · have HD := Lib.hid ((rdel_walk w _ m L R k (h.below hb0) hr hN hR).mono fun e W' hp => (⟨⟨_, hp.1⟩, by unfold setA setAR; rw [if_pos h0, if_pos h0]; exact DSTo.pre h hb0 hp.2⟩ : (∃ z, e = .returned (.bool z)) ∧ DSTo w W W' m (setA L k a) (setAR L R k a)))
    rw [decide_eq_true h0] at hq0
    clear h hk0 ha hN hr hR hb0 h0
    unfold U
    go_enter Tryz.func20, Tryz.ntmps20
    go_wp2_with (go_at_call 38; refine HD.out.mono ?_; rintro e w2 ⟨⟨z, rfl⟩, h1⟩; have H1 := Lib.hid h1; clear h1)
    refine bodyPost_ret (v := .tuple #[]) (by simp [results, Tryz.results20, go_sem]) rfl ⟨rfl, H1.out⟩
  · have HS := Lib.hid (fun (W1 : World) (hb : Below W.heap.size W W1) => (rset_walk w W1 m L R k (amtStr a) (h.below hb) hr hN hR).mono fun e W' hp => (⟨⟨_, hp.1⟩, by unfold setA setAR; rw [if_neg h0, if_neg h0]; have h2 := DSTo.pre h hb hp.2; unfold setE at h2; rw [if_neg hk0] at h2; exact h2⟩ : (∃ z, e = .returned (.int .i64 z)) ∧ DSTo w W W' m (setA L k a) (setAR L R k a)))
    rw [decide_eq_false h0] at hq0
    have hAm := fun W1 => ramt9_walk a W1
    unfold U at hAm
    have HA := Lib.hid hAm
    have HB0 := Lib.hid hb0
    clear hAm h hk0 ha hN hr hR hb0 h0
    unfold U
    go_enter Tryz.func20, Tryz.ntmps20
    go_wp2_with (first
      | (go_at_call 39; refine (HS.out _ HB1.out).mono ?_; rintro e w2 ⟨⟨z, rfl⟩, h1⟩; have H1 := Lib.hid h1; clear h1)
      | (go_at_call 43; refine (HA.out _).mono ?_; rintro e w1 ⟨rfl, hb1⟩; have HB1 := Lib.hid (HB0.out.trans (hb1.mono HB0.out.size)); clear hb1))
    go_end0
    exact ⟨rfl, H1.out⟩
end Go.Proofs.YtnjcnlbphaodcaaGreat

namespace Go.Proofs.YtnjcnlbphaodcaaGreat
open Go.RowKit

/-- the lower and the upper word of s + a b + c -/
def apl (s a b c : Nat) : Nat := s64 (s64 (ml a b) c 0) s 0
def aph (s a b c : Nat) : Nat := mh a b + c64 (ml a b) c 0 + c64 (s64 (ml a b) c 0) s 0
theorem ap_eq {s a b c : Nat} (hs : s < 2 ^ 64) (ha : a < 2 ^ 64) (hb : b < 2 ^ 64) (hc : c < 2 ^ 64) :
    aph s a b c < 2 ^ 64 ∧ aph s a b c * 2 ^ 64 + apl s a b c = s + a * b + c := by
  have h := mul_step ha hb hc hs
  unfold aph apl
  have e1 : c64 (s64 (ml a b) c 0) s 0 = c64 s (s64 (ml a b) c 0) 0 := by unfold c64; congr 1; omega
  have e2 : s64 (s64 (ml a b) c 0) s 0 = s64 s (s64 (ml a b) c 0) 0 := by unfold s64; congr 1; omega
  rw [e1, e2]; exact h
theorem apl_lt (s a b c : Nat) : apl s a b c < 2 ^ 64 := s64_lt _ _ _

/-- a number of 512 bits, as the program holds it: the high half ahead -/
def W2 (n : Nat) : Value := .agg #[.int .u64 (limb n 4 : Nat), .int .u64 (limb n 5 : Nat), .int .u64 (limb n 6 : Nat), .int .u64 (limb n 7 : Nat), .int .u64 (limb n 0 : Nat), .int .u64 (limb n 1 : Nat), .int .u64 (limb n 2 : Nat), .int .u64 (limb n 3 : Nat)]
def JoinPost (n : Nat) (w : World) (e : Ending) (w' : World) : Prop := e = .returned (W2 n) ∧ Below w.heap.size w w'
/-- the state at the head of Mul's outer loop -/
def WMulOut (a b : Nat) (w : World) (i : Value) (wr : World) : Prop :=
  ∃ (k : Nat) (f : Nat → Nat), k ≤ 4 ∧ i = .int .i64 (k : Nat) ∧ (∀ j, f j < 2 ^ 64) ∧ (∀ j, k + 4 ≤ j → f j = 0) ∧ val f 8 = val (limb a) k * b ∧
    Arr .u64 wr w.heap.size 4 (limb a) ∧ Arr .u64 wr (w.heap.size + 1) 4 (limb b) ∧ Arr .u64 wr (w.heap.size + 1 + 1) 8 (fun _ => 0) ∧ Arr .u64 wr (w.heap.size + 1 + 1 + 1) 8 f ∧
    Below w.heap.size w wr ∧ w.heap.size + 1 + 1 + 1 < wr.heap.size
/-- the state at the head of its inner loop -/
def WMulIn (a b : Nat) (w : World) (k V0 : Nat) (c i : Value) (wr : World) : Prop :=
  ∃ (j d : Nat) (f : Nat → Nat), j ≤ 4 ∧ i = .int .i64 (j : Nat) ∧ c = .int .u64 (d : Nat) ∧ d < 2 ^ 64 ∧ (∀ j, f j < 2 ^ 64) ∧ (∀ j, k + 4 ≤ j → f j = 0) ∧
    val f 8 + d * 2 ^ (64 * (k + j)) = V0 + limb a k * val (limb b) j * 2 ^ (64 * k) ∧
    Arr .u64 wr w.heap.size 4 (limb a) ∧ Arr .u64 wr (w.heap.size + 1) 4 (limb b) ∧ Arr .u64 wr (w.heap.size + 1 + 1) 8 (fun _ => 0) ∧ Arr .u64 wr (w.heap.size + 1 + 1 + 1) 8 f ∧
    Below w.heap.size w wr ∧ w.heap.size + 1 + 1 + 1 < wr.heap.size
def WMulPost (a b : Nat) (w : World) (e : Ending) (w' : World) : Prop := e = .returned (W2 (a * b)) ∧ Below w.heap.size w w'

theorem Arr.set8 {w : World} {b : Nat} {f : Nat → Nat} {x0 x1 x2 x3 x4 x5 x6 x7 : Nat} (h : Arr .u64 w b 8 f) :
    Arr .u64 ((((((((w.setCell ⟨b, 0, none⟩ (.int .u64 (x0 : Nat))).setCell ⟨b, 1, none⟩ (.int .u64 (x1 : Nat))).setCell ⟨b, 2, none⟩ (.int .u64 (x2 : Nat))).setCell ⟨b, 3, none⟩ (.int .u64 (x3 : Nat))).setCell ⟨b, 4, none⟩ (.int .u64 (x4 : Nat))).setCell ⟨b, 5, none⟩ (.int .u64 (x5 : Nat))).setCell ⟨b, 6, none⟩ (.int .u64 (x6 : Nat))).setCell ⟨b, 7, none⟩ (.int .u64 (x7 : Nat))) b 8
      (upd (upd (upd (upd (upd (upd (upd (upd f 0 x0) 1 x1) 2 x2) 3 x3) 4 x4) 5 x5) 6 x6) 7 x7) :=
  (((((((h.set (by omega)).set (by omega)).set (by omega)).set (by omega)).set (by omega)).set (by omega)).set (by omega)).set (by omega)

end Go.Proofs.YtnjcnlbphaodcaaGreat

namespace Go.Proofs.YtnjcnlbphaodcaaGreat
open Go.RowKit

def shlA (l r : Nat) : Nat := l * 2 ^ r % 18446744073709551616
theorem shlA_lt (l r : Nat) : shlA l r < 2 ^ 64 := Nat.mod_lt _ (by decide)
theorem shlA_run (l r : Nat) : IntKind.u64.wrap ((l : Int) * 2 ^ r) = ((shlA l r : Nat) : Int) := by
  rw [IntKind.wrap_u64]; unfold shlA; rw [Int.natCast_emod, Int.natCast_mul, Int.natCast_pow]; rfl
theorem shlHi_lt {l r : Nat} (hl : l < 2 ^ 64) (hr : r < 64) : shlHi l r < 2 ^ r := by
  unfold shlHi
  refine (Nat.div_lt_iff_lt_mul (Nat.pow_pos (by decide))).2 ?_
  rw [← Nat.pow_add, show r + (64 - r) = 64 by omega]; exact hl
theorem or_join2 {y l r : Nat} (hy : y < 2 ^ 64) (hr : r < 64) : bits BinOp.or IntKind.u64 ((shlA l r : Nat) : Int) ((y : Int) / 2 ^ (64 - r)) = ((shlLo (shlHi y r) l r : Nat) : Int) := by
  have hx := shlHi_lt hy hr
  have h64 : 18446744073709551616 = 2 ^ r * 2 ^ (64 - r) := by rw [← Nat.pow_add, show r + (64 - r) = 64 by omega]
  have hle : 2 ^ r ≤ 2 ^ 64 := Nat.pow_le_pow_right (by decide) (by omega)
  have e : (y : Int) / 2 ^ (64 - r) = ((shlHi y r : Nat) : Int) := by unfold shlHi; rw [Int.natCast_ediv, Int.natCast_pow]; rfl
  rw [e, u64_or_nat _ _ (shlA_lt _ _) (by omega)]
  unfold shlA
  rw [nat_join r _ _ ?_ hx, Nat.add_comm]
  · rfl
  · rw [h64, Nat.mod_mul_right_mod]; exact Nat.mul_mod_left _ _
theorem limb_shl_low (n w r j : Nat) (hj : j < w) : limb (n * 2 ^ (64 * w + r)) j = 0 := by
  unfold limb
  have e : 64 * w + r = 64 * j + (64 + (64 * (w - 1 - j) + r)) := by omega
  rw [e, Nat.pow_add, Nat.pow_add, ← Nat.mul_assoc, Nat.mul_right_comm, Nat.mul_div_cancel _ (Nat.pow_pos (by decide)), Nat.mul_comm (2 ^ 64), ← Nat.mul_assoc]
  exact Nat.mul_mod_left _ _
theorem limb_shl0 (n w r : Nat) : limb (n * 2 ^ (64 * w + r)) w = shlA (limb n 0) r := by
  unfold limb shlA
  rw [Nat.pow_add, Nat.mul_comm (2 ^ (64 * w)), ← Nat.mul_assoc, Nat.mul_div_cancel _ (Nat.pow_pos (by decide))]
  simp only [Nat.mul_zero, Nat.pow_zero, Nat.div_one]
  show n * 2 ^ r % 2 ^ 64 = n % 2 ^ 64 * 2 ^ r % 2 ^ 64
  rw [Nat.mod_mul_mod]
theorem limb_shl (n w r m : Nat) (hr : r < 64) : limb (n * 2 ^ (64 * w + r)) (m + 1 + w) = shlLo (shlHi (limb n m) r) (limb n (m + 1)) r := by
  have hlo := shlLo_lt (l := limb n (m + 1)) (shlHi_lt (limb_lt n m) hr) hr
  have e0 : n * 2 ^ (64 * w + r) / 2 ^ (64 * (m + 1 + w)) = n / 2 ^ (64 * m) / 2 ^ (64 - r) := by
    rw [show 64 * (m + 1 + w) = (64 * w + r) + (64 * m + (64 - r)) by omega, Nat.pow_add 2 (64 * w + r), Nat.mul_comm n, Nat.mul_div_mul_left _ _ (Nat.pow_pos (by decide)), Nat.pow_add, Nat.div_div_eq_div_mul]
  have e1 : limb n (m + 1) = n / 2 ^ (64 * m) / 2 ^ 64 % 2 ^ 64 := by unfold limb; rw [Nat.div_div_eq_div_mul, ← Nat.pow_add]; congr 3
  have e2 : limb n m = n / 2 ^ (64 * m) % 2 ^ 64 := rfl
  have e3 : limb (n * 2 ^ (64 * w + r)) (m + 1 + w) = n / 2 ^ (64 * m) / 2 ^ (64 - r) % 2 ^ 64 := by unfold limb; rw [e0]
  rw [e3]
  rw [e1, e2] at hlo ⊢
  generalize n / 2 ^ (64 * m) = X at *
  have h64 : (2 : Nat) ^ 64 = 2 ^ r * 2 ^ (64 - r) := by rw [← Nat.pow_add, show r + (64 - r) = 64 by omega]
  have e4 : X / 2 ^ (64 - r) = X / 2 ^ 64 * 2 ^ r + shlHi (X % 2 ^ 64) r := by
    unfold shlHi
    have h := Nat.div_add_mod X (2 ^ 64)
    have h1 : X = 2 ^ (64 - r) * (X / 2 ^ 64 * 2 ^ r) + X % 2 ^ 64 := by
      rw [← Nat.mul_assoc, Nat.mul_right_comm, Nat.mul_comm (2 ^ (64 - r) * 2 ^ r), Nat.mul_comm (2 ^ (64 - r)), ← h64, Nat.mul_comm]; exact h.symm
    conv => lhs; rw [h1]
    rw [Nat.mul_add_div (Nat.pow_pos (by decide))]
  rw [e4]
  have e5 : (X / 2 ^ 64 * 2 ^ r) % 2 ^ 64 = X / 2 ^ 64 % 2 ^ 64 * 2 ^ r % 2 ^ 64 := by rw [Nat.mod_mul_mod]
  rw [Nat.add_mod, e5]
  have e6 : shlHi (X % 2 ^ 64) r % 2 ^ 64 = shlHi (X % 2 ^ 64) r := Nat.mod_eq_of_lt (Nat.lt_of_lt_of_le (shlHi_lt (Nat.mod_lt _ (by decide)) hr) (Nat.pow_le_pow_right (by decide) (by omega)))
  rw [e6]
  unfold shlLo at hlo ⊢
  rw [Nat.add_comm]
  exact Nat.mod_eq_of_lt hlo

/-- the words of a wide number as they lie: the high half ahead -/
def wl (n i : Nat) : Nat := if i < 4 then limb n (i + 4) else limb n (i - 4)
def eight (x0 x1 x2 x3 x4 x5 x6 x7 : Nat) : Nat → Nat
  | 0 => x0
  | 1 => x1
  | 2 => x2
  | 3 => x3
  | 4 => x4
  | 5 => x5
  | 6 => x6
  | 7 => x7
  | _ => 0
theorem Arr.newW {w : World} {b : Nat} {t : TypeId} {n : Nat} (hb : b = w.heap.size) :
    Arr .u64 (w.alloc (.cells #[.int .u64 (limb n 4 : Nat), .int .u64 (limb n 5 : Nat), .int .u64 (limb n 6 : Nat), .int .u64 (limb n 7 : Nat), .int .u64 (limb n 0 : Nat), .int .u64 (limb n 1 : Nat), .int .u64 (limb n 2 : Nat), .int .u64 (limb n 3 : Nat)] t)) b 8 (wl n) := by
  refine Arr.congr (Arr.new8 (f := eight (limb n 4) (limb n 5) (limb n 6) (limb n 7) (limb n 0) (limb n 1) (limb n 2) (limb n 3)) hb) fun i hi => ?_
  rcases (by omega : i = 0 ∨ i = 1 ∨ i = 2 ∨ i = 3 ∨ i = 4 ∨ i = 5 ∨ i = 6 ∨ i = 7) with rfl | rfl | rfl | rfl | rfl | rfl | rfl | rfl <;> simp [eight, wl]
def ShlWPost (n by_ : Nat) (w : World) (e : Ending) (w' : World) : Prop := e = .returned (W2 (n * 2 ^ by_)) ∧ Below w.heap.size w w'
def ShlWRel (n by_ words : Nat) (w : World) (i : Value) (wr : World) : Prop :=
  ∃ (k : Nat) (f : Nat → Nat), k ≤ 8 - words ∧ i = .int .i64 (k : Nat) ∧ (∀ j, j < k + words → f j = limb (n * 2 ^ by_) j) ∧
    Arr .u64 wr (w.heap.size + 1) 8 (fun _ => 0) ∧ Arr .u64 wr (w.heap.size + 1 + 1) 8 (limb n) ∧ Arr .u64 wr (w.heap.size + 1 + 1 + 1) 8 f ∧
    Below w.heap.size w wr ∧ w.heap.size + 1 + 1 + 1 < wr.heap.size

end Go.Proofs.YtnjcnlbphaodcaaGreat
