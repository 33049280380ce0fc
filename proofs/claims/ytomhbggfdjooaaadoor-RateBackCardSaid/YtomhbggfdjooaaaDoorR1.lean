/- The document's numbers as slices of words of 32 bits; tallageref01.trim, walked. -/
import Derived.Test.YtomhbggfdjooaaaDoorBase
import Derived.Laws.AppendOwn
namespace Go.Proofs.YtomhbggfdjooaaaDoor
open Go.RowKit

/-- Σ i < k, f i * 2^(32 i) -/
def nval (f : Nat → Nat) : Nat → Nat
  | 0 => 0
  | k + 1 => nval f k + f k * 2 ^ (32 * k)
theorem nval_congr {f g : Nat → Nat} : ∀ k, (∀ i, i < k → f i = g i) → nval f k = nval g k
  | 0, _ => rfl
  | k + 1, h => by simp only [nval]; rw [nval_congr k (fun i hi => h i (by omega)), h k (by omega)]
theorem pow_succ32 (k : Nat) : 2 ^ (32 * (k + 1)) = 2 ^ 32 * 2 ^ (32 * k) := by rw [← Nat.pow_add]; congr 1; omega
theorem nval_lt {f : Nat → Nat} : ∀ k, (∀ i, i < k → f i < 2 ^ 32) → nval f k < 2 ^ (32 * k)
  | 0, _ => by simp [nval]
  | k + 1, h => by
    have h1 := nval_lt k (fun i hi => h i (by omega))
    have h2 : f k + 1 ≤ 2 ^ 32 := h k (by omega)
    have h3 := Nat.mul_le_mul_right (2 ^ (32 * k)) h2
    simp only [nval]; rw [pow_succ32]; rw [Nat.add_mul] at h3; omega
theorem nval_top {f : Nat → Nat} {k : Nat} : ∀ {n : Nat}, k ≤ n → (∀ i, k ≤ i → i < n → f i = 0) → nval f n = nval f k
  | 0, hk, _ => by rw [show k = 0 by omega]
  | n + 1, hk, h => by
    rcases Nat.eq_or_lt_of_le hk with e | e
    · rw [e]
    · simp only [nval]; rw [h n (by omega) (by omega), nval_top (n := n) (by omega) (fun i h1 h2 => h i h1 (by omega))]; omega
/-- the k-th word of 32 bits -/
def w32 (n i : Nat) : Nat := n / 2 ^ (32 * i) % 2 ^ 32
theorem w32_lt (n i : Nat) : w32 n i < 2 ^ 32 := Nat.mod_lt _ (by decide)
theorem nval_w32 (n : Nat) : ∀ k, nval (w32 n) k = n % 2 ^ (32 * k)
  | 0 => by simp [nval, Nat.mod_one]
  | k + 1 => by
    simp only [nval]; rw [nval_w32 n k, w32, pow_succ32, Nat.mul_comm (2 ^ 32), Nat.mod_mul, Nat.mul_comm (n / 2 ^ (32 * k) % 2 ^ 32)]

/-- v is a slice of n words of 32 bits, f's values -/
structure Ws (w : World) (v : Value) (n : Nat) (f : Nat → Nat) : Prop where
  small : ∀ i, f i < 2 ^ 32
  at_ : (v = .slice none 0 0 ∧ n = 0) ∨ ∃ g o c, v = .slice (some ⟨g, o, none⟩) n c ∧ n ≤ c ∧ g < w.heap.size ∧ ∀ i, i < n → w.cell? ⟨g, o + i, none⟩ = some (.int .u32 (f i : Nat))
theorem Ws.below {w w' : World} {v : Value} {n : Nat} {f : Nat → Nat} (h : Ws w v n f) (hb : Below w.heap.size w w') : Ws w' v n f := by
  refine ⟨h.small, ?_⟩
  rcases h.at_ with h1 | ⟨g, o, c, e, hc, hg, hx⟩
  · exact .inl h1
  · exact .inr ⟨g, o, c, e, hc, Nat.lt_of_lt_of_le hg hb.size, fun i hi => by rw [hb.cell (p := ⟨g, o + i, none⟩) hg]; exact hx i hi⟩
theorem Ws.cut {w : World} {g o c n k : Nat} {f : Nat → Nat} (h : Ws w (.slice (some ⟨g, o, none⟩) n c) n f) (hk : k ≤ n) : Ws w (.slice (some ⟨g, o, none⟩) k c) k f := by
  refine ⟨h.small, ?_⟩
  rcases h.at_ with ⟨h1, _⟩ | ⟨g', o', c', e, hc, hg, hx⟩
  · cases h1
  · cases e
    exact .inr ⟨g, o, c, rfl, by omega, hg, fun i hi => hx i (by omega)⟩
/-- without noughts above -/
def Trimmed (n : Nat) (f : Nat → Nat) : Prop := n = 0 ∨ f (n - 1) ≠ 0
def TrimPost (w : World) (n : Nat) (f : Nat → Nat) (e : Ending) (w' : World) : Prop :=
  ∃ v k, e = .returned v ∧ k ≤ n ∧ Ws w v k f ∧ nval f k = nval f n ∧ Trimmed k f ∧ w' = w
def TrimRel (n : Nat) (f : Nat → Nat) (w : World) (x : Value) (wr : World) : Prop :=
  ∃ k : Nat, k ≤ n ∧ x = .int .i64 (k : Nat) ∧ (∀ i, k ≤ i → i < n → f i = 0) ∧ wr = w

set_option maxRecDepth 100000 in
set_option maxHeartbeats 1000000 in
theorem trim_walk (v : Value) (n : Nat) (f : Nat → Nat) (w : World) (h : Ws w v n f) (hn : n ≤ 1000) : Calls Tryd.prog 40 #[v] w (TrimPost w n f) := by
  rcases h.at_ with ⟨rfl, rfl⟩ | ⟨g, o, c, rfl, hc, hg, hx⟩
  · go_enter Tryd.func40, Tryd.ntmps40
    go_wp2
    go_loopw [3] (TrimRel 0 f w) (fun x _ => (intOf x).toNat)
    case atStart => exact ⟨0, Nat.le_refl _, rfl, fun i _ h => absurd h (by omega), rfl⟩
    case round =>
      obtain ⟨k, hk, rfl, hz, rfl⟩ := hrel
      obtain rfl : k = 0 := by omega
      go_wp2
      go_ret
      exact ⟨_, 0, rfl, Nat.le_refl _, h, rfl, .inl rfl, rfl⟩
  · go_enter Tryd.func40, Tryd.ntmps40
    go_wp2
    go_loopw [3] (TrimRel n f w) (fun x _ => (intOf x).toNat)
    case atStart => exact ⟨n, Nat.le_refl _, rfl, fun i h1 h2 => absurd h2 (by omega), rfl⟩
    case round =>
      obtain ⟨k, hk, rfl, hz, rfl⟩ := hrel
      have hkc : (k : Int) ≤ (c : Int) := by omega
      by_cases hk0 : k = 0
      · have q1 : ¬ (0 : Int) < (k : Int) := by omega
        have Hk0 := Lib.hid hk0
        have Hz := Lib.hid hz
        have Hh := Lib.hid h
        clear hk0 hz h hx
        go_wp2
        go_ret
        exact ⟨_, k, rfl, by omega, Hh.out.cut (by omega), (nval_top hk Hz.out).symm, .inl Hk0.out, rfl⟩
      · obtain ⟨m, hm⟩ : ∃ m, k = m + 1 := ⟨k - 1, by omega⟩
        have q1 : (0 : Int) < (k : Int) := by omega
        have q2 : IntKind.i64.wrap ((k : Int) - 1) = (k : Int) - 1 := IntWalk.i64_in _ (by omega)
        have q3 : ((k : Int) - 1).toNat = m := by omega
        have q4 : (0 : Int) ≤ (k : Int) - 1 := by omega
        have q5 : (k : Int) - 1 < (n : Int) := by omega
        have c1 := hx m (by omega)
        have Hm := Lib.hid hm
        have Hz := Lib.hid hz
        have Hh := Lib.hid h
        clear hm hz h hx
        by_cases h0 : f m = 0
        · have q6 : ((f m : Int) == 0) = true := by rw [h0]; rfl
          have H0 := Lib.hid h0
          clear h0
          go_wp2
          go_roundw
          case rel =>
            refine ⟨m, by have := Hm.out; omega, by congr 1; have := Hm.out; omega, fun i h1 h2 => ?_, rfl⟩
            rcases Nat.eq_or_lt_of_le h1 with e | e
            · rw [← e]; exact H0.out
            · exact Hz.out i (by have := Hm.out; omega) h2
          case measure => simp [intOf]; omega
        · have q6 : ((f m : Int) == 0) = false := by rw [beq_eq_false_iff_ne]; omega
          have H0 := Lib.hid h0
          clear h0
          go_wp2
          go_ret
          exact ⟨_, k, rfl, by omega, Hh.out.cut (by omega), (nval_top hk Hz.out).symm, .inr (by rw [Hm.out, Nat.add_sub_cancel]; exact H0.out), rfl⟩
end Go.Proofs.YtomhbggfdjooaaaDoor
