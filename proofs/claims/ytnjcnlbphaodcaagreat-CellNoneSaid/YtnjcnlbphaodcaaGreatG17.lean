/- u256.nextWord, walked. -/
import Derived.Test.YtnjcnlbphaodcaaGreatG12
import Derived.Test.YtnjcnlbphaodcaaGreatG15
import Derived.Test.YtnjcnlbphaodcaaGreatG16
import Derived.Test.YtnjcnlbphaodcaaGreatG13
namespace Go.Proofs.YtnjcnlbphaodcaaGreat
open Go.RowKit

theorem run_add64y (x c : Nat) (hc : c ≤ 1) (w : World) :
    (callFunc 76 #[.int .u64 (x : Nat), .int .u64 0, .int .u64 (c : Nat)]).run Tryz.prog w =
      .ok (.value (.tuple #[.int .u64 (s64 x 0 c : Nat), .int .u64 (c64 x 0 c : Nat)])) w := run_add64n x 0 c hc w

/-- the words of R * 2^64 + n -/
def withNext (n R : Nat) : Nat → Nat
  | 0 => n
  | i + 1 => limb R i
theorem val_withNext {n R : Nat} (hR : R < 2 ^ 256) : val (withNext n R) 5 = R * 2 ^ 64 + n := by
  have h := val4_limb hR
  simp only [val] at h ⊢
  simp only [withNext]
  omega
theorem withNext_lt {n R : Nat} (hn : n < 2 ^ 64) : ∀ i, withNext n R i < 2 ^ 64
  | 0 => hn
  | _ + 1 => limb_lt _ _

structure NwMem (w wr : World) (R D L : Nat) : Prop where
  r : Arr .u64 wr w.heap.size 4 (limb R)
  d : Arr .u64 wr (w.heap.size + 1) 4 (limb D)
  z : Arr .u64 wr (w.heap.size + 1 + 1) 4 (fun _ => 0)
  b : Below w.heap.size w wr
  l : w.heap.size + 1 + 1 < L
  s : L < wr.heap.size

theorem NwMem.drewN {w wr : World} {R D L : Nat} (h : NwMem w wr R D L) (n : Nat) : NwMem w (wr.drewN n) R D L :=
  ⟨h.r.drewN n, h.d.drewN n, h.z.drewN n, below_drewN h.b n, h.l, h.s⟩
theorem NwMem.set {w wr : World} {R D L k : Nat} {v : Value} (h : NwMem w wr R D L) : NwMem w (wr.setCell ⟨L, k, none⟩ v) R D L :=
  ⟨h.r.set_far (by have := h.l; omega), h.d.set_far (by have := h.l; omega), h.z.set_far (by have := h.l; omega), h.b.setCell (by have := h.l; simp; omega) _, h.l, by rw [World.size_setCell]; exact h.s⟩

/-- the guess is subtracted: the state at the head of that loop -/
def NwSub (w : World) (R D L g X : Nat) (c b i : Value) (wr : World) : Prop :=
  ∃ (k d e : Nat) (f : Nat → Nat), k ≤ 4 ∧ i = .int .i64 (k : Nat) ∧ c = .int .u64 (d : Nat) ∧ d < 2 ^ 64 ∧ b = .int .u64 (e : Nat) ∧ e ≤ 1 ∧ (∀ j, f j < 2 ^ 64) ∧
    val f 5 + val (limb D) k * g = X + (e + d) * 2 ^ (64 * k) ∧ Arr .u64 wr L 5 f ∧ NwMem w wr R D L
/-- the guess is put right: the state at the head of that loop -/
def NwFix (w : World) (R D L X : Nat) (gv b : Value) (wr : World) : Prop :=
  ∃ (g e : Nat) (f : Nat → Nat), gv = .int .u64 (g : Nat) ∧ g < 2 ^ 64 ∧ X / D ≤ g ∧ b = .int .u64 (e : Nat) ∧ e ≤ 1 ∧ (∀ j, f j < 2 ^ 64) ∧
    val f 5 + D * g = X + e * (2 ^ 64 * 2 ^ 256) ∧ Arr .u64 wr L 5 f ∧ NwMem w wr R D L
/-- the divisor is added: the state at the head of that loop -/
def NwAdd (w : World) (R D L V : Nat) (c i : Value) (wr : World) : Prop :=
  ∃ (k d : Nat) (f : Nat → Nat), k ≤ 4 ∧ i = .int .i64 (k : Nat) ∧ c = .int .u64 (d : Nat) ∧ d ≤ 1 ∧ (∀ j, f j < 2 ^ 64) ∧
    val f 5 + d * 2 ^ (64 * k) = V + val (limb D) k ∧ Arr .u64 wr L 5 f ∧ NwMem w wr R D L

theorem top_word {D : Nat} (h : D < 2 ^ 256) : limb D 3 * 2 ^ 192 ≤ D ∧ D < (limb D 3 + 1) * 2 ^ 192 := by
  have e : limb D 3 = D / 2 ^ 192 := by
    unfold limb; rw [Nat.mod_eq_of_lt]; exact (Nat.div_lt_iff_lt_mul (by decide)).2 h
  rw [e]; omega
theorem top_big {D : Nat} (h : D < 2 ^ 256) (h2 : 2 ^ 255 ≤ D) : 2 ^ 63 ≤ limb D 3 := by have := (top_word h).2; omega
theorem guess_over {R n D : Nat} (hR : R < D) (hD : D < 2 ^ 256) (hDn : 2 ^ 255 ≤ D) (hn : n < 2 ^ 64) (hc : limb R 3 < limb D 3) :
    (R * 2 ^ 64 + n) / D ≤ dq (limb R 3) (limb R 2) (limb D 3) ∧ dq (limb R 3) (limb R 2) (limb D 3) < 2 ^ 64 := by
  have h3 := top_big hD hDn
  refine ⟨word_over (P := 2 ^ 192) (by decide) ?_ (top_word hD).1 (by omega), quot_lt hc (limb_lt _ _)⟩
  have h := val4_limb (show R < 2 ^ 256 by omega)
  simp only [val] at h
  have l0 := limb_lt R 0
  have l1 := limb_lt R 1
  omega
theorem guess_most {R n D : Nat} (hR : R < D) (hn : n < 2 ^ 64) : (R * 2 ^ 64 + n) / D ≤ 18446744073709551615 := by
  have := quot_lt (B := 18446744073709551616) hR hn
  exact Nat.le_of_lt_succ this

theorem nw_step {x g d e fi : Nat} (hx : x < 2 ^ 64) (hg : g < 2 ^ 64) (hd : d < 2 ^ 64) (he : e ≤ 1) (hf : fi < 2 ^ 64) :
    mh x g + c64 (ml x g) d 0 < 2 ^ 64 ∧ r64 fi (s64 (ml x g) d 0) e + x * g + (e + d) = fi + (b64 fi (s64 (ml x g) d 0) e + (mh x g + c64 (ml x g) d 0)) * 2 ^ 64 := by
  have h1 := mhl x g
  have h2 := sc64 (ml x g) d 0
  have h3 := rb64 fi (s64 (ml x g) d 0) e hf (s64_lt _ _ _) he
  have h4 : x * g ≤ (2 ^ 64 - 1) * (2 ^ 64 - 1) := Nat.mul_le_mul (by omega) (by omega)
  generalize s64 (ml x g) d 0 = s1 at *
  generalize r64 fi s1 e = r at *
  generalize b64 fi s1 e = b at *
  generalize c64 (ml x g) d 0 = c1 at *
  generalize x * g = xg at *
  omega
theorem nw_sub_math {v v' fi r vD g X e d P x B M : Nat} (hv : v' + fi * P = v + r * P) (h : v + vD * g = X + (e + d) * P) (hs : r + x * g + (e + d) = fi + B * M) :
    v' + (vD + x * P) * g = X + B * (M * P) := by
  have h1 := congrArg (· * P) hs
  simp only [Nat.add_mul] at h1 h
  have e1 : (vD + x * P) * g = vD * g + x * g * P := by rw [Nat.add_mul, Nat.mul_right_comm]
  rw [e1, ← Nat.mul_assoc]
  omega

theorem nw_done {f : Nat → Nat} {X D g e : Nat} (he : e = 0) (hv : val f 5 + D * g = X + e * (2 ^ 64 * 2 ^ 256)) (hg : X / D ≤ g) (hD : D < 2 ^ 256) (hD0 : 0 < D) : g = X / D ∧ val f 4 = X % D := by
  rw [he, Nat.zero_mul, Nat.add_zero] at hv
  have h1 : g ≤ X / D := (Nat.le_div_iff_mul_le hD0).2 (by rw [Nat.mul_comm]; omega)
  have h2 : g = X / D := Nat.le_antisymm h1 hg
  have h3 := Nat.div_add_mod X D
  rw [← h2] at h3
  have h4 := Nat.mod_lt X hD0
  have h5 : val f 5 = val f 4 + f 4 * 2 ^ (64 * 4) := rfl
  refine ⟨h2, ?_⟩
  have h6 : f 4 = 0 := by
    rcases Nat.eq_zero_or_pos (f 4) with h | h
    · exact h
    · have := Nat.mul_le_mul_right (2 ^ (64 * 4)) h; omega
  rw [h6] at h5
  omega
theorem nw_big {f : Nat → Nat} {X D g : Nat} (hv : val f 5 + D * g = X + 1 * (2 ^ 64 * 2 ^ 256)) (hf : ∀ j, f j < 2 ^ 64) (hD0 : 0 < D) : X / D < g := by
  have h : val f 5 < 2 ^ 64 * 2 ^ (64 * 4) := val_lt' 4 hf
  refine (Nat.div_lt_iff_lt_mul hD0).2 ?_
  rw [Nat.mul_comm]
  generalize val f 5 = v at *
  omega
theorem nw_fix_math {v v' V D g X s x4 d c' : Nat} (hv : V + D * g = X + 1 * (2 ^ 64 * 2 ^ 256)) (h : v + d * 2 ^ 256 = V + D) (h4 : v' + x4 * 2 ^ 256 = v + s * 2 ^ 256) (hs : s + c' * 2 ^ 64 = x4 + 0 + d) (hg : 1 ≤ g) (hc : c' ≤ 1) :
    v' + D * (g - 1) = X + (1 - c') * (2 ^ 64 * 2 ^ 256) := by
  obtain ⟨k, rfl⟩ : ∃ k, g = k + 1 := ⟨g - 1, by omega⟩
  rw [Nat.mul_add, Nat.mul_one] at hv
  simp only [Nat.add_sub_cancel]
  generalize D * k = Dk at *
  omega

def NwPost (R n D : Nat) (w : World) (e : Ending) (w' : World) : Prop :=
  e = .returned (.tuple #[.int .u64 ((R * 2 ^ 64 + n) / D : Nat), U ((R * 2 ^ 64 + n) % D)]) ∧ Below w.heap.size w w'

end Go.Proofs.YtnjcnlbphaodcaaGreat

namespace Go.Proofs.YtnjcnlbphaodcaaGreat
open Go.RowKit

def DivPost (a b : Nat) (w : World) (e : Ending) (w' : World) : Prop :=
  e = .returned (.tuple #[U (if b = 0 then 0 else a / b), U (if b = 0 then 0 else a % b), .bool (decide (b ≠ 0))]) ∧ Below w.heap.size w w'
theorem divPost_yes {a b q r : Nat} {w w' : World} {e : Ending} (h : b ≠ 0) (hq : q = a / b) (hr : r = a % b) (he : e = .returned (.tuple #[U q, U r, .bool true])) (hw : Below w.heap.size w w') : DivPost a b w e w' := by
  unfold DivPost; rw [if_neg h, if_neg h, decide_eq_true h, ← hq, ← hr]; exact ⟨he, hw⟩
theorem divPost_no {a b : Nat} {w w' : World} {e : Ending} (h : b = 0) (he : e = .returned (.tuple #[U 0, U 0, .bool false])) (hw : Below w.heap.size w w') : DivPost a b w e w' := by
  unfold DivPost; rw [if_pos h, if_pos h, decide_eq_false (by simpa using h)]; exact ⟨he, hw⟩

structure DivMem (w wr : World) (D A R L8 L9 L10 L11 : Nat) (q : Nat → Nat) : Prop where
  z2 : Arr .u64 wr (w.heap.size + 1 + 1) 4 (fun _ => 0)
  z3 : Arr .u64 wr (w.heap.size + 1 + 1 + 1) 4 (fun _ => 0)
  d : Arr .u64 wr L8 4 (limb D)
  a : Arr .u64 wr L9 8 (limb A)
  r : Arr .u64 wr L10 4 (limb R)
  q : Arr .u64 wr L11 4 q
  b : Below w.heap.size w wr
  o1 : w.heap.size + 1 + 1 + 1 < L8
  o2 : L8 < L9
  o3 : L9 < L10
  o4 : L10 < L11
  o5 : L11 < wr.heap.size
theorem DivMem.drewN {w wr : World} {D A R L8 L9 L10 L11 : Nat} {q : Nat → Nat} (h : DivMem w wr D A R L8 L9 L10 L11 q) (n : Nat) : DivMem w (wr.drewN n) D A R L8 L9 L10 L11 q :=
  ⟨h.z2.drewN n, h.z3.drewN n, h.d.drewN n, h.a.drewN n, h.r.drewN n, h.q.drewN n, below_drewN h.b n, h.o1, h.o2, h.o3, h.o4, h.o5⟩
theorem DivMem.below {w wr w' : World} {D A R L8 L9 L10 L11 : Nat} {q : Nat → Nat} (h : DivMem w wr D A R L8 L9 L10 L11 q) (hb : Below wr.heap.size wr w') : DivMem w w' D A R L8 L9 L10 L11 q := by
  have := h.o1; have := h.o2; have := h.o3; have := h.o4; have := h.o5; have := hb.size
  exact ⟨h.z2.below hb (by omega), h.z3.below hb (by omega), h.d.below hb (by omega), h.a.below hb (by omega), h.r.below hb (by omega), h.q.below hb (by omega), h.b.trans (hb.mono (by omega)), h.o1, h.o2, h.o3, h.o4, by omega⟩
/-- a quotient's word is stored, and the new rest -/
theorem DivMem.step {w wr : World} {D A R R' L8 L9 L10 L11 k v : Nat} {q : Nat → Nat} (h : DivMem w wr D A R L8 L9 L10 L11 q) (hk : k < 4) :
    DivMem w (((((wr.setCell ⟨L11, k, none⟩ (.int .u64 (v : Nat))).setCell ⟨L10, 0, none⟩ (.int .u64 (limb R' 0 : Nat))).setCell ⟨L10, 1, none⟩ (.int .u64 (limb R' 1 : Nat))).setCell ⟨L10, 2, none⟩ (.int .u64 (limb R' 2 : Nat))).setCell ⟨L10, 3, none⟩ (.int .u64 (limb R' 3 : Nat)))
      D A R' L8 L9 L10 L11 (upd q k v) := by
  have := h.o1; have := h.o2; have := h.o3; have := h.o4; have := h.o5
  refine ⟨?_, ?_, ?_, ?_, ?_, ?_, ?_, h.o1, h.o2, h.o3, h.o4, by simp only [World.size_setCell]; exact h.o5⟩
  · exact ((((h.z2.set_far (by omega)).set_far (by omega)).set_far (by omega)).set_far (by omega)).set_far (by omega)
  · exact ((((h.z3.set_far (by omega)).set_far (by omega)).set_far (by omega)).set_far (by omega)).set_far (by omega)
  · exact ((((h.d.set_far (by omega)).set_far (by omega)).set_far (by omega)).set_far (by omega)).set_far (by omega)
  · exact ((((h.a.set_far (by omega)).set_far (by omega)).set_far (by omega)).set_far (by omega)).set_far (by omega)
  · refine Arr.congr (((((h.r.set_far (by omega)).set (by omega)).set (by omega)).set (by omega)).set (by omega)) fun i hi => ?_
    rcases (by omega : i = 0 ∨ i = 1 ∨ i = 2 ∨ i = 3) with rfl | rfl | rfl | rfl <;> simp [upd]
  · exact ((((h.q.set hk).set_far (by omega)).set_far (by omega)).set_far (by omega)).set_far (by omega)
  · exact ((((h.b.setCell (by simp; omega) _).setCell (by simp; omega) _).setCell (by simp; omega) _).setCell (by simp; omega) _).setCell (by simp; omega) _

/-- the state at the head of Div's loop -/
def DivRel (w : World) (D A L8 L9 L10 L11 : Nat) (i : Value) (wr : World) : Prop :=
  ∃ (k R : Nat) (q : Nat → Nat), k ≤ 4 ∧ i = .int .i64 (k : Nat) ∧ (∀ j, q j < 2 ^ 64) ∧ (∀ j, j < 4 - k → q j = 0) ∧
    R = A / 2 ^ (64 * (4 - k)) % D ∧ val q 4 = A / 2 ^ (64 * (4 - k)) / D * 2 ^ (64 * (4 - k)) ∧ DivMem w wr D A R L8 L9 L10 L11 q
theorem div_step {A D m : Nat} (hD : 0 < D) :
    A / 2 ^ (64 * m) / D = A / 2 ^ (64 * (m + 1)) / D * 2 ^ 64 + (A / 2 ^ (64 * (m + 1)) % D * 2 ^ 64 + limb A m) / D ∧
    A / 2 ^ (64 * m) % D = (A / 2 ^ (64 * (m + 1)) % D * 2 ^ 64 + limb A m) % D := by
  have e : A / 2 ^ (64 * m) = A / 2 ^ (64 * (m + 1)) * 2 ^ 64 + limb A m := by
    unfold limb
    rw [pow_succ64, Nat.mul_comm (2 ^ 64), ← Nat.div_div_eq_div_mul]
    exact (Nat.div_add_mod' _ _).symm
  rw [e]
  generalize A / 2 ^ (64 * (m + 1)) = Y
  have e2 : Y * 2 ^ 64 + limb A m = D * (Y / D * 2 ^ 64) + (Y % D * 2 ^ 64 + limb A m) := by
    have h := Nat.div_add_mod Y D
    have h1 := congrArg (· * 2 ^ 64) h
    simp only [Nat.add_mul, Nat.mul_assoc] at h1
    omega
  constructor
  · rw [e2, Nat.mul_add_div hD]
  · rw [e2, Nat.mul_add_mod]

theorem div_round {A D k R qn Rn X : Nat} {q : Nat → Nat} (hk : k < 4) (hD : 0 < D) (hR : R = A / 2 ^ (64 * (4 - k)) % D) (hv : val q 4 = A / 2 ^ (64 * (4 - k)) / D * 2 ^ (64 * (4 - k)))
    (hq0 : ∀ j, j < 4 - k → q j = 0) (hX : X = R * 2 ^ 64 + limb A (3 - k)) (hqn : qn = X / D) (hRn : Rn = X % D) :
    qn < 2 ^ 64 ∧ (∀ j, j < 4 - (k + 1) → upd q (3 - k) qn j = 0) ∧ Rn = A / 2 ^ (64 * (4 - (k + 1))) % D ∧ val (upd q (3 - k) qn) 4 = A / 2 ^ (64 * (4 - (k + 1))) / D * 2 ^ (64 * (4 - (k + 1))) := by
  obtain ⟨m, hm⟩ : ∃ m, m = 3 - k := ⟨_, rfl⟩
  rw [show 4 - k = m + 1 by omega] at hR hv hq0
  rw [← hm] at hX ⊢
  rw [show 4 - (k + 1) = m by omega]
  have st := div_step (A := A) (m := m) hD
  rw [← hR, ← hX, ← hqn, ← hRn] at st
  have hRD : R < D := by rw [hR]; exact Nat.mod_lt _ hD
  refine ⟨?_, fun j hj => ?_, st.2.symm, ?_⟩
  · rw [hqn, hX]; exact quot_lt hRD (limb_lt _ _)
  · rw [upd_ne _ (by omega)]; exact hq0 j (by omega)
  · have h1 := val_upd_at q qn (show m < 4 by omega)
    rw [hq0 m (by omega), hv, pow_succ64, Nat.zero_mul, Nat.add_zero] at h1
    rw [h1, st.1, Nat.add_mul, Nat.mul_assoc]; simp only [pow_succ64]
theorem div_end {a b s A D R : Nat} {q : Nat → Nat} (hb : b ≠ 0) (hA : A = a * 2 ^ s) (hD : D = b * 2 ^ s) (hR : R = A / 2 ^ (64 * (4 - 4)) % D) (hv : val q 4 = A / 2 ^ (64 * (4 - 4)) / D * 2 ^ (64 * (4 - 4))) :
    val q 4 = a / b ∧ R = a % b * 2 ^ s := by
  have e : (2 : Nat) ^ (64 * (4 - 4)) = 1 := rfl
  rw [e, Nat.div_one] at hR
  rw [e, Nat.div_one, Nat.mul_one] at hv
  have hp : 0 < 2 ^ s := Nat.pow_pos (by decide)
  rw [hv, hR, hA, hD, Nat.mul_div_mul_right _ _ hp, Nat.mul_mod_mul_right]
  exact ⟨rfl, rfl⟩

end Go.Proofs.YtnjcnlbphaodcaaGreat

namespace Go.Proofs.YtnjcnlbphaodcaaGreat
open Go.RowKit

def lit (n : Nat) : Value := .agg #[.int .u64 (n : Nat), .int .u64 0, .int .u64 0, .int .u64 0]
theorem U_small {n : Nat} (h : n < 2 ^ 64) : U n = lit n := by
  unfold U lit
  have h0 : limb n 0 = n := by unfold limb; simp; omega
  have h1 : ∀ i, 1 ≤ i → limb n i = 0 := fun i hi => by
    unfold limb
    rw [Nat.div_eq_of_lt (Nat.lt_of_lt_of_le h (Nat.pow_le_pow_right (by decide) (by omega)))]
  rw [h0, h1 1 (by omega), h1 2 (by omega), h1 3 (by omega)]; rfl
theorem sub12_c (w : World) : Calls Tryz.prog 55 #[.agg #[.int .u64 1, .int .u64 0, .int .u64 0, .int .u64 0], .agg #[.int .u64 2, .int .u64 0, .int .u64 0, .int .u64 0]] w
    fun e w' => e = .returned (.tuple #[.agg #[.int .u64 0, .int .u64 0, .int .u64 0, .int .u64 0], .bool false]) ∧ Below w.heap.size w w' := by
  have h := sub_walk 1 2 w (by decide) (by decide)
  rw [U_small (by decide), U_small (by decide)] at h
  exact h.mono fun e w' ⟨he, hw⟩ => ⟨by rw [he, if_neg (by decide), decide_eq_false (by decide), U_zero], hw⟩
theorem bytes258_c (w : World) : Calls Tryz.prog 63 #[.agg #[.int .u64 258, .int .u64 0, .int .u64 0, .int .u64 0]] w
    fun e w' => ∃ g, e = .returned (.slice (some ⟨g, 0, none⟩) 32 32) ∧ w'.cell? ⟨g, 30, none⟩ = some (.int .u8 1) ∧ w'.cell? ⟨g, 31, none⟩ = some (.int .u8 2) ∧ Below w.heap.size w w' := by
  have h := bytes_walk 258 w
  rw [U_small (by decide)] at h
  refine h.mono fun e w' ⟨g, he, _, _, ha, hw⟩ => ⟨g, he, ?_, ?_, hw⟩
  · rw [ha.cell 30 (by omega)]; rfl
  · rw [ha.cell 31 (by omega)]; rfl

end Go.Proofs.YtnjcnlbphaodcaaGreat
