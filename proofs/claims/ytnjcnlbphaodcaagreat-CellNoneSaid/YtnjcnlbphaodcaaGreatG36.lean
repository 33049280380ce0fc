/- muldiv.shiftRight, walked. -/
import Derived.Test.YtnjcnlbphaodcaaGreatG16
import Derived.Test.YtnjcnlbphaodcaaGreatG17
import Derived.Test.YtnjcnlbphaodcaaGreatG35
namespace Go.Proofs.YtnjcnlbphaodcaaGreat
open Go.RowKit

end Go.Proofs.YtnjcnlbphaodcaaGreat

namespace Go.Proofs.YtnjcnlbphaodcaaGreat
open Go.RowKit

theorem wnw_step {x g d e fi : Nat} (hx : x < 2 ^ 64) (hg : g < 2 ^ 64) (hd : d < 2 ^ 64) (he : e ≤ 1) (hf : fi < 2 ^ 64) :
    aph 0 x g d < 2 ^ 64 ∧ r64 fi (apl 0 x g d) e + x * g + (e + d) = fi + (b64 fi (apl 0 x g d) e + aph 0 x g d) * 2 ^ 64 := by
  have h1 := ap_eq (show 0 < 2 ^ 64 by decide) hx hg hd
  have h3 := rb64 fi (apl 0 x g d) e hf (apl_lt _ _ _ _) he
  generalize apl 0 x g d = s1 at *
  generalize aph 0 x g d = p at *
  generalize r64 fi s1 e = r at *
  generalize b64 fi s1 e = b at *
  generalize x * g = xg at *
  omega

end Go.Proofs.YtnjcnlbphaodcaaGreat

namespace Go.Proofs.YtnjcnlbphaodcaaGreat
open Go.RowKit

theorem eqU9 (a0 a1 a2 a3 b0 b1 b2 b3 : Int) (w : World) : (Op.equalIn 9999 24 (.agg #[.int .u64 a0, .int .u64 a1, .int .u64 a2, .int .u64 a3]) (.agg #[.int .u64 b0, .int .u64 b1, .int .u64 b2, .int .u64 b3])).run Tryz.prog w =
   .ok (a0 == b0 && a1 == b1 && a2 == b2 && a3 == b3) w := by
  have u3 := Tryz.underlying22
  have aa := Tryz.isAgg22
  have z3 := Tryz.sizeOf22
  rw [show (9999 : Nat) = 9998 + 1 from rfl, Op.equalIn]
  simp only [Sem.run_bind, run_underlying Tryz.underlying24, Result.andThen_ok]
  simp only [Std.Legacy.Range.forIn_eq_forIn_range', Std.Legacy.Range.size, Nat.sub_zero, Nat.add_sub_cancel, Nat.div_one, List.range'_succ, List.range'_zero, List.forIn_cons, List.forIn_nil]
  go_simp
  by_cases h1 : a0 = b0 <;> by_cases h2 : a1 = b1 <;> by_cases h3 : a2 = b2 <;> by_cases h4 : a3 = b3 <;> simp [h1, h2, h3, h4]
/-- a wide number of two halves, as the program holds it -/
def WW (H L : Nat) : Value := .agg #[.int .u64 (limb H 0 : Nat), .int .u64 (limb H 1 : Nat), .int .u64 (limb H 2 : Nat), .int .u64 (limb H 3 : Nat), .int .u64 (limb L 0 : Nat), .int .u64 (limb L 1 : Nat), .int .u64 (limb L 2 : Nat), .int .u64 (limb L 3 : Nat)]
def wh (H L i : Nat) : Nat := if i < 4 then limb H i else limb L (i - 4)
theorem W2_halves (n : Nat) : W2 n = WW (n / 2 ^ 256) (n % 2 ^ 256) := by
  unfold W2 WW
  rw [limb_mod (k := 4) (by omega), limb_mod (k := 4) (by omega), limb_mod (k := 4) (by omega), limb_mod (k := 4) (by omega), limb_div n 0 4, limb_div n 1 4, limb_div n 2 4, limb_div n 3 4]
theorem halves {H L : Nat} (hL : L < 2 ^ 256) : (H * 2 ^ 256 + L) / 2 ^ 256 = H ∧ (H * 2 ^ 256 + L) % 2 ^ 256 = L := by omega
theorem W2_of {H L : Nat} (hL : L < 2 ^ 256) : W2 (H * 2 ^ 256 + L) = WW H L := by rw [W2_halves, (halves hL).1, (halves hL).2]
def quoOk (n d : Nat) : Prop := d ≠ 0 ∧ n / d < 2 ^ 256
instance (n d : Nat) : Decidable (quoOk n d) := by unfold quoOk; infer_instance
def QuoPost (n d : Nat) (w : World) (e : Ending) (w' : World) : Prop :=
  e = .returned (.tuple #[U (if quoOk n d then n / d else 0), U (if quoOk n d then n % d else 0), .bool (decide (quoOk n d))]) ∧ Below w.heap.size w w'
theorem quoPost_yes {n d q r : Nat} {w w' : World} {e : Ending} (h : quoOk n d) (hq : q = n / d) (hr : r = n % d) (he : e = .returned (.tuple #[U q, U r, .bool true])) (hw : Below w.heap.size w w') : QuoPost n d w e w' := by
  unfold QuoPost; rw [if_pos h, if_pos h, decide_eq_true h, ← hq, ← hr]; exact ⟨he, hw⟩
theorem quoPost_no {n d : Nat} {w w' : World} {e : Ending} (h : ¬ quoOk n d) (he : e = .returned (.tuple #[U 0, U 0, .bool false])) (hw : Below w.heap.size w w') : QuoPost n d w e w' := by
  unfold QuoPost; rw [if_neg h, if_neg h, decide_eq_false h]; exact ⟨he, hw⟩
theorem quo_small {n d : Nat} (hn : n < 2 ^ 256) : (quoOk n d ↔ d ≠ 0) := ⟨fun h => h.1, fun h => ⟨h, Nat.lt_of_le_of_lt (Nat.div_le_self _ _) hn⟩⟩
theorem quo_iff {H L d : Nat} (hL : L < 2 ^ 256) (hd : d ≠ 0) : (H * 2 ^ 256 + L) / d < 2 ^ 256 ↔ H < d := by
  rw [Nat.div_lt_iff_lt_mul (by omega)]
  constructor
  · intro h
    rcases Nat.lt_or_ge H d with h1 | h1
    · exact h1
    · have := Nat.mul_le_mul_left (2 ^ 256) h1; omega
  · intro h
    have := Nat.mul_le_mul_left (2 ^ 256) (show H + 1 ≤ d from h); omega

structure WDivMem (w wr : World) (D A R L8 L9 L10 L11 : Nat) (q : Nat → Nat) : Prop where
  z2 : Arr .u64 wr (w.heap.size + 1 + 1) 4 (fun _ => 0)
  z3 : Arr .u64 wr (w.heap.size + 1 + 1 + 1) 4 (fun _ => 0)
  d : Arr .u64 wr L8 4 (limb D)
  a : Arr .u64 wr L9 8 (wl A)
  r : Arr .u64 wr L10 4 (limb R)
  q : Arr .u64 wr L11 4 q
  b : Below w.heap.size w wr
  o1 : w.heap.size + 1 + 1 + 1 < L8
  o2 : L8 < L9
  o3 : L9 < L10
  o4 : L10 < L11
  o5 : L11 < wr.heap.size
theorem WDivMem.drewN {w wr : World} {D A R L8 L9 L10 L11 : Nat} {q : Nat → Nat} (h : WDivMem w wr D A R L8 L9 L10 L11 q) (n : Nat) : WDivMem w (wr.drewN n) D A R L8 L9 L10 L11 q :=
  ⟨h.z2.drewN n, h.z3.drewN n, h.d.drewN n, h.a.drewN n, h.r.drewN n, h.q.drewN n, below_drewN h.b n, h.o1, h.o2, h.o3, h.o4, h.o5⟩
theorem WDivMem.below {w wr w' : World} {D A R L8 L9 L10 L11 : Nat} {q : Nat → Nat} (h : WDivMem w wr D A R L8 L9 L10 L11 q) (hb : Below wr.heap.size wr w') : WDivMem w w' D A R L8 L9 L10 L11 q := by
  have := h.o1; have := h.o2; have := h.o3; have := h.o4; have := h.o5; have := hb.size
  exact ⟨h.z2.below hb (by omega), h.z3.below hb (by omega), h.d.below hb (by omega), h.a.below hb (by omega), h.r.below hb (by omega), h.q.below hb (by omega), h.b.trans (hb.mono (by omega)), h.o1, h.o2, h.o3, h.o4, by omega⟩
theorem WDivMem.step {w wr : World} {D A R R' L8 L9 L10 L11 k v : Nat} {q : Nat → Nat} (h : WDivMem w wr D A R L8 L9 L10 L11 q) (hk : k < 4) :
    WDivMem w (((((wr.setCell ⟨L11, k, none⟩ (.int .u64 (v : Nat))).setCell ⟨L10, 0, none⟩ (.int .u64 (limb R' 0 : Nat))).setCell ⟨L10, 1, none⟩ (.int .u64 (limb R' 1 : Nat))).setCell ⟨L10, 2, none⟩ (.int .u64 (limb R' 2 : Nat))).setCell ⟨L10, 3, none⟩ (.int .u64 (limb R' 3 : Nat)))
      D A R' L8 L9 L10 L11 (upd q k v) := by
  have := h.o1; have := h.o2; have := h.o3; have := h.o4; have := h.o5
  refine ⟨?_, ?_, ?_, ?_, ?_, ?_, ?_, h.o1, h.o2, h.o3, h.o4, by simp only [World.size_setCell]; exact h.o5⟩
  · exact ((((h.z2.set_far (by omega)).set_far (by omega)).set_far (by omega)).set_far (by omega)).set_far (by omega)
  · exact ((((h.z3.set_far (by omega)).set_far (by omega)).set_far (by omega)).set_far (by omega)).set_far (by omega)
  · exact ((((h.d.set_far (by omega)).set_far (by omega)).set_far (by omega)).set_far (by omega)).set_far (by omega)
  · exact ((((h.a.set_far (by omega)).set_far (by omega)).set_far (by omega)).set_far (by omega)).set_far (by omega)
  · refine Arr.congr (((((h.r.set_far (by omega)).set (by omega)).set (by omega)).set (by omega)).set (by omega)) fun i hi => ?_
    rcases (by omega : i = 0 ∨ i = 1 ∨ i = 2 ∨ i = 3) with rfl | rfl | rfl | rfl <;> simp [upd]
  · exact ((((h.q.set hk).set_far (by omega)).set_far (by omega)).set_far (by omega)).set_far (by omega)
  · exact ((((h.b.setCell (by simp; omega) _).setCell (by simp; omega) _).setCell (by simp; omega) _).setCell (by simp; omega) _).setCell (by simp; omega) _
def WDivRel (w : World) (D A L8 L9 L10 L11 : Nat) (i : Value) (wr : World) : Prop :=
  ∃ (k R : Nat) (q : Nat → Nat), k ≤ 4 ∧ i = .int .i64 (k : Nat) ∧ (∀ j, q j < 2 ^ 64) ∧ (∀ j, j < 4 - k → q j = 0) ∧
    R = A / 2 ^ (64 * (4 - k)) % D ∧ val q 4 = A / 2 ^ (64 * (4 - k)) / D * 2 ^ (64 * (4 - k)) ∧ WDivMem w wr D A R L8 L9 L10 L11 q

/-- the four blocks that a run of Quo begins with -/
theorem quo_first {H L d : Nat} {w W : World} {t1 t2 t3 t4 : TypeId}
    (hW : Below (w.heap.size + 1 + 1 + 1 + 1) ((((w.alloc (.cells #[.int .u64 (limb H 0 : Nat), .int .u64 (limb H 1 : Nat), .int .u64 (limb H 2 : Nat), .int .u64 (limb H 3 : Nat), .int .u64 (limb L 0 : Nat), .int .u64 (limb L 1 : Nat), .int .u64 (limb L 2 : Nat), .int .u64 (limb L 3 : Nat)] t1)).alloc (.cells #[.int .u64 (limb d 0 : Nat), .int .u64 (limb d 1 : Nat), .int .u64 (limb d 2 : Nat), .int .u64 (limb d 3 : Nat)] t2)).alloc (.cells #[.int .u64 0, .int .u64 0, .int .u64 0, .int .u64 0] t3)).alloc (.cells #[.int .u64 0, .int .u64 0, .int .u64 0, .int .u64 0] t4)) W) :
    Arr .u64 W w.heap.size 8 (wh H L) ∧ Arr .u64 W (w.heap.size + 1) 4 (limb d) ∧ Arr .u64 W (w.heap.size + 1 + 1) 4 (fun _ => 0) ∧ Arr .u64 W (w.heap.size + 1 + 1 + 1) 4 (fun _ => 0) ∧ Below w.heap.size w W :=
  ⟨Arr.below ((((Arr.new8 (f := wh H L) rfl).alloc _).alloc _).alloc _) hW (by omega),
   Arr.below (((Arr.new4 (f := limb d) (by simp)).alloc _).alloc _) hW (by omega),
   Arr.below ((Arr.new4 (f := fun _ => 0) (by simp)).alloc _) hW (by omega),
   Arr.below (Arr.new4 (f := fun _ => 0) (by simp)) hW (by omega),
   (((((Below.refl _ _).alloc (Nat.le_refl _) _).alloc (by simp only [World.size_alloc]; omega) _).alloc (by simp only [World.size_alloc]; omega) _).alloc (by simp only [World.size_alloc]; omega) _).trans (hW.mono (by omega))⟩

theorem cmpU_ge (a b : Nat) : (0 : Int) ≤ cmpU a b ↔ b ≤ a := by
  unfold cmpU
  by_cases h : a = b
  · rw [if_pos h]; omega
  · rw [if_neg h]
    by_cases h2 : b ≤ a
    · rw [if_pos h2]; omega
    · rw [if_neg h2]; omega
end Go.Proofs.YtnjcnlbphaodcaaGreat
