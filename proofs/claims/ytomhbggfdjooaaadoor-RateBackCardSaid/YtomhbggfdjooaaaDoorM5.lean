/- Equality of wide numbers; muldiv.Quo, walked. -/
import Derived.Test.YtomhbggfdjooaaaDoorM2
import Derived.Test.YtomhbggfdjooaaaDoorM3
import Derived.Test.YtomhbggfdjooaaaDoorM4
import Derived.Test.YtomhbggfdjooaaaDoorUA
namespace Go.Proofs.YtomhbggfdjooaaaDoor
open Go.RowKit

theorem eqU9 (a0 a1 a2 a3 b0 b1 b2 b3 : Int) (w : World) : (Op.equalIn 9999 24 (.agg #[.int .u64 a0, .int .u64 a1, .int .u64 a2, .int .u64 a3]) (.agg #[.int .u64 b0, .int .u64 b1, .int .u64 b2, .int .u64 b3])).run Tryd.prog w =
   .ok (a0 == b0 && a1 == b1 && a2 == b2 && a3 == b3) w := by
  have u3 := Tryd.underlying22
  have aa := Tryd.isAgg22
  have z3 := Tryd.sizeOf22
  rw [show (9999 : Nat) = 9998 + 1 from rfl, Op.equalIn]
  simp only [Sem.run_bind, run_underlying Tryd.underlying24, Result.andThen_ok]
  simp only [Std.Legacy.Range.forIn_eq_forIn_range', Std.Legacy.Range.size, Nat.sub_zero, Nat.add_sub_cancel, Nat.div_one, List.range'_succ, List.range'_zero, List.forIn_cons, List.forIn_nil]
  go_simp
  by_cases h1 : a0 = b0 <;> by_cases h2 : a1 = b1 <;> by_cases h3 : a2 = b2 <;> by_cases h4 : a3 = b3 <;> simp [h1, h2, h3, h4]
theorem eqW (a0 a1 a2 a3 a4 a5 a6 a7 b0 b1 b2 b3 b4 b5 b6 b7 : Int) (w : World) :
    (Op.equalIn 10000 58 (.agg #[.int .u64 a0, .int .u64 a1, .int .u64 a2, .int .u64 a3, .int .u64 a4, .int .u64 a5, .int .u64 a6, .int .u64 a7]) (.agg #[.int .u64 b0, .int .u64 b1, .int .u64 b2, .int .u64 b3, .int .u64 b4, .int .u64 b5, .int .u64 b6, .int .u64 b7])).run Tryd.prog w =
   .ok ((a0 == b0 && a1 == b1 && a2 == b2 && a3 == b3) && (a4 == b4 && a5 == b5 && a6 == b6 && a7 == b7)) w := by
  have aa := Tryd.isAgg24
  have z3 := Tryd.sizeOf24
  have st : Tryd.prog.stoodInHeld 58 = false := by kernel_rfl
  have e1 := fun w => eqU9 a0 a1 a2 a3 b0 b1 b2 b3 w
  have e2 := fun w => eqU9 a4 a5 a6 a7 b4 b5 b6 b7 w
  rw [show (10000 : Nat) = 9999 + 1 from rfl, Op.equalIn]
  simp only [Sem.run_bind, run_underlying Tryd.underlying58, Result.andThen_ok]
  go_simp
  by_cases h1 : a0 = b0 <;> by_cases h2 : a1 = b1 <;> by_cases h3 : a2 = b2 <;> by_cases h4 : a3 = b3 <;> simp [h1, h2, h3, h4]
  by_cases h5 : a4 = b4 <;> by_cases h6 : a5 = b5 <;> by_cases h7 : a6 = b6 <;> by_cases h8 : a7 = b7 <;> simp [h5, h6, h7, h8]

/-- a wide number of two halves, as the program holds it -/
def WW (H L : Nat) : Value := .agg #[.int .u64 (limb H 0 : Nat), .int .u64 (limb H 1 : Nat), .int .u64 (limb H 2 : Nat), .int .u64 (limb H 3 : Nat), .int .u64 (limb L 0 : Nat), .int .u64 (limb L 1 : Nat), .int .u64 (limb L 2 : Nat), .int .u64 (limb L 3 : Nat)]
def wh (H L i : Nat) : Nat := if i < 4 then limb H i else limb L (i - 4)
theorem W2_halves (n : Nat) : W2 n = WW (n / 2 ^ 256) (n % 2 ^ 256) := by
  unfold W2 WW
  rw [limb_mod (k := 4) (by omega), limb_mod (k := 4) (by omega), limb_mod (k := 4) (by omega), limb_mod (k := 4) (by omega), limb_div n 0 4, limb_div n 1 4, limb_div n 2 4, limb_div n 3 4]
theorem halves {H L : Nat} (hL : L < 2 ^ 256) : (H * 2 ^ 256 + L) / 2 ^ 256 = H ∧ (H * 2 ^ 256 + L) % 2 ^ 256 = L := by omega
theorem W2_of {H L : Nat} (hL : L < 2 ^ 256) : W2 (H * 2 ^ 256 + L) = WW H L := by rw [W2_halves, (halves hL).1, (halves hL).2]
theorem shlwH_walk (H L by_ : Nat) (w : World) (hL : L < 2 ^ 256) (hby : by_ < 256) : Calls Tryd.prog 48 #[WW H L, .int .i64 (by_ : Nat)] w (ShlWPost (H * 2 ^ 256 + L) by_ w) := by
  rw [← W2_of hL]; exact shlw_walk _ by_ w hby
theorem shlw0_walk (d by_ : Nat) (w : World) (hd : d < 2 ^ 256) (hby : by_ < 256) :
    Calls Tryd.prog 48 #[.agg #[.int .u64 0, .int .u64 0, .int .u64 0, .int .u64 0, .int .u64 (limb d 0 : Nat), .int .u64 (limb d 1 : Nat), .int .u64 (limb d 2 : Nat), .int .u64 (limb d 3 : Nat)], .int .i64 (by_ : Nat)] w (ShlWPost d by_ w) := by
  have h := shlwH_walk 0 d by_ w hd hby
  unfold WW at h
  rw [show limb 0 0 = 0 from rfl, show limb 0 1 = 0 from rfl, show limb 0 2 = 0 from rfl, show limb 0 3 = 0 from rfl, Nat.zero_mul, Nat.zero_add] at h
  exact h
theorem eqW_run {H : Nat} (L : Nat) (hH : H < 2 ^ 256) (w : World) :
    (Op.equalIn 10000 58 (.agg #[.int .u64 (limb H 0 : Nat), .int .u64 (limb H 1 : Nat), .int .u64 (limb H 2 : Nat), .int .u64 (limb H 3 : Nat), .int .u64 (limb L 0 : Nat), .int .u64 (limb L 1 : Nat), .int .u64 (limb L 2 : Nat), .int .u64 (limb L 3 : Nat)])
      (.agg #[.int .u64 0, .int .u64 0, .int .u64 0, .int .u64 0, .int .u64 (limb L 0 : Nat), .int .u64 (limb L 1 : Nat), .int .u64 (limb L 2 : Nat), .int .u64 (limb L 3 : Nat)])).run Tryd.prog w = .ok (decide (H = 0)) w := by
  rw [eqW]
  have h := limbs_eq hH (show 0 < 2 ^ 256 by decide)
  rw [show limb 0 0 = 0 from rfl, show limb 0 1 = 0 from rfl, show limb 0 2 = 0 from rfl, show limb 0 3 = 0 from rfl] at h
  rw [← h]; simp
theorem eqWW_run {H L H' L' : Nat} (hH : H < 2 ^ 256) (hL : L < 2 ^ 256) (hH' : H' < 2 ^ 256) (hL' : L' < 2 ^ 256) (w : World) :
    (Op.equalIn 10000 58 (WW H L) (WW H' L')).run Tryd.prog w = .ok (decide (H = H' ∧ L = L')) w := by
  unfold WW
  rw [eqW, limbs_eq hH hH', limbs_eq hL hL']
  by_cases h1 : H = H' <;> by_cases h2 : L = L' <;> simp [h1, h2]

def quoOk (n d : Nat) : Prop := d ≠ 0 ∧ n / d < 2 ^ 256
instance (n d : Nat) : Decidable (quoOk n d) := by unfold quoOk; infer_instance
def QuoPost (n d : Nat) (w : World) (e : Ending) (w' : World) : Prop :=
  e = .returned (.tuple #[U (if quoOk n d then n / d else 0), U (if quoOk n d then n % d else 0), .bool (decide (quoOk n d))]) ∧ Below w.heap.size w w'
theorem quoPost_yes {n d q r : Nat} {w w' : World} {e : Ending} (h : quoOk n d) (hq : q = n / d) (hr : r = n % d) (he : e = .returned (.tuple #[U q, U r, .bool true])) (hw : Below w.heap.size w w') : QuoPost n d w e w' := by
  unfold QuoPost; rw [if_pos h, if_pos h, decide_eq_true h, ← hq, ← hr]; exact ⟨he, hw⟩
theorem quoPost_no {n d : Nat} {w w' : World} {e : Ending} (h : ¬ quoOk n d) (he : e = .returned (.tuple #[U 0, U 0, .bool false])) (hw : Below w.heap.size w w') : QuoPost n d w e w' := by
  unfold QuoPost; rw [if_neg h, if_neg h, decide_eq_false h]; exact ⟨he, hw⟩
theorem quo_small {n d : Nat} (hn : n < 2 ^ 256) : (quoOk n d ↔ d ≠ 0) := ⟨fun h => h.1, fun h => ⟨h, Nat.lt_of_le_of_lt (Nat.div_le_self _ _) hn⟩⟩
theorem quo_iff {H L d : Nat} (hL : L < 2 ^ 256) (hd : d ≠ 0) : (H * 2 ^ 256 + L) / d < 2 ^ 256 ↔ H < d := by
  rw [Nat.div_lt_iff_lt_mul (by omega)]
  constructor
  · intro h
    rcases Nat.lt_or_ge H d with h1 | h1
    · exact h1
    · have := Nat.mul_le_mul_left (2 ^ 256) h1; omega
  · intro h
    have := Nat.mul_le_mul_left (2 ^ 256) (show H + 1 ≤ d from h); omega

structure WDivMem (w wr : World) (D A R L8 L9 L10 L11 : Nat) (q : Nat → Nat) : Prop where
  z2 : Arr .u64 wr (w.heap.size + 1 + 1) 4 (fun _ => 0)
  z3 : Arr .u64 wr (w.heap.size + 1 + 1 + 1) 4 (fun _ => 0)
  d : Arr .u64 wr L8 4 (limb D)
  a : Arr .u64 wr L9 8 (wl A)
  r : Arr .u64 wr L10 4 (limb R)
  q : Arr .u64 wr L11 4 q
  b : Below w.heap.size w wr
  o1 : w.heap.size + 1 + 1 + 1 < L8
  o2 : L8 < L9
  o3 : L9 < L10
  o4 : L10 < L11
  o5 : L11 < wr.heap.size
theorem WDivMem.drewN {w wr : World} {D A R L8 L9 L10 L11 : Nat} {q : Nat → Nat} (h : WDivMem w wr D A R L8 L9 L10 L11 q) (n : Nat) : WDivMem w (wr.drewN n) D A R L8 L9 L10 L11 q :=
  ⟨h.z2.drewN n, h.z3.drewN n, h.d.drewN n, h.a.drewN n, h.r.drewN n, h.q.drewN n, below_drewN h.b n, h.o1, h.o2, h.o3, h.o4, h.o5⟩
theorem WDivMem.below {w wr w' : World} {D A R L8 L9 L10 L11 : Nat} {q : Nat → Nat} (h : WDivMem w wr D A R L8 L9 L10 L11 q) (hb : Below wr.heap.size wr w') : WDivMem w w' D A R L8 L9 L10 L11 q := by
  have := h.o1; have := h.o2; have := h.o3; have := h.o4; have := h.o5; have := hb.size
  exact ⟨h.z2.below hb (by omega), h.z3.below hb (by omega), h.d.below hb (by omega), h.a.below hb (by omega), h.r.below hb (by omega), h.q.below hb (by omega), h.b.trans (hb.mono (by omega)), h.o1, h.o2, h.o3, h.o4, by omega⟩
theorem WDivMem.step {w wr : World} {D A R R' L8 L9 L10 L11 k v : Nat} {q : Nat → Nat} (h : WDivMem w wr D A R L8 L9 L10 L11 q) (hk : k < 4) :
    WDivMem w (((((wr.setCell ⟨L11, k, none⟩ (.int .u64 (v : Nat))).setCell ⟨L10, 0, none⟩ (.int .u64 (limb R' 0 : Nat))).setCell ⟨L10, 1, none⟩ (.int .u64 (limb R' 1 : Nat))).setCell ⟨L10, 2, none⟩ (.int .u64 (limb R' 2 : Nat))).setCell ⟨L10, 3, none⟩ (.int .u64 (limb R' 3 : Nat)))
      D A R' L8 L9 L10 L11 (upd q k v) := by
  have := h.o1; have := h.o2; have := h.o3; have := h.o4; have := h.o5
  refine ⟨?_, ?_, ?_, ?_, ?_, ?_, ?_, h.o1, h.o2, h.o3, h.o4, by simp only [World.size_setCell]; exact h.o5⟩
  · exact ((((h.z2.set_far (by omega)).set_far (by omega)).set_far (by omega)).set_far (by omega)).set_far (by omega)
  · exact ((((h.z3.set_far (by omega)).set_far (by omega)).set_far (by omega)).set_far (by omega)).set_far (by omega)
  · exact ((((h.d.set_far (by omega)).set_far (by omega)).set_far (by omega)).set_far (by omega)).set_far (by omega)
  · exact ((((h.a.set_far (by omega)).set_far (by omega)).set_far (by omega)).set_far (by omega)).set_far (by omega)
  · refine Arr.congr (((((h.r.set_far (by omega)).set (by omega)).set (by omega)).set (by omega)).set (by omega)) fun i hi => ?_
    rcases (by omega : i = 0 ∨ i = 1 ∨ i = 2 ∨ i = 3) with rfl | rfl | rfl | rfl <;> simp [upd]
  · exact ((((h.q.set hk).set_far (by omega)).set_far (by omega)).set_far (by omega)).set_far (by omega)
  · exact ((((h.b.setCell (by simp; omega) _).setCell (by simp; omega) _).setCell (by simp; omega) _).setCell (by simp; omega) _).setCell (by simp; omega) _
def WDivRel (w : World) (D A L8 L9 L10 L11 : Nat) (i : Value) (wr : World) : Prop :=
  ∃ (k R : Nat) (q : Nat → Nat), k ≤ 4 ∧ i = .int .i64 (k : Nat) ∧ (∀ j, q j < 2 ^ 64) ∧ (∀ j, j < 4 - k → q j = 0) ∧
    R = A / 2 ^ (64 * (4 - k)) % D ∧ val q 4 = A / 2 ^ (64 * (4 - k)) / D * 2 ^ (64 * (4 - k)) ∧ WDivMem w wr D A R L8 L9 L10 L11 q

/-- the four blocks that a run of Quo begins with -/
theorem quo_first {H L d : Nat} {w W : World} {t1 t2 t3 t4 : TypeId}
    (hW : Below (w.heap.size + 1 + 1 + 1 + 1) ((((w.alloc (.cells #[.int .u64 (limb H 0 : Nat), .int .u64 (limb H 1 : Nat), .int .u64 (limb H 2 : Nat), .int .u64 (limb H 3 : Nat), .int .u64 (limb L 0 : Nat), .int .u64 (limb L 1 : Nat), .int .u64 (limb L 2 : Nat), .int .u64 (limb L 3 : Nat)] t1)).alloc (.cells #[.int .u64 (limb d 0 : Nat), .int .u64 (limb d 1 : Nat), .int .u64 (limb d 2 : Nat), .int .u64 (limb d 3 : Nat)] t2)).alloc (.cells #[.int .u64 0, .int .u64 0, .int .u64 0, .int .u64 0] t3)).alloc (.cells #[.int .u64 0, .int .u64 0, .int .u64 0, .int .u64 0] t4)) W) :
    Arr .u64 W w.heap.size 8 (wh H L) ∧ Arr .u64 W (w.heap.size + 1) 4 (limb d) ∧ Arr .u64 W (w.heap.size + 1 + 1) 4 (fun _ => 0) ∧ Arr .u64 W (w.heap.size + 1 + 1 + 1) 4 (fun _ => 0) ∧ Below w.heap.size w W :=
  ⟨Arr.below ((((Arr.new8 (f := wh H L) rfl).alloc _).alloc _).alloc _) hW (by omega),
   Arr.below (((Arr.new4 (f := limb d) (by simp)).alloc _).alloc _) hW (by omega),
   Arr.below ((Arr.new4 (f := fun _ => 0) (by simp)).alloc _) hW (by omega),
   Arr.below (Arr.new4 (f := fun _ => 0) (by simp)) hW (by omega),
   (((((Below.refl _ _).alloc (Nat.le_refl _) _).alloc (by simp only [World.size_alloc]; omega) _).alloc (by simp only [World.size_alloc]; omega) _).alloc (by simp only [World.size_alloc]; omega) _).trans (hW.mono (by omega))⟩

set_option maxRecDepth 100000 in
set_option maxHeartbeats 2000000 in
theorem quo_walk_a (H L d : Nat) (w : World) (hH : H < 2 ^ 256) (hL : L < 2 ^ 256) (hd : d < 2 ^ 256) (hH0 : H = 0) :
    Calls Tryd.prog 41 #[WW H L, U d] w (QuoPost (H * 2 ^ 256 + L) d w) := by
  have heq := fun w => eqW_run L hH w
  have hdec : decide (H = 0) = true := decide_eq_true hH0
  have hsm : quoOk (H * 2 ^ 256 + L) d ↔ d ≠ 0 := quo_small (by rw [hH0]; omega)
  have hn : H * 2 ^ 256 + L = L := by rw [hH0]; omega
  have HL := Lib.hid hL
  have Hd := Lib.hid hd
  have Hsm := Lib.hid hsm
  have Hn := Lib.hid hn
  clear hL hd hH hH0 hsm hn
  unfold U WW
  go_enter Tryd.func41, Tryd.ntmps41
  go_wp2_with (go_at_call 46; refine (div_walk L d _ HL.out Hd.out).mono ?_; rintro e w1 ⟨rfl, hb1⟩; obtain ⟨m1, m2, m3, m4, m5⟩ := quo_first (by simpa using hb1); obtain ⟨y0, y1, y2, y3⟩ := m3.frees4; obtain ⟨x0, x1, x2, x3⟩ := m3.cells4; obtain ⟨u0, u1, u2, u3⟩ := m4.frees4; obtain ⟨v0, v1, v2, v3⟩ := m4.cells4; obtain ⟨qv, hqv⟩ : ∃ x, x = if d = 0 then 0 else L / d := ⟨_, rfl⟩; obtain ⟨rv, hrv⟩ : ∃ x, x = if d = 0 then 0 else L % d := ⟨_, rfl⟩; obtain ⟨ok, hok⟩ : ∃ x, x = decide (d ≠ 0) := ⟨_, rfl⟩; rw [← hqv, ← hrv, ← hok]; have Hqv := Lib.hid hqv; have Hrv := Lib.hid hrv; have Hok := Lib.hid hok; clear hqv hrv hok; unfold U)
  refine bodyPost_ret (v := .tuple #[.agg #[.int .u64 (limb qv 0 : Nat), .int .u64 (limb qv 1 : Nat), .int .u64 (limb qv 2 : Nat), .int .u64 (limb qv 3 : Nat)], .agg #[.int .u64 (limb rv 0 : Nat), .int .u64 (limb rv 1 : Nat), .int .u64 (limb rv 2 : Nat), .int .u64 (limb rv 3 : Nat)], .bool ok]) (by simp [results, Tryd.results41, go_sem, x0, x1, x2, x3, v0, v1, v2, v3]) rfl ?_
  have hb : Below w.heap.size w (((((((((w1.setCell ⟨w.heap.size + 1 + 1, 0, none⟩ (.int .u64 (limb qv 0 : Nat))).setCell ⟨w.heap.size + 1 + 1, 1, none⟩ (.int .u64 (limb qv 1 : Nat))).setCell ⟨w.heap.size + 1 + 1, 2, none⟩ (.int .u64 (limb qv 2 : Nat))).setCell ⟨w.heap.size + 1 + 1, 3, none⟩ (.int .u64 (limb qv 3 : Nat))).setCell ⟨w.heap.size + 1 + 1 + 1, 0, none⟩ (.int .u64 (limb rv 0 : Nat))).setCell ⟨w.heap.size + 1 + 1 + 1, 1, none⟩ (.int .u64 (limb rv 1 : Nat))).setCell ⟨w.heap.size + 1 + 1 + 1, 2, none⟩ (.int .u64 (limb rv 2 : Nat))).setCell ⟨w.heap.size + 1 + 1 + 1, 3, none⟩ (.int .u64 (limb rv 3 : Nat)))) :=
    below_set4 (below_set4 m5 (by omega)) (by omega)
  rw [Hn.out]
  rw [Hn.out] at Hsm
  by_cases hd0 : d = 0
  · have h1 := Hqv.out
    have h2 := Hrv.out
    have h3 := Hok.out
    rw [if_pos hd0] at h1 h2
    rw [decide_eq_false (by simpa using hd0)] at h3
    subst h1 h2 h3
    exact quoPost_no (fun h => Hsm.out.1 h hd0) rfl hb
  · have h1 := Hqv.out
    have h2 := Hrv.out
    have h3 := Hok.out
    rw [if_neg hd0] at h1 h2
    rw [decide_eq_true hd0] at h3
    subst h3
    exact quoPost_yes (Hsm.out.2 hd0) h1 h2 rfl hb

theorem cmpU_ge (a b : Nat) : (0 : Int) ≤ cmpU a b ↔ b ≤ a := by
  unfold cmpU
  by_cases h : a = b
  · rw [if_pos h]; omega
  · rw [if_neg h]
    by_cases h2 : b ≤ a
    · rw [if_pos h2]; omega
    · rw [if_neg h2]; omega
set_option maxRecDepth 100000 in
set_option maxHeartbeats 2000000 in
theorem quo_walk_b (H L d : Nat) (w : World) (hH : H < 2 ^ 256) (hL : L < 2 ^ 256) (hd : d < 2 ^ 256) (hH0 : H ≠ 0) (hge : d ≤ H) :
    Calls Tryd.prog 41 #[WW H L, U d] w (QuoPost (H * 2 ^ 256 + L) d w) := by
  have heq := fun w => eqW_run L hH w
  have hdec : decide (H = 0) = false := decide_eq_false hH0
  have hno : ¬ quoOk (H * 2 ^ 256 + L) d := fun h => absurd ((quo_iff hL h.1).1 h.2) (by omega)
  obtain ⟨c, hc⟩ : ∃ c, c = cmpU H d := ⟨_, rfl⟩
  have hc0 : (0 : Int) ≤ c := by rw [hc]; exact (cmpU_ge H d).2 hge
  have HH := Lib.hid hH
  have Hd := Lib.hid hd
  have Hno := Lib.hid hno
  have Hc := Lib.hid hc
  clear hL hd hH hH0 hno hge hc
  unfold U WW
  go_enter Tryd.func41, Tryd.ntmps41
  go_wp2_with (go_at_call 23; refine (cmp_walk H d _ HH.out Hd.out).mono ?_; rintro e w1 ⟨rfl, hb1⟩; obtain ⟨m1, m2, m3, m4, m5⟩ := quo_first (by simpa using hb1); obtain ⟨y0, y1, y2, y3⟩ := m3.frees4; obtain ⟨x0, x1, x2, x3⟩ := m3.cells4; obtain ⟨u0, u1, u2, u3⟩ := m4.frees4; obtain ⟨v0, v1, v2, v3⟩ := m4.cells4; rw [← Hc.out])
  refine bodyPost_ret (v := .tuple #[.agg #[.int .u64 0, .int .u64 0, .int .u64 0, .int .u64 0], .agg #[.int .u64 0, .int .u64 0, .int .u64 0, .int .u64 0], .bool false]) (by simp [results, Tryd.results41, go_sem, x0, x1, x2, x3, v0, v1, v2, v3]) rfl ?_
  exact quoPost_no Hno.out (by rw [U_zero]) (below_set4 (below_set4 m5 (by omega)) (by omega))
end Go.Proofs.YtomhbggfdjooaaaDoor
