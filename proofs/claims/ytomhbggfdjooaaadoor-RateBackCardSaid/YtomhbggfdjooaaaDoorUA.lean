/- u256.Div, walked. -/
import Derived.Test.YtomhbggfdjooaaaDoorU9
import Derived.Test.YtomhbggfdjooaaaDoorU5
namespace Go.Proofs.YtomhbggfdjooaaaDoor
open Go.RowKit

def DivPost (a b : Nat) (w : World) (e : Ending) (w' : World) : Prop :=
  e = .returned (.tuple #[U (if b = 0 then 0 else a / b), U (if b = 0 then 0 else a % b), .bool (decide (b ≠ 0))]) ∧ Below w.heap.size w w'
theorem divPost_yes {a b q r : Nat} {w w' : World} {e : Ending} (h : b ≠ 0) (hq : q = a / b) (hr : r = a % b) (he : e = .returned (.tuple #[U q, U r, .bool true])) (hw : Below w.heap.size w w') : DivPost a b w e w' := by
  unfold DivPost; rw [if_neg h, if_neg h, decide_eq_true h, ← hq, ← hr]; exact ⟨he, hw⟩
theorem divPost_no {a b : Nat} {w w' : World} {e : Ending} (h : b = 0) (he : e = .returned (.tuple #[U 0, U 0, .bool false])) (hw : Below w.heap.size w w') : DivPost a b w e w' := by
  unfold DivPost; rw [if_pos h, if_pos h, decide_eq_false (by simpa using h)]; exact ⟨he, hw⟩

structure DivMem (w wr : World) (D A R L8 L9 L10 L11 : Nat) (q : Nat → Nat) : Prop where
  z2 : Arr .u64 wr (w.heap.size + 1 + 1) 4 (fun _ => 0)
  z3 : Arr .u64 wr (w.heap.size + 1 + 1 + 1) 4 (fun _ => 0)
  d : Arr .u64 wr L8 4 (limb D)
  a : Arr .u64 wr L9 8 (limb A)
  r : Arr .u64 wr L10 4 (limb R)
  q : Arr .u64 wr L11 4 q
  b : Below w.heap.size w wr
  o1 : w.heap.size + 1 + 1 + 1 < L8
  o2 : L8 < L9
  o3 : L9 < L10
  o4 : L10 < L11
  o5 : L11 < wr.heap.size
theorem DivMem.drewN {w wr : World} {D A R L8 L9 L10 L11 : Nat} {q : Nat → Nat} (h : DivMem w wr D A R L8 L9 L10 L11 q) (n : Nat) : DivMem w (wr.drewN n) D A R L8 L9 L10 L11 q :=
  ⟨h.z2.drewN n, h.z3.drewN n, h.d.drewN n, h.a.drewN n, h.r.drewN n, h.q.drewN n, below_drewN h.b n, h.o1, h.o2, h.o3, h.o4, h.o5⟩
theorem DivMem.below {w wr w' : World} {D A R L8 L9 L10 L11 : Nat} {q : Nat → Nat} (h : DivMem w wr D A R L8 L9 L10 L11 q) (hb : Below wr.heap.size wr w') : DivMem w w' D A R L8 L9 L10 L11 q := by
  have := h.o1; have := h.o2; have := h.o3; have := h.o4; have := h.o5; have := hb.size
  exact ⟨h.z2.below hb (by omega), h.z3.below hb (by omega), h.d.below hb (by omega), h.a.below hb (by omega), h.r.below hb (by omega), h.q.below hb (by omega), h.b.trans (hb.mono (by omega)), h.o1, h.o2, h.o3, h.o4, by omega⟩
/-- a quotient's word is stored, and the new rest -/
theorem DivMem.step {w wr : World} {D A R R' L8 L9 L10 L11 k v : Nat} {q : Nat → Nat} (h : DivMem w wr D A R L8 L9 L10 L11 q) (hk : k < 4) :
    DivMem w (((((wr.setCell ⟨L11, k, none⟩ (.int .u64 (v : Nat))).setCell ⟨L10, 0, none⟩ (.int .u64 (limb R' 0 : Nat))).setCell ⟨L10, 1, none⟩ (.int .u64 (limb R' 1 : Nat))).setCell ⟨L10, 2, none⟩ (.int .u64 (limb R' 2 : Nat))).setCell ⟨L10, 3, none⟩ (.int .u64 (limb R' 3 : Nat)))
      D A R' L8 L9 L10 L11 (upd q k v) := by
  have := h.o1; have := h.o2; have := h.o3; have := h.o4; have := h.o5
  refine ⟨?_, ?_, ?_, ?_, ?_, ?_, ?_, h.o1, h.o2, h.o3, h.o4, by simp only [World.size_setCell]; exact h.o5⟩
  · exact ((((h.z2.set_far (by omega)).set_far (by omega)).set_far (by omega)).set_far (by omega)).set_far (by omega)
  · exact ((((h.z3.set_far (by omega)).set_far (by omega)).set_far (by omega)).set_far (by omega)).set_far (by omega)
  · exact ((((h.d.set_far (by omega)).set_far (by omega)).set_far (by omega)).set_far (by omega)).set_far (by omega)
  · exact ((((h.a.set_far (by omega)).set_far (by omega)).set_far (by omega)).set_far (by omega)).set_far (by omega)
  · refine Arr.congr (((((h.r.set_far (by omega)).set (by omega)).set (by omega)).set (by omega)).set (by omega)) fun i hi => ?_
    rcases (by omega : i = 0 ∨ i = 1 ∨ i = 2 ∨ i = 3) with rfl | rfl | rfl | rfl <;> simp [upd]
  · exact ((((h.q.set hk).set_far (by omega)).set_far (by omega)).set_far (by omega)).set_far (by omega)
  · exact ((((h.b.setCell (by simp; omega) _).setCell (by simp; omega) _).setCell (by simp; omega) _).setCell (by simp; omega) _).setCell (by simp; omega) _

/-- the state at the head of Div's loop -/
def DivRel (w : World) (D A L8 L9 L10 L11 : Nat) (i : Value) (wr : World) : Prop :=
  ∃ (k R : Nat) (q : Nat → Nat), k ≤ 4 ∧ i = .int .i64 (k : Nat) ∧ (∀ j, q j < 2 ^ 64) ∧ (∀ j, j < 4 - k → q j = 0) ∧
    R = A / 2 ^ (64 * (4 - k)) % D ∧ val q 4 = A / 2 ^ (64 * (4 - k)) / D * 2 ^ (64 * (4 - k)) ∧ DivMem w wr D A R L8 L9 L10 L11 q
theorem div_step {A D m : Nat} (hD : 0 < D) :
    A / 2 ^ (64 * m) / D = A / 2 ^ (64 * (m + 1)) / D * 2 ^ 64 + (A / 2 ^ (64 * (m + 1)) % D * 2 ^ 64 + limb A m) / D ∧
    A / 2 ^ (64 * m) % D = (A / 2 ^ (64 * (m + 1)) % D * 2 ^ 64 + limb A m) % D := by
  have e : A / 2 ^ (64 * m) = A / 2 ^ (64 * (m + 1)) * 2 ^ 64 + limb A m := by
    unfold limb
    rw [pow_succ64, Nat.mul_comm (2 ^ 64), ← Nat.div_div_eq_div_mul]
    exact (Nat.div_add_mod' _ _).symm
  rw [e]
  generalize A / 2 ^ (64 * (m + 1)) = Y
  have e2 : Y * 2 ^ 64 + limb A m = D * (Y / D * 2 ^ 64) + (Y % D * 2 ^ 64 + limb A m) := by
    have h := Nat.div_add_mod Y D
    have h1 := congrArg (· * 2 ^ 64) h
    simp only [Nat.add_mul, Nat.mul_assoc] at h1
    omega
  constructor
  · rw [e2, Nat.mul_add_div hD]
  · rw [e2, Nat.mul_add_mod]

theorem div_round {A D k R qn Rn X : Nat} {q : Nat → Nat} (hk : k < 4) (hD : 0 < D) (hR : R = A / 2 ^ (64 * (4 - k)) % D) (hv : val q 4 = A / 2 ^ (64 * (4 - k)) / D * 2 ^ (64 * (4 - k)))
    (hq0 : ∀ j, j < 4 - k → q j = 0) (hX : X = R * 2 ^ 64 + limb A (3 - k)) (hqn : qn = X / D) (hRn : Rn = X % D) :
    qn < 2 ^ 64 ∧ (∀ j, j < 4 - (k + 1) → upd q (3 - k) qn j = 0) ∧ Rn = A / 2 ^ (64 * (4 - (k + 1))) % D ∧ val (upd q (3 - k) qn) 4 = A / 2 ^ (64 * (4 - (k + 1))) / D * 2 ^ (64 * (4 - (k + 1))) := by
  obtain ⟨m, hm⟩ : ∃ m, m = 3 - k := ⟨_, rfl⟩
  rw [show 4 - k = m + 1 by omega] at hR hv hq0
  rw [← hm] at hX ⊢
  rw [show 4 - (k + 1) = m by omega]
  have st := div_step (A := A) (m := m) hD
  rw [← hR, ← hX, ← hqn, ← hRn] at st
  have hRD : R < D := by rw [hR]; exact Nat.mod_lt _ hD
  refine ⟨?_, fun j hj => ?_, st.2.symm, ?_⟩
  · rw [hqn, hX]; exact quot_lt hRD (limb_lt _ _)
  · rw [upd_ne _ (by omega)]; exact hq0 j (by omega)
  · have h1 := val_upd_at q qn (show m < 4 by omega)
    rw [hq0 m (by omega), hv, pow_succ64, Nat.zero_mul, Nat.add_zero] at h1
    rw [h1, st.1, Nat.add_mul, Nat.mul_assoc]; simp only [pow_succ64]
theorem div_end {a b s A D R : Nat} {q : Nat → Nat} (hb : b ≠ 0) (hA : A = a * 2 ^ s) (hD : D = b * 2 ^ s) (hR : R = A / 2 ^ (64 * (4 - 4)) % D) (hv : val q 4 = A / 2 ^ (64 * (4 - 4)) / D * 2 ^ (64 * (4 - 4))) :
    val q 4 = a / b ∧ R = a % b * 2 ^ s := by
  have e : (2 : Nat) ^ (64 * (4 - 4)) = 1 := rfl
  rw [e, Nat.div_one] at hR
  rw [e, Nat.div_one, Nat.mul_one] at hv
  have hp : 0 < 2 ^ s := Nat.pow_pos (by decide)
  rw [hv, hR, hA, hD, Nat.mul_div_mul_right _ _ hp, Nat.mul_mod_mul_right]
  exact ⟨rfl, rfl⟩

set_option maxRecDepth 100000 in
set_option maxHeartbeats 2000000 in
theorem div_walk (a b : Nat) (w : World) (hal : a < 2 ^ 256) (hbl : b < 2 ^ 256) :
    Calls Tryd.prog 46 #[U a, U b] w (DivPost a b w) := by
  have heq := fun w => eq0_run hbl w
  have Hal := Lib.hid hal
  have Hbl := Lib.hid hbl
  clear hal hbl
  unfold U
  by_cases hb0 : b = 0
  · have hd : decide (b = 0) = true := decide_eq_true hb0
    have Hb0 := Lib.hid hb0
    clear hb0
    go_enter Tryd.func46, Tryd.ntmps46
    go_wp2
    refine bodyPost_ret (v := .tuple #[.agg #[.int .u64 0, .int .u64 0, .int .u64 0, .int .u64 0], .agg #[.int .u64 0, .int .u64 0, .int .u64 0, .int .u64 0], .bool false]) (by simp [results, Tryd.results46, go_sem]) rfl (divPost_no Hb0.out (by rw [U_zero]) ?_)
    exact ((((Below.refl _ _).alloc (Nat.le_refl _) _).alloc (by simp only [World.size_alloc]; omega) _).alloc (by simp only [World.size_alloc]; omega) _).alloc (by simp only [World.size_alloc]; omega) _
  · have hd : decide (b = 0) = false := decide_eq_false hb0
    have Hb0 := Lib.hid hb0
    clear hb0
    go_enter Tryd.func46, Tryd.ntmps46
    obtain ⟨s, hs⟩ : ∃ s, s = 256 - blen b := ⟨_, rfl⟩
    have hbl : blen b ≤ 256 := blen_le Hbl.out
    have hb1 : 1 ≤ blen b := by rw [blen_pos Hb0.out]; omega
    have es : (256 : Int) - (blen b : Int) = (s : Int) := by omega
    have hs' : s < 256 := by omega
    obtain ⟨D, hD⟩ : ∃ D, D = b * 2 ^ s := ⟨_, rfl⟩
    obtain ⟨A, hA⟩ : ∃ A, A = a * 2 ^ s := ⟨_, rfl⟩
    have hDl : D < 2 ^ 256 := by
      rw [hD, show 256 = blen b + s by omega, Nat.pow_add]
      exact Nat.mul_lt_mul_of_pos_right (lt_blen b) (Nat.pow_pos (by decide))
    have hDn : 2 ^ 255 ≤ D := by
      rw [hD, show 255 = blen b - 1 + s by omega, Nat.pow_add]
      exact Nat.mul_le_mul_right _ (by rw [blen_pos Hb0.out]; exact Nat.log2_self_le Hb0.out)
    have HD := Lib.hid hD
    have HA := Lib.hid hA
    have HDl := Lib.hid hDl
    have HDn := Lib.hid hDn
    have Hs := Lib.hid hs
    clear hs hD hA hDl hDn hbl hb1
    have ga : ∀ W, Below (w.heap.size + 1 + 1 + 1 + 1) ((((w.alloc (.cells #[.int .u64 (limb a 0 : Nat), .int .u64 (limb a 1 : Nat), .int .u64 (limb a 2 : Nat), .int .u64 (limb a 3 : Nat)] 24)).alloc (.cells #[.int .u64 (limb b 0 : Nat), .int .u64 (limb b 1 : Nat), .int .u64 (limb b 2 : Nat), .int .u64 (limb b 3 : Nat)] 24)).alloc (.cells #[.int .u64 0, .int .u64 0, .int .u64 0, .int .u64 0] 24)).alloc (.cells #[.int .u64 0, .int .u64 0, .int .u64 0, .int .u64 0] 24)) W →
        Arr .u64 W w.heap.size 4 (limb a) ∧ Arr .u64 W (w.heap.size + 1) 4 (limb b) ∧ Arr .u64 W (w.heap.size + 1 + 1) 4 (fun _ => 0) ∧ Arr .u64 W (w.heap.size + 1 + 1 + 1) 4 (fun _ => 0) ∧ Below w.heap.size w W := fun W hW =>
      ⟨Arr.below ((((Arr.new4 (f := limb a) rfl).alloc _).alloc _).alloc _) hW (by omega),
       Arr.below (((Arr.new4 (f := limb b) (by simp)).alloc _).alloc _) hW (by omega),
       Arr.below ((Arr.new4 (f := fun _ => 0) (by simp)).alloc _) hW (by omega),
       Arr.below (Arr.new4 (f := fun _ => 0) (by simp)) hW (by omega),
       (((((Below.refl _ _).alloc (Nat.le_refl _) _).alloc (by simp only [World.size_alloc]; omega) _).alloc (by simp only [World.size_alloc]; omega) _).alloc (by simp only [World.size_alloc]; omega) _).trans (hW.mono (by omega))⟩
    have Ga := Lib.hid ga
    clear ga
    go_wp2_with (go_at_call 47; refine (bits_walk b _ Hbl.out).mono ?_; rintro e w1 ⟨rfl, hb1⟩; obtain ⟨ma, mb, mc, md, me⟩ := Ga.out w1 (by simpa using hb1); obtain ⟨c0, c1, c2, c3⟩ := mb.cells4)
    refine (shl_walk b s _ Hbl.out hs').mono ?_
    rintro e w2 ⟨rfl, hb2⟩
    rw [← HD.out]
    go_wp2_with fail
    refine (low_walk D _).mono ?_
    rintro e w3 ⟨rfl, hb3⟩
    rw [Nat.mod_eq_of_lt HDl.out]
    unfold U
    have z1 : w1.heap.size ≤ w2.heap.size := hb2.size
    have z2 : w2.heap.size ≤ w3.heap.size := hb3.size
    have z0 : w.heap.size + 1 + 1 + 1 + 1 ≤ w1.heap.size := by have := hb1.size; simpa using this
    have z3 : w.heap.size < w3.heap.size := by omega
    have ma3 : Arr .u64 w3 w.heap.size 4 (limb a) := (ma.below hb2 (by omega)).below hb3 (by omega)
    obtain ⟨a0, a1, a2, a3⟩ := ma3.cells4
    go_wp2_with fail
    refine (shl_walk a s _ Hal.out hs').mono ?_
    rintro e w5 ⟨rfl, hb5⟩
    rw [← HA.out]
    unfold U8
    go_wp2_with fail
    refine (high_walk A _).mono ?_
    rintro e w6 ⟨rfl, hb6⟩
    obtain ⟨R0, hR0⟩ : ∃ r, r = A / 2 ^ 256 := ⟨_, rfl⟩
    rw [← hR0]
    unfold U
    have HR0 := Lib.hid hR0
    clear hR0
    go_wp2_with fail
    have z4 : w3.heap.size + 1 ≤ w5.heap.size := by have := hb5.size; simpa using this
    have z5 : w5.heap.size + 1 ≤ w6.heap.size := by have := hb6.size; simpa using this
    obtain ⟨L8, hL8⟩ : ∃ n, n = w3.heap.size := ⟨_, rfl⟩
    obtain ⟨L9, hL9⟩ : ∃ n, n = w5.heap.size := ⟨_, rfl⟩
    obtain ⟨L10, hL10⟩ : ∃ n, n = w6.heap.size := ⟨_, rfl⟩
    obtain ⟨L11, hL11⟩ : ∃ n, n = w6.heap.size + 1 := ⟨_, rfl⟩
    have mem : DivMem w ((w6.alloc (.cells #[.int .u64 (limb R0 0 : Nat), .int .u64 (limb R0 1 : Nat), .int .u64 (limb R0 2 : Nat), .int .u64 (limb R0 3 : Nat)] 24)).alloc (.cells #[.int .u64 0, .int .u64 0, .int .u64 0, .int .u64 0] 24)) D A R0 L8 L9 L10 L11 (fun _ => 0) := by
      refine ⟨?_, ?_, ?_, ?_, ?_, ?_, ?_, by omega, by omega, by omega, by omega, by rw [hL11]; simp⟩
      · exact (((((((mc.below hb2 (by omega)).below hb3 (by omega)).alloc _).below hb5 (by simp only [World.size_alloc]; omega)).alloc _).below hb6 (by simp only [World.size_alloc]; omega)).alloc _).alloc _
      · exact (((((((md.below hb2 (by omega)).below hb3 (by omega)).alloc _).below hb5 (by simp only [World.size_alloc]; omega)).alloc _).below hb6 (by simp only [World.size_alloc]; omega)).alloc _).alloc _
      · exact (((((Arr.new4 (f := limb D) (by omega)).below hb5 (by simp only [World.size_alloc]; omega)).alloc _).below hb6 (by simp only [World.size_alloc]; omega)).alloc _).alloc _
      · exact (((Arr.new8 (f := limb A) (by omega)).below hb6 (by simp only [World.size_alloc]; omega)).alloc _).alloc _
      · exact (Arr.new4 (f := limb R0) (by omega)).alloc _
      · exact Arr.new4 (f := fun _ => 0) (by simp only [World.size_alloc]; omega)
      · exact (((((((me.trans (hb2.mono (by omega))).trans (hb3.mono (by omega))).alloc (by omega) _).trans (hb5.mono (by simp only [World.size_alloc]; omega))).alloc (by omega) _).trans (hb6.mono (by simp only [World.size_alloc]; omega))).alloc (by omega) _).alloc (by simp only [World.size_alloc]; omega) _
    rw [← hL11, ← hL8, ← hL9, ← hL10]
    have HL : Hid (0 < D) := Lib.hid (by have := HDn.out; omega)
    have Mem := Lib.hid mem
    clear mem a0 a1 a2 a3 ma3 z0 z1 z2 z3 z4 z5 hL8 hL9 hL10 hL11 ma mb mc md me c0 c1 c2 c3 hb1 hb2 hb3 hb5 hb6
    go_loopw [31] (DivRel w D A L8 L9 L10 L11) (fun i _ => 4 - (intOf i).toNat)
    case atStart =>
      have hA : A < 2 ^ 256 * 2 ^ s := by rw [HA.out]; exact Nat.mul_lt_mul_of_pos_right Hal.out (Nat.pow_pos (by decide))
      have hR : R0 < 2 ^ s := by rw [HR0.out]; exact (Nat.div_lt_iff_lt_mul (by decide)).2 (by rw [Nat.mul_comm]; exact hA)
      have hsD : 2 ^ s ≤ D := by rw [HD.out]; exact Nat.le_mul_of_pos_left _ (Nat.pos_of_ne_zero Hb0.out)
      refine ⟨0, R0, fun _ => 0, by omega, rfl, by simp, by simp, ?_, ?_, Mem.out⟩
      · show R0 = A / 2 ^ 256 % D
        rw [← HR0.out, Nat.mod_eq_of_lt (by omega)]
      · show val (fun _ => 0) 4 = A / 2 ^ 256 / D * 2 ^ 256
        rw [← HR0.out, Nat.div_eq_of_lt (by omega), val_zero, Nat.zero_mul]
    case round =>
      obtain ⟨k, R, q, hk, rfl, hq, hq0, hR, hv, mem⟩ := hrel
      by_cases hlt : k < 4
      · have hRD : R < D := by rw [hR]; exact Nat.mod_lt _ HL.out
        obtain ⟨d0, d1, d2, d3⟩ := mem.d.cells4
        obtain ⟨r0, r1, r2, r3⟩ := mem.r.cells4
        have n1 := mem.a.cell (3 - k) (by omega)
        have ne1 : L10 ≠ L11 := by have := mem.o4; omega
        have ne2 : L11 ≠ L10 := by have := mem.o4; omega
        have i1 : IntKind.i64.wrap (3 - (k : Int)) = 3 - (k : Int) := IntWalk.i64_in _ (by omega)
        have i2 : (3 : Int) - (k : Int) = ((3 - k : Nat) : Int) := by omega
        have i3 : ((3 - k : Nat) : Int) < 8 := by omega
        have i4 : ((3 - k : Nat) : Int) < 4 := by omega
        have Hq := Lib.hid hq
        have Hq0 := Lib.hid hq0
        have HRD := Lib.hid hRD
        have HR := Lib.hid hR
        have Hv := Lib.hid hv
        clear hq hq0 hRD hR hv
        go_wp2
        go_region_with (go_at_call 57; refine (nw_walk R (limb A (3 - k)) D _ HRD.out HDl.out HDn.out (limb_lt _ _)).mono ?_; rintro e w' ⟨rfl, hb⟩; obtain ⟨X, hX⟩ : ∃ x, x = R * 2 ^ 64 + limb A (3 - k) := ⟨_, rfl⟩; rw [← hX]; obtain ⟨qn, hqn⟩ : ∃ x, x = X / D := ⟨_, rfl⟩; obtain ⟨Rn, hRn⟩ : ∃ x, x = X % D := ⟨_, rfl⟩; rw [← hqn, ← hRn]; obtain ⟨y0, y1, y2, y3⟩ := ((mem.drewN 1).below hb).r.frees4; have yq := ((mem.drewN 1).below hb).q.free (3 - k) (by omega); have xq := ((mem.drewN 1).below hb).q.cell (3 - k) (by omega); obtain ⟨x0, x1, x2, x3⟩ := ((mem.drewN 1).below hb).r.cells4; have st := Lib.hid (div_round hlt HL.out HR.out Hv.out Hq0.out hX hqn hRn); have mm := Lib.hid (((mem.drewN 1).below hb).step (k := 3 - k) (v := qn) (R' := Rn) (by omega)); clear hX hqn hRn; unfold U)
        all_goals
          go_wp2
          go_roundw
          case rel => exact ⟨k + 1, _, _, by omega, by go_num, upd_lt Hq.out st.out.1, st.out.2.1, st.out.2.2.1, st.out.2.2.2, mm.out⟩
          case measure => simp [intOf]; omega
      · have hk4 : k = 4 := by omega
        have hkI : ¬ (k : Int) < 4 := by omega
        rw [hk4] at hR hv
        have fin := div_end Hb0.out HA.out HD.out hR hv
        have hq' : Arr .u64 wr L11 4 (limb (a / b)) := mem.q.congr fun i hi => by rw [← fin.1, limb_val 4 (fun i _ => hq i) i hi]
        have hR256 : R < 2 ^ 256 := by have := HDl.out; have := Nat.mod_lt (A / 2 ^ (64 * (4 - 4))) HL.out; rw [← hR] at this; omega
        have HR256 := Lib.hid hR256
        have Fin := Lib.hid fin
        clear hq hq0 hR hv hk4 hR256 fin
        obtain ⟨q0, q1, q2, q3⟩ := hq'.cells4
        obtain ⟨r0, r1, r2, r3⟩ := mem.r.cells4
        obtain ⟨qv, hqv⟩ : ∃ x, x = a / b := ⟨_, rfl⟩
        obtain ⟨rv, hrv⟩ : ∃ x, x = a % b := ⟨_, rfl⟩
        rw [← hqv] at q0 q1 q2 q3
        have Hqv := Lib.hid hqv
        have Hrv := Lib.hid hrv
        clear hqv hrv
        have eR : R / 2 ^ s = rv := by rw [Fin.out.2, Hrv.out, Nat.mul_div_cancel _ (Nat.pow_pos (by decide))]
        have ER := Lib.hid eR
        clear eR
        go_wp2
        go_region_with (go_at_call 58; refine (shr_walk R s _ HR256.out hs').mono ?_; rintro e w' ⟨rfl, hb⟩; rw [ER.out]; obtain ⟨y0, y1, y2, y3⟩ := ((mem.drewN 1).below hb).z2.frees4; obtain ⟨x0, x1, x2, x3⟩ := ((mem.drewN 1).below hb).z2.cells4; obtain ⟨u0, u1, u2, u3⟩ := ((mem.drewN 1).below hb).z3.frees4; obtain ⟨v0, v1, v2, v3⟩ := ((mem.drewN 1).below hb).z3.cells4; obtain ⟨q0', q1', q2', q3'⟩ := ((hq'.drewN 1).below hb mem.o5).cells4; rw [← Hqv.out] at q0' q1' q2' q3'; have mm := Lib.hid ((mem.drewN 1).below hb).b; unfold U)
        all_goals
          go_wp2
          refine bodyPost_ret (v := .tuple #[.agg #[.int .u64 (limb qv 0 : Nat), .int .u64 (limb qv 1 : Nat), .int .u64 (limb qv 2 : Nat), .int .u64 (limb qv 3 : Nat)], .agg #[.int .u64 (limb rv 0 : Nat), .int .u64 (limb rv 1 : Nat), .int .u64 (limb rv 2 : Nat), .int .u64 (limb rv 3 : Nat)], .bool true]) (by simp [results, Tryd.results46, go_sem, x0, x1, x2, x3, v0, v1, v2, v3]) rfl (divPost_yes Hb0.out Hqv.out Hrv.out rfl ?_)
          exact below_set4 (below_set4 mm.out (by omega)) (by omega)
end Go.Proofs.YtomhbggfdjooaaaDoor
