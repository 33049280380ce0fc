/- u256.Sub, walked: a contract over natural numbers. -/
import Derived.Test.YtomhbggfdjooaaaDoorProg
import Derived.Test.YtomhbggfdjooaaaDoorKit
import Derived.Laws.Externs
import Derived.Lib.Hide
namespace Go.Proofs.YtomhbggfdjooaaaDoor
open Go.RowKit

def r64 (x y c : Nat) : Nat := (x + 18446744073709551616 - y - c) % 18446744073709551616
def b64 (x y c : Nat) : Nat := if x < y + c then 1 else 0
theorem run_sub64n (x y b : Nat) (hb : b ≤ 1) (w : World) :
    (callFunc 45 #[.int .u64 (x : Nat), .int .u64 (y : Nat), .int .u64 (b : Nat)]).run Tryd.prog w =
      .ok (.value (.tuple #[.int .u64 (r64 x y b : Nat), .int .u64 (b64 x y b : Nat)])) w := by
  rw [run_callFunc_extern (fn := Tryd.f45) (by kernel_rfl) (by kernel_rfl) (by kernel_rfl) (by kernel_rfl) (e := fun args => do
    let (x, y, b) ← Extern.MathBitsCarry.three "Sub64" args
    pure (Extern.MathBitsCarry.pair ((x + Extern.MathBitsCarry.m64 - y - b) % Extern.MathBitsCarry.m64) (if x < y + b then 1 else 0))) (by kernel_rfl)]
  have : b = 0 ∨ b = 1 := by omega
  rcases this with rfl | rfl <;> rfl
theorem r64_lt (x y c : Nat) : r64 x y c < 2 ^ 64 := by unfold r64; omega
theorem b64_le (x y c : Nat) : b64 x y c ≤ 1 := by unfold b64; split <;> omega
theorem rb64 (x y c : Nat) (hx : x < 2 ^ 64) (hy : y < 2 ^ 64) (hc : c ≤ 1) : r64 x y c + y + c = x + b64 x y c * 2 ^ 64 := by unfold r64 b64; split <;> omega

/-- what Sub comes to -/
def SubPost (a b : Nat) (w : World) (e : Ending) (w' : World) : Prop :=
  e = .returned (.tuple #[U (if b ≤ a then a - b else 0), .bool (decide (b ≤ a))]) ∧ Below w.heap.size w w'
theorem subPost_yes {a b : Nat} {w w' : World} {e : Ending} (h : b ≤ a) (he : e = .returned (.tuple #[U (a - b), .bool true])) (hw : Below w.heap.size w w') : SubPost a b w e w' := by
  unfold SubPost; rw [if_pos h, decide_eq_true h]; exact ⟨he, hw⟩
theorem subPost_no {a b : Nat} {w w' : World} {e : Ending} (h : ¬ b ≤ a) (he : e = .returned (.tuple #[U 0, .bool false])) (hw : Below w.heap.size w w') : SubPost a b w e w' := by
  unfold SubPost; rw [if_neg h, decide_eq_false h]; exact ⟨he, hw⟩
/-- the state at the head of Sub's loop -/
def SubRel (a b : Nat) (w : World) (c i : Value) (wr : World) : Prop :=
  ∃ (k d : Nat) (f : Nat → Nat), k ≤ 4 ∧ i = .int .i64 (k : Nat) ∧ c = .int .u64 (d : Nat) ∧ d ≤ 1 ∧ (∀ j, f j < 2 ^ 64) ∧
    val f k + val (limb b) k = val (limb a) k + d * 2 ^ (64 * k) ∧
    Arr .u64 wr w.heap.size 4 (limb a) ∧ Arr .u64 wr (w.heap.size + 1) 4 (limb b) ∧ Arr .u64 wr (w.heap.size + 1 + 1) 4 (fun _ => 0) ∧ Arr .u64 wr (w.heap.size + 1 + 1 + 1) 4 f ∧
    Below w.heap.size w wr ∧ w.heap.size + 1 + 1 + 1 < wr.heap.size

set_option maxRecDepth 100000 in
set_option maxHeartbeats 1000000 in
theorem sub_walk (a b : Nat) (w : World) (hal : a < 2 ^ 256) (hbl : b < 2 ^ 256) :
    Calls Tryd.prog 38 #[U a, U b] w (SubPost a b w) := by
  have hsub := run_sub64n
  unfold U
  go_enter Tryd.func38, Tryd.ntmps38
  go_wp2
  go_loopw [7, 9] (SubRel a b w) (fun _ i _ => 4 - (intOf i).toNat)
  case atStart =>
    refine ⟨0, 0, fun _ => 0, by omega, rfl, rfl, by omega, by simp, by simp [val], ?_, ?_, ?_, ?_, ?_, ?_⟩
    · exact (((Arr.new4 (f := limb a) rfl).alloc _).alloc _).alloc _
    · exact ((Arr.new4 (f := limb b) (by simp)).alloc _).alloc _
    · exact (Arr.new4 (f := fun _ => 0) (by simp)).alloc _
    · exact Arr.new4 (f := fun _ => 0) (by simp)
    · exact ((((Below.refl _ _).alloc (Nat.le_refl _) _).alloc (by simp only [World.size_alloc]; omega) _).alloc (by simp only [World.size_alloc]; omega) _).alloc (by simp only [World.size_alloc]; omega) _
    · simp
  case round =>
    obtain ⟨k, d, f, hk, rfl, rfl, hd, hf, hv, ha, hb, hz, hs, hbel, hsz⟩ := hrel
    by_cases hlt : k < 4
    · have a1 := ha.cell k hlt
      have b1 := hb.cell k hlt
      have f1 := hs.free k hlt
      have f2 := hs.cell k hlt
      go_wp2
      go_region_with (fail)
      all_goals
        go_wp2
        go_roundw
        case rel =>
          refine ⟨k + 1, b64 (limb a k) (limb b k) d, upd f k (r64 (limb a k) (limb b k) d), by omega, by go_num, rfl, b64_le _ _ _, upd_lt hf (r64_lt _ _ _), ?_, ?_, ?_, ?_, ?_, ?_, ?_⟩
          · rw [val_upd_succ, pow_succ64]
            have h1 := congrArg (· * 2 ^ (64 * k)) (rb64 (limb a k) (limb b k) d (limb_lt a k) (limb_lt b k) hd)
            simp only [val]
            simp only [Nat.add_mul, Nat.mul_assoc] at h1
            omega
          · exact ha.drew.set_far (by omega)
          · exact hb.drew.set_far (by omega)
          · exact hz.drew.set_far (by omega)
          · exact hs.drew.set hlt
          · exact (below_drewN hbel 1).setCell (by simp; omega) _
          · simp; omega
        case measure => simp [intOf]; omega
    · obtain rfl : k = 4 := by omega
      have f0 := hs.cell 0 (by omega)
      have f1 := hs.cell 1 (by omega)
      have f2 := hs.cell 2 (by omega)
      have f3 := hs.cell 3 (by omega)
      have z0 := hz.cell 0 (by omega)
      have z1 := hz.cell 1 (by omega)
      have z2 := hz.cell 2 (by omega)
      have z3 := hz.cell 3 (by omega)
      have y0 := hz.free 0 (by omega)
      have y1 := hz.free 1 (by omega)
      have y2 := hz.free 2 (by omega)
      have y3 := hz.free 3 (by omega)
      have hv4 : val f 4 + b = a + d * 2 ^ 256 := by rw [val4_limb hal, val4_limb hbl] at hv; exact hv
      have hfl := val_lt 4 (fun i _ => hf i)
      have Hv := Lib.hid hv4
      have Hfl := Lib.hid hfl
      clear hv hv4 hfl
      go_wp2
      · have hd' : (d : Int) ≠ 0 := by simpa using ‹((d : Int) != 0) = true›
        have hge : ¬ b ≤ a := by have := Hv.out; have := Hfl.out; have := Nat.mul_le_mul_right (2 ^ 256) (show 1 ≤ d by omega); omega
        refine bodyPost_ret (v := .tuple #[.agg #[.int .u64 0, .int .u64 0, .int .u64 0, .int .u64 0], .bool false]) (by simp [results, Tryd.results38, go_sem, z0, z1, z2, z3]) rfl (subPost_no hge (by rw [U_zero]) (below_set4 hbel (by omega)))
      · have hd' : (d : Int) = 0 := by simpa using ‹((d : Int) != 0) = false›
        have hd0 : d = 0 := by omega
        have hlt : b ≤ a := by have := Hv.out; have := Hfl.out; subst hd0; omega
        have hab : a - b = val f 4 := by have := Hv.out; subst hd0; omega
        refine bodyPost_ret (v := .tuple #[.agg #[.int .u64 (f 0 : Nat), .int .u64 (f 1 : Nat), .int .u64 (f 2 : Nat), .int .u64 (f 3 : Nat)], .bool true]) (by simp [results, Tryd.results38, go_sem, z0, z1, z2, z3]) rfl (subPost_yes hlt (by rw [hab, U_of hf]) (below_set4 hbel (by omega)))
end Go.Proofs.YtomhbggfdjooaaaDoor
