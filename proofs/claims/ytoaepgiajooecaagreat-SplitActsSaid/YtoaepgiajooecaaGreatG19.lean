/- The law StoreLast: what is read at its end. -/
import Derived.Test.YtoaepgiajooecaaGreatG18
import Derived.Test.YtoaepgiajooecaaGreatG15
import Derived.Test.YtoaepgiajooecaaGreatG17
import Derived.Test.YtoaepgiajooecaaGreatProg
import Derived.Test.YtoaepgiajooecaaGreatG00
import Derived.Laws.Externs
import Derived.Lib.Hide
namespace Go.Proofs.YtoaepgiajooecaaGreat
open Go.RowKit Go.Maps Go.Sort

theorem lpre_take : ∀ (k b : List UInt8), b.length ≤ k.length → ((k.take b.length == b) = Lib.hasPrefix k b)
  | _, [], _ => by simp [Lib.hasPrefix]
  | [], b :: x, h => by simp at h
  | a :: k, b :: x, h => by
    have ih := lpre_take k x (by simpa using h)
    unfold Lib.hasPrefix at ih ⊢
    rw [List.length_cons, List.take_succ_cons, List.isPrefixOf_cons_cons, ← ih, Bool.eq_iff_iff]
    rw [Bool.and_eq_true, beq_iff_eq, beq_iff_eq, beq_iff_eq, List.cons_eq_cons]
    exact ⟨fun ⟨h1, h2⟩ => ⟨h1.symm, h2⟩, fun ⟨h1, h2⟩ => ⟨h1.symm, h2⟩⟩
theorem pre_ext {k b v : ByteArray} (h : b.size ≤ k.size) : ((k.extract 0 b.size).toList == b.toList) = hpre b (k, v) := by
  have h1 : b.size = b.data.toList.length := by rw [Array.length_toList]; rfl
  have h2 : k.size = k.data.toList.length := by rw [Array.length_toList]; rfl
  have e : (k.extract 0 b.size).toList = k.data.toList.take b.data.toList.length := by
    rw [Lib.toList_data, ByteArray.data_extract, Array.toList_extract, ← h1]
    show ((k.data.toList).drop 0).take (b.size - 0) = _
    rw [List.drop_zero, Nat.sub_zero]
  rw [e, Lib.toList_data, lpre_take _ _ (by omega)]
  rfl
theorem pre_short {k b v : ByteArray} (h : k.size < b.size) : hpre b (k, v) = false := by
  cases hp : hpre b (k, v) with
  | false => rfl
  | true =>
    unfold hpre Lib.hasPrefix at hp
    have := (List.isPrefixOf_iff_prefix.1 hp).length_le
    have h1 : b.size = b.data.toList.length := by rw [Array.length_toList]; rfl
    have h2 : k.size = k.data.toList.length := by rw [Array.length_toList]; rfl
    dsimp only at this
    omega
theorem cp_take {L : SL} (P : ByteArray × ByteArray → Bool) {m : Nat} (h : m < L.length) : (L.take (m + 1)).countP P = (L.take m).countP P + (if P L[m] = true then 1 else 0) := by
  rw [List.take_succ_eq_append_getElem h, List.countP_append, List.countP_singleton]
/-- All by it -/
theorem SlW.all {w W : World} {b : Nat} {key want : ByteArray} {th : Bool} {c : Nat} {L : SL} (h : SlW w W b key want th c L) (hc : c < 1000000) :
    Calls Tryz.prog 11 #[.pointer (some ⟨b, 0, none⟩)] W fun e w' => (∃ v, e = .returned v ∧ w'.ownsRow W.heap.size 65 2 v L.length (pcs L)) ∧ Below W.heap.size W w' := by
  obtain ⟨F, q, qs, hs, hq⟩ := h.s
  exact all_live b F L q qs W hs.s h.ks (by have := h.len; omega)
theorem SlW.under {w W : World} {b : Nat} {key want : ByteArray} {th : Bool} {c : Nat} {L : SL} (h : SlW w W b key want th c L) (hc : c < 1000000) (x : ByteArray) :
    Calls Tryz.prog 29 #[.pointer (some ⟨b, 0, none⟩), .string x] W fun e w' => (∃ A C, e = .returned (.slice A (L.countP (hpre x)) C)) ∧ Below W.heap.size W w' := by
  obtain ⟨F, q, qs, hs, hq⟩ := h.s
  refine (under_live b F L q qs W hs.s x h.ks (by have := h.len; omega)).mono ?_
  rintro e w' ⟨⟨v, rfl, ho⟩, hb⟩
  obtain ⟨A, C, rfl, _⟩ := row_pairs ho
  obtain ⟨bm, vb, vk, vq, _, hM⟩ := hs.s
  exact ⟨⟨A, C, by rw [under_count hM.so x]⟩, hb⟩
end Go.Proofs.YtoaepgiajooecaaGreat

namespace Go.Proofs.YtoaepgiajooecaaGreat
open Go.RowKit Go.Maps Go.Sort

end Go.Proofs.YtoaepgiajooecaaGreat

namespace Go.Proofs.YtoaepgiajooecaaGreat
open Go.RowKit

def r64 (x y c : Nat) : Nat := (x + 18446744073709551616 - y - c) % 18446744073709551616
def b64 (x y c : Nat) : Nat := if x < y + c then 1 else 0
theorem run_sub64n (x y b : Nat) (hb : b ≤ 1) (w : World) :
    (callFunc 57 #[.int .u64 (x : Nat), .int .u64 (y : Nat), .int .u64 (b : Nat)]).run Tryz.prog w =
      .ok (.value (.tuple #[.int .u64 (r64 x y b : Nat), .int .u64 (b64 x y b : Nat)])) w := by
  rw [run_callFunc_extern (fn := Tryz.f57) (by kernel_rfl) (by kernel_rfl) (by kernel_rfl) (by kernel_rfl) (e := fun args => do
    let (x, y, b) ← Extern.MathBitsCarry.three "Sub64" args
    pure (Extern.MathBitsCarry.pair ((x + Extern.MathBitsCarry.m64 - y - b) % Extern.MathBitsCarry.m64) (if x < y + b then 1 else 0))) (by kernel_rfl)]
  have : b = 0 ∨ b = 1 := by omega
  rcases this with rfl | rfl <;> rfl
theorem r64_lt (x y c : Nat) : r64 x y c < 2 ^ 64 := by unfold r64; omega
theorem b64_le (x y c : Nat) : b64 x y c ≤ 1 := by unfold b64; split <;> omega
theorem rb64 (x y c : Nat) (hx : x < 2 ^ 64) (hy : y < 2 ^ 64) (hc : c ≤ 1) : r64 x y c + y + c = x + b64 x y c * 2 ^ 64 := by unfold r64 b64; split <;> omega

/-- what Sub comes to -/
def SubPost (a b : Nat) (w : World) (e : Ending) (w' : World) : Prop :=
  e = .returned (.tuple #[U (if b ≤ a then a - b else 0), .bool (decide (b ≤ a))]) ∧ Below w.heap.size w w'
theorem subPost_yes {a b : Nat} {w w' : World} {e : Ending} (h : b ≤ a) (he : e = .returned (.tuple #[U (a - b), .bool true])) (hw : Below w.heap.size w w') : SubPost a b w e w' := by
  unfold SubPost; rw [if_pos h, decide_eq_true h]; exact ⟨he, hw⟩
theorem subPost_no {a b : Nat} {w w' : World} {e : Ending} (h : ¬ b ≤ a) (he : e = .returned (.tuple #[U 0, .bool false])) (hw : Below w.heap.size w w') : SubPost a b w e w' := by
  unfold SubPost; rw [if_neg h, decide_eq_false h]; exact ⟨he, hw⟩
/-- the state at the head of Sub's loop -/
def SubRel (a b : Nat) (w : World) (c i : Value) (wr : World) : Prop :=
  ∃ (k d : Nat) (f : Nat → Nat), k ≤ 4 ∧ i = .int .i64 (k : Nat) ∧ c = .int .u64 (d : Nat) ∧ d ≤ 1 ∧ (∀ j, f j < 2 ^ 64) ∧
    val f k + val (limb b) k = val (limb a) k + d * 2 ^ (64 * k) ∧
    Arr .u64 wr w.heap.size 4 (limb a) ∧ Arr .u64 wr (w.heap.size + 1) 4 (limb b) ∧ Arr .u64 wr (w.heap.size + 1 + 1) 4 (fun _ => 0) ∧ Arr .u64 wr (w.heap.size + 1 + 1 + 1) 4 f ∧
    Below w.heap.size w wr ∧ w.heap.size + 1 + 1 + 1 < wr.heap.size

set_option maxRecDepth 100000 in
set_option maxHeartbeats 1000000 in
theorem sub_walk (a b : Nat) (w : World) (hal : a < 2 ^ 256) (hbl : b < 2 ^ 256) :
    Calls Tryz.prog 31 #[U a, U b] w (SubPost a b w) := by
  have hsub := run_sub64n
  unfold U
  go_enter Tryz.func31, Tryz.ntmps31
  go_wp2
  go_loopw [7, 9] (SubRel a b w) (fun _ i _ => 4 - (intOf i).toNat)
  case atStart =>
    refine ⟨0, 0, fun _ => 0, by omega, rfl, rfl, by omega, by simp, by simp [val], ?_, ?_, ?_, ?_, ?_, ?_⟩
    · exact (((Arr.new4 (f := limb a) rfl).alloc _).alloc _).alloc _
    · exact ((Arr.new4 (f := limb b) (by simp)).alloc _).alloc _
    · exact (Arr.new4 (f := fun _ => 0) (by simp)).alloc _
    · exact Arr.new4 (f := fun _ => 0) (by simp)
    · exact ((((Below.refl _ _).alloc (Nat.le_refl _) _).alloc (by simp only [World.size_alloc]; omega) _).alloc (by simp only [World.size_alloc]; omega) _).alloc (by simp only [World.size_alloc]; omega) _
    · simp
  case round =>
    obtain ⟨k, d, f, hk, rfl, rfl, hd, hf, hv, ha, hb, hz, hs, hbel, hsz⟩ := hrel
    by_cases hlt : k < 4
    · have a1 := ha.cell k hlt
      have b1 := hb.cell k hlt
      have f1 := hs.free k hlt
      have f2 := hs.cell k hlt
      go_wp2
      go_region_with (fail)
      all_goals
        go_wp2
        go_roundw
        case rel =>
          refine ⟨k + 1, b64 (limb a k) (limb b k) d, upd f k (r64 (limb a k) (limb b k) d), by omega, by go_num, rfl, b64_le _ _ _, upd_lt hf (r64_lt _ _ _), ?_, ?_, ?_, ?_, ?_, ?_, ?_⟩
          · rw [val_upd_succ, pow_succ64]
            have h1 := congrArg (· * 2 ^ (64 * k)) (rb64 (limb a k) (limb b k) d (limb_lt a k) (limb_lt b k) hd)
            simp only [val]
            simp only [Nat.add_mul, Nat.mul_assoc] at h1
            omega
          · exact ha.drew.set_far (by omega)
          · exact hb.drew.set_far (by omega)
          · exact hz.drew.set_far (by omega)
          · exact hs.drew.set hlt
          · exact (below_drewN hbel 1).setCell (by simp; omega) _
          · simp; omega
        case measure => simp [intOf]; omega
    · obtain rfl : k = 4 := by omega
      have f0 := hs.cell 0 (by omega)
      have f1 := hs.cell 1 (by omega)
      have f2 := hs.cell 2 (by omega)
      have f3 := hs.cell 3 (by omega)
      have z0 := hz.cell 0 (by omega)
      have z1 := hz.cell 1 (by omega)
      have z2 := hz.cell 2 (by omega)
      have z3 := hz.cell 3 (by omega)
      have y0 := hz.free 0 (by omega)
      have y1 := hz.free 1 (by omega)
      have y2 := hz.free 2 (by omega)
      have y3 := hz.free 3 (by omega)
      have hv4 : val f 4 + b = a + d * 2 ^ 256 := by rw [val4_limb hal, val4_limb hbl] at hv; exact hv
      have hfl := val_lt 4 (fun i _ => hf i)
      have Hv := Lib.hid hv4
      have Hfl := Lib.hid hfl
      clear hv hv4 hfl
      go_wp2
      · have hd' : (d : Int) ≠ 0 := by simpa using ‹((d : Int) != 0) = true›
        have hge : ¬ b ≤ a := by have := Hv.out; have := Hfl.out; have := Nat.mul_le_mul_right (2 ^ 256) (show 1 ≤ d by omega); omega
        refine bodyPost_ret (v := .tuple #[.agg #[.int .u64 0, .int .u64 0, .int .u64 0, .int .u64 0], .bool false]) (by simp [results, Tryz.results31, go_sem, z0, z1, z2, z3]) rfl (subPost_no hge (by rw [U_zero]) (below_set4 hbel (by omega)))
      · have hd' : (d : Int) = 0 := by simpa using ‹((d : Int) != 0) = false›
        have hd0 : d = 0 := by omega
        have hlt : b ≤ a := by have := Hv.out; have := Hfl.out; subst hd0; omega
        have hab : a - b = val f 4 := by have := Hv.out; subst hd0; omega
        refine bodyPost_ret (v := .tuple #[.agg #[.int .u64 (f 0 : Nat), .int .u64 (f 1 : Nat), .int .u64 (f 2 : Nat), .int .u64 (f 3 : Nat)], .bool true]) (by simp [results, Tryz.results31, go_sem, z0, z1, z2, z3]) rfl (subPost_yes hlt (by rw [hab, U_of hf]) (below_set4 hbel (by omega)))
end Go.Proofs.YtoaepgiajooecaaGreat
