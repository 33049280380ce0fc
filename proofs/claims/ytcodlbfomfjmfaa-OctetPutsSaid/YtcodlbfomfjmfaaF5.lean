/- tallageref01.Bytes, walked. -/
import Derived.Test.YtcodlbfomfjmfaaUB
import Derived.Test.YtcodlbfomfjmfaaR2
namespace Go.Proofs.Ytcodlbfomfjmfaa
open Go.RowKit Go.Sort

theorem infoU8 : (Try.prog.info? 5).map (fun i => (i.zero, i.size, i.bytes)) = some (some (.int .u8 0), 1, 1) := by kernel_rfl
/-- the values of k bytes -/
def u8s (f : Nat → Nat) (k : Nat) : List Value := (List.range k).map fun i => Value.int .u8 (f i : Nat)
theorem u8s_succ (f : Nat → Nat) (k : Nat) : u8s f (k + 1) = u8s f k ++ [.int .u8 (f k : Nat)] := by simp [u8s, List.range_succ]
def RbyRel (a : Nat) (w : World) (x y : Value) (wr : World) : Prop :=
  ∃ k : Nat, k ≤ 32 ∧ y = .int .i64 (31 - (k : Int)) ∧ wr.ownsRow (w.heap.size + 1) 5 1 x k (u8s (fun i => byteAt a (31 - i)) k) ∧ Arr .u64 wr w.heap.size 4 (limb a) ∧ Below w.heap.size w wr ∧ w.heap.size < wr.heap.size
def RbyPost (a : Nat) (w : World) (e : Ending) (w' : World) : Prop :=
  (∃ v, e = .returned v ∧ w'.ownsRow (w.heap.size + 1) 5 1 v 32 (u8s (fun i => byteAt a (31 - i)) 32)) ∧ Below w.heap.size w w'

set_option maxRecDepth 100000 in
set_option maxHeartbeats 2000000 in
theorem rbytes_walk (a : Nat) (w : World) : Calls Try.prog 36 #[U a] w (RbyPost a w) := by
  obtain ⟨i0, hi, hz0, hz1, hz2⟩ := info_parts infoU8
  unfold U
  go_enter Try.func36, Try.ntmps36
  go_wp2
  go_loopw [3, 4] (RbyRel a w) (fun _ y _ => (intOf y + 1).toNat)
  case atStart =>
    exact ⟨0, by omega, rfl, World.ownsRow_nil _ _ _ _, Arr.new4 (f := limb a) rfl, (Below.refl _ _).alloc (Nat.le_refl _) _, by simp⟩
  case round =>
    obtain ⟨k, hk, rfl, hown, hb, hbel, hsz⟩ := hrel
    by_cases hlt : k < 32
    · obtain ⟨q, hq⟩ : ∃ q, q = (31 - k) / 8 := ⟨_, rfl⟩
      obtain ⟨r, hr⟩ : ∃ r, r = (31 - k) % 8 := ⟨_, rfl⟩
      have e0 : (0 : Int) ≤ 31 - (k : Int) := by omega
      have e1 : ((31 : Int) - (k : Int)).tdiv 8 = (q : Int) := by rw [Int.tdiv_eq_ediv_of_nonneg (by omega)]; omega
      have e2 : ((31 : Int) - (k : Int)).tmod 8 = (r : Int) := by rw [Int.tmod_eq_emod_of_nonneg (by omega)]; omega
      have e3 : ((31 : Int) - (k : Int)) / 8 = (q : Int) := by omega
      have hq4 : q < 4 := by omega
      have q7 : (q : Int) < 4 := by omega
      have hr8 : r < 8 := by omega
      have b1 := byte_run (a := a) hq hr
      rw [Nat.mul_comm r 8] at b1
      have i4 : IntKind.i64.wrap (8 * (r : Int)) = 8 * (r : Int) := IntWalk.i64_in _ (by omega)
      have i5 : IntKind.u64.wrap (8 * (r : Int)) = 8 * (r : Int) := IntWalk.u64_in _ (by omega)
      have i6 : (8 * (r : Int)).toNat = 8 * r := by omega
      have i7 : IntKind.i64.wrap (31 - (k : Int) - 1) = 31 - (k : Int) - 1 := IntWalk.i64_in _ (by omega)
      have c1 := hb.cell q hq4
      have hne := own_ne hown (show w.heap.size < w.heap.size + 1 by omega)
      clear hq hr
      go_wp2_with (at_builtin; refine wpList_append_own _ rfl _ _ _ rfl (w.heap.size + 1) 5 i0 _ 1 1 Try.underlying33 hi hz0 hz1 hz2 rfl (by omega) _ k (u8s (fun i => byteAt a (31 - i)) k) rfl (hown.alloc _) ⟨wr.heap.size, 0, none⟩ 1 1 [.int .u8 (byteAt a (31 - k) : Nat)] rfl rfl (World.news_of_block (cs := #[.int .u8 (byteAt a (31 - k) : Nat)]) (t := 5) (fr := (0, 0)) (heap_alloc_new wr _)) (by simp [Value.oneCell']) (by unfold maxLen; omega) (by omega) (by simp; omega) ?_)
      intro v1 w1 hown1 hgrow _
      go_wp2
      have hsz2 : w.heap.size < (wr.alloc (.cells #[.int .u8 (byteAt a (31 - k) : Nat)] 5)).heap.size := by rw [World.size_alloc]; omega
      refine ⟨⟨k + 1, by omega, by congr 1; omega, ?_, (hb.alloc _).grown hgrow hsz2 hne, ?_, Nat.lt_of_lt_of_le hsz2 hgrow.size⟩, by simp [intOf]; omega⟩
      · rw [u8s_succ]; exact hown1
      · exact (hbel.alloc (Nat.le_of_lt hsz) _).grown hgrow (Nat.le_of_lt hsz2) (fun j hj => by have := own_ge hown j hj; omega)
    · obtain rfl : k = 32 := by omega
      go_wp2
      go_ret
      exact ⟨⟨_, rfl, hown⟩, hbel⟩
end Go.Proofs.Ytcodlbfomfjmfaa
