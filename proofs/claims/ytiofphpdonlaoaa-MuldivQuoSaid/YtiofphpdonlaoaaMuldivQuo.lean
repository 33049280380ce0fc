/- tallagelaw02.MuldivQuo, walked: it returns true. -/
import Derived.Test.YtiofphpdonlaoaaRG
import Derived.Test.YtiofphpdonlaoaaBK
import Derived.Test.YtiofphpdonlaoaaM8
namespace Go.Proofs.Ytiofphpdonlaoaa
open Go.RowKit Go.Sort

theorem quoE_c (h l d N q r : Nat) (ok : Bool) (w : World) (hh : h < 2 ^ 256) (hl : l < 2 ^ 256) (hd : d < 2 ^ 256) (hN : N = h * 2 ^ 256 + l) (hq : q = if quoOk N d then N / d else 0) (hr : r = if quoOk N d then N % d else 0) (hok : ok = decide (quoOk N d)) :
    Calls Try.prog 47 #[WW h l, .agg #[.int .u64 (limb d 0 : Nat), .int .u64 (limb d 1 : Nat), .int .u64 (limb d 2 : Nat), .int .u64 (limb d 3 : Nat)]] w fun e w' => e = .returned (.tuple #[.agg #[.int .u64 (limb q 0 : Nat), .int .u64 (limb q 1 : Nat), .int .u64 (limb q 2 : Nat), .int .u64 (limb q 3 : Nat)], .agg #[.int .u64 (limb r 0 : Nat), .int .u64 (limb r 1 : Nat), .int .u64 (limb r 2 : Nat), .int .u64 (limb r 3 : Nat)], .bool ok]) ∧ Below w.heap.size w w' := by
  rw [hq, hr, hok, hN]; exact quo_walk h l d w hh hl hd
theorem rquoE_c (h l d N q r : Nat) (ok : Bool) (w : World) (hh : h < 2 ^ 256) (hl : l < 2 ^ 256) (hd : d < 2 ^ 256) (hN : N = h * 2 ^ 256 + l) (hq : q = if quoOk N d then N / d else 0) (hr : r = if quoOk N d then N % d else 0) (hok : ok = decide (quoOk N d)) :
    Calls Try.prog 48 #[.agg #[.int .u64 (limb h 0 : Nat), .int .u64 (limb h 1 : Nat), .int .u64 (limb h 2 : Nat), .int .u64 (limb h 3 : Nat)], .agg #[.int .u64 (limb l 0 : Nat), .int .u64 (limb l 1 : Nat), .int .u64 (limb l 2 : Nat), .int .u64 (limb l 3 : Nat)], .agg #[.int .u64 (limb d 0 : Nat), .int .u64 (limb d 1 : Nat), .int .u64 (limb d 2 : Nat), .int .u64 (limb d 3 : Nat)]] w fun e w' => e = .returned (.tuple #[.agg #[.int .u64 (limb q 0 : Nat), .int .u64 (limb q 1 : Nat), .int .u64 (limb q 2 : Nat), .int .u64 (limb q 3 : Nat)], .agg #[.int .u64 (limb r 0 : Nat), .int .u64 (limb r 1 : Nat), .int .u64 (limb r 2 : Nat), .int .u64 (limb r 3 : Nat)], .bool ok]) ∧ Below w.heap.size w w' := by
  rw [hq, hr, hok]; exact rquo_walk h l d N w hh hl hd hN
theorem quo_r_lt {N d : Nat} (hd : d < 2 ^ 256) : (if quoOk N d then N % d else 0) < 2 ^ 256 := by
  split
  · rename_i h; exact Nat.lt_trans (Nat.mod_lt _ (Nat.pos_of_ne_zero h.1)) hd
  · decide
theorem quo_q_lt {N d : Nat} : (if quoOk N d then N / d else 0) < 2 ^ 256 := by
  split
  · rename_i h; exact h.2
  · decide

set_option maxRecDepth 100000 in
set_option maxHeartbeats 8000000 in
theorem muldivQuo_walk (h l d : Nat) (w : World) (hhl : h < 2 ^ 256) (hll : l < 2 ^ 256) (hdl : d < 2 ^ 256) :
    Calls Try.prog 8 #[U h, U l, U d] w fun e w' => e = .returned (.bool true) ∧ Below w.heap.size w w' := by
  obtain ⟨N, hN⟩ : ∃ s, s = h * 2 ^ 256 + l := ⟨_, rfl⟩
  obtain ⟨q, hq⟩ : ∃ s, s = if quoOk N d then N / d else 0 := ⟨_, rfl⟩
  obtain ⟨r, hr⟩ : ∃ s, s = if quoOk N d then N % d else 0 := ⟨_, rfl⟩
  obtain ⟨ok, hok⟩ : ∃ s, s = decide (quoOk N d) := ⟨_, rfl⟩
  have heqq := fun w => eq_run (a := q) (b := q) (by rw [hq]; exact quo_q_lt) (by rw [hq]; exact quo_q_lt) w
  have heqr := fun w => eq_run (a := r) (b := r) (by rw [hr]; exact quo_r_lt hdl) (by rw [hr]; exact quo_r_lt hdl) w
  have HN := Lib.hid hN
  have Hq := Lib.hid hq
  have Hr := Lib.hid hr
  have Hok := Lib.hid hok
  have Hhl := Lib.hid hhl
  have Hll := Lib.hid hll
  have Hdl := Lib.hid hdl
  clear hN hq hr hok hhl hll hdl
  have K0 := Lib.hid (Bk.three (a := h) (b := l) (c := d) (w := w) (t1 := 24) (t2 := 24) (t3 := 24))
  unfold U
  go_enter Try.func8, Try.ntmps8
  go_wp2_with (first
      | (go_at_call 48; refine (rquoE_c h l d N q r ok _ Hhl.out Hll.out Hdl.out HN.out Hq.out Hr.out Hok.out).mono ?_; rintro e w2 ⟨rfl, hb2⟩; have k2 := ((k1.push q).push r).call hb2; simp only [World.size_alloc] at k2; obtain ⟨⟨q10, q11, q12, q13⟩, lq1⟩ := k2.cells (w1.heap.size) q (by simp); obtain ⟨⟨r10, r11, r12, r13⟩, lr1⟩ := k2.cells (w1.heap.size + 1) r (by simp))
      | (go_at_call 47; refine (quoE_c h l d N q r ok _ Hhl.out Hll.out Hdl.out HN.out Hq.out Hr.out Hok.out).mono ?_; rintro e w1 ⟨rfl, hb1⟩; have k1 := K0.out.call hb1; obtain ⟨⟨a10, a11, a12, a13⟩, la1⟩ := k1.cells (w.heap.size) h (by simp); obtain ⟨⟨b10, b11, b12, b13⟩, lb1⟩ := k1.cells (w.heap.size + 1) l (by simp); obtain ⟨⟨c10, c11, c12, c13⟩, lc1⟩ := k1.cells (w.heap.size + 1 + 1) d (by simp); have ga : w.heap.size < w1.heap.size + 1 := (by omega); have gb : w.heap.size + 1 < w1.heap.size + 1 := (by omega); have gc : w.heap.size + 1 + 1 < w1.heap.size + 1 := (by omega))
      | (go_at_call 46; refine (lives2_walk _).mono ?_; rintro e w8 ⟨rfl, hb8⟩))
  go_ret
  exact ⟨rfl, (((k2.push (t := 24) q).push (t := 24) r).call hb8).l⟩
end Go.Proofs.Ytiofphpdonlaoaa
