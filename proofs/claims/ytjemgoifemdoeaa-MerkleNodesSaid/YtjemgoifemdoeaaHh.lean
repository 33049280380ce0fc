/- sha.mixBlock, walked. -/
import Derived.Test.YtjemgoifemdoeaaHj
import Derived.StillTailTactics
namespace Go.Proofs.Ytjemgoifemdoeaa
open Go.RowKit

set_option maxRecDepth 100000 in
set_option maxHeartbeats 4000000 in
theorem mix_walk (w : World) (sp kp : Nat) (B : Option Addr) (cb : Nat) (f h K : Nat → Nat) (bv : Value) (rest : List Value) (tS : TypeId) (hl : Sl w B 64 f) (hr0 : w.heap[sp]? = some (.cells (stCells bv h rest).toArray tS (0, 0))) (hb : ∀ i, h i < 2 ^ 32) (hk : Arr .u32 w kp 64 K) (hks : kp < w.heap.size) (hkb : ∀ i, K i < 2 ^ 32) : Calls Try.prog 71 #[.pointer (some ⟨sp, 1, none⟩), .pointer (some ⟨kp, 0, none⟩), .slice B 64 cb] w fun e w' => e = .returned (.tuple #[]) ∧ w'.heap[sp]? = some (.cells (stCells bv (mix K f h) rest).toArray tS (0, 0)) ∧ Only sp w w' := by
  obtain ⟨gb, ob, rfl, hgb, hcb⟩ := hl.at_ (by omega)
  have HC := Lib.hid hcb
  have HS := Lib.hid hl.small
  have hs := row_lt hr0
  have HR0 := Lib.hid hr0
  have HHb := Lib.hid hb
  have HK := Lib.hid hk
  have HKb := Lib.hid hkb
  clear hl hcb hr0 hb hk hkb
  go_enter Try.func71, Try.ntmps71
  go_wp2
  go_loopw [27] (fun i wr => ∃ j : Nat, j ≤ 16 ∧ i = .int .i64 (j : Nat) ∧ wr.heap[w.heap.size]? = some (.cells (vals .u32 (fun i => (msg f j).getD i 0) 64).toArray 84 (0, 0)) ∧ Below w.heap.size w wr) (fun i _ => 16 - (intOf i).toNat)
  case atStart =>
    refine ⟨0, by omega, rfl, ?_, (Below.refl _ _).alloc (Nat.le_refl _) _⟩
    exact (heap_alloc_new _ _).trans (by kernel_rfl)
  case round =>
    obtain ⟨j, hj, rfl, hr, hb⟩ := hrel
    by_cases hlt : j < 16
    · have p1 : (j : Int) < 16 := by omega
      have p2 : (j : Int) < 64 := by omega
      have HR := Lib.hid hr
      have HB := Lib.hid hb
      have y0 : wr.cell? ⟨gb, ob + 4 * j, none⟩ = some (.int .u8 (f (4 * j) : Nat)) := (hb.cell (p := ⟨gb, _, none⟩) hgb).trans (HC.out _ (by omega))
      have y1 : wr.cell? ⟨gb, ob + (4 * j + 1), none⟩ = some (.int .u8 (f (4 * j + 1) : Nat)) := (hb.cell (p := ⟨gb, _, none⟩) hgb).trans (HC.out _ (by omega))
      have y2 : wr.cell? ⟨gb, ob + (4 * j + 2), none⟩ = some (.int .u8 (f (4 * j + 2) : Nat)) := (hb.cell (p := ⟨gb, _, none⟩) hgb).trans (HC.out _ (by omega))
      have y3 : wr.cell? ⟨gb, ob + (4 * j + 3), none⟩ = some (.int .u8 (f (4 * j + 3) : Nat)) := (hb.cell (p := ⟨gb, _, none⟩) hgb).trans (HC.out _ (by omega))
      have cl : wr.cell? ⟨w.heap.size, j, none⟩ = some (.int .u32 ((msg f j).getD j 0 : Nat)) := (row_cell hr).trans (by rw [List.getElem?_toArray]; exact vals_get _ _ (by omega))
      have gl : wr.frozen? ⟨w.heap.size, j, none⟩ = false := row_free hr
      obtain ⟨b0, e0⟩ : ∃ y, y = f (4 * j) := ⟨_, rfl⟩
      obtain ⟨b1, e1⟩ : ∃ y, y = f (4 * j + 1) := ⟨_, rfl⟩
      obtain ⟨b2, e2⟩ : ∃ y, y = f (4 * j + 2) := ⟨_, rfl⟩
      obtain ⟨b3, e3⟩ : ∃ y, y = f (4 * j + 3) := ⟨_, rfl⟩
      have s0 : b0 < 256 := by rw [e0]; exact HS.out _
      have s1 : b1 < 256 := by rw [e1]; exact HS.out _
      have s2 : b2 < 256 := by rw [e2]; exact HS.out _
      have s3 : b3 < 256 := by rw [e3]; exact HS.out _
      rw [← e0] at y0
      rw [← e1] at y1
      rw [← e2] at y2
      rw [← e3] at y3
      obtain ⟨q0, k0⟩ : ∃ y, y = b0 <<< 24 := ⟨_, rfl⟩
      obtain ⟨q1, k1⟩ : ∃ y, y = b1 <<< 16 := ⟨_, rfl⟩
      obtain ⟨q2, k2⟩ : ∃ y, y = b2 <<< 8 := ⟨_, rfl⟩
      have t0 : q0 < 2 ^ 32 := by rw [k0]; exact byte_shl s0 (by omega)
      have t1 : q1 < 2 ^ 32 := by rw [k1]; exact byte_shl s1 (by omega)
      have t2 : q2 < 2 ^ 32 := by rw [k2]; exact byte_shl s2 (by omega)
      have g0 : IntKind.u32.wrap ((b0 : Int) * 16777216) = (q0 : Int) := by rw [k0, Nat.shiftLeft_eq, IntKind.wrap_u32]; omega
      have g1 : IntKind.u32.wrap ((b1 : Int) * 65536) = (q1 : Int) := by rw [k1, Nat.shiftLeft_eq, IntKind.wrap_u32]; omega
      have g2 : IntKind.u32.wrap ((b2 : Int) * 256) = (q2 : Int) := by rw [k2, Nat.shiftLeft_eq, IntKind.wrap_u32]; omega
      have w0 : IntKind.u32.wrap (b0 : Int) = (b0 : Int) := wrap_u32 (by omega)
      have w1 : IntKind.u32.wrap (b1 : Int) = (b1 : Int) := wrap_u32 (by omega)
      have w2 : IntKind.u32.wrap (b2 : Int) = (b2 : Int) := wrap_u32 (by omega)
      have w3 : IntKind.u32.wrap (b3 : Int) = (b3 : Int) := wrap_u32 (by omega)
      obtain ⟨r1, o1⟩ : ∃ y, y = q0 ||| q1 := ⟨_, rfl⟩
      obtain ⟨r2, o2⟩ : ∃ y, y = r1 ||| q2 := ⟨_, rfl⟩
      obtain ⟨r3, o3⟩ : ∃ y, y = r2 ||| b3 := ⟨_, rfl⟩
      have x1 : bits .or .u32 (q0 : Int) (q1 : Int) = (r1 : Int) := by rw [o1]; exact bits_or32 t0 t1
      have l1 : r1 < 2 ^ 32 := by rw [o1]; exact or_lt32 t0 t1
      have x2 : bits .or .u32 (r1 : Int) (q2 : Int) = (r2 : Int) := by rw [o2]; exact bits_or32 l1 t2
      have l2 : r2 < 2 ^ 32 := by rw [o2]; exact or_lt32 l1 t2
      have x3 : bits .or .u32 (r2 : Int) (b3 : Int) = (r3 : Int) := by rw [o3]; exact bits_or32 l2 (by omega)
      have HW := Lib.hid (show r3 = wordAt f j by unfold wordAt; rw [o3, o2, o1, k0, k1, k2, e0, e1, e2, e3])
      clear e0 e1 e2 e3 k0 k1 k2 o1 o2 o3 t0 t1 t2 l1 l2
      have a0 : IntKind.i64.wrap (4 * (j : Int)) = 4 * (j : Int) := IntWalk.i64_in _ (by omega)
      have n0 : (4 * (j : Int)).toNat = 4 * j := by omega
      have z0 : (0 : Int) ≤ 4 * (j : Int) := by omega
      have u0 : 4 * (j : Int) < 64 := by omega
      have a1 : IntKind.i64.wrap (4 * (j : Int) + 1) = 4 * (j : Int) + 1 := IntWalk.i64_in _ (by omega)
      have n1 : (4 * (j : Int) + 1).toNat = 4 * j + 1 := by omega
      have z1 : (0 : Int) ≤ 4 * (j : Int) + 1 := by omega
      have u1 : 4 * (j : Int) + 1 < 64 := by omega
      have a2 : IntKind.i64.wrap (4 * (j : Int) + 2) = 4 * (j : Int) + 2 := IntWalk.i64_in _ (by omega)
      have n2 : (4 * (j : Int) + 2).toNat = 4 * j + 2 := by omega
      have z2 : (0 : Int) ≤ 4 * (j : Int) + 2 := by omega
      have u2 : 4 * (j : Int) + 2 < 64 := by omega
      have a3 : IntKind.i64.wrap (4 * (j : Int) + 3) = 4 * (j : Int) + 3 := IntWalk.i64_in _ (by omega)
      have n3 : (4 * (j : Int) + 3).toNat = 4 * j + 3 := by omega
      have z3 : (0 : Int) ≤ 4 * (j : Int) + 3 := by omega
      have u3 : 4 * (j : Int) + 3 < 64 := by omega
      go_upto_region 4 with fail
      go_still_tail 35, (by kernel_rfl)
      go_wp2
      refine ⟨⟨j + 1, by omega, by simp, ?_, (HB.out.setCell (Nat.le_refl _) _).drew⟩, by simp [intOf]; omega⟩
      show (wr.setCell ⟨w.heap.size, j, none⟩ (.int .u32 (r3 : Nat))).heap[w.heap.size]? = _
      rw [row_set HR.out, vals_set _ _ _ (by omega), msg_put f (by rw [if_pos hlt]; exact HW.out)]
    · obtain rfl : j = 16 := by omega
      have p1 : ¬ ((16 : Nat) : Int) < 16 := by omega
      have HR := Lib.hid hr
      have HB := Lib.hid hb
      clear hr hb
      go_wp2
      go_loopw [8] (fun i wr => ∃ j : Nat, 16 ≤ j ∧ j ≤ 64 ∧ i = .int .i64 (j : Nat) ∧ wr.heap[w.heap.size]? = some (.cells (vals .u32 (fun i => (msg f j).getD i 0) 64).toArray 84 (0, 0)) ∧ Below w.heap.size w wr) (fun i _ => 64 - (intOf i).toNat)
      case atStart => exact ⟨16, by omega, by omega, rfl, HR.out, HB.out⟩
      case round =>
        obtain ⟨j, hj0, hj, rfl, hr, hb⟩ := hrel
        clear HR HB
        by_cases hlt : j < 64
        · have p2 : (j : Int) < 64 := by omega
          have HR := Lib.hid hr
          have HB := Lib.hid hb
          have q16 : (16 : Int) ≤ (j : Int) := by omega
          have q15 : (15 : Int) ≤ (j : Int) := by omega
          have q7 : (7 : Int) ≤ (j : Int) := by omega
          have q2 : (2 : Int) ≤ (j : Int) := by omega
          have i16 : IntKind.i64.wrap ((j : Int) - 16) = (j : Int) - 16 := IntWalk.i64_in _ (by omega)
          have n16 : ((j : Int) - 16).toNat = j - 16 := by omega
          have z16 : (0 : Int) ≤ (j : Int) - 16 := by omega
          have b16 : (j : Int) - 16 < 64 := by omega
          have i15 : IntKind.i64.wrap ((j : Int) - 15) = (j : Int) - 15 := IntWalk.i64_in _ (by omega)
          have n15 : ((j : Int) - 15).toNat = j - 15 := by omega
          have z15 : (0 : Int) ≤ (j : Int) - 15 := by omega
          have b15 : (j : Int) - 15 < 64 := by omega
          have i7 : IntKind.i64.wrap ((j : Int) - 7) = (j : Int) - 7 := IntWalk.i64_in _ (by omega)
          have n7 : ((j : Int) - 7).toNat = j - 7 := by omega
          have z7 : (0 : Int) ≤ (j : Int) - 7 := by omega
          have b7 : (j : Int) - 7 < 64 := by omega
          have i2 : IntKind.i64.wrap ((j : Int) - 2) = (j : Int) - 2 := IntWalk.i64_in _ (by omega)
          have n2 : ((j : Int) - 2).toNat = j - 2 := by omega
          have z2 : (0 : Int) ≤ (j : Int) - 2 := by omega
          have b2 : (j : Int) - 2 < 64 := by omega
          have cw : ∀ m, m < 64 → wr.cell? ⟨w.heap.size, m, none⟩ = some (.int .u32 ((msg f j).getD m 0 : Nat)) := fun m hm => (row_cell hr).trans (by rw [List.getElem?_toArray]; exact vals_get _ _ hm)
          have y16 := cw (j - 16) (by omega)
          have y15 := cw (j - 15) (by omega)
          have y7 := cw (j - 7) (by omega)
          have y2 := cw (j - 2) (by omega)
          have cl := cw j hlt
          have gl : wr.frozen? ⟨w.heap.size, j, none⟩ = false := row_free hr
          obtain ⟨x16, e16⟩ : ∃ x, x = (msg f j).getD (j - 16) 0 := ⟨_, rfl⟩
          obtain ⟨x15, e15⟩ : ∃ x, x = (msg f j).getD (j - 15) 0 := ⟨_, rfl⟩
          obtain ⟨x7, e7⟩ : ∃ x, x = (msg f j).getD (j - 7) 0 := ⟨_, rfl⟩
          obtain ⟨x2, e2⟩ : ∃ x, x = (msg f j).getD (j - 2) 0 := ⟨_, rfl⟩
          rw [← e16] at y16
          rw [← e15] at y15
          rw [← e7] at y7
          rw [← e2] at y2
          have l16 : x16 < 2 ^ 32 := by rw [e16]; exact msg_lt HS.out _ _
          have l15 : x15 < 2 ^ 32 := by rw [e15]; exact msg_lt HS.out _ _
          have l7 : x7 < 2 ^ 32 := by rw [e7]; exact msg_lt HS.out _ _
          have l2 : x2 < 2 ^ 32 := by rw [e2]; exact msg_lt HS.out _ _
          have T7 := Lib.hid (fun w => turned_walk x15 7 7 w rfl l15 (by omega) (by omega))
          have T18 := Lib.hid (fun w => turned_walk x15 18 18 w rfl l15 (by omega) (by omega))
          have T17 := Lib.hid (fun w => turned_walk x2 17 17 w rfl l2 (by omega) (by omega))
          have T19 := Lib.hid (fun w => turned_walk x2 19 19 w rfl l2 (by omega) (by omega))
          obtain ⟨ra, ea⟩ : ∃ x, x = rotr x15 7 := ⟨_, rfl⟩
          obtain ⟨rb, eb⟩ : ∃ x, x = rotr x15 18 := ⟨_, rfl⟩
          obtain ⟨rc, ec⟩ : ∃ x, x = rotr x2 17 := ⟨_, rfl⟩
          obtain ⟨rd, ed⟩ : ∃ x, x = rotr x2 19 := ⟨_, rfl⟩
          rw [← ea] at T7
          rw [← eb] at T18
          rw [← ec] at T17
          rw [← ed] at T19
          obtain ⟨sa, esa⟩ : ∃ x, x = x15 >>> 3 := ⟨_, rfl⟩
          obtain ⟨sb, esb⟩ : ∃ x, x = x2 >>> 10 := ⟨_, rfl⟩
          have v1 : (x15 : Int) / 8 = (sa : Int) := by rw [esa, Nat.shiftRight_eq_div_pow]; omega
          have v2 : (x2 : Int) / 1024 = (sb : Int) := by rw [esb, Nat.shiftRight_eq_div_pow]; omega
          have la : ra < 2 ^ 32 := by rw [ea]; exact rotr_lt l15 _
          have lb : rb < 2 ^ 32 := by rw [eb]; exact rotr_lt l15 _
          have lc : rc < 2 ^ 32 := by rw [ec]; exact rotr_lt l2 _
          have ld : rd < 2 ^ 32 := by rw [ed]; exact rotr_lt l2 _
          have lsa : sa < 2 ^ 32 := by rw [esa]; exact shr_lt l15 _
          have lsb : sb < 2 ^ 32 := by rw [esb]; exact shr_lt l2 _
          obtain ⟨xa1, f1⟩ : ∃ x, x = ra ^^^ rb := ⟨_, rfl⟩
          obtain ⟨xb1, f2⟩ : ∃ x, x = rc ^^^ rd := ⟨_, rfl⟩
          have la1 : xa1 < 2 ^ 32 := by rw [f1]; exact xor_lt32 la lb
          have lb1 : xb1 < 2 ^ 32 := by rw [f2]; exact xor_lt32 lc ld
          have v3 : bits .xor .u32 (ra : Int) (rb : Int) = (xa1 : Int) := by rw [f1]; exact bits_xor32 la lb
          have v4 : bits .xor .u32 (rc : Int) (rd : Int) = (xb1 : Int) := by rw [f2]; exact bits_xor32 lc ld
          obtain ⟨xa, f3⟩ : ∃ x, x = xa1 ^^^ sa := ⟨_, rfl⟩
          obtain ⟨xb, f4⟩ : ∃ x, x = xb1 ^^^ sb := ⟨_, rfl⟩
          have lxa : xa < 2 ^ 32 := by rw [f3]; exact xor_lt32 la1 lsa
          have lxb : xb < 2 ^ 32 := by rw [f4]; exact xor_lt32 lb1 lsb
          have v5 : bits .xor .u32 (xa1 : Int) (sa : Int) = (xa : Int) := by rw [f3]; exact bits_xor32 la1 lsa
          have v6 : bits .xor .u32 (xb1 : Int) (sb : Int) = (xb : Int) := by rw [f4]; exact bits_xor32 lb1 lsb
          obtain ⟨c1, g1⟩ : ∃ x, x = (x16 + xa) % 2 ^ 32 := ⟨_, rfl⟩
          obtain ⟨c2, g2⟩ : ∃ x, x = (c1 + x7) % 2 ^ 32 := ⟨_, rfl⟩
          obtain ⟨c3, g3⟩ : ∃ x, x = (c2 + xb) % 2 ^ 32 := ⟨_, rfl⟩
          have v7 : IntKind.u32.wrap ((x16 : Int) + (xa : Int)) = (c1 : Int) := by rw [g1, IntKind.wrap_u32]; omega
          have v8 : IntKind.u32.wrap ((c1 : Int) + (x7 : Int)) = (c2 : Int) := by rw [g2, IntKind.wrap_u32]; omega
          have v9 : IntKind.u32.wrap ((c2 : Int) + (xb : Int)) = (c3 : Int) := by rw [g3, IntKind.wrap_u32]; omega
          have HW := Lib.hid (show c3 = if j < 16 then wordAt f j else nextW (msg f j) j by
            rw [if_neg (by omega)]
            unfold nextW
            rw [← e16, ← e15, ← e7, ← e2, show small0 x15 = xa by unfold small0; rw [← ea, ← eb, ← esa, ← f1, ← f3], show small1 x2 = xb by unfold small1; rw [← ec, ← ed, ← esb, ← f2, ← f4], g3, g2, g1]
            omega)
          clear hr hb cw e16 e15 e7 e2 ea eb ec ed esa esb f1 f2 f3 f4 g1 g2 g3 la lb lc ld lsa lsb la1 lb1
          go_upto_region 9 with fail
          go_region
          all_goals
            go_upto_region 12 with (first
              | (go_at_call 78; (with_reducible refine (T7.out _).mono ?_); rintro e w3 ⟨rfl, rfl⟩)
              | (go_at_call 78; (with_reducible refine (T18.out _).mono ?_); rintro e w3 ⟨rfl, rfl⟩)
              | (go_at_call 78; (with_reducible refine (T17.out _).mono ?_); rintro e w3 ⟨rfl, rfl⟩)
              | (go_at_call 78; (with_reducible refine (T19.out _).mono ?_); rintro e w3 ⟨rfl, rfl⟩))
            refine ((?_ : ∀ W : World, W.heap = wr.heap → Below w.heap.size w W → Code.wp _ _ _ _ W) _ rfl ⟨HB.out.os, HB.out.tape, HB.out.output, HB.out.size, HB.out.block⟩)
            intro W hW hWB
            have HWB := Lib.hid hWB
            have HWR := Lib.hid ((show W.heap[w.heap.size]? = wr.heap[w.heap.size]? by rw [hW]).trans HR.out)
            have cW : ∀ p, W.cell? p = wr.cell? p := fun p => World.cell?_of_block (w := wr) (by rw [hW])
            have fW : ∀ p, W.frozen? p = wr.frozen? p := fun p => World.frozen?_of_block (w := wr) (by rw [hW])
            rw [← cW] at y16 y7 cl
            rw [← fW] at gl
            clear hW hWB cW fW HB HR y15 y2
            go_still_tail 15, (by kernel_rfl)
            go_wp2
            refine ⟨⟨j + 1, by omega, by omega, by simp, ?_, (HWB.out.setCell (Nat.le_refl _) _).drew⟩, by simp [intOf]; omega⟩
            show (World.setCell _ ⟨w.heap.size, j, none⟩ (.int .u32 (c3 : Nat))).heap[w.heap.size]? = _
            rw [row_set HWR.out, vals_set _ _ _ (by omega), msg_put f HW.out]
        · obtain rfl : j = 64 := by omega
          have p2 : ¬ ((64 : Nat) : Int) < 64 := by omega
          obtain ⟨wm, rfl⟩ : ∃ wm, wm = wr := ⟨_, rfl⟩
          have HR := Lib.hid hr
          have HB := Lib.hid hb
          clear hr hb
          have hc : ∀ i, i < 8 → wm.cell? ⟨sp, 1 + i, none⟩ = some (.int .u32 (h i : Nat)) := fun i hi => (HB.out.cell (p := ⟨sp, _, none⟩) hs).trans ((row_cell HR0.out).trans (stCells_get bv h rest hi))
          have d0 := hc 0 (by omega)
          have d1 := hc 1 (by omega)
          have d2 := hc 2 (by omega)
          have d3 := hc 3 (by omega)
          have d4 := hc 4 (by omega)
          have d5 := hc 5 (by omega)
          have d6 := hc 6 (by omega)
          have d7 := hc 7 (by omega)
          simp only [Nat.add_zero, Nat.reduceAdd] at d0 d1 d2 d3 d4 d5 d6 d7
          clear hc
          go_wp2
          clear d0 d1 d2 d3 d4 d5 d6 d7
          go_loopw [112] (fun i wx => ∃ n : Nat, n ≤ 64 ∧ i = .int .i64 (n : Nat) ∧ wx.heap[wm.heap.size]? = some (.cells (vals .u32 (rnds K (msg f 64) (St.of h) n).at 8).toArray 40 (0, 0)) ∧ Below wm.heap.size wm wx) (fun i _ => 64 - (intOf i).toNat)
          case atStart =>
            refine ⟨0, by omega, rfl, ?_, (Below.refl _ _).alloc (Nat.le_refl _) _⟩
            exact (heap_alloc_new _ _).trans (by rfl)
          case round =>
            obtain ⟨n, hn, rfl, ha, hx⟩ := hrel
            have hok := rnds_ok K (msg f 64) (s := St.of h) ⟨HHb.out _, HHb.out _, HHb.out _, HHb.out _, HHb.out _, HHb.out _, HHb.out _, HHb.out _⟩ n
            by_cases hlt : n < 64
            · have p3 : (n : Int) < 64 := by omega
              have z3 : (0 : Int) ≤ (n : Int) := by omega
              have HX := Lib.hid hx
              have HA := Lib.hid ha
              obtain ⟨s, es⟩ : ∃ s, s = rnds K (msg f 64) (St.of h) n := ⟨_, rfl⟩
              rw [← es] at hok ha
              obtain ⟨a, b, c, d, e, f', g, hh⟩ := s
              have cl : ∀ i, i < 8 → wr.cell? ⟨wm.heap.size, i, none⟩ = some (.int .u32 ((⟨a, b, c, d, e, f', g, hh⟩ : St).at i : Nat)) := fun i hi => (row_cell ha).trans (by rw [List.getElem?_toArray]; exact vals_get _ _ hi)
              have y0 := cl 0 (by omega)
              have y1 := cl 1 (by omega)
              have y2 := cl 2 (by omega)
              have y3 := cl 3 (by omega)
              have y4 := cl 4 (by omega)
              have y5 := cl 5 (by omega)
              have y6 := cl 6 (by omega)
              have y7 := cl 7 (by omega)
              simp only [St.at] at y0 y1 y2 y3 y4 y5 y6 y7
              obtain ⟨la, lb, lc, ld, le, lf, lg, lh⟩ := hok
              simp only at la lb lc ld le lf lg lh
              have HES := Lib.hid es
              obtain ⟨k, ek⟩ : ∃ x, x = K n := ⟨_, rfl⟩
              obtain ⟨m, em⟩ : ∃ x, x = (msg f 64).getD n 0 := ⟨_, rfl⟩
              have lk : k < 2 ^ 32 := by rw [ek]; exact HKb.out _
              have lm : m < 2 ^ 32 := by rw [em]; exact msg_lt HS.out _ _
              have yk : wr.cell? ⟨kp, n, none⟩ = some (.int .u32 (k : Nat)) := by rw [ek]; exact (hx.cell (p := ⟨kp, n, none⟩) (Nat.lt_of_lt_of_le hks HB.out.size)).trans ((HB.out.cell (p := ⟨kp, n, none⟩) hks).trans (HK.out.cell n hlt))
              have ym : wr.cell? ⟨w.heap.size, n, none⟩ = some (.int .u32 (m : Nat)) := by rw [em]; exact (hx.cell (p := ⟨w.heap.size, n, none⟩) (World.block_lt_of_cell? _ ⟨w.heap.size, n, none⟩ ((row_cell HR.out).trans (by rw [List.getElem?_toArray]; exact vals_get _ _ hlt)))).trans ((row_cell HR.out).trans (by rw [List.getElem?_toArray]; exact vals_get _ _ hlt))
              have T2 := Lib.hid (fun w => turned_walk a 2 2 w rfl la (by omega) (by omega))
              obtain ⟨o2, eo2⟩ : ∃ x, x = rotr a 2 := ⟨_, rfl⟩
              rw [← eo2] at T2
              have lo2 : o2 < 2 ^ 32 := by rw [eo2]; exact rotr_lt la _
              have T13 := Lib.hid (fun w => turned_walk a 13 13 w rfl la (by omega) (by omega))
              obtain ⟨o13, eo13⟩ : ∃ x, x = rotr a 13 := ⟨_, rfl⟩
              rw [← eo13] at T13
              have lo13 : o13 < 2 ^ 32 := by rw [eo13]; exact rotr_lt la _
              have T22 := Lib.hid (fun w => turned_walk a 22 22 w rfl la (by omega) (by omega))
              obtain ⟨o22, eo22⟩ : ∃ x, x = rotr a 22 := ⟨_, rfl⟩
              rw [← eo22] at T22
              have lo22 : o22 < 2 ^ 32 := by rw [eo22]; exact rotr_lt la _
              have T6 := Lib.hid (fun w => turned_walk e 6 6 w rfl le (by omega) (by omega))
              obtain ⟨o6, eo6⟩ : ∃ x, x = rotr e 6 := ⟨_, rfl⟩
              rw [← eo6] at T6
              have lo6 : o6 < 2 ^ 32 := by rw [eo6]; exact rotr_lt le _
              have T11 := Lib.hid (fun w => turned_walk e 11 11 w rfl le (by omega) (by omega))
              obtain ⟨o11, eo11⟩ : ∃ x, x = rotr e 11 := ⟨_, rfl⟩
              rw [← eo11] at T11
              have lo11 : o11 < 2 ^ 32 := by rw [eo11]; exact rotr_lt le _
              have T25 := Lib.hid (fun w => turned_walk e 25 25 w rfl le (by omega) (by omega))
              obtain ⟨o25, eo25⟩ : ∃ x, x = rotr e 25 := ⟨_, rfl⟩
              rw [← eo25] at T25
              have lo25 : o25 < 2 ^ 32 := by rw [eo25]; exact rotr_lt le _
              obtain ⟨x1, ex1⟩ : ∃ x, x = o2 ^^^ o13 := ⟨_, rfl⟩
              have lx1 : x1 < 2 ^ 32 := by rw [ex1]; exact xor_lt32 lo2 lo13
              have vx1 : bits .xor .u32 (o2 : Int) (o13 : Int) = (x1 : Int) := by rw [ex1]; exact bits_xor32 lo2 lo13
              obtain ⟨B0, eB0⟩ : ∃ x, x = x1 ^^^ o22 := ⟨_, rfl⟩
              have lB0 : B0 < 2 ^ 32 := by rw [eB0]; exact xor_lt32 lx1 lo22
              have vB0 : bits .xor .u32 (x1 : Int) (o22 : Int) = (B0 : Int) := by rw [eB0]; exact bits_xor32 lx1 lo22
              obtain ⟨x2, ex2⟩ : ∃ x, x = o6 ^^^ o11 := ⟨_, rfl⟩
              have lx2 : x2 < 2 ^ 32 := by rw [ex2]; exact xor_lt32 lo6 lo11
              have vx2 : bits .xor .u32 (o6 : Int) (o11 : Int) = (x2 : Int) := by rw [ex2]; exact bits_xor32 lo6 lo11
              obtain ⟨B1, eB1⟩ : ∃ x, x = x2 ^^^ o25 := ⟨_, rfl⟩
              have lB1 : B1 < 2 ^ 32 := by rw [eB1]; exact xor_lt32 lx2 lo25
              have vB1 : bits .xor .u32 (x2 : Int) (o25 : Int) = (B1 : Int) := by rw [eB1]; exact bits_xor32 lx2 lo25
              obtain ⟨ne, ene⟩ : ∃ x, x = 4294967295 - e := ⟨_, rfl⟩
              have lne : ne < 2 ^ 32 := by omega
              have vne : bits .xor .u32 (if IntKind.u32.signed = true then -1 else IntKind.u32.max) (e : Int) = (ne : Int) := by rw [ene]; exact not32 le
              have lf' := lf
              obtain ⟨p1x, ep1x⟩ : ∃ x, x = e &&& f' := ⟨_, rfl⟩
              have lp1x : p1x < 2 ^ 32 := by rw [ep1x]; exact and_lt32 le lf'
              have vp1x : bits .and .u32 (e : Int) (f' : Int) = (p1x : Int) := by rw [ep1x]; exact bits_and32 le lf'
              obtain ⟨p2x, ep2x⟩ : ∃ x, x = ne &&& g := ⟨_, rfl⟩
              have lp2x : p2x < 2 ^ 32 := by rw [ep2x]; exact and_lt32 lne lg
              have vp2x : bits .and .u32 (ne : Int) (g : Int) = (p2x : Int) := by rw [ep2x]; exact bits_and32 lne lg
              obtain ⟨ch, ech⟩ : ∃ x, x = p1x ^^^ p2x := ⟨_, rfl⟩
              have lch : ch < 2 ^ 32 := by rw [ech]; exact xor_lt32 lp1x lp2x
              have vch : bits .xor .u32 (p1x : Int) (p2x : Int) = (ch : Int) := by rw [ech]; exact bits_xor32 lp1x lp2x
              obtain ⟨q1, eq1⟩ : ∃ x, x = a &&& b := ⟨_, rfl⟩
              have lq1 : q1 < 2 ^ 32 := by rw [eq1]; exact and_lt32 la lb
              have vq1 : bits .and .u32 (a : Int) (b : Int) = (q1 : Int) := by rw [eq1]; exact bits_and32 la lb
              obtain ⟨q2, eq2⟩ : ∃ x, x = a &&& c := ⟨_, rfl⟩
              have lq2 : q2 < 2 ^ 32 := by rw [eq2]; exact and_lt32 la lc
              have vq2 : bits .and .u32 (a : Int) (c : Int) = (q2 : Int) := by rw [eq2]; exact bits_and32 la lc
              obtain ⟨q3, eq3⟩ : ∃ x, x = q1 ^^^ q2 := ⟨_, rfl⟩
              have lq3 : q3 < 2 ^ 32 := by rw [eq3]; exact xor_lt32 lq1 lq2
              have vq3 : bits .xor .u32 (q1 : Int) (q2 : Int) = (q3 : Int) := by rw [eq3]; exact bits_xor32 lq1 lq2
              obtain ⟨q4, eq4⟩ : ∃ x, x = b &&& c := ⟨_, rfl⟩
              have lq4 : q4 < 2 ^ 32 := by rw [eq4]; exact and_lt32 lb lc
              have vq4 : bits .and .u32 (b : Int) (c : Int) = (q4 : Int) := by rw [eq4]; exact bits_and32 lb lc
              obtain ⟨mj, emj⟩ : ∃ x, x = q3 ^^^ q4 := ⟨_, rfl⟩
              have lmj : mj < 2 ^ 32 := by rw [emj]; exact xor_lt32 lq3 lq4
              have vmj : bits .xor .u32 (q3 : Int) (q4 : Int) = (mj : Int) := by rw [emj]; exact bits_xor32 lq3 lq4
              obtain ⟨t1, et1⟩ : ∃ x, x = (hh + B1) % 2 ^ 32 := ⟨_, rfl⟩
              have vt1 : IntKind.u32.wrap ((hh : Int) + (B1 : Int)) = (t1 : Int) := by rw [et1, IntKind.wrap_u32]; omega
              obtain ⟨t2, et2⟩ : ∃ x, x = (t1 + ch) % 2 ^ 32 := ⟨_, rfl⟩
              have vt2 : IntKind.u32.wrap ((t1 : Int) + (ch : Int)) = (t2 : Int) := by rw [et2, IntKind.wrap_u32]; omega
              obtain ⟨t3, et3⟩ : ∃ x, x = (t2 + k) % 2 ^ 32 := ⟨_, rfl⟩
              have vt3 : IntKind.u32.wrap ((t2 : Int) + (k : Int)) = (t3 : Int) := by rw [et3, IntKind.wrap_u32]; omega
              obtain ⟨t4, et4⟩ : ∃ x, x = (t3 + m) % 2 ^ 32 := ⟨_, rfl⟩
              have vt4 : IntKind.u32.wrap ((t3 : Int) + (m : Int)) = (t4 : Int) := by rw [et4, IntKind.wrap_u32]; omega
              obtain ⟨u1, eu1⟩ : ∃ x, x = (t4 + B0) % 2 ^ 32 := ⟨_, rfl⟩
              have vu1 : IntKind.u32.wrap ((t4 : Int) + (B0 : Int)) = (u1 : Int) := by rw [eu1, IntKind.wrap_u32]; omega
              obtain ⟨u2, eu2⟩ : ∃ x, x = (u1 + mj) % 2 ^ 32 := ⟨_, rfl⟩
              have vu2 : IntKind.u32.wrap ((u1 : Int) + (mj : Int)) = (u2 : Int) := by rw [eu2, IntKind.wrap_u32]; omega
              obtain ⟨z, ez⟩ : ∃ x, x = (d + t4) % 2 ^ 32 := ⟨_, rfl⟩
              have vz : IntKind.u32.wrap ((d : Int) + (t4 : Int)) = (z : Int) := by rw [ez, IntKind.wrap_u32]; omega
              have HT := Lib.hid (show (⟨u2, a, b, c, z, e, f', g⟩ : St) = (⟨a, b, c, d, e, f', g, hh⟩ : St).turn k m by
                have h1 : t4 = (⟨a, b, c, d, e, f', g, hh⟩ : St).t k m := by
                  show t4 = (hh + big1 e + choice e f' g + k + m) % 2 ^ 32
                  rw [show big1 e = B1 by unfold big1; rw [← eo6, ← eo11, ← eo25, ← ex2, ← eB1], show choice e f' g = ch by unfold choice; rw [← ene, ← ep1x, ← ep2x, ← ech]]
                  omega
                unfold St.turn
                rw [← h1]
                simp only [St.mk.injEq, true_and, and_true]
                refine ⟨?_, ez⟩
                rw [show big0 a = B0 by unfold big0; rw [← eo2, ← eo13, ← eo22, ← ex1, ← eB0], show major a b c = mj by unfold major; rw [← eq1, ← eq2, ← eq3, ← eq4, ← emj]]
                omega)
              have HE := Lib.hid (show k = K n ∧ m = (msg f 64).getD n 0 from ⟨ek, em⟩)
              clear eo2 eo13 eo22 eo6 eo11 eo25 ex1 eB0 ex2 eB1 ene ep1x ep2x ech eq1 eq2 eq3 eq4 emj et1 et2 et3 et4 eu1 eu2 ez ek em es
              have HAr := Lib.hid ha
              clear ha hx cl
              go_upto_region 17 with fail
              go_quiet (fail)
              go_upto_region 22 with (first
                | (go_at_call 78; (with_reducible refine (T2.out _).mono ?_); rintro e w3 ⟨rfl, rfl⟩)
                | (go_at_call 78; (with_reducible refine (T13.out _).mono ?_); rintro e w3 ⟨rfl, rfl⟩)
                | (go_at_call 78; (with_reducible refine (T22.out _).mono ?_); rintro e w3 ⟨rfl, rfl⟩)
                | (go_at_call 78; (with_reducible refine (T6.out _).mono ?_); rintro e w3 ⟨rfl, rfl⟩)
                | (go_at_call 78; (with_reducible refine (T11.out _).mono ?_); rintro e w3 ⟨rfl, rfl⟩)
                | (go_at_call 78; (with_reducible refine (T25.out _).mono ?_); rintro e w3 ⟨rfl, rfl⟩))
              go_quiet (fail)
              --TAIL
              go_wp2_with ((with_reducible refine wpList_store_row rfl 40 (.tmp 13) (.tmp 193) rfl wm.heap.size (vals .u32 (⟨u2, a, b, c, z, e, f', g⟩ : St).at 8).toArray ?_ ?_ 40 (vals .u32 (⟨a, b, c, d, e, f', g, hh⟩ : St).at 8).toArray ?_ ?_ ?_ ?_ ?_); (· rfl); (· rfl); (· exact HAr.out); (· rfl); (· rfl); (· exact vals_all _ _ _))
              refine ⟨⟨n + 1, by omega, by simp, ?_, ?_⟩, by simp [intOf]; omega⟩
              · refine (setRow_heap _ _ _ _ _ _ HAr.out).trans ?_
                show _ = some (Obj.cells (vals .u32 ((rnds K (msg f 64) (St.of h) n).turn (K n) ((msg f 64).getD n 0)).at 8).toArray _ _)
                rw [← HES.out, ← HE.out.1, ← HE.out.2, ← HT.out]
              · exact below_setRow (w := World.drewN wr _) ⟨HX.out.os, HX.out.tape, HX.out.output, HX.out.size, HX.out.block⟩ (Nat.le_refl _) _
            · obtain rfl : n = 64 := by omega
              have p3 : ¬ ((64 : Nat) : Int) < 64 := by omega
              obtain ⟨F, eF⟩ : ∃ F, F = (rnds K (msg f 64) (St.of h) 64).at := ⟨_, rfl⟩
              have hFl : ∀ i, F i < 2 ^ 32 := fun i => by rw [eF]; exact hok.at i
              rw [← eF] at ha
              have hG : ∀ i, mix K f h i = (h i + F i) % 2 ^ 32 := fun i => by rw [eF]; rfl
              have HA := Lib.hid ha
              have HG := Lib.hid hG
              have HF := Lib.hid hFl
              obtain ⟨wq, rfl⟩ : ∃ wq, wq = wr := ⟨_, rfl⟩
              have HO := Lib.hid ((Only.of_below (sp := sp) (HB.out.trans (hx.mono HB.out.size))))
              have HQ := Lib.hid ((hx.block sp (Nat.lt_of_lt_of_le hs HB.out.size)).trans ((HB.out.block sp hs).trans HR0.out))
              have hvs : w.heap.size ≤ wm.heap.size := HB.out.size
              have hvq : wm.heap.size < wq.heap.size := row_lt ha
              clear ha hx hG hFl hok eF
              go_wp2
              go_loopw [195] (fun i wz => ∃ j : Nat, j ≤ 8 ∧ i = .int .i64 (j : Nat) ∧ wz.heap[sp]? = some (.cells (putN (stCells bv h rest).toArray 1 (mix K f h) j) tS (0, 0)) ∧ wz.heap[wm.heap.size]? = some (.cells (vals .u32 F 8).toArray 40 (0, 0)) ∧ Only sp w wz) (fun i _ => 8 - (intOf i).toNat)
              case atStart => exact ⟨0, by omega, rfl, HQ.out, HA.out, HO.out⟩
              case round =>
                obtain ⟨j, hj, rfl, hr, hv, ho⟩ := hrel
                have H1 := Lib.hid hr
                have H2 := Lib.hid hv
                have H3 := Lib.hid ho
                clear HQ HA HO
                by_cases hlt : j < 8
                · have p4 : (j : Int) < 8 := by omega
                  have z4 : (0 : Int) ≤ (j : Int) := by omega
                  have y1 : wr.cell? ⟨sp, 1 + j, none⟩ = some (.int .u32 (h j : Nat)) := (row_cell hr).trans ((putN_get _ _ _ (Nat.le_refl _)).trans (stCells_get _ _ _ hlt))
                  have y2 : wr.cell? ⟨wm.heap.size, j, none⟩ = some (.int .u32 (F j : Nat)) := (row_cell hv).trans (by rw [List.getElem?_toArray]; exact vals_get _ _ hlt)
                  have y3 : wr.frozen? ⟨sp, 1 + j, none⟩ = false := row_free hr
                  obtain ⟨x, ex⟩ : ∃ x, x = h j := ⟨_, rfl⟩
                  obtain ⟨y, ey⟩ : ∃ y, y = F j := ⟨_, rfl⟩
                  obtain ⟨q, eq⟩ : ∃ q, q = mix K f h j := ⟨_, rfl⟩
                  have v1 : IntKind.u32.wrap ((x : Int) + (y : Int)) = (q : Int) := by rw [eq, HG.out, ex, ey, IntKind.wrap_u32]; omega
                  rw [← ex] at y1
                  rw [← ey] at y2
                  have HEQ := Lib.hid eq
                  clear hr hv ho ex ey eq
                  go_upto_region 28 with fail
                  go_still_tail 11, (by kernel_rfl)
                  go_wp2
                  refine ⟨⟨j + 1, by omega, by simp, ?_, ?_, ?_⟩, by simp [intOf]; omega⟩
                  · show (wr.setCell ⟨sp, 1 + j, none⟩ (.int .u32 (q : Nat))).heap[sp]? = _
                    rw [row_set H1.out, HEQ.out]; rfl
                  · show (wr.setCell ⟨sp, 1 + j, none⟩ (.int .u32 (q : Nat))).heap[wm.heap.size]? = _
                    rw [row_far (by omega)]; exact H2.out
                  · exact (H3.out.setCell _).drewN 1
                · obtain rfl : j = 8 := by omega
                  have p4 : ¬ ((8 : Nat) : Int) < 8 := by omega
                  clear hr hv ho
                  go_wp2
                  go_end0
                  exact ⟨rfl, by rw [H1.out, putN_st], H3.out⟩
end Go.Proofs.Ytjemgoifemdoeaa
