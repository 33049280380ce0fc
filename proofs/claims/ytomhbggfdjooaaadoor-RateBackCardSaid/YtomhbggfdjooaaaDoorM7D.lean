/- muldiv.Down, walked. -/
import Derived.Test.YtomhbggfdjooaaaDoorM7
namespace Go.Proofs.YtomhbggfdjooaaaDoor
open Go.RowKit Go.Sort

set_option maxRecDepth 100000 in
set_option maxHeartbeats 40000000 in
theorem down_walk (a b d : Nat) (w : World) (ha : a < 2 ^ 256) (hb : b < 2 ^ 256) (hd : d < 2 ^ 256) :
    Calls Tryd.prog 30 #[U a, U b, U d] w fun e w' => e = .returned (.tuple #[U (qv a b d), .bool (qok a b d)]) ∧ Below w.heap.size w w' := by
  obtain ⟨H, hH⟩ : ∃ x, x = a * b / 2 ^ 256 := ⟨_, rfl⟩
  obtain ⟨L, hL⟩ : ∃ x, x = a * b % 2 ^ 256 := ⟨_, rfl⟩
  have hh := mul_halves ha hb
  rw [← hH, ← hL] at hh
  have Hh := Lib.hid hh
  have HH := Lib.hid hH
  have HL := Lib.hid hL
  have Ha := Lib.hid ha
  have Hb := Lib.hid hb
  have Hd := Lib.hid hd
  clear hh hH hL ha hb hd
  obtain ⟨q, hq⟩ : ∃ x, x = qv a b d := ⟨_, rfl⟩
  obtain ⟨r, hr⟩ : ∃ x, x = qr a b d := ⟨_, rfl⟩
  obtain ⟨ok, hok⟩ : ∃ x, x = qok a b d := ⟨_, rfl⟩
  rw [← hq, ← hok]
  have Hq := Lib.hid hq
  have Hr := Lib.hid hr
  have Hok := Lib.hid hok
  clear hq hr hok
  unfold U
  go_enter Tryd.func30, Tryd.ntmps30
  go_upto_region 1 with (fail)
  have t0 : Three0 w _ a b d := three0_first (t1 := 24) (t2 := 24) (t3 := 24) (t4 := 24)
  have T0 := Lib.hid t0
  clear t0
  go_cut [8, 9, 10] (fun p p2 k wx => ∃ L8 L9, p = .pointer (some ⟨L8, 0, none⟩) ∧ p2 = .pointer (some ⟨L9, 0, none⟩) ∧ k = .bool ok ∧ Arr .u64 wx L8 4 (limb q) ∧ Arr .u64 wx L9 4 (limb r) ∧ Three0 w wx a b d ∧ w.heap.size + 1 + 1 + 1 < L8 ∧ w.heap.size + 1 + 1 + 1 < L9 ∧ L8 < wx.heap.size ∧ L9 < wx.heap.size)
  case first =>
    go_region_held3 (fun w' => w'.cell? ⟨w.heap.size, 0, none⟩ = some (.int .u64 (limb a 0 : Nat)) ∧ w'.cell? ⟨w.heap.size, 1, none⟩ = some (.int .u64 (limb a 1 : Nat)) ∧ w'.cell? ⟨w.heap.size, 2, none⟩ = some (.int .u64 (limb a 2 : Nat)) ∧ w'.cell? ⟨w.heap.size, 3, none⟩ = some (.int .u64 (limb a 3 : Nat)) ∧ w'.cell? ⟨w.heap.size + 1, 0, none⟩ = some (.int .u64 (limb b 0 : Nat)) ∧ w'.cell? ⟨w.heap.size + 1, 1, none⟩ = some (.int .u64 (limb b 1 : Nat)) ∧ w'.cell? ⟨w.heap.size + 1, 2, none⟩ = some (.int .u64 (limb b 2 : Nat)) ∧ w'.cell? ⟨w.heap.size + 1, 3, none⟩ = some (.int .u64 (limb b 3 : Nat)) ∧ w'.cell? ⟨w.heap.size + 1 + 1, 0, none⟩ = some (.int .u64 (limb d 0 : Nat)) ∧ w'.cell? ⟨w.heap.size + 1 + 1, 1, none⟩ = some (.int .u64 (limb d 1 : Nat)) ∧ w'.cell? ⟨w.heap.size + 1 + 1, 2, none⟩ = some (.int .u64 (limb d 2 : Nat)) ∧ w'.cell? ⟨w.heap.size + 1 + 1, 3, none⟩ = some (.int .u64 (limb d 3 : Nat)) ∧ Three0 w w' a b d)
      ((refine held_of ?_; repeat (first | with_reducible exact u2 | with_reducible exact u1 | with_reducible refine Three0.drew ?_ | with_reducible exact T0.out | with_reducible refine Three0.put4 ?_ (by omega) | with_reducible refine Three0.alloc ?_ _ | with_reducible exact un_held (by with_reducible assumption))))
      (first
        | (go_at_call 41; refine (quo_c a b d H L _ Hh.out.2.1 Hh.out.1 Hd.out Hh.out.2.2).mono ?_; rintro e w2 ⟨rfl, hb2⟩; have u2 : Three0 w w2 a b d := Three0.below (un_held (by with_reducible assumption)) hb2; rw [← Hq.out, ← Hr.out, ← Hok.out]; have s2 := u2.s; have y2 := hb2.size; (try simp at y2); (first | (with_reducible have zA2 := carry2 zA hb2) | (with_reducible have zA2 := carry1 zA hb2) | (with_reducible have zA2 := carry0 zA hb2) | skip); (first | (with_reducible have zB2 := carry2 zB hb2) | (with_reducible have zB2 := carry1 zB hb2) | (with_reducible have zB2 := carry0 zB hb2) | skip); (first | (with_reducible have zz := z_two hb2; have zC2 := zz.1; have zD2 := zz.2; clear zz) | (with_reducible have zC2 := z_one hb2) | skip); (first | (obtain ⟨_, _, _, _⟩ := zA2.frees4; obtain ⟨_, _, _, _⟩ := zA2.cells4; have lzA2 := zA2.lt4) | skip); (first | (obtain ⟨_, _, _, _⟩ := zB2.frees4; obtain ⟨_, _, _, _⟩ := zB2.cells4; have lzB2 := zB2.lt4) | skip); (first | (obtain ⟨_, _, _, _⟩ := zC2.frees4; obtain ⟨_, _, _, _⟩ := zC2.cells4; have lzC2 := zC2.lt4) | skip); (first | (obtain ⟨_, _, _, _⟩ := zD2.frees4; obtain ⟨_, _, _, _⟩ := zD2.cells4; have lzD2 := zD2.lt4) | skip); unfold U)
        | (go_at_call 42; refine (wmulH_walk a b H L _ Ha.out Hb.out HH.out HL.out).mono ?_; rintro e w1 ⟨rfl, hb1⟩; have u1 : Three0 w w1 a b d := Three0.below (un_held (by with_reducible assumption)) hb1; have s1 := u1.s; have y1 := hb1.size; (try simp at y1); (first | (with_reducible have zz := z_two_d hb1; have zA := zz.1; have zB := zz.2; clear zz; (try simp at zB)) | (with_reducible have zA := z_one_d hb1) | skip); (try simp at zA); unfold WW))
    all_goals
      go_wp2
      go_meet
      case rel =>
        refine ⟨_, _, rfl, rfl, rfl, ?_, ?_, un_held (by with_reducible assumption), by omega, by omega, ?_, ?_⟩
        · repeat (first | with_reducible assumption | with_reducible exact Arr.new4 (f := limb q) rfl | with_reducible exact Arr.new4 (f := limb q) (by simp; done) | with_reducible refine Arr.put4 (f := fun _ => 0) ?_ | with_reducible refine Arr.put4_far ?_ (by omega) | with_reducible refine Arr.alloc ?_ _)
        · repeat (first | with_reducible assumption | with_reducible exact Arr.new4 (f := limb r) rfl | with_reducible exact Arr.new4 (f := limb r) (by simp; done) | with_reducible refine Arr.put4 (f := fun _ => 0) ?_ | with_reducible refine Arr.put4_far ?_ (by omega) | with_reducible refine Arr.alloc ?_ _)
        · simp only [World.size_setCell, World.size_alloc]; omega
        · simp only [World.size_setCell, World.size_alloc]; omega
  case rest =>
    obtain ⟨L8, L9, rfl, rfl, rfl, h8, h9, ht, g8, g9, s8, s9⟩ := hcut
    obtain ⟨e0, e1, e2, e3⟩ := h8.cells4
    obtain ⟨z0, z1, z2, z3⟩ := ht.z.cells4
    obtain ⟨y0, y1, y2, y3⟩ := ht.z.frees4
    have hbl := Lib.hid ht.t.l
    clear h8 h9 ht g8 g9 s8 s9
    go_wp2
    refine bodyPost_ret (v := .tuple #[.agg #[.int .u64 (limb q 0 : Nat), .int .u64 (limb q 1 : Nat), .int .u64 (limb q 2 : Nat), .int .u64 (limb q 3 : Nat)], .bool ok]) (by simp [results, Tryd.results30, go_sem, z0, z1, z2, z3]) rfl ⟨rfl, below_set4 hbl.out (by omega)⟩
end Go.Proofs.YtomhbggfdjooaaaDoor
