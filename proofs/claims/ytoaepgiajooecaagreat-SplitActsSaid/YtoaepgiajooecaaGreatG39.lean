/- muldiv.Down, walked. -/
import Derived.Test.YtoaepgiajooecaaGreatG38
import Derived.Test.YtoaepgiajooecaaGreatG25
import Derived.Test.YtoaepgiajooecaaGreatG28
import Derived.Test.YtoaepgiajooecaaGreatG19
namespace Go.Proofs.YtoaepgiajooecaaGreat
open Go.RowKit Go.Sort

set_option maxRecDepth 100000 in
set_option maxHeartbeats 40000000 in
theorem down_walk (a b d : Nat) (w : World) (ha : a < 2 ^ 256) (hb : b < 2 ^ 256) (hd : d < 2 ^ 256) :
    Calls Tryz.prog 33 #[U a, U b, U d] w fun e w' => e = .returned (.tuple #[U (qv a b d), .bool (qok a b d)]) ∧ Below w.heap.size w w' := by
  obtain ⟨H, hH⟩ : ∃ x, x = a * b / 2 ^ 256 := ⟨_, rfl⟩
  obtain ⟨L, hL⟩ : ∃ x, x = a * b % 2 ^ 256 := ⟨_, rfl⟩
  have hh := mul_halves ha hb
  rw [← hH, ← hL] at hh
  have Hh := Lib.hid hh
  have HH := Lib.hid hH
  have HL := Lib.hid hL
  have Ha := Lib.hid ha
  have Hb := Lib.hid hb
  have Hd := Lib.hid hd
  clear hh hH hL ha hb hd
  obtain ⟨q, hq⟩ : ∃ x, x = qv a b d := ⟨_, rfl⟩
  obtain ⟨r, hr⟩ : ∃ x, x = qr a b d := ⟨_, rfl⟩
  obtain ⟨ok, hok⟩ : ∃ x, x = qok a b d := ⟨_, rfl⟩
  rw [← hq, ← hok]
  have Hq := Lib.hid hq
  have Hr := Lib.hid hr
  have Hok := Lib.hid hok
  clear hq hr hok
  unfold U
  go_enter Tryz.func33, Tryz.ntmps33
  go_upto_region 1 with (fail)
  have t0 : Three0 w _ a b d := three0_first (t1 := 44) (t2 := 44) (t3 := 44) (t4 := 44)
  have T0 := Lib.hid t0
  clear t0
  go_cut [8, 9, 10] (fun p p2 k wx => ∃ L8 L9, p = .pointer (some ⟨L8, 0, none⟩) ∧ p2 = .pointer (some ⟨L9, 0, none⟩) ∧ k = .bool ok ∧ Arr .u64 wx L8 4 (limb q) ∧ Arr .u64 wx L9 4 (limb r) ∧ Three0 w wx a b d ∧ w.heap.size + 1 + 1 + 1 < L8 ∧ w.heap.size + 1 + 1 + 1 < L9 ∧ L8 < wx.heap.size ∧ L9 < wx.heap.size)
  case first =>
    go_region_held3 (fun w' => w'.cell? ⟨w.heap.size, 0, none⟩ = some (.int .u64 (limb a 0 : Nat)) ∧ w'.cell? ⟨w.heap.size, 1, none⟩ = some (.int .u64 (limb a 1 : Nat)) ∧ w'.cell? ⟨w.heap.size, 2, none⟩ = some (.int .u64 (limb a 2 : Nat)) ∧ w'.cell? ⟨w.heap.size, 3, none⟩ = some (.int .u64 (limb a 3 : Nat)) ∧ w'.cell? ⟨w.heap.size + 1, 0, none⟩ = some (.int .u64 (limb b 0 : Nat)) ∧ w'.cell? ⟨w.heap.size + 1, 1, none⟩ = some (.int .u64 (limb b 1 : Nat)) ∧ w'.cell? ⟨w.heap.size + 1, 2, none⟩ = some (.int .u64 (limb b 2 : Nat)) ∧ w'.cell? ⟨w.heap.size + 1, 3, none⟩ = some (.int .u64 (limb b 3 : Nat)) ∧ w'.cell? ⟨w.heap.size + 1 + 1, 0, none⟩ = some (.int .u64 (limb d 0 : Nat)) ∧ w'.cell? ⟨w.heap.size + 1 + 1, 1, none⟩ = some (.int .u64 (limb d 1 : Nat)) ∧ w'.cell? ⟨w.heap.size + 1 + 1, 2, none⟩ = some (.int .u64 (limb d 2 : Nat)) ∧ w'.cell? ⟨w.heap.size + 1 + 1, 3, none⟩ = some (.int .u64 (limb d 3 : Nat)) ∧ Three0 w w' a b d)
      ((refine held_of ?_; repeat (first | with_reducible exact u2 | with_reducible exact u1 | with_reducible refine Three0.drew ?_ | with_reducible exact T0.out | with_reducible refine Three0.put4 ?_ (by omega) | with_reducible refine Three0.alloc ?_ _ | with_reducible exact un_held (by with_reducible assumption))))
      (first
        | (go_at_call 60; refine (quo_c a b d H L _ Hh.out.2.1 Hh.out.1 Hd.out Hh.out.2.2).mono ?_; rintro e w2 ⟨rfl, hb2⟩; have u2 : Three0 w w2 a b d := Three0.below (un_held (by with_reducible assumption)) hb2; rw [← Hq.out, ← Hr.out, ← Hok.out]; have s2 := u2.s; have y2 := hb2.size; (try simp at y2); (first | (with_reducible have zA2 := carry2 zA hb2) | (with_reducible have zA2 := carry1 zA hb2) | (with_reducible have zA2 := carry0 zA hb2) | skip); (first | (with_reducible have zB2 := carry2 zB hb2) | (with_reducible have zB2 := carry1 zB hb2) | (with_reducible have zB2 := carry0 zB hb2) | skip); (first | (with_reducible have zz := z_two hb2; have zC2 := zz.1; have zD2 := zz.2; clear zz) | (with_reducible have zC2 := z_one hb2) | skip); (first | (obtain ⟨_, _, _, _⟩ := zA2.frees4; obtain ⟨_, _, _, _⟩ := zA2.cells4; have lzA2 := zA2.lt4) | skip); (first | (obtain ⟨_, _, _, _⟩ := zB2.frees4; obtain ⟨_, _, _, _⟩ := zB2.cells4; have lzB2 := zB2.lt4) | skip); (first | (obtain ⟨_, _, _, _⟩ := zC2.frees4; obtain ⟨_, _, _, _⟩ := zC2.cells4; have lzC2 := zC2.lt4) | skip); (first | (obtain ⟨_, _, _, _⟩ := zD2.frees4; obtain ⟨_, _, _, _⟩ := zD2.cells4; have lzD2 := zD2.lt4) | skip); unfold U)
        | (go_at_call 61; refine (wmulH_walk a b H L _ Ha.out Hb.out HH.out HL.out).mono ?_; rintro e w1 ⟨rfl, hb1⟩; have u1 : Three0 w w1 a b d := Three0.below (un_held (by with_reducible assumption)) hb1; have s1 := u1.s; have y1 := hb1.size; (try simp at y1); (first | (with_reducible have zz := z_two_d hb1; have zA := zz.1; have zB := zz.2; clear zz; (try simp at zB)) | (with_reducible have zA := z_one_d hb1) | skip); (try simp at zA); unfold WW))
    all_goals
      go_wp2
      go_meet
      case rel =>
        refine ⟨_, _, rfl, rfl, rfl, ?_, ?_, un_held (by with_reducible assumption), by omega, by omega, ?_, ?_⟩
        · repeat (first | with_reducible assumption | with_reducible exact Arr.new4 (f := limb q) rfl | with_reducible exact Arr.new4 (f := limb q) (by simp; done) | with_reducible refine Arr.put4 (f := fun _ => 0) ?_ | with_reducible refine Arr.put4_far ?_ (by omega) | with_reducible refine Arr.alloc ?_ _)
        · repeat (first | with_reducible assumption | with_reducible exact Arr.new4 (f := limb r) rfl | with_reducible exact Arr.new4 (f := limb r) (by simp; done) | with_reducible refine Arr.put4 (f := fun _ => 0) ?_ | with_reducible refine Arr.put4_far ?_ (by omega) | with_reducible refine Arr.alloc ?_ _)
        · simp only [World.size_setCell, World.size_alloc]; omega
        · simp only [World.size_setCell, World.size_alloc]; omega
  case rest =>
    obtain ⟨L8, L9, rfl, rfl, rfl, h8, h9, ht, g8, g9, s8, s9⟩ := hcut
    obtain ⟨e0, e1, e2, e3⟩ := h8.cells4
    obtain ⟨z0, z1, z2, z3⟩ := ht.z.cells4
    obtain ⟨y0, y1, y2, y3⟩ := ht.z.frees4
    have hbl := Lib.hid ht.t.l
    clear h8 h9 ht g8 g9 s8 s9
    go_wp2
    refine bodyPost_ret (v := .tuple #[.agg #[.int .u64 (limb q 0 : Nat), .int .u64 (limb q 1 : Nat), .int .u64 (limb q 2 : Nat), .int .u64 (limb q 3 : Nat)], .bool ok]) (by simp [results, Tryz.results33, go_sem, z0, z1, z2, z3]) rfl ⟨rfl, below_set4 hbl.out (by omega)⟩
end Go.Proofs.YtoaepgiajooecaaGreat

namespace Go.Proofs.YtoaepgiajooecaaGreat
open Go.RowKit Go.Sort

/-- in wr lie boxes with these numbers, and what was there in w is as it was -/
structure Bk (w wr : World) (l : List (Nat × Nat)) : Prop where
  b : ∀ p, p ∈ l → Box wr p.1 p.2
  l : Below w.heap.size w wr
theorem Bk.call {w wr w' : World} {l : List (Nat × Nat)} (h : Bk w wr l) (hb : Below wr.heap.size wr w') : Bk w w' l := ⟨fun p hp => (h.b p hp).below hb, h.l.trans (hb.mono h.l.size)⟩
theorem Bk.push {w wr : World} {l : List (Nat × Nat)} {t : TypeId} (n : Nat) (h : Bk w wr l) : Bk w (wr.alloc (.cells #[.int .u64 (limb n 0 : Nat), .int .u64 (limb n 1 : Nat), .int .u64 (limb n 2 : Nat), .int .u64 (limb n 3 : Nat)] t)) ((wr.heap.size, n) :: l) := by
  refine ⟨fun p hp => ?_, h.l.alloc h.l.size _⟩
  rcases List.mem_cons.1 hp with rfl | hp
  · exact Box.new rfl
  · exact (h.b p hp).alloc _
theorem Bk.alloc {w wr : World} {l : List (Nat × Nat)} (h : Bk w wr l) (o : Obj) : Bk w (wr.alloc o) l := ⟨fun p hp => (h.b p hp).alloc o, h.l.alloc h.l.size _⟩
theorem Bk.cells {w wr : World} {l : List (Nat × Nat)} (h : Bk w wr l) (L n : Nat) (hm : (L, n) ∈ l) :
    (wr.cell? ⟨L, 0, none⟩ = some (.int .u64 (limb n 0 : Nat)) ∧ wr.cell? ⟨L, 1, none⟩ = some (.int .u64 (limb n 1 : Nat)) ∧ wr.cell? ⟨L, 2, none⟩ = some (.int .u64 (limb n 2 : Nat)) ∧ wr.cell? ⟨L, 3, none⟩ = some (.int .u64 (limb n 3 : Nat))) ∧ L < wr.heap.size :=
  ⟨(h.b _ hm).a.cells4, (h.b _ hm).s⟩
theorem Bk.two {a b : Nat} {w : World} {t1 t2 : TypeId} :
    Bk w ((w.alloc (.cells #[.int .u64 (limb a 0 : Nat), .int .u64 (limb a 1 : Nat), .int .u64 (limb a 2 : Nat), .int .u64 (limb a 3 : Nat)] t1)).alloc (.cells #[.int .u64 (limb b 0 : Nat), .int .u64 (limb b 1 : Nat), .int .u64 (limb b 2 : Nat), .int .u64 (limb b 3 : Nat)] t2)) [(w.heap.size + 1, b), (w.heap.size, a)] := by
  have h := (Bk.push (t := t2) b (Bk.push (t := t1) a (⟨fun p hp => (by cases hp), Below.refl _ _⟩ : Bk w w [])))
  rw [World.size_alloc] at h
  exact h
theorem Bk.three {a b c : Nat} {w : World} {t1 t2 t3 : TypeId} :
    Bk w (((w.alloc (.cells #[.int .u64 (limb a 0 : Nat), .int .u64 (limb a 1 : Nat), .int .u64 (limb a 2 : Nat), .int .u64 (limb a 3 : Nat)] t1)).alloc (.cells #[.int .u64 (limb b 0 : Nat), .int .u64 (limb b 1 : Nat), .int .u64 (limb b 2 : Nat), .int .u64 (limb b 3 : Nat)] t2)).alloc (.cells #[.int .u64 (limb c 0 : Nat), .int .u64 (limb c 1 : Nat), .int .u64 (limb c 2 : Nat), .int .u64 (limb c 3 : Nat)] t3)) [(w.heap.size + 1 + 1, c), (w.heap.size + 1, b), (w.heap.size, a)] := by
  have h := Bk.push (t := t3) c (Bk.two (a := a) (b := b) (w := w) (t1 := t1) (t2 := t2))
  rw [World.size_alloc, World.size_alloc] at h
  exact h
theorem Box.putN_far {w : World} {L L' n : Nat} {x0 x1 x2 x3 : Value} (h : Box w L n) (hL : L' ≠ L) : Box ((((w.setCell ⟨L', 0, none⟩ x0).setCell ⟨L', 1, none⟩ x1).setCell ⟨L', 2, none⟩ x2).setCell ⟨L', 3, none⟩ x3) L n :=
  ⟨h.a.put4_far hL, by simp only [World.size_setCell]; exact h.s⟩
theorem Box.putN {w : World} {L n m : Nat} (h : Box w L n) :
    Box ((((w.setCell ⟨L, 0, none⟩ (.int .u64 (limb m 0 : Nat))).setCell ⟨L, 1, none⟩ (.int .u64 (limb m 1 : Nat))).setCell ⟨L, 2, none⟩ (.int .u64 (limb m 2 : Nat))).setCell ⟨L, 3, none⟩ (.int .u64 (limb m 3 : Nat))) L m :=
  ⟨h.a.put4, by simp only [World.size_setCell]; exact h.s⟩
def minv (a b : Nat) : Nat := if 0 < cmpU a b then b else a
theorem minv_lt {a b : Nat} (ha : a < 2 ^ 256) (hb : b < 2 ^ 256) : minv a b < 2 ^ 256 := by unfold minv; split; exact hb; exact ha
end Go.Proofs.YtoaepgiajooecaaGreat

namespace Go.Proofs.YtoaepgiajooecaaGreat
open Go.RowKit Go.Sort

theorem sub_c (a b : Nat) (w : World) (ha : a < 2 ^ 256) (hb : b < 2 ^ 256) : Calls Tryz.prog 31 #[U a, U b] w fun e w' => e = .returned (.tuple #[U (subv a b), .bool (subk a b)]) ∧ Below w.heap.size w w' := sub_walk a b w ha hb
theorem Bk.nil {w : World} : Bk w w [] := ⟨fun p hp => (by cases hp), Below.refl _ _⟩
theorem Bk.old {w wr : World} {l : List (Nat × Nat)} {L n : Nat} (h : Bk w wr l) (hL : Box wr L n) : Bk w wr ((L, n) :: l) :=
  ⟨fun p hp => by
    rcases List.mem_cons.1 hp with rfl | hp
    · exact hL
    · exact h.b p hp, h.l⟩
/-- a box of zeroes that nobody wrote yet -/
structure Zb (w wr : World) (L : Nat) : Prop where
  a : Arr .u64 wr L 4 (fun _ => 0)
  s : L < wr.heap.size
  o : w.heap.size ≤ L
theorem Zb.below {w wr w' : World} {L : Nat} (h : Zb w wr L) (hb : Below wr.heap.size wr w') : Zb w w' L := ⟨h.a.below hb h.s, Nat.lt_of_lt_of_le h.s hb.size, h.o⟩
theorem Zb.alloc {w wr : World} {L : Nat} (h : Zb w wr L) (o : Obj) : Zb w (wr.alloc o) L := ⟨h.a.alloc o, by rw [World.size_alloc]; have := h.s; omega, h.o⟩
theorem Zb.drew {w wr : World} {L : Nat} (h : Zb w wr L) : Zb w wr.drew L := ⟨h.a.drew, h.s, h.o⟩
theorem Zb.new {w wr : World} {L : Nat} {t : TypeId} (h : L = wr.heap.size) (hs : w.heap.size ≤ wr.heap.size) : Zb w (wr.alloc (.cells #[.int .u64 0, .int .u64 0, .int .u64 0, .int .u64 0] t)) L :=
  ⟨Arr.new4 (f := fun _ => 0) h, by rw [World.size_alloc]; omega, by omega⟩



/-- a box that may be written -/
structure Wb (w wr : World) (L : Nat) : Prop where
  a : ∃ f, Arr .u64 wr L 4 f
  s : L < wr.heap.size
  o : w.heap.size ≤ L
theorem Wb.below {w wr w' : World} {L : Nat} (h : Wb w wr L) (hb : Below wr.heap.size wr w') : Wb w w' L := ⟨h.a.elim fun f hf => ⟨f, hf.below hb h.s⟩, Nat.lt_of_lt_of_le h.s hb.size, h.o⟩
theorem Wb.alloc {w wr : World} {L : Nat} (h : Wb w wr L) (o : Obj) : Wb w (wr.alloc o) L := ⟨h.a.elim fun f hf => ⟨f, hf.alloc o⟩, by rw [World.size_alloc]; have := h.s; omega, h.o⟩
theorem Wb.drew {w wr : World} {L : Nat} (h : Wb w wr L) : Wb w wr.drew L := ⟨h.a.elim fun f hf => ⟨f, hf.drew⟩, h.s, h.o⟩
theorem Zb.wb {w wr : World} {L : Nat} (h : Zb w wr L) : Wb w wr L := ⟨⟨_, h.a⟩, h.s, h.o⟩
theorem Wb.put4 {w wr : World} {L L' m : Nat} (h : Wb w wr L) : Wb w ((((wr.setCell ⟨L', 0, none⟩ (.int .u64 (limb m 0 : Nat))).setCell ⟨L', 1, none⟩ (.int .u64 (limb m 1 : Nat))).setCell ⟨L', 2, none⟩ (.int .u64 (limb m 2 : Nat))).setCell ⟨L', 3, none⟩ (.int .u64 (limb m 3 : Nat))) L := by
  refine ⟨?_, by simp only [World.size_setCell]; exact h.s, h.o⟩
  obtain ⟨f, hf⟩ := h.a
  by_cases e : L' = L
  · subst e; exact ⟨_, hf.put4 (n := m)⟩
  · exact ⟨f, hf.put4_far e⟩
theorem Bk.put4 {w wr : World} {l : List (Nat × Nat)} {L : Nat} {x0 x1 x2 x3 : Value} (h : Bk w wr l) (hL : w.heap.size ≤ L) (hn : ∀ p, p ∈ l → L ≠ p.1) : Bk w ((((wr.setCell ⟨L, 0, none⟩ x0).setCell ⟨L, 1, none⟩ x1).setCell ⟨L, 2, none⟩ x2).setCell ⟨L, 3, none⟩ x3) l :=
  ⟨fun p hp => (h.b p hp).putN_far (hn p hp), below_set4 h.l hL⟩

theorem kpA {W w' : World} (h : Below W.heap.size W w') (o : Obj) : Below W.heap.size W (w'.alloc o) := h.alloc h.size o
theorem kpD {W w' : World} (h : Below W.heap.size W w') : Below W.heap.size W w'.drew := below_drewN h 1
theorem kpP {W w' : World} {L : Nat} {x0 x1 x2 x3 : Value} (h : Below W.heap.size W w') (hL : W.heap.size ≤ L) : Below W.heap.size W ((((w'.setCell ⟨L, 0, none⟩ x0).setCell ⟨L, 1, none⟩ x1).setCell ⟨L, 2, none⟩ x2).setCell ⟨L, 3, none⟩ x3) := below_set4 h hL
theorem kpB {W w1 w2 : World} (h : Below W.heap.size W w1) (hb : Below w1.heap.size w1 w2) : Below W.heap.size W w2 := h.trans (hb.mono h.size)
theorem hldW {W w' : World} {B b : Nat} (hc : Arr .u64 W B 4 (limb b)) (h : Below W.heap.size W w') : w'.cell? ⟨B, 0, none⟩ = some (.int .u64 (limb b 0 : Nat)) ∧ w'.cell? ⟨B, 1, none⟩ = some (.int .u64 (limb b 1 : Nat)) ∧ w'.cell? ⟨B, 2, none⟩ = some (.int .u64 (limb b 2 : Nat)) ∧ w'.cell? ⟨B, 3, none⟩ = some (.int .u64 (limb b 3 : Nat)) ∧ Below W.heap.size W w' := by
  obtain ⟨a0, a1, a2, a3⟩ := (hc.below h hc.lt4).cells4
  exact ⟨a0, a1, a2, a3, h⟩
theorem un_hldW {W w' : World} {B b : Nat} (h : w'.cell? ⟨B, 0, none⟩ = some (.int .u64 (limb b 0 : Nat)) ∧ w'.cell? ⟨B, 1, none⟩ = some (.int .u64 (limb b 1 : Nat)) ∧ w'.cell? ⟨B, 2, none⟩ = some (.int .u64 (limb b 2 : Nat)) ∧ w'.cell? ⟨B, 3, none⟩ = some (.int .u64 (limb b 3 : Nat)) ∧ Below W.heap.size W w') : Below W.heap.size W w' := h.2.2.2.2

theorem Bk.push2 {w wr : World} {l : List (Nat × Nat)} {t t' : TypeId} (n m : Nat) (h : Bk w wr l) : Bk w ((wr.alloc (.cells #[.int .u64 (limb n 0 : Nat), .int .u64 (limb n 1 : Nat), .int .u64 (limb n 2 : Nat), .int .u64 (limb n 3 : Nat)] t)).alloc (.cells #[.int .u64 (limb m 0 : Nat), .int .u64 (limb m 1 : Nat), .int .u64 (limb m 2 : Nat), .int .u64 (limb m 3 : Nat)] t')) ((wr.heap.size + 1, m) :: (wr.heap.size, n) :: l) := by
  have h2 := (h.push (t := t) n).push (t := t') m
  rw [World.size_alloc] at h2
  exact h2

end Go.Proofs.YtoaepgiajooecaaGreat
