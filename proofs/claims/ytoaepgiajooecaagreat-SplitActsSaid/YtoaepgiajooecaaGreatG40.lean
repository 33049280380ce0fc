/- split.isBips, Parts$1, walked. -/
import Derived.Test.YtoaepgiajooecaaGreatG28
import Derived.Test.YtoaepgiajooecaaGreatG39
import Derived.Test.YtoaepgiajooecaaGreatG19
import Derived.Test.YtoaepgiajooecaaGreatG36
import Derived.Test.YtoaepgiajooecaaGreatG38
namespace Go.Proofs.YtoaepgiajooecaaGreat
open Go.RowKit Go.Sort

def inBips (n : Int) : Bool := decide (0 ≤ n) && decide (n ≤ 10000)
theorem isBips_walk (n : Int) (w : World) : Calls Tryz.prog 20 #[.int .i64 n] w fun e w' => e = .returned (.bool (inBips n)) ∧ w' = w := by
  by_cases h0 : 0 ≤ n
  · by_cases h1 : n ≤ 10000
    · have e : inBips n = true := by unfold inBips; rw [decide_eq_true h0, decide_eq_true h1]; rfl
      rw [e]; clear e
      go_enter Tryz.func20, Tryz.ntmps20
      go_wp2
      go_ret
      exact ⟨rfl, rfl⟩
    · have e : inBips n = false := by unfold inBips; rw [decide_eq_false h1, Bool.and_false]
      rw [e]; clear e
      go_enter Tryz.func20, Tryz.ntmps20
      go_wp2
      go_ret
      exact ⟨rfl, rfl⟩
  · have e : inBips n = false := by unfold inBips; rw [decide_eq_false h0]; rfl
    rw [e]; clear e
    go_enter Tryz.func20, Tryz.ntmps20
    go_wp2
    go_ret
    exact ⟨rfl, rfl⟩
set_option maxRecDepth 100000 in
set_option maxHeartbeats 4000000 in
theorem parted_walk (a x : Nat) (ok : Bool) (L : Nat) (w : World) (ha : a < 2 ^ 256) (hx : x < 2 ^ 256) (hL : Box w L a) :
    Calls Tryz.prog 30 #[U x, .bool ok, .pointer (some ⟨L, 0, none⟩)] w fun e w' => e = .returned (.tuple #[U x, U (subv a x), .bool ok]) ∧ Below w.heap.size w w' := by
  have Ha := Lib.hid ha
  have Hx := Lib.hid hx
  obtain ⟨y, hy⟩ : ∃ y, y = subv a x := ⟨_, rfl⟩
  rw [← hy]
  have Hy := Lib.hid hy
  clear ha hx hy
  unfold U
  go_enter Tryz.func30, Tryz.ntmps30
  go_upto_region 1 with (fail)
  have K0 : Bk w _ [(L, a), (w.heap.size, x)] := (((Bk.push (t := 44) x Bk.nil).alloc (.cells #[.int .u64 0, .int .u64 0, .int .u64 0, .int .u64 0] 44)).alloc (.cells #[.int .u64 0, .int .u64 0, .int .u64 0, .int .u64 0] 44)).old (((hL.alloc _).alloc _).alloc _)
  have Z1 : Zb w _ (w.heap.size + 1) := (Zb.new (w := w) (wr := w.alloc (.cells #[.int .u64 (limb x 0 : Nat), .int .u64 (limb x 1 : Nat), .int .u64 (limb x 2 : Nat), .int .u64 (limb x 3 : Nat)] 44)) (t := 44) (by simp) (by simp)).alloc (.cells #[.int .u64 0, .int .u64 0, .int .u64 0, .int .u64 0] 44)
  have Z2 : Zb w _ (w.heap.size + 1 + 1) := Zb.new (w := w) (wr := (w.alloc (.cells #[.int .u64 (limb x 0 : Nat), .int .u64 (limb x 1 : Nat), .int .u64 (limb x 2 : Nat), .int .u64 (limb x 3 : Nat)] 44)).alloc (.cells #[.int .u64 0, .int .u64 0, .int .u64 0, .int .u64 0] 44)) (t := 44) (by simp) (by simp; omega)
  obtain ⟨⟨a0, a1, a2, a3⟩, a4⟩ := K0.cells L a (by simp)
  obtain ⟨⟨x0, x1, x2, x3⟩, x4⟩ := K0.cells w.heap.size x (by simp)
  have H := Lib.hid (And.intro K0 (And.intro Z1 Z2))
  clear K0 Z1 Z2 hL x4
  go_upto_region 2 with (go_at_call 31; refine (sub_c a x _ Ha.out Hx.out).mono ?_; rintro e w1 ⟨rfl, hb1⟩; rw [← Hy.out]; have k0 := H.out.1.call hb1; have k1 := k0.push (t := 44) y; have z1 := H.out.2.1.below hb1; have z2 := H.out.2.2.below hb1; obtain ⟨⟨b0, b1, b2, b3⟩, b4⟩ := k0.cells w.heap.size x (by simp); obtain ⟨⟨h0, h1, h2, h3⟩, h4⟩ := k1.cells w1.heap.size y (by simp); obtain ⟨f0, f1, f2, f3⟩ := z1.a.frees4; obtain ⟨g0, g1, g2, g3⟩ := z2.a.frees4; obtain ⟨c0, c1, c2, c3⟩ := z1.a.cells4; obtain ⟨d0, d1, d2, d3⟩ := z2.a.cells4; have l1 := (H.out.2.1.below hb1).s; have l2 := (H.out.2.2.below hb1).s; have l0 : w.heap.size < w1.heap.size := (by omega); unfold U)
  go_region
  all_goals
    go_wp2
    refine bodyPost_ret (v := .tuple #[.agg #[.int .u64 (limb x 0 : Nat), .int .u64 (limb x 1 : Nat), .int .u64 (limb x 2 : Nat), .int .u64 (limb x 3 : Nat)], .agg #[.int .u64 (limb y 0 : Nat), .int .u64 (limb y 1 : Nat), .int .u64 (limb y 2 : Nat), .int .u64 (limb y 3 : Nat)], .bool ok]) (by simp [results, Tryz.results30, go_sem, c0, c1, c2, c3, d0, d1, d2, d3, l1, l2]) rfl ⟨rfl, ?_⟩
    exact below_drewN ((below_set4 (below_set4 k0.l (by omega)) (by omega)).alloc (by simp only [World.size_setCell]; omega) _) 1
end Go.Proofs.YtoaepgiajooecaaGreat

namespace Go.Proofs.YtoaepgiajooecaaGreat
open Go.RowKit Go.Sort

theorem amount_cc (a : Nat) (w : World) (g : Bool) (ha : a < 2 ^ 256) (h : decide (a ≤ MOST) = g) : Calls Tryz.prog 32 #[U a] w fun e w' => e = .returned (.bool g) ∧ Below w.heap.size w w' := by
  rw [← h]; exact amount_walk a w ha
theorem isBips_c (n : Int) (w : World) (g : Bool) (h : inBips n = g) : Calls Tryz.prog 20 #[.int .i64 n] w fun e w' => e = .returned (.bool g) ∧ w' = w := by
  rw [← h]; exact isBips_walk n w
theorem bipsDown (a n : Nat) (w : World) (ha : a ≤ MOST) (hn : n ≤ 10000) : Calls Tryz.prog 33 #[U a, .agg #[.int .u64 (n : Nat), .int .u64 0, .int .u64 0, .int .u64 0], .agg #[.int .u64 10000, .int .u64 0, .int .u64 0, .int .u64 0]] w
    fun e w' => e = .returned (.tuple #[U (a * n / 10000), .bool true]) ∧ Below w.heap.size w w' := by
  have h := down_walk a n 10000 w (Nat.lt_of_le_of_lt ha MOST_lt) (by omega) (by omega)
  rw [U_small (show n < 2 ^ 64 by omega), U_small (show 10000 < 2 ^ 64 by decide)] at h
  have hlt : a * n / 10000 < 2 ^ 256 := Nat.lt_of_le_of_lt (Nat.div_le_of_le_mul (by rw [Nat.mul_comm]; exact Nat.mul_le_mul_right a hn)) (Nat.lt_of_le_of_lt ha MOST_lt)
  have hok : quoOk (a * n) 10000 := ⟨by decide, hlt⟩
  exact h.mono fun e w' ⟨he, hw⟩ => ⟨by rw [he]; unfold qv qok; rw [if_pos hok, decide_eq_true hok], hw⟩
theorem of10000_c (w : World) : Calls Tryz.prog 34 #[.int .u64 10000] w fun e w' => e = .returned (.agg #[.int .u64 10000, .int .u64 0, .int .u64 0, .int .u64 0]) ∧ Below w.heap.size w w' := of_walk 10000 w
def PartsNo (w : World) (e : Ending) (w' : World) : Prop := e = .returned (.tuple #[U 0, U 0, .bool false]) ∧ Below w.heap.size w w'
set_option maxRecDepth 100000 in
set_option maxHeartbeats 4000000 in
theorem parts_no_walk (n : Int) (a : Nat) (w : World) (ha : a < 2 ^ 256) (hn : ¬ (0 ≤ n ∧ n ≤ 10000 ∧ a ≤ MOST)) :
    Calls Tryz.prog 12 #[.int .i64 n, U a] w (PartsNo w) := by
  obtain ⟨g, hg⟩ : ∃ g, g = inBips n := ⟨_, rfl⟩
  have Hg := Lib.hid hg.symm
  have Ha := Lib.hid ha
  have hno : g = false ∨ g = true ∧ decide (a ≤ MOST) = false := by
    rw [hg]
    unfold inBips
    by_cases h0 : 0 ≤ n
    · by_cases h1 : n ≤ 10000
      · exact .inr ⟨by rw [decide_eq_true h0, decide_eq_true h1]; rfl, decide_eq_false fun h => hn ⟨h0, h1, h⟩⟩
      · exact .inl (by rw [decide_eq_false h1, Bool.and_false])
    · exact .inl (by rw [decide_eq_false h0, Bool.false_and])
  clear hg ha hn
  rcases hno with rfl | ⟨rfl, hm⟩
  · unfold U
    go_enter Tryz.func12, Tryz.ntmps12
    go_wp2_with (go_at_call 20; refine (isBips_c n _ false Hg.out).mono ?_; rintro e w1 ⟨rfl, rfl⟩)
    refine bodyPost_ret (v := .tuple #[.agg #[.int .u64 0, .int .u64 0, .int .u64 0, .int .u64 0], .agg #[.int .u64 0, .int .u64 0, .int .u64 0, .int .u64 0], .bool false]) (by simp [results, Tryz.results12, go_sem]) rfl ⟨by rw [U_zero], ?_⟩
    exact (((Below.refl _ _).alloc (Nat.le_refl _) _).alloc (by simp) _).alloc (by simp; omega) _
  · have Hm := Lib.hid hm
    clear hm
    have Z1 : Zb w _ (w.heap.size + 1) := (Zb.new (w := w) (wr := w.alloc (.cells #[.int .u64 (limb a 0 : Nat), .int .u64 (limb a 1 : Nat), .int .u64 (limb a 2 : Nat), .int .u64 (limb a 3 : Nat)] 44)) (t := 44) (by simp) (by simp)).alloc (.cells #[.int .u64 0, .int .u64 0, .int .u64 0, .int .u64 0] 44)
    have Z2 : Zb w _ (w.heap.size + 1 + 1) := Zb.new (w := w) (wr := (w.alloc (.cells #[.int .u64 (limb a 0 : Nat), .int .u64 (limb a 1 : Nat), .int .u64 (limb a 2 : Nat), .int .u64 (limb a 3 : Nat)] 44)).alloc (.cells #[.int .u64 0, .int .u64 0, .int .u64 0, .int .u64 0] 44)) (t := 44) (by simp) (by simp; omega)
    have K0 : Bk w _ [(w.heap.size, a)] := (((Bk.push (t := 44) a (Bk.nil (w := w))).alloc (.cells #[.int .u64 0, .int .u64 0, .int .u64 0, .int .u64 0] 44)).alloc (.cells #[.int .u64 0, .int .u64 0, .int .u64 0, .int .u64 0] 44))
    have H := Lib.hid (And.intro K0 (And.intro Z1 Z2))
    clear K0 Z1 Z2
    unfold U
    go_enter Tryz.func12, Tryz.ntmps12
    go_wp2_with (first
      | (go_at_call 32; refine (amount_cc a _ false Ha.out Hm.out).mono ?_; rintro e w2 ⟨rfl, hb2⟩; have k2 := H.out.1.call hb2; have z1 := H.out.2.1.below hb2; have z2 := H.out.2.2.below hb2; obtain ⟨f0, f1, f2, f3⟩ := z1.a.frees4; obtain ⟨g0, g1, g2, g3⟩ := z2.a.frees4; obtain ⟨c0, c1, c2, c3⟩ := z1.a.cells4; obtain ⟨d0, d1, d2, d3⟩ := z2.a.cells4; have l1 := z1.s; have l2 := z2.s)
      | (go_at_call 20; refine (isBips_c n _ true Hg.out).mono ?_; rintro e w1 ⟨rfl, rfl⟩))
    refine bodyPost_ret (v := .tuple #[.agg #[.int .u64 0, .int .u64 0, .int .u64 0, .int .u64 0], .agg #[.int .u64 0, .int .u64 0, .int .u64 0, .int .u64 0], .bool false]) (by simp [results, Tryz.results12, go_sem, c0, c1, c2, c3, d0, d1, d2, d3]) rfl ⟨by rw [U_zero], ?_⟩
    exact below_set4 (below_set4 k2.l (by omega)) (by omega)
/-- what lies in memory in Parts: the amount, the two results' boxes -/
structure Sp (w wr : World) (a : Nat) : Prop where
  k : Bk w wr [(w.heap.size, a)]
  z1 : Wb w wr (w.heap.size + 1)
  z2 : Wb w wr (w.heap.size + 1 + 1)
theorem Sp.below {w wr w' : World} {a : Nat} (h : Sp w wr a) (hb : Below wr.heap.size wr w') : Sp w w' a := ⟨h.k.call hb, h.z1.below hb, h.z2.below hb⟩
theorem Bk.drew {w wr : World} {l : List (Nat × Nat)} (h : Bk w wr l) : Bk w wr.drew l := ⟨fun p hp => ⟨(h.b p hp).a.drew, (h.b p hp).s⟩, below_drewN h.l 1⟩
theorem Sp.drew {w wr : World} {a : Nat} (h : Sp w wr a) : Sp w wr.drew a := ⟨h.k.drew, h.z1.drew, h.z2.drew⟩
theorem Sp.put4 {w wr : World} {a m L : Nat} (h : Sp w wr a) (hL : w.heap.size < L) : Sp w ((((wr.setCell ⟨L, 0, none⟩ (.int .u64 (limb m 0 : Nat))).setCell ⟨L, 1, none⟩ (.int .u64 (limb m 1 : Nat))).setCell ⟨L, 2, none⟩ (.int .u64 (limb m 2 : Nat))).setCell ⟨L, 3, none⟩ (.int .u64 (limb m 3 : Nat))) a :=
  ⟨h.k.put4 (by omega) (fun p hp => by obtain rfl := List.mem_singleton.1 hp; show L ≠ w.heap.size; omega), h.z1.put4, h.z2.put4⟩
theorem heldSp {w w' : World} {a : Nat} (h : Sp w w' a) : w'.cell? ⟨w.heap.size, 0, none⟩ = some (.int .u64 (limb a 0 : Nat)) ∧ w'.cell? ⟨w.heap.size, 1, none⟩ = some (.int .u64 (limb a 1 : Nat)) ∧ w'.cell? ⟨w.heap.size, 2, none⟩ = some (.int .u64 (limb a 2 : Nat)) ∧ w'.cell? ⟨w.heap.size, 3, none⟩ = some (.int .u64 (limb a 3 : Nat)) ∧ Sp w w' a := by
  obtain ⟨⟨a0, a1, a2, a3⟩, _⟩ := h.k.cells w.heap.size a (by simp)
  exact ⟨a0, a1, a2, a3, h⟩
theorem un_heldSp {w w' : World} {a : Nat} (h : w'.cell? ⟨w.heap.size, 0, none⟩ = some (.int .u64 (limb a 0 : Nat)) ∧ w'.cell? ⟨w.heap.size, 1, none⟩ = some (.int .u64 (limb a 1 : Nat)) ∧ w'.cell? ⟨w.heap.size, 2, none⟩ = some (.int .u64 (limb a 2 : Nat)) ∧ w'.cell? ⟨w.heap.size, 3, none⟩ = some (.int .u64 (limb a 3 : Nat)) ∧ Sp w w' a) : Sp w w' a := h.2.2.2.2
def PartsYes (n a : Nat) (w : World) (e : Ending) (w' : World) : Prop := e = .returned (.tuple #[U (a * n / 10000), U (a - a * n / 10000), .bool true]) ∧ Below w.heap.size w w'
set_option maxRecDepth 100000 in
set_option maxHeartbeats 4000000 in
theorem parts_yes_walk (n : Nat) (a : Nat) (w : World) (ha : a ≤ MOST) (hn : n ≤ 10000) :
    Calls Tryz.prog 12 #[.int .i64 (n : Nat), U a] w (PartsYes n a w) := by
  have ha2 : a < 2 ^ 256 := Nat.lt_of_le_of_lt ha MOST_lt
  have Hg := Lib.hid (show inBips (n : Int) = true by unfold inBips; rw [decide_eq_true (by omega), decide_eq_true (by omega)]; rfl)
  have Hm := Lib.hid (show decide (a ≤ MOST) = true from decide_eq_true ha)
  have Ha := Lib.hid ha2
  have Hle := Lib.hid ha
  have Hn := Lib.hid hn
  have cv : IntKind.u64.wrap (n : Int) = n := IntWalk.u64_in _ (by omega)
  obtain ⟨p, hp⟩ : ∃ p, p = a * n / 10000 := ⟨_, rfl⟩
  have hpa : p ≤ a := by rw [hp]; exact Nat.div_le_of_le_mul (by rw [Nat.mul_comm]; exact Nat.mul_le_mul_right a hn)
  have Hp := Lib.hid hp
  have Hpl := Lib.hid (show p < 2 ^ 256 by omega)
  have Hs := Lib.hid (show subv a p = a - p from if_pos hpa)
  unfold PartsYes
  rw [← hp]
  obtain ⟨q, hq⟩ : ∃ q, q = a - p := ⟨_, rfl⟩
  rw [← hq]
  have Hq := Lib.hid hq
  clear hp hpa hq ha ha2 hn
  have Z1 : Zb w _ (w.heap.size + 1) := (Zb.new (w := w) (wr := w.alloc (.cells #[.int .u64 (limb a 0 : Nat), .int .u64 (limb a 1 : Nat), .int .u64 (limb a 2 : Nat), .int .u64 (limb a 3 : Nat)] 44)) (t := 44) (by simp) (by simp)).alloc (.cells #[.int .u64 0, .int .u64 0, .int .u64 0, .int .u64 0] 44)
  have Z2 : Zb w _ (w.heap.size + 1 + 1) := Zb.new (w := w) (wr := (w.alloc (.cells #[.int .u64 (limb a 0 : Nat), .int .u64 (limb a 1 : Nat), .int .u64 (limb a 2 : Nat), .int .u64 (limb a 3 : Nat)] 44)).alloc (.cells #[.int .u64 0, .int .u64 0, .int .u64 0, .int .u64 0] 44)) (t := 44) (by simp) (by simp; omega)
  have K0 : Bk w _ [(w.heap.size, a)] := (((Bk.push (t := 44) a (Bk.nil (w := w))).alloc (.cells #[.int .u64 0, .int .u64 0, .int .u64 0, .int .u64 0] 44)).alloc (.cells #[.int .u64 0, .int .u64 0, .int .u64 0, .int .u64 0] 44))
  have H := Lib.hid (⟨K0, Z1.wb, Z2.wb⟩ : Sp w _ a)
  clear K0 Z1 Z2
  unfold U
  go_enter Tryz.func12, Tryz.ntmps12
  go_upto_region 5 with (first
    | (go_at_call 32; refine (amount_cc a _ true Ha.out Hm.out).mono ?_; rintro e w2 ⟨rfl, hb2⟩; have k2 := H.out.below hb2)
    | (go_at_call 20; refine (isBips_c n _ true Hg.out).mono ?_; rintro e w1 ⟨rfl, rfl⟩))
  have T0 := Lib.hid k2
  clear k2
  go_region_held3 (fun w' => w'.cell? ⟨w.heap.size, 0, none⟩ = some (.int .u64 (limb a 0 : Nat)) ∧ w'.cell? ⟨w.heap.size, 1, none⟩ = some (.int .u64 (limb a 1 : Nat)) ∧ w'.cell? ⟨w.heap.size, 2, none⟩ = some (.int .u64 (limb a 2 : Nat)) ∧ w'.cell? ⟨w.heap.size, 3, none⟩ = some (.int .u64 (limb a 3 : Nat)) ∧ Sp w w' a)
    ((refine heldSp ?_; repeat (first | with_reducible exact u6 | with_reducible exact u5 | with_reducible exact u4 | with_reducible exact u3 | with_reducible exact T0.out | with_reducible refine Sp.drew ?_ | with_reducible refine Sp.put4 ?_ (by omega) | with_reducible exact un_heldSp (by with_reducible assumption))))
    (first
      | (go_at_call 30; refine (parted_walk a p true _ _ Ha.out Hpl.out (u5.k.b _ (List.mem_singleton.2 rfl))).mono ?_; rintro e w6 ⟨rfl, hb6⟩; rw [Hs.out, ← Hq.out]; have u6 := u5.below hb6; obtain ⟨f1', hf1⟩ := u6.z1.a; obtain ⟨f2', hf2⟩ := u6.z2.a; obtain ⟨f0, f1, f2, f3⟩ := hf1.frees4; obtain ⟨g0, g1, g2, g3⟩ := hf2.frees4; obtain ⟨c0, c1, c2, c3⟩ := hf1.cells4; obtain ⟨d0, d1, d2, d3⟩ := hf2.cells4; unfold U)
      | (go_at_call 33; refine (bipsDown a n _ Hle.out Hn.out).mono ?_; rintro e w5 ⟨rfl, hb5⟩; rw [← Hp.out]; have u5 := u4.below hb5; unfold U)
      | (go_at_call 34; refine (of10000_c _).mono ?_; rintro e w4 ⟨rfl, hb4⟩; have u4 := u3.below hb4)
      | (go_at_call 34; refine (of_walk n _).mono ?_; rintro e w3 ⟨rfl, hb3⟩; have u3 : Sp w w3 a := Sp.below (un_heldSp (by with_reducible assumption)) hb3))
  all_goals
    go_wp2
    refine bodyPost_ret (v := .tuple #[.agg #[.int .u64 (limb p 0 : Nat), .int .u64 (limb p 1 : Nat), .int .u64 (limb p 2 : Nat), .int .u64 (limb p 3 : Nat)], .agg #[.int .u64 (limb q 0 : Nat), .int .u64 (limb q 1 : Nat), .int .u64 (limb q 2 : Nat), .int .u64 (limb q 3 : Nat)], .bool true]) (by simp [results, Tryz.results12, go_sem, c0, c1, c2, c3, d0, d1, d2, d3]) rfl ⟨rfl, below_set4 (below_set4 u6.k.l (by omega)) (by omega)⟩
end Go.Proofs.YtoaepgiajooecaaGreat

namespace Go.Proofs.YtoaepgiajooecaaGreat
open Go.RowKit Go.Sort

theorem parts99_c (w : World) : Calls Tryz.prog 12 #[.int .i64 1000, .agg #[.int .u64 99, .int .u64 0, .int .u64 0, .int .u64 0]] w
    fun e w' => e = .returned (.tuple #[.agg #[.int .u64 9, .int .u64 0, .int .u64 0, .int .u64 0], .agg #[.int .u64 90, .int .u64 0, .int .u64 0, .int .u64 0], .bool true]) ∧ Below w.heap.size w w' := by
  have h := parts_yes_walk 1000 99 w (by decide) (by decide)
  rw [U_small (show 99 < 2 ^ 64 by decide)] at h
  refine h.mono fun e w' ⟨he, hw⟩ => ⟨?_, hw⟩
  rw [he, show 99 * 1000 / 10000 = 9 from rfl, show 99 - 9 = 90 from rfl, U_small (show 9 < 2 ^ 64 by decide), U_small (show 90 < 2 ^ 64 by decide)]
  rfl
set_option maxRecDepth 100000 in
set_option maxHeartbeats 2000000 in
theorem lives34_walk (w : World) : Calls Tryz.prog 4 #[] w fun e w' => e = .returned (.bool true) ∧ Below w.heap.size w w' := by
  have heq := eqU
  go_enter Tryz.func4, Tryz.ntmps4
  go_wp2_with (go_at_call 12; refine (parts99_c _).mono ?_; rintro e w1 ⟨rfl, hb1⟩)
  go_ret
  exact ⟨rfl, (hb1.alloc hb1.size _).alloc (by have := hb1.size; simp; omega) _⟩
end Go.Proofs.YtoaepgiajooecaaGreat
