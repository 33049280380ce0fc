/- rate.Virtual, withVirtual, good, walked: where the variable added reads 1000. -/
import Derived.Test.YtomhbggfdjooaaaDoorRM
import Derived.Test.YtomhbggfdjooaaaDoorRE
import Derived.Test.YtomhbggfdjooaaaDoorM7D
import Derived.Test.YtomhbggfdjooaaaDoorSPb
namespace Go.Proofs.YtomhbggfdjooaaaDoor
open Go.RowKit Go.Sort

/-- the package variable rate.added reads as its initialiser lays it -/
structure Vr (w : World) : Prop where
  c : w.cell? ⟨0, 0, none⟩ = some (.int .u64 1000)
  s : 0 < w.heap.size
theorem Vr.below {w w' : World} (h : Vr w) (hb : Below w.heap.size w w') : Vr w' := ⟨by rw [hb.cell (p := ⟨0, 0, none⟩) h.s]; exact h.c, Nat.lt_of_lt_of_le h.s hb.size⟩
theorem Vr.far {w w' : World} {n : Nat} (h : Vr w) (hb : Below n w w') (hn : w.heap.size ≤ n) : Vr w' := h.below (hb.mono hn)
theorem Vr.alloc {w : World} (h : Vr w) (o : Obj) : Vr (w.alloc o) := h.below ((Below.refl _ _).alloc (Nat.le_refl _) o)
theorem Vr.drew {w : World} (h : Vr w) : Vr w.drew := h.below (Below.refl _ _).drew
theorem U1000 : U 1000 = .agg #[.int .u64 1000, .int .u64 0, .int .u64 0, .int .u64 0] := U_small (n := 1000) (by decide)
theorem of1000_c (w : World) : Calls Tryd.prog 39 #[.int .u64 1000] w fun e w' => e = .returned (.agg #[.int .u64 1000, .int .u64 0, .int .u64 0, .int .u64 0]) ∧ Below w.heap.size w w' := of_walk 1000 w

set_option maxRecDepth 100000 in
set_option maxHeartbeats 2000000 in
theorem virtual_walk (w : World) (hv : Vr w) : Calls Tryd.prog 24 #[] w fun e w' => e = .returned (U 1000) ∧ Below w.heap.size w w' := by
  rw [U1000]
  have Z0 := Lib.hid (Arr.new4 (κ := .u64) (w := w) (t := 24) (f := fun _ => 0) (b := w.heap.size) rfl)
  have B0 := Lib.hid ((Below.refl w.heap.size w).alloc (Nat.le_refl _) (.cells #[.int .u64 0, .int .u64 0, .int .u64 0, .int .u64 0] 24))
  have hc := (hv.alloc (.cells #[.int .u64 0, .int .u64 0, .int .u64 0, .int .u64 0] 24)).c
  clear hv
  go_enter Tryd.func24, Tryd.ntmps24
  go_wp2_with (go_at_call 39; refine (of1000_c _).mono ?_; rintro e w1 ⟨rfl, hb1⟩; have z1 := Z0.out.below hb1 Z0.out.lt4; have l1 := B0.out.trans (hb1.mono B0.out.size); obtain ⟨y0, y1, y2, y3⟩ := z1.frees4; obtain ⟨x0, x1, x2, x3⟩ := z1.cells4)
  refine bodyPost_ret (v := .agg #[.int .u64 1000, .int .u64 0, .int .u64 0, .int .u64 0]) (by simp [results, Tryd.results24, go_sem, x0, x1, x2, x3]) rfl ⟨rfl, below_set4 l1 (by omega)⟩
/-- what lies in memory in withVirtual -/
structure Wv (w wr : World) (a : Nat) : Prop where
  o : One' w wr a
  z : Zb w wr (w.heap.size + 1)
  v : Vr wr
theorem Wv.below {w wr w' : World} {a : Nat} (h : Wv w wr a) (hb : Below wr.heap.size wr w') : Wv w w' a := ⟨h.o.below hb, h.z.below hb, h.v.below hb⟩
theorem Wv.drew {w wr : World} {a : Nat} (h : Wv w wr a) : Wv w wr.drew a := ⟨h.o.drew, h.z.drew, h.v.drew⟩
theorem Wv.first {w : World} {a : Nat} (h : Vr w) : Wv w ((w.alloc (.cells #[.int .u64 (limb a 0 : Nat), .int .u64 (limb a 1 : Nat), .int .u64 (limb a 2 : Nat), .int .u64 (limb a 3 : Nat)] 24)).alloc (.cells #[.int .u64 0, .int .u64 0, .int .u64 0, .int .u64 0] 24)) a := by
  refine ⟨(one_first (a := a) (w := w) (t := 24)).below ((Below.refl _ _).alloc (Nat.le_refl _) _), Zb.new (by simp) (by simp), (h.alloc _).alloc _⟩
theorem heldWv {w w' : World} {a : Nat} (h : Wv w w' a) : w'.cell? ⟨w.heap.size, 0, none⟩ = some (.int .u64 (limb a 0 : Nat)) ∧ w'.cell? ⟨w.heap.size, 1, none⟩ = some (.int .u64 (limb a 1 : Nat)) ∧ w'.cell? ⟨w.heap.size, 2, none⟩ = some (.int .u64 (limb a 2 : Nat)) ∧ w'.cell? ⟨w.heap.size, 3, none⟩ = some (.int .u64 (limb a 3 : Nat)) ∧ Wv w w' a := by
  obtain ⟨a0, a1, a2, a3⟩ := h.o.a.cells4
  exact ⟨a0, a1, a2, a3, h⟩
theorem un_heldWv {w w' : World} {a : Nat} (h : w'.cell? ⟨w.heap.size, 0, none⟩ = some (.int .u64 (limb a 0 : Nat)) ∧ w'.cell? ⟨w.heap.size, 1, none⟩ = some (.int .u64 (limb a 1 : Nat)) ∧ w'.cell? ⟨w.heap.size, 2, none⟩ = some (.int .u64 (limb a 2 : Nat)) ∧ w'.cell? ⟨w.heap.size, 3, none⟩ = some (.int .u64 (limb a 3 : Nat)) ∧ Wv w w' a) : Wv w w' a := h.2.2.2.2
set_option maxRecDepth 100000 in
set_option maxHeartbeats 4000000 in
theorem withV_walk (a : Nat) (w : World) (ha : a < 2 ^ 256) (hv : Vr w) : Calls Tryd.prog 31 #[U a] w fun e w' => e = .returned (U (addv a 1000)) ∧ Below w.heap.size w w' := by
  have Ha := Lib.hid ha
  obtain ⟨s, hs⟩ : ∃ x, x = addv a 1000 := ⟨_, rfl⟩
  obtain ⟨ok, hok⟩ : ∃ x, x = addk a 1000 := ⟨_, rfl⟩
  rw [← hs]
  have Hs := Lib.hid hs
  have Hok := Lib.hid hok
  have T0 := Lib.hid (Wv.first (a := a) hv)
  clear ha hs hok hv
  unfold U
  go_enter Tryd.func31, Tryd.ntmps31
  go_upto_region 1 with (fail)
  obtain ⟨W, hW⟩ : ∃ W, W = (w.alloc (.cells #[.int .u64 (limb a 0 : Nat), .int .u64 (limb a 1 : Nat), .int .u64 (limb a 2 : Nat), .int .u64 (limb a 3 : Nat)] 24)).alloc (.cells #[.int .u64 0, .int .u64 0, .int .u64 0, .int .u64 0] 24) := ⟨_, rfl⟩
  rw [← hW] at T0 ⊢
  clear hW
  have B1 := Lib.hid T0.out.o.a
  go_cut [3, 4] (fun p k wx => ∃ M, p = .pointer (some ⟨M, 0, none⟩) ∧ k = .bool ok ∧ Box wx M s ∧ Below W.heap.size W wx)
  case first =>
    go_region_held3 (fun w' => w'.cell? ⟨w.heap.size, 0, none⟩ = some (.int .u64 (limb a 0 : Nat)) ∧ w'.cell? ⟨w.heap.size, 1, none⟩ = some (.int .u64 (limb a 1 : Nat)) ∧ w'.cell? ⟨w.heap.size, 2, none⟩ = some (.int .u64 (limb a 2 : Nat)) ∧ w'.cell? ⟨w.heap.size, 3, none⟩ = some (.int .u64 (limb a 3 : Nat)) ∧ Below W.heap.size W w')
      ((refine hldW B1.out ?_; repeat (first | with_reducible exact k2 | with_reducible exact k1 | with_reducible exact Below.refl _ _ | with_reducible refine kpD ?_ | with_reducible refine kpA ?_ _ | with_reducible refine kpP ?_ (by omega) | with_reducible exact un_hldW (by with_reducible assumption))))
      (first
        | (go_at_call 43; refine (add_c a 1000 _ Ha.out (by decide)).mono ?_; rintro e v2 ⟨rfl, hv2⟩; have k2 := kpB (un_hldW (by with_reducible assumption)) hv2; have y2 := hv2.size; (try simp at y2); (first | (with_reducible have zA2 := carry0 zA hv2) | skip); (first | (with_reducible have zB2 := z_one hv2) | skip); (first | (obtain ⟨_, _, _, _⟩ := zA2.frees4; obtain ⟨_, _, _, _⟩ := zA2.cells4; have lzA2 := zA2.lt4) | skip); (first | (obtain ⟨_, _, _, _⟩ := zB2.frees4; obtain ⟨_, _, _, _⟩ := zB2.cells4; have lzB2 := zB2.lt4) | skip); rw [← Hs.out, ← Hok.out]; unfold U)
        | (go_at_call 24; refine (virtual_walk _ (T0.out.v.below (un_hldW (by with_reducible assumption)))).mono ?_; rintro e v1 ⟨rfl, hv1⟩; have k1 := kpB (un_hldW (by with_reducible assumption)) hv1; have y1 := k1.size; (first | (with_reducible have zA := z_one_d hv1) | skip); rw [U1000]))
    all_goals
      go_wp2
      go_meet
      case rel =>
        refine ⟨_, rfl, rfl, ⟨?_, ?_⟩, ?_⟩
        · repeat (first | with_reducible assumption | with_reducible exact Arr.new4 (f := limb s) rfl | with_reducible refine Arr.put4 (f := fun _ => 0) ?_)
        · simp only [World.size_setCell, World.size_alloc]; omega
        · repeat (first | with_reducible exact k2 | with_reducible refine kpA ?_ _ | with_reducible refine kpP ?_ (by omega))
  case rest =>
    obtain ⟨M, rfl, rfl, bm, hbl⟩ := hcut
    have u2 := T0.out.below hbl
    obtain ⟨y0, y1, y2, y3⟩ := u2.z.a.frees4
    obtain ⟨z0, z1, z2, z3⟩ := u2.z.a.cells4
    obtain ⟨m0, m1, m2, m3⟩ := bm.a.cells4
    have l2 := u2.z.s
    go_wp2
    refine bodyPost_ret (v := .agg #[.int .u64 (limb s 0 : Nat), .int .u64 (limb s 1 : Nat), .int .u64 (limb s 2 : Nat), .int .u64 (limb s 3 : Nat)]) (by simp [results, Tryd.results31, go_sem, z0, z1, z2, z3]) rfl ⟨rfl, below_set4 u2.o.l (by omega)⟩
end Go.Proofs.YtomhbggfdjooaaaDoor

namespace Go.Proofs.YtomhbggfdjooaaaDoor
open Go.RowKit Go.Sort

def u4 (n : Nat) : Value := .agg #[.int .u64 (limb n 0 : Nat), .int .u64 (limb n 1 : Nat), .int .u64 (limb n 2 : Nat), .int .u64 (limb n 3 : Nat)]
theorem amountW_c (a : Nat) (w : World) (g : Bool) (ha : a < 2 ^ 256) (h : decide (a ≤ MOST) = g) : Calls Tryd.prog 37 #[.agg #[.int .u64 (limb a 0 : Nat), .int .u64 (limb a 1 : Nat), .int .u64 (limb a 2 : Nat), .int .u64 (limb a 3 : Nat)]] w fun e w' => e = .returned (.bool g) ∧ Below w.heap.size w w' := by
  rw [← h]; exact amount_walk a w ha
theorem withVW_c (a : Nat) (w : World) (ha : a < 2 ^ 256) (hv : Vr w) : Calls Tryd.prog 31 #[.agg #[.int .u64 (limb a 0 : Nat), .int .u64 (limb a 1 : Nat), .int .u64 (limb a 2 : Nat), .int .u64 (limb a 3 : Nat)]] w fun e w' => e = .returned (U (addv a 1000)) ∧ Below w.heap.size w w' := withV_walk a w ha hv
/-- both are amounts -/
def vgood (s t : Nat) : Bool := decide (s ≤ MOST) && decide (t ≤ MOST)
theorem Wide8.cells {w : World} {L H Lo : Nat} (h : Wide8 w L H Lo) : w.cell? ⟨L, 0, none⟩ = some (.int .u64 (limb H 0 : Nat)) ∧ w.cell? ⟨L, 1, none⟩ = some (.int .u64 (limb H 1 : Nat)) ∧ w.cell? ⟨L, 2, none⟩ = some (.int .u64 (limb H 2 : Nat)) ∧ w.cell? ⟨L, 3, none⟩ = some (.int .u64 (limb H 3 : Nat)) ∧ w.cell? ⟨L, 4, none⟩ = some (.int .u64 (limb Lo 0 : Nat)) ∧ w.cell? ⟨L, 5, none⟩ = some (.int .u64 (limb Lo 1 : Nat)) ∧ w.cell? ⟨L, 6, none⟩ = some (.int .u64 (limb Lo 2 : Nat)) ∧ w.cell? ⟨L, 7, none⟩ = some (.int .u64 (limb Lo 3 : Nat)) ∧ Wide8 w L H Lo := by
  obtain ⟨a0, a1, a2, a3, a4, a5, a6, a7⟩ := wh_cells h.a
  exact ⟨a0, a1, a2, a3, a4, a5, a6, a7, h⟩

set_option maxRecDepth 100000 in
set_option maxHeartbeats 2000000 in
theorem vgood_walk (s t : Nat) (w : World) (hs : s < 2 ^ 256) (ht : t < 2 ^ 256) : Calls Tryd.prog 22 #[WW s t] w fun e w' => e = .returned (.bool (vgood s t)) ∧ Below w.heap.size w w' := by
  unfold vgood
  obtain ⟨g, hg⟩ : ∃ g, g = decide (s ≤ MOST) := ⟨_, rfl⟩
  obtain ⟨k, hk⟩ : ∃ g, g = decide (t ≤ MOST) := ⟨_, rfl⟩
  rw [← hg, ← hk]
  have HG := Lib.hid hg.symm
  have HK := Lib.hid hk.symm
  have Hs := Lib.hid hs
  have Ht := Lib.hid ht
  have W0 := Lib.hid (Wide8.new (w := w) (t := 34) (H := s) (Lo := t))
  have B0 := Lib.hid ((Below.refl w.heap.size w).alloc (Nat.le_refl _) (.cells #[.int .u64 (limb s 0 : Nat), .int .u64 (limb s 1 : Nat), .int .u64 (limb s 2 : Nat), .int .u64 (limb s 3 : Nat), .int .u64 (limb t 0 : Nat), .int .u64 (limb t 1 : Nat), .int .u64 (limb t 2 : Nat), .int .u64 (limb t 3 : Nat)] 34))
  clear hg hk hs ht
  unfold WW
  cases g
  · go_enter Tryd.func22, Tryd.ntmps22
    go_wp2_with (go_at_call 37; with_reducible refine (amountW_c s _ false Hs.out HG.out).mono ?_; rintro e w1 ⟨rfl, hb1⟩; have l1 := B0.out.trans (hb1.mono B0.out.size); clear hb1)
    go_ret
    exact ⟨rfl, l1⟩
  · go_enter Tryd.func22, Tryd.ntmps22
    go_wp2_with (first
      | (go_at_call 37; with_reducible refine (amountW_c t _ k Ht.out HK.out).mono ?_; rintro e w2 ⟨rfl, hb2⟩; have l2 := l1.trans (hb2.mono l1.size); clear hb2)
      | (go_at_call 37; with_reducible refine (amountW_c s _ true Hs.out HG.out).mono ?_; rintro e w1 ⟨rfl, hb1⟩; have l1 := B0.out.trans (hb1.mono B0.out.size); obtain ⟨a0, a1, a2, a3, a4, a5, a6, a7, hw1⟩ := (W0.out.below hb1).cells; clear hb1))
    go_ret
    exact ⟨rfl, l2⟩

/-- what lies in memory in shares and tokens -/
structure Sv (w wr : World) (s t a : Nat) : Prop where
  x : Wide8 wr w.heap.size s t
  a : Box wr (w.heap.size + 1) a
  z : Wb w wr (w.heap.size + 1 + 1)
  v : Vr wr
  l : Below w.heap.size w wr
theorem Sv.below {w wr w' : World} {s t a : Nat} (h : Sv w wr s t a) (hb : Below wr.heap.size wr w') : Sv w w' s t a := ⟨h.x.below hb, h.a.below hb, h.z.below hb, h.v.below hb, h.l.trans (hb.mono h.l.size)⟩
theorem Sv.drew {w wr : World} {s t a : Nat} (h : Sv w wr s t a) : Sv w wr.drew s t a := ⟨⟨h.x.a.drew, h.x.s⟩, ⟨h.a.a.drew, h.a.s⟩, h.z.drew, h.v.drew, below_drewN h.l 1⟩
theorem Sv.first {w : World} {s t a : Nat} (h : Vr w) : Sv w (((w.alloc (.cells #[.int .u64 (limb s 0 : Nat), .int .u64 (limb s 1 : Nat), .int .u64 (limb s 2 : Nat), .int .u64 (limb s 3 : Nat), .int .u64 (limb t 0 : Nat), .int .u64 (limb t 1 : Nat), .int .u64 (limb t 2 : Nat), .int .u64 (limb t 3 : Nat)] 34)).alloc (.cells #[.int .u64 (limb a 0 : Nat), .int .u64 (limb a 1 : Nat), .int .u64 (limb a 2 : Nat), .int .u64 (limb a 3 : Nat)] 24)).alloc (.cells #[.int .u64 0, .int .u64 0, .int .u64 0, .int .u64 0] 24)) s t a := by
  refine ⟨((Wide8.new (w := w) (t := 34) (H := s) (Lo := t)).alloc _).alloc _, (Box.new (by simp)).alloc _, (Zb.new (by simp) (by simp; omega)).wb, ((h.alloc _).alloc _).alloc _, (((Below.refl _ _).alloc (Nat.le_refl _) _).alloc (by simp) _).alloc (by simp; omega) _⟩
theorem Sv.put4 {w wr : World} {s t a m L : Nat} (h : Sv w wr s t a) (hL : L = w.heap.size + 1 + 1) (hv : 0 < w.heap.size) : Sv w ((((wr.setCell ⟨L, 0, none⟩ (.int .u64 (limb m 0 : Nat))).setCell ⟨L, 1, none⟩ (.int .u64 (limb m 1 : Nat))).setCell ⟨L, 2, none⟩ (.int .u64 (limb m 2 : Nat))).setCell ⟨L, 3, none⟩ (.int .u64 (limb m 3 : Nat))) s t a := by
  subst hL
  have hb := below_set4 (b := w.heap.size + 1 + 1) (x0 := .int .u64 (limb m 0 : Nat)) (x1 := .int .u64 (limb m 1 : Nat)) (x2 := .int .u64 (limb m 2 : Nat)) (x3 := .int .u64 (limb m 3 : Nat)) (Below.refl w.heap.size wr) (by omega)
  exact ⟨⟨h.x.a.put4_far (by omega), by simp only [World.size_setCell]; exact h.x.s⟩, h.a.putN_far (by omega), h.z.put4, ⟨by rw [hb.cell (p := ⟨0, 0, none⟩) hv]; exact h.v.c, by simp only [World.size_setCell]; exact h.v.s⟩, below_set4 h.l (by omega)⟩
theorem heldSv {w w' : World} {s t a : Nat} (h : Sv w w' s t a) : w'.cell? ⟨w.heap.size, 0, none⟩ = some (.int .u64 (limb s 0 : Nat)) ∧ w'.cell? ⟨w.heap.size, 1, none⟩ = some (.int .u64 (limb s 1 : Nat)) ∧ w'.cell? ⟨w.heap.size, 2, none⟩ = some (.int .u64 (limb s 2 : Nat)) ∧ w'.cell? ⟨w.heap.size, 3, none⟩ = some (.int .u64 (limb s 3 : Nat)) ∧ w'.cell? ⟨w.heap.size, 4, none⟩ = some (.int .u64 (limb t 0 : Nat)) ∧ w'.cell? ⟨w.heap.size, 5, none⟩ = some (.int .u64 (limb t 1 : Nat)) ∧ w'.cell? ⟨w.heap.size, 6, none⟩ = some (.int .u64 (limb t 2 : Nat)) ∧ w'.cell? ⟨w.heap.size, 7, none⟩ = some (.int .u64 (limb t 3 : Nat)) ∧ w'.cell? ⟨w.heap.size + 1, 0, none⟩ = some (.int .u64 (limb a 0 : Nat)) ∧ w'.cell? ⟨w.heap.size + 1, 1, none⟩ = some (.int .u64 (limb a 1 : Nat)) ∧ w'.cell? ⟨w.heap.size + 1, 2, none⟩ = some (.int .u64 (limb a 2 : Nat)) ∧ w'.cell? ⟨w.heap.size + 1, 3, none⟩ = some (.int .u64 (limb a 3 : Nat)) ∧ Sv w w' s t a := by
  obtain ⟨a0, a1, a2, a3, a4, a5, a6, a7⟩ := wh_cells h.x.a
  obtain ⟨b0, b1, b2, b3⟩ := h.a.a.cells4
  exact ⟨a0, a1, a2, a3, a4, a5, a6, a7, b0, b1, b2, b3, h⟩
theorem un_heldSv {w w' : World} {s t a : Nat} (h : w'.cell? ⟨w.heap.size, 0, none⟩ = some (.int .u64 (limb s 0 : Nat)) ∧ w'.cell? ⟨w.heap.size, 1, none⟩ = some (.int .u64 (limb s 1 : Nat)) ∧ w'.cell? ⟨w.heap.size, 2, none⟩ = some (.int .u64 (limb s 2 : Nat)) ∧ w'.cell? ⟨w.heap.size, 3, none⟩ = some (.int .u64 (limb s 3 : Nat)) ∧ w'.cell? ⟨w.heap.size, 4, none⟩ = some (.int .u64 (limb t 0 : Nat)) ∧ w'.cell? ⟨w.heap.size, 5, none⟩ = some (.int .u64 (limb t 1 : Nat)) ∧ w'.cell? ⟨w.heap.size, 6, none⟩ = some (.int .u64 (limb t 2 : Nat)) ∧ w'.cell? ⟨w.heap.size, 7, none⟩ = some (.int .u64 (limb t 3 : Nat)) ∧ w'.cell? ⟨w.heap.size + 1, 0, none⟩ = some (.int .u64 (limb a 0 : Nat)) ∧ w'.cell? ⟨w.heap.size + 1, 1, none⟩ = some (.int .u64 (limb a 1 : Nat)) ∧ w'.cell? ⟨w.heap.size + 1, 2, none⟩ = some (.int .u64 (limb a 2 : Nat)) ∧ w'.cell? ⟨w.heap.size + 1, 3, none⟩ = some (.int .u64 (limb a 3 : Nat)) ∧ Sv w w' s t a) : Sv w w' s t a := h.2.2.2.2.2.2.2.2.2.2.2.2

set_option maxRecDepth 100000 in
set_option maxHeartbeats 4000000 in
theorem vshares_walk (s t a : Nat) (w : World) (hs : s < 2 ^ 256) (ht : t < 2 ^ 256) (ha : a < 2 ^ 256) (hv : Vr w) : Calls Tryd.prog 17 #[WW s t, U a] w fun e w' => e = .returned (.tuple #[U (qv a (addv t 1000) (addv s 1000)), .bool (qok a (addv t 1000) (addv s 1000))]) ∧ Below w.heap.size w w' := by
  obtain ⟨m, hm⟩ : ∃ x, x = addv t 1000 := ⟨_, rfl⟩
  obtain ⟨d, hd⟩ : ∃ x, x = addv s 1000 := ⟨_, rfl⟩
  rw [← hm, ← hd]
  have Hml := Lib.hid (show m < 2 ^ 256 by rw [hm]; exact addv_lt _ _)
  have Hdl := Lib.hid (show d < 2 ^ 256 by rw [hd]; exact addv_lt _ _)
  obtain ⟨x, hx⟩ : ∃ x, x = qv a m d := ⟨_, rfl⟩
  obtain ⟨ok, hok⟩ : ∃ x, x = qok a m d := ⟨_, rfl⟩
  rw [← hx, ← hok]
  have Hs := Lib.hid hs
  have Ht := Lib.hid ht
  have Ha := Lib.hid ha
  have Hm := Lib.hid hm
  have Hd := Lib.hid hd
  have Hx := Lib.hid hx
  have Hok := Lib.hid hok
  have HV := Lib.hid hv.s
  have T0 := Lib.hid (Sv.first (s := s) (t := t) (a := a) hv)
  clear hs ht ha hm hd hx hok hv
  unfold U WW
  go_enter Tryd.func17, Tryd.ntmps17
  go_upto_region 1 with (fail)
  go_region_held3 (fun w' => w'.cell? ⟨w.heap.size, 0, none⟩ = some (.int .u64 (limb s 0 : Nat)) ∧ w'.cell? ⟨w.heap.size, 1, none⟩ = some (.int .u64 (limb s 1 : Nat)) ∧ w'.cell? ⟨w.heap.size, 2, none⟩ = some (.int .u64 (limb s 2 : Nat)) ∧ w'.cell? ⟨w.heap.size, 3, none⟩ = some (.int .u64 (limb s 3 : Nat)) ∧ w'.cell? ⟨w.heap.size, 4, none⟩ = some (.int .u64 (limb t 0 : Nat)) ∧ w'.cell? ⟨w.heap.size, 5, none⟩ = some (.int .u64 (limb t 1 : Nat)) ∧ w'.cell? ⟨w.heap.size, 6, none⟩ = some (.int .u64 (limb t 2 : Nat)) ∧ w'.cell? ⟨w.heap.size, 7, none⟩ = some (.int .u64 (limb t 3 : Nat)) ∧ w'.cell? ⟨w.heap.size + 1, 0, none⟩ = some (.int .u64 (limb a 0 : Nat)) ∧ w'.cell? ⟨w.heap.size + 1, 1, none⟩ = some (.int .u64 (limb a 1 : Nat)) ∧ w'.cell? ⟨w.heap.size + 1, 2, none⟩ = some (.int .u64 (limb a 2 : Nat)) ∧ w'.cell? ⟨w.heap.size + 1, 3, none⟩ = some (.int .u64 (limb a 3 : Nat)) ∧ Sv w w' s t a)
    ((refine heldSv ?_; repeat (first | with_reducible exact u3 | with_reducible exact u2 | with_reducible exact u1 | with_reducible exact T0.out | with_reducible refine Sv.drew ?_ | with_reducible refine Sv.put4 ?_ rfl HV.out | with_reducible exact un_heldSv (by with_reducible assumption))))
    (first
      | (go_at_call 30; refine (down_walk a m d _ Ha.out Hml.out Hdl.out).mono ?_; rintro e w3 ⟨rfl, hb3⟩; have u3 := u2.below hb3; rw [← Hx.out, ← Hok.out]; obtain ⟨fz, hfz⟩ := u3.z.a; obtain ⟨y0, y1, y2, y3⟩ := hfz.frees4; obtain ⟨z0, z1, z2, z3⟩ := hfz.cells4; have l3 := u3.z.s; unfold U)
      | (go_at_call 31; with_reducible refine (withVW_c s _ Hs.out (un_heldSv (by with_reducible assumption)).v).mono ?_; rintro e w2 ⟨rfl, hb2⟩; have u2 : Sv w w2 s t a := Sv.below (un_heldSv (by with_reducible assumption)) hb2; rw [← Hd.out]; unfold U)
      | (go_at_call 31; with_reducible refine (withVW_c t _ Ht.out (un_heldSv (by with_reducible assumption)).v).mono ?_; rintro e w1 ⟨rfl, hb1⟩; have u1 : Sv w w1 s t a := Sv.below (un_heldSv (by with_reducible assumption)) hb1; rw [← Hm.out]; unfold U))
  all_goals
    go_wp2
    refine bodyPost_ret (v := .tuple #[.agg #[.int .u64 (limb x 0 : Nat), .int .u64 (limb x 1 : Nat), .int .u64 (limb x 2 : Nat), .int .u64 (limb x 3 : Nat)], .bool ok]) (by simp [results, Tryd.results17, go_sem, z0, z1, z2, z3]) rfl ⟨rfl, below_set4 u3.l (by omega)⟩

set_option maxRecDepth 100000 in
set_option maxHeartbeats 4000000 in
theorem vtokens_walk (s t a : Nat) (w : World) (hs : s < 2 ^ 256) (ht : t < 2 ^ 256) (ha : a < 2 ^ 256) (hv : Vr w) : Calls Tryd.prog 21 #[WW s t, U a] w fun e w' => e = .returned (.tuple #[U (qv a (addv s 1000) (addv t 1000)), .bool (qok a (addv s 1000) (addv t 1000))]) ∧ Below w.heap.size w w' := by
  obtain ⟨m, hm⟩ : ∃ x, x = addv s 1000 := ⟨_, rfl⟩
  obtain ⟨d, hd⟩ : ∃ x, x = addv t 1000 := ⟨_, rfl⟩
  rw [← hm, ← hd]
  have Hml := Lib.hid (show m < 2 ^ 256 by rw [hm]; exact addv_lt _ _)
  have Hdl := Lib.hid (show d < 2 ^ 256 by rw [hd]; exact addv_lt _ _)
  obtain ⟨x, hx⟩ : ∃ x, x = qv a m d := ⟨_, rfl⟩
  obtain ⟨ok, hok⟩ : ∃ x, x = qok a m d := ⟨_, rfl⟩
  rw [← hx, ← hok]
  have Hs := Lib.hid hs
  have Ht := Lib.hid ht
  have Ha := Lib.hid ha
  have Hm := Lib.hid hm
  have Hd := Lib.hid hd
  have Hx := Lib.hid hx
  have Hok := Lib.hid hok
  have HV := Lib.hid hv.s
  have T0 := Lib.hid (Sv.first (s := s) (t := t) (a := a) hv)
  clear hs ht ha hm hd hx hok hv
  unfold U WW
  go_enter Tryd.func21, Tryd.ntmps21
  go_upto_region 1 with (fail)
  go_region_held3 (fun w' => w'.cell? ⟨w.heap.size, 0, none⟩ = some (.int .u64 (limb s 0 : Nat)) ∧ w'.cell? ⟨w.heap.size, 1, none⟩ = some (.int .u64 (limb s 1 : Nat)) ∧ w'.cell? ⟨w.heap.size, 2, none⟩ = some (.int .u64 (limb s 2 : Nat)) ∧ w'.cell? ⟨w.heap.size, 3, none⟩ = some (.int .u64 (limb s 3 : Nat)) ∧ w'.cell? ⟨w.heap.size, 4, none⟩ = some (.int .u64 (limb t 0 : Nat)) ∧ w'.cell? ⟨w.heap.size, 5, none⟩ = some (.int .u64 (limb t 1 : Nat)) ∧ w'.cell? ⟨w.heap.size, 6, none⟩ = some (.int .u64 (limb t 2 : Nat)) ∧ w'.cell? ⟨w.heap.size, 7, none⟩ = some (.int .u64 (limb t 3 : Nat)) ∧ w'.cell? ⟨w.heap.size + 1, 0, none⟩ = some (.int .u64 (limb a 0 : Nat)) ∧ w'.cell? ⟨w.heap.size + 1, 1, none⟩ = some (.int .u64 (limb a 1 : Nat)) ∧ w'.cell? ⟨w.heap.size + 1, 2, none⟩ = some (.int .u64 (limb a 2 : Nat)) ∧ w'.cell? ⟨w.heap.size + 1, 3, none⟩ = some (.int .u64 (limb a 3 : Nat)) ∧ Sv w w' s t a)
    ((refine heldSv ?_; repeat (first | with_reducible exact u3 | with_reducible exact u2 | with_reducible exact u1 | with_reducible exact T0.out | with_reducible refine Sv.drew ?_ | with_reducible refine Sv.put4 ?_ rfl HV.out | with_reducible exact un_heldSv (by with_reducible assumption))))
    (first
      | (go_at_call 30; refine (down_walk a m d _ Ha.out Hml.out Hdl.out).mono ?_; rintro e w3 ⟨rfl, hb3⟩; have u3 := u2.below hb3; rw [← Hx.out, ← Hok.out]; obtain ⟨fz, hfz⟩ := u3.z.a; obtain ⟨y0, y1, y2, y3⟩ := hfz.frees4; obtain ⟨z0, z1, z2, z3⟩ := hfz.cells4; have l3 := u3.z.s; unfold U)
      | (go_at_call 31; with_reducible refine (withVW_c t _ Ht.out (un_heldSv (by with_reducible assumption)).v).mono ?_; rintro e w2 ⟨rfl, hb2⟩; have u2 : Sv w w2 s t a := Sv.below (un_heldSv (by with_reducible assumption)) hb2; rw [← Hd.out]; unfold U)
      | (go_at_call 31; with_reducible refine (withVW_c s _ Hs.out (un_heldSv (by with_reducible assumption)).v).mono ?_; rintro e w1 ⟨rfl, hb1⟩; have u1 : Sv w w1 s t a := Sv.below (un_heldSv (by with_reducible assumption)) hb1; rw [← Hm.out]; unfold U))
  all_goals
    go_wp2
    refine bodyPost_ret (v := .tuple #[.agg #[.int .u64 (limb x 0 : Nat), .int .u64 (limb x 1 : Nat), .int .u64 (limb x 2 : Nat), .int .u64 (limb x 3 : Nat)], .bool ok]) (by simp [results, Tryd.results21, go_sem, z0, z1, z2, z3]) rfl ⟨rfl, below_set4 u3.l (by omega)⟩

end Go.Proofs.YtomhbggfdjooaaaDoor

namespace Go.Proofs.YtomhbggfdjooaaaDoor
open Go.RowKit Go.Sort

def shv (s t a : Nat) : Nat := if vgood s t then qv a (addv t 1000) (addv s 1000) else 0
def shk (s t a : Nat) : Bool := vgood s t && qok a (addv t 1000) (addv s 1000)
def tkv (s t a : Nat) : Nat := if vgood s t then qv a (addv s 1000) (addv t 1000) else 0
def tkk (s t a : Nat) : Bool := vgood s t && qok a (addv s 1000) (addv t 1000)
theorem qvL_lt (a b d : Nat) : qv a b d < 2 ^ 256 := by
  unfold qv
  split
  · rename_i h; exact h.2
  · decide
theorem shv_lt (s t a : Nat) : shv s t a < 2 ^ 256 := by unfold shv; split; exact qvL_lt _ _ _; decide
theorem tkv_lt (s t a : Nat) : tkv s t a < 2 ^ 256 := by unfold tkv; split; exact qvL_lt _ _ _; decide
theorem vgoodW_c (s t : Nat) (w : World) (g : Bool) (hs : s < 2 ^ 256) (ht : t < 2 ^ 256) (h : vgood s t = g) : Calls Tryd.prog 22 #[.agg #[.int .u64 (limb s 0 : Nat), .int .u64 (limb s 1 : Nat), .int .u64 (limb s 2 : Nat), .int .u64 (limb s 3 : Nat), .int .u64 (limb t 0 : Nat), .int .u64 (limb t 1 : Nat), .int .u64 (limb t 2 : Nat), .int .u64 (limb t 3 : Nat)]] w fun e w' => e = .returned (.bool g) ∧ Below w.heap.size w w' := by
  rw [← h]; exact vgood_walk s t w hs ht

set_option maxRecDepth 100000 in
set_option maxHeartbeats 4000000 in
theorem turned_shares_walk (s t a : Nat) (w : World) (hs : s < 2 ^ 256) (ht : t < 2 ^ 256) (ha : a < 2 ^ 256) (hv : Vr w) : Calls Tryd.prog 16 #[WW s t, U a, .func (.func 17) #[] #[]] w fun e w' => e = .returned (.tuple #[U (shv s t a), .bool (shk s t a)]) ∧ Below w.heap.size w w' := by
  have T0 := Lib.hid (Sv.first (s := s) (t := t) (a := a) hv)
  have Hs := Lib.hid hs
  have Ht := Lib.hid ht
  have Ha := Lib.hid ha
  have HV := Lib.hid (rfl : shv s t a = shv s t a)
  unfold shv shk
  obtain ⟨g, hg⟩ : ∃ g, g = vgood s t := ⟨_, rfl⟩
  rw [← hg]
  have HG := Lib.hid hg.symm
  clear hs ht ha hv hg HV
  cases g
  · rw [if_neg (by decide), Bool.false_and, U_zero]
    unfold U WW
    go_enter Tryd.func16, Tryd.ntmps16
    go_wp2_with (go_at_call 22; refine (vgoodW_c s t _ false Hs.out Ht.out HG.out).mono ?_; rintro e w1 ⟨rfl, hb1⟩; have u1 := T0.out.below hb1; obtain ⟨fz, hfz⟩ := u1.z.a; obtain ⟨y0, y1, y2, y3⟩ := hfz.frees4; obtain ⟨z0, z1, z2, z3⟩ := hfz.cells4; have l1 := u1.z.s; clear hb1)
    refine bodyPost_ret (v := .tuple #[.agg #[.int .u64 0, .int .u64 0, .int .u64 0, .int .u64 0], .bool false]) (by simp [results, Tryd.results16, go_sem, z0, z1, z2, z3]) rfl ⟨rfl, below_set4 u1.l (by omega)⟩
  · rw [if_pos rfl, Bool.true_and]
    obtain ⟨x, hx⟩ : ∃ x, x = qv a (addv t 1000) (addv s 1000) := ⟨_, rfl⟩
    obtain ⟨ok, hok⟩ : ∃ x, x = qok a (addv t 1000) (addv s 1000) := ⟨_, rfl⟩
    rw [← hx, ← hok]
    have Hx := Lib.hid hx
    have Hok := Lib.hid hok
    clear hx hok
    unfold U WW
    go_enter Tryd.func16, Tryd.ntmps16
    go_wp2_with (first
      | (go_at_call 17; refine (vshares_walk s t a _ Hs.out Ht.out Ha.out u1.v).mono ?_; rintro e w2 ⟨rfl, hb2⟩; rw [← Hx.out, ← Hok.out]; have u2 := u1.below hb2; obtain ⟨fz, hfz⟩ := u2.z.a; obtain ⟨y0, y1, y2, y3⟩ := hfz.frees4; obtain ⟨z0, z1, z2, z3⟩ := hfz.cells4; have l2 := u2.z.s; unfold U; clear hb2)
      | (go_at_call 22; refine (vgoodW_c s t _ true Hs.out Ht.out HG.out).mono ?_; rintro e w1 ⟨rfl, hb1⟩; have u1 := T0.out.below hb1; obtain ⟨a0, a1, a2, a3, a4, a5, a6, a7⟩ := wh_cells u1.x.a; obtain ⟨b0, b1, b2, b3⟩ := u1.a.a.cells4; clear hb1))
    refine bodyPost_ret (v := .tuple #[.agg #[.int .u64 (limb x 0 : Nat), .int .u64 (limb x 1 : Nat), .int .u64 (limb x 2 : Nat), .int .u64 (limb x 3 : Nat)], .bool ok]) (by simp [results, Tryd.results16, go_sem, z0, z1, z2, z3]) rfl ⟨rfl, below_set4 u2.l (by omega)⟩

set_option maxRecDepth 100000 in
set_option maxHeartbeats 4000000 in
theorem turned_tokens_walk (s t a : Nat) (w : World) (hs : s < 2 ^ 256) (ht : t < 2 ^ 256) (ha : a < 2 ^ 256) (hv : Vr w) : Calls Tryd.prog 16 #[WW s t, U a, .func (.func 21) #[] #[]] w fun e w' => e = .returned (.tuple #[U (tkv s t a), .bool (tkk s t a)]) ∧ Below w.heap.size w w' := by
  have T0 := Lib.hid (Sv.first (s := s) (t := t) (a := a) hv)
  have Hs := Lib.hid hs
  have Ht := Lib.hid ht
  have Ha := Lib.hid ha
  have HV := Lib.hid (rfl : tkv s t a = tkv s t a)
  unfold tkv tkk
  obtain ⟨g, hg⟩ : ∃ g, g = vgood s t := ⟨_, rfl⟩
  rw [← hg]
  have HG := Lib.hid hg.symm
  clear hs ht ha hv hg HV
  cases g
  · rw [if_neg (by decide), Bool.false_and, U_zero]
    unfold U WW
    go_enter Tryd.func16, Tryd.ntmps16
    go_wp2_with (go_at_call 22; refine (vgoodW_c s t _ false Hs.out Ht.out HG.out).mono ?_; rintro e w1 ⟨rfl, hb1⟩; have u1 := T0.out.below hb1; obtain ⟨fz, hfz⟩ := u1.z.a; obtain ⟨y0, y1, y2, y3⟩ := hfz.frees4; obtain ⟨z0, z1, z2, z3⟩ := hfz.cells4; have l1 := u1.z.s; clear hb1)
    refine bodyPost_ret (v := .tuple #[.agg #[.int .u64 0, .int .u64 0, .int .u64 0, .int .u64 0], .bool false]) (by simp [results, Tryd.results16, go_sem, z0, z1, z2, z3]) rfl ⟨rfl, below_set4 u1.l (by omega)⟩
  · rw [if_pos rfl, Bool.true_and]
    obtain ⟨x, hx⟩ : ∃ x, x = qv a (addv s 1000) (addv t 1000) := ⟨_, rfl⟩
    obtain ⟨ok, hok⟩ : ∃ x, x = qok a (addv s 1000) (addv t 1000) := ⟨_, rfl⟩
    rw [← hx, ← hok]
    have Hx := Lib.hid hx
    have Hok := Lib.hid hok
    clear hx hok
    unfold U WW
    go_enter Tryd.func16, Tryd.ntmps16
    go_wp2_with (first
      | (go_at_call 21; refine (vtokens_walk s t a _ Hs.out Ht.out Ha.out u1.v).mono ?_; rintro e w2 ⟨rfl, hb2⟩; rw [← Hx.out, ← Hok.out]; have u2 := u1.below hb2; obtain ⟨fz, hfz⟩ := u2.z.a; obtain ⟨y0, y1, y2, y3⟩ := hfz.frees4; obtain ⟨z0, z1, z2, z3⟩ := hfz.cells4; have l2 := u2.z.s; unfold U; clear hb2)
      | (go_at_call 22; refine (vgoodW_c s t _ true Hs.out Ht.out HG.out).mono ?_; rintro e w1 ⟨rfl, hb1⟩; have u1 := T0.out.below hb1; obtain ⟨a0, a1, a2, a3, a4, a5, a6, a7⟩ := wh_cells u1.x.a; obtain ⟨b0, b1, b2, b3⟩ := u1.a.a.cells4; clear hb1))
    refine bodyPost_ret (v := .tuple #[.agg #[.int .u64 (limb x 0 : Nat), .int .u64 (limb x 1 : Nat), .int .u64 (limb x 2 : Nat), .int .u64 (limb x 3 : Nat)], .bool ok]) (by simp [results, Tryd.results16, go_sem, z0, z1, z2, z3]) rfl ⟨rfl, below_set4 u2.l (by omega)⟩

/-- what lies in memory in Shares and Tokens -/
structure Tv (w wr : World) (s t a : Nat) : Prop where
  x : Three w wr s t a
  z : Zb w wr (w.heap.size + 1 + 1 + 1)
  v : Vr wr
theorem Tv.below {w wr w' : World} {s t a : Nat} (h : Tv w wr s t a) (hb : Below wr.heap.size wr w') : Tv w w' s t a := ⟨h.x.below hb, h.z.below hb, h.v.below hb⟩
theorem Tv.first {w : World} {s t a : Nat} (h : Vr w) : Tv w ((((w.alloc (.cells #[.int .u64 (limb s 0 : Nat), .int .u64 (limb s 1 : Nat), .int .u64 (limb s 2 : Nat), .int .u64 (limb s 3 : Nat)] 24)).alloc (.cells #[.int .u64 (limb t 0 : Nat), .int .u64 (limb t 1 : Nat), .int .u64 (limb t 2 : Nat), .int .u64 (limb t 3 : Nat)] 24)).alloc (.cells #[.int .u64 (limb a 0 : Nat), .int .u64 (limb a 1 : Nat), .int .u64 (limb a 2 : Nat), .int .u64 (limb a 3 : Nat)] 24)).alloc (.cells #[.int .u64 0, .int .u64 0, .int .u64 0, .int .u64 0] 24)) s t a :=
  ⟨threeR_first.alloc _, Zb.new (by simp) (by simp; omega), (((h.alloc _).alloc _).alloc _).alloc _⟩

set_option maxRecDepth 100000 in
set_option maxHeartbeats 4000000 in
theorem rateShares_walk (s t a : Nat) (w : World) (hs : s < 2 ^ 256) (ht : t < 2 ^ 256) (ha : a < 2 ^ 256) (hv : Vr w) : Calls Tryd.prog 6 #[U s, U t, U a] w fun e w' => e = .returned (.tuple #[U (shv s t a), .bool (shk s t a)]) ∧ Below w.heap.size w w' := by
  have T0 := Lib.hid (Tv.first (s := s) (t := t) (a := a) hv)
  have Hs := Lib.hid hs
  have Ht := Lib.hid ht
  have Ha := Lib.hid ha
  obtain ⟨x, hx⟩ : ∃ x, x = shv s t a := ⟨_, rfl⟩
  obtain ⟨ok, hok⟩ : ∃ x, x = shk s t a := ⟨_, rfl⟩
  rw [← hx, ← hok]
  have Hx := Lib.hid hx
  have Hok := Lib.hid hok
  clear hs ht ha hv hx hok
  unfold U
  go_enter Tryd.func6, Tryd.ntmps6
  go_wp2_with (go_at_call 16; refine (turned_shares_walk s t a _ Hs.out Ht.out Ha.out T0.out.v).mono ?_; rintro e w2 ⟨rfl, hb2⟩; rw [← Hx.out, ← Hok.out]; have u2 := T0.out.below hb2; obtain ⟨y0, y1, y2, y3⟩ := u2.z.a.frees4; obtain ⟨z0, z1, z2, z3⟩ := u2.z.a.cells4; have l2 := u2.z.s; unfold U; clear hb2)
  refine bodyPost_ret (v := .tuple #[.agg #[.int .u64 (limb x 0 : Nat), .int .u64 (limb x 1 : Nat), .int .u64 (limb x 2 : Nat), .int .u64 (limb x 3 : Nat)], .bool ok]) (by simp [results, Tryd.results6, go_sem, z0, z1, z2, z3]) rfl ⟨rfl, below_set4 u2.x.l (by omega)⟩

set_option maxRecDepth 100000 in
set_option maxHeartbeats 4000000 in
theorem rateTokens_walk (s t a : Nat) (w : World) (hs : s < 2 ^ 256) (ht : t < 2 ^ 256) (ha : a < 2 ^ 256) (hv : Vr w) : Calls Tryd.prog 8 #[U s, U t, U a] w fun e w' => e = .returned (.tuple #[U (tkv s t a), .bool (tkk s t a)]) ∧ Below w.heap.size w w' := by
  have T0 := Lib.hid (Tv.first (s := s) (t := t) (a := a) hv)
  have Hs := Lib.hid hs
  have Ht := Lib.hid ht
  have Ha := Lib.hid ha
  obtain ⟨x, hx⟩ : ∃ x, x = tkv s t a := ⟨_, rfl⟩
  obtain ⟨ok, hok⟩ : ∃ x, x = tkk s t a := ⟨_, rfl⟩
  rw [← hx, ← hok]
  have Hx := Lib.hid hx
  have Hok := Lib.hid hok
  clear hs ht ha hv hx hok
  unfold U
  go_enter Tryd.func8, Tryd.ntmps8
  go_wp2_with (go_at_call 16; refine (turned_tokens_walk s t a _ Hs.out Ht.out Ha.out T0.out.v).mono ?_; rintro e w2 ⟨rfl, hb2⟩; rw [← Hx.out, ← Hok.out]; have u2 := T0.out.below hb2; obtain ⟨y0, y1, y2, y3⟩ := u2.z.a.frees4; obtain ⟨z0, z1, z2, z3⟩ := u2.z.a.cells4; have l2 := u2.z.s; unfold U; clear hb2)
  refine bodyPost_ret (v := .tuple #[.agg #[.int .u64 (limb x 0 : Nat), .int .u64 (limb x 1 : Nat), .int .u64 (limb x 2 : Nat), .int .u64 (limb x 3 : Nat)], .bool ok]) (by simp [results, Tryd.results8, go_sem, z0, z1, z2, z3]) rfl ⟨rfl, below_set4 u2.x.l (by omega)⟩

/-- shares are at most the stock, and both are amounts -/
def rgood (s t : Nat) : Bool := vgood s t && decide (t ≤ s)
theorem cmpW_c (a b : Nat) (w : World) (ha : a < 2 ^ 256) (hb : b < 2 ^ 256) : Calls Tryd.prog 23 #[.agg #[.int .u64 (limb a 0 : Nat), .int .u64 (limb a 1 : Nat), .int .u64 (limb a 2 : Nat), .int .u64 (limb a 3 : Nat)], .agg #[.int .u64 (limb b 0 : Nat), .int .u64 (limb b 1 : Nat), .int .u64 (limb b 2 : Nat), .int .u64 (limb b 3 : Nat)]] w fun e w' => e = .returned (.int .i64 (cmpU a b)) ∧ Below w.heap.size w w' := cmp_walk a b w ha hb
set_option maxRecDepth 100000 in
set_option maxHeartbeats 4000000 in
theorem rateGood_walk (s t : Nat) (w : World) (hs : s < 2 ^ 256) (ht : t < 2 ^ 256) : Calls Tryd.prog 10 #[U s, U t] w fun e w' => e = .returned (.bool (rgood s t)) ∧ Below w.heap.size w w' := by
  unfold rgood
  obtain ⟨g, hg⟩ : ∃ g, g = vgood s t := ⟨_, rfl⟩
  obtain ⟨c, hc⟩ : ∃ c, c = cmpU t s := ⟨_, rfl⟩
  obtain ⟨k, hk⟩ : ∃ g, g = decide (t ≤ s) := ⟨_, rfl⟩
  rw [← hg, ← hk]
  have hdec : decide (c ≤ 0) = k := by rw [hk, hc]; exact decide_eq_decide.2 (cmpU_le t s)
  have HG := Lib.hid hg.symm
  have Hs := Lib.hid hs
  have Ht := Lib.hid ht
  have Hc := Lib.hid hc
  have T0 := Lib.hid (two_first (a := s) (b := t) (w := w) (t1 := 24) (t2 := 24))
  clear hg hs ht hc hk
  unfold U
  cases g
  · rw [Bool.false_and]
    go_enter Tryd.func10, Tryd.ntmps10
    go_wp2_with (go_at_call 22; refine (vgoodW_c s t _ false Hs.out Ht.out HG.out).mono ?_; rintro e w1 ⟨rfl, hb1⟩; have u1 := T0.out.below hb1; clear hb1)
    go_ret
    exact ⟨rfl, u1.l⟩
  · rw [Bool.true_and]
    go_enter Tryd.func10, Tryd.ntmps10
    go_wp2_with (first
      | (go_at_call 23; refine (cmpW_c t s _ Ht.out Hs.out).mono ?_; rintro e w2 ⟨rfl, hb2⟩; rw [← Hc.out]; have u2 := u1.below hb2; clear hb2)
      | (go_at_call 22; refine (vgoodW_c s t _ true Hs.out Ht.out HG.out).mono ?_; rintro e w1 ⟨rfl, hb1⟩; have u1 := T0.out.below hb1; obtain ⟨a0, a1, a2, a3⟩ := u1.a.cells4; obtain ⟨b0, b1, b2, b3⟩ := u1.b.cells4; clear hb1))
    go_ret
    exact ⟨rfl, u2.l⟩
end Go.Proofs.YtomhbggfdjooaaaDoor

namespace Go.Proofs.YtomhbggfdjooaaaDoor
open Go.RowKit Go.Sort

set_option maxRecDepth 100000 in
theorem rvirtual_walk (w : World) : Calls Tryd.prog 36 #[] w fun e w' => e = .returned (U 1000) ∧ Below w.heap.size w w' := by
  rw [U1000]
  go_enter Tryd.func36, Tryd.ntmps36
  go_wp2
  refine bodyPost_ret (v := .agg #[.int .u64 1000, .int .u64 0, .int .u64 0, .int .u64 0]) (by simp [results, Tryd.results36, go_sem]) rfl ⟨rfl, (Below.refl _ _).alloc (Nat.le_refl _) _⟩
/-- what lies in memory in more -/
structure Rv (w wr : World) (a : Nat) : Prop where
  o : One' w wr a
  z : Zb w wr (w.heap.size + 1)
theorem Rv.below {w wr w' : World} {a : Nat} (h : Rv w wr a) (hb : Below wr.heap.size wr w') : Rv w w' a := ⟨h.o.below hb, h.z.below hb⟩
theorem Rv.drew {w wr : World} {a : Nat} (h : Rv w wr a) : Rv w wr.drew a := ⟨h.o.drew, h.z.drew⟩
theorem Rv.first {w : World} {a : Nat} : Rv w ((w.alloc (.cells #[.int .u64 (limb a 0 : Nat), .int .u64 (limb a 1 : Nat), .int .u64 (limb a 2 : Nat), .int .u64 (limb a 3 : Nat)] 24)).alloc (.cells #[.int .u64 0, .int .u64 0, .int .u64 0, .int .u64 0] 24)) a :=
  ⟨(one_first (a := a) (w := w) (t := 24)).below ((Below.refl _ _).alloc (Nat.le_refl _) _), Zb.new (by simp) (by simp)⟩
theorem heldRv {w w' : World} {a : Nat} (h : Rv w w' a) : w'.cell? ⟨w.heap.size, 0, none⟩ = some (.int .u64 (limb a 0 : Nat)) ∧ w'.cell? ⟨w.heap.size, 1, none⟩ = some (.int .u64 (limb a 1 : Nat)) ∧ w'.cell? ⟨w.heap.size, 2, none⟩ = some (.int .u64 (limb a 2 : Nat)) ∧ w'.cell? ⟨w.heap.size, 3, none⟩ = some (.int .u64 (limb a 3 : Nat)) ∧ Rv w w' a := by
  obtain ⟨a0, a1, a2, a3⟩ := h.o.a.cells4
  exact ⟨a0, a1, a2, a3, h⟩
theorem un_heldRv {w w' : World} {a : Nat} (h : w'.cell? ⟨w.heap.size, 0, none⟩ = some (.int .u64 (limb a 0 : Nat)) ∧ w'.cell? ⟨w.heap.size, 1, none⟩ = some (.int .u64 (limb a 1 : Nat)) ∧ w'.cell? ⟨w.heap.size, 2, none⟩ = some (.int .u64 (limb a 2 : Nat)) ∧ w'.cell? ⟨w.heap.size, 3, none⟩ = some (.int .u64 (limb a 3 : Nat)) ∧ Rv w w' a) : Rv w w' a := h.2.2.2.2
set_option maxRecDepth 100000 in
set_option maxHeartbeats 4000000 in
theorem rmore_walk (a : Nat) (w : World) (ha : a < 2 ^ 256) : Calls Tryd.prog 20 #[U a] w fun e w' => e = .returned (U (addv a 1000)) ∧ Below w.heap.size w w' := by
  have Ha := Lib.hid ha
  obtain ⟨s, hs⟩ : ∃ x, x = addv a 1000 := ⟨_, rfl⟩
  obtain ⟨ok, hok⟩ : ∃ x, x = addk a 1000 := ⟨_, rfl⟩
  rw [← hs]
  have Hs := Lib.hid hs
  have Hok := Lib.hid hok
  have T0 := Lib.hid (Rv.first (w := w) (a := a))
  clear ha hs hok
  unfold U
  go_enter Tryd.func20, Tryd.ntmps20
  go_upto_region 1 with (fail)
  obtain ⟨W, hW⟩ : ∃ W, W = (w.alloc (.cells #[.int .u64 (limb a 0 : Nat), .int .u64 (limb a 1 : Nat), .int .u64 (limb a 2 : Nat), .int .u64 (limb a 3 : Nat)] 24)).alloc (.cells #[.int .u64 0, .int .u64 0, .int .u64 0, .int .u64 0] 24) := ⟨_, rfl⟩
  rw [← hW] at T0 ⊢
  clear hW
  have B1 := Lib.hid T0.out.o.a
  go_cut [3, 4] (fun p k wx => ∃ M, p = .pointer (some ⟨M, 0, none⟩) ∧ k = .bool ok ∧ Box wx M s ∧ Below W.heap.size W wx)
  case first =>
    go_region_held3 (fun w' => w'.cell? ⟨w.heap.size, 0, none⟩ = some (.int .u64 (limb a 0 : Nat)) ∧ w'.cell? ⟨w.heap.size, 1, none⟩ = some (.int .u64 (limb a 1 : Nat)) ∧ w'.cell? ⟨w.heap.size, 2, none⟩ = some (.int .u64 (limb a 2 : Nat)) ∧ w'.cell? ⟨w.heap.size, 3, none⟩ = some (.int .u64 (limb a 3 : Nat)) ∧ Below W.heap.size W w')
      ((refine hldW B1.out ?_; repeat (first | with_reducible exact k2 | with_reducible exact k1 | with_reducible exact Below.refl _ _ | with_reducible refine kpD ?_ | with_reducible refine kpA ?_ _ | with_reducible refine kpP ?_ (by omega) | with_reducible exact un_hldW (by with_reducible assumption))))
      (first
        | (go_at_call 14; refine (radd_walk a 1000 _ Ha.out (by decide)).mono ?_; rintro e v2 ⟨rfl, hv2⟩; have k2 := kpB (un_hldW (by with_reducible assumption)) hv2; have y2 := hv2.size; (try simp at y2); (first | (with_reducible have zA2 := carry0 zA hv2) | skip); (first | (with_reducible have zB2 := z_one hv2) | skip); (first | (obtain ⟨_, _, _, _⟩ := zA2.frees4; obtain ⟨_, _, _, _⟩ := zA2.cells4; have lzA2 := zA2.lt4) | skip); (first | (obtain ⟨_, _, _, _⟩ := zB2.frees4; obtain ⟨_, _, _, _⟩ := zB2.cells4; have lzB2 := zB2.lt4) | skip); rw [← Hs.out, ← Hok.out]; unfold U)
        | (go_at_call 36; refine (rvirtual_walk _).mono ?_; rintro e v1 ⟨rfl, hv1⟩; have k1 := kpB (un_hldW (by with_reducible assumption)) hv1; have y1 := k1.size; (first | (with_reducible have zA := z_one_d hv1) | skip); rw [U1000]))
    all_goals
      go_wp2
      go_meet
      case rel =>
        refine ⟨_, rfl, rfl, ⟨?_, ?_⟩, ?_⟩
        · repeat (first | with_reducible assumption | with_reducible exact Arr.new4 (f := limb s) rfl | with_reducible refine Arr.put4 (f := fun _ => 0) ?_)
        · simp only [World.size_setCell, World.size_alloc]; omega
        · repeat (first | with_reducible exact k2 | with_reducible refine kpA ?_ _ | with_reducible refine kpP ?_ (by omega))
  case rest =>
    obtain ⟨M, rfl, rfl, bm, hbl⟩ := hcut
    have u2 := T0.out.below hbl
    obtain ⟨y0, y1, y2, y3⟩ := u2.z.a.frees4
    obtain ⟨z0, z1, z2, z3⟩ := u2.z.a.cells4
    obtain ⟨m0, m1, m2, m3⟩ := bm.a.cells4
    have l2 := u2.z.s
    go_wp2
    refine bodyPost_ret (v := .agg #[.int .u64 (limb s 0 : Nat), .int .u64 (limb s 1 : Nat), .int .u64 (limb s 2 : Nat), .int .u64 (limb s 3 : Nat)]) (by simp [results, Tryd.results20, go_sem, z0, z1, z2, z3]) rfl ⟨rfl, below_set4 u2.o.l (by omega)⟩
theorem rmoreW_c (a : Nat) (w : World) (ha : a < 2 ^ 256) : Calls Tryd.prog 20 #[.agg #[.int .u64 (limb a 0 : Nat), .int .u64 (limb a 1 : Nat), .int .u64 (limb a 2 : Nat), .int .u64 (limb a 3 : Nat)]] w fun e w' => e = .returned (U (addv a 1000)) ∧ Below w.heap.size w w' := rmore_walk a w ha
theorem ramountW_c (a : Nat) (w : World) (g : Bool) (ha : a < 2 ^ 256) (h : decide (a ≤ MOST) = g) : Calls Tryd.prog 18 #[.agg #[.int .u64 (limb a 0 : Nat), .int .u64 (limb a 1 : Nat), .int .u64 (limb a 2 : Nat), .int .u64 (limb a 3 : Nat)]] w fun e w' => e = .returned (.bool g) ∧ Below w.heap.size w w' := by
  rw [← h]; exact ramountA_walk a w ha
/-- what lies in memory in the document's Shares and Tokens -/
structure Qv (w wr : World) (s t a : Nat) : Prop where
  x : Three w wr s t a
  z : Wb w wr (w.heap.size + 1 + 1 + 1)
theorem Qv.below {w wr w' : World} {s t a : Nat} (h : Qv w wr s t a) (hb : Below wr.heap.size wr w') : Qv w w' s t a := ⟨h.x.below hb, h.z.below hb⟩
theorem Qv.drew {w wr : World} {s t a : Nat} (h : Qv w wr s t a) : Qv w wr.drew s t a := ⟨h.x.drewR, h.z.drew⟩
theorem Qv.first {w : World} {s t a : Nat} : Qv w ((((w.alloc (.cells #[.int .u64 (limb s 0 : Nat), .int .u64 (limb s 1 : Nat), .int .u64 (limb s 2 : Nat), .int .u64 (limb s 3 : Nat)] 24)).alloc (.cells #[.int .u64 (limb t 0 : Nat), .int .u64 (limb t 1 : Nat), .int .u64 (limb t 2 : Nat), .int .u64 (limb t 3 : Nat)] 24)).alloc (.cells #[.int .u64 (limb a 0 : Nat), .int .u64 (limb a 1 : Nat), .int .u64 (limb a 2 : Nat), .int .u64 (limb a 3 : Nat)] 24)).alloc (.cells #[.int .u64 0, .int .u64 0, .int .u64 0, .int .u64 0] 24)) s t a :=
  ⟨threeR_first.alloc _, (Zb.new (by simp) (by simp; omega)).wb⟩
theorem Qv.put4 {w wr : World} {s t a m L : Nat} (h : Qv w wr s t a) (hL : L = w.heap.size + 1 + 1 + 1) : Qv w ((((wr.setCell ⟨L, 0, none⟩ (.int .u64 (limb m 0 : Nat))).setCell ⟨L, 1, none⟩ (.int .u64 (limb m 1 : Nat))).setCell ⟨L, 2, none⟩ (.int .u64 (limb m 2 : Nat))).setCell ⟨L, 3, none⟩ (.int .u64 (limb m 3 : Nat))) s t a := by
  subst hL
  exact ⟨⟨h.x.a.put4_far (by omega), h.x.b.put4_far (by omega), h.x.c.put4_far (by omega), below_set4 h.x.l (by omega), by simp only [World.size_setCell]; exact h.x.s⟩, h.z.put4⟩
theorem heldQv {w w' : World} {s t a : Nat} (h : Qv w w' s t a) : w'.cell? ⟨w.heap.size, 0, none⟩ = some (.int .u64 (limb s 0 : Nat)) ∧ w'.cell? ⟨w.heap.size, 1, none⟩ = some (.int .u64 (limb s 1 : Nat)) ∧ w'.cell? ⟨w.heap.size, 2, none⟩ = some (.int .u64 (limb s 2 : Nat)) ∧ w'.cell? ⟨w.heap.size, 3, none⟩ = some (.int .u64 (limb s 3 : Nat)) ∧ w'.cell? ⟨w.heap.size + 1, 0, none⟩ = some (.int .u64 (limb t 0 : Nat)) ∧ w'.cell? ⟨w.heap.size + 1, 1, none⟩ = some (.int .u64 (limb t 1 : Nat)) ∧ w'.cell? ⟨w.heap.size + 1, 2, none⟩ = some (.int .u64 (limb t 2 : Nat)) ∧ w'.cell? ⟨w.heap.size + 1, 3, none⟩ = some (.int .u64 (limb t 3 : Nat)) ∧ w'.cell? ⟨w.heap.size + 1 + 1, 0, none⟩ = some (.int .u64 (limb a 0 : Nat)) ∧ w'.cell? ⟨w.heap.size + 1 + 1, 1, none⟩ = some (.int .u64 (limb a 1 : Nat)) ∧ w'.cell? ⟨w.heap.size + 1 + 1, 2, none⟩ = some (.int .u64 (limb a 2 : Nat)) ∧ w'.cell? ⟨w.heap.size + 1 + 1, 3, none⟩ = some (.int .u64 (limb a 3 : Nat)) ∧ Qv w w' s t a := by
  obtain ⟨a0, a1, a2, a3⟩ := h.x.a.cells4
  obtain ⟨b0, b1, b2, b3⟩ := h.x.b.cells4
  obtain ⟨c0, c1, c2, c3⟩ := h.x.c.cells4
  exact ⟨a0, a1, a2, a3, b0, b1, b2, b3, c0, c1, c2, c3, h⟩
theorem un_heldQv {w w' : World} {s t a : Nat} (h : w'.cell? ⟨w.heap.size, 0, none⟩ = some (.int .u64 (limb s 0 : Nat)) ∧ w'.cell? ⟨w.heap.size, 1, none⟩ = some (.int .u64 (limb s 1 : Nat)) ∧ w'.cell? ⟨w.heap.size, 2, none⟩ = some (.int .u64 (limb s 2 : Nat)) ∧ w'.cell? ⟨w.heap.size, 3, none⟩ = some (.int .u64 (limb s 3 : Nat)) ∧ w'.cell? ⟨w.heap.size + 1, 0, none⟩ = some (.int .u64 (limb t 0 : Nat)) ∧ w'.cell? ⟨w.heap.size + 1, 1, none⟩ = some (.int .u64 (limb t 1 : Nat)) ∧ w'.cell? ⟨w.heap.size + 1, 2, none⟩ = some (.int .u64 (limb t 2 : Nat)) ∧ w'.cell? ⟨w.heap.size + 1, 3, none⟩ = some (.int .u64 (limb t 3 : Nat)) ∧ w'.cell? ⟨w.heap.size + 1 + 1, 0, none⟩ = some (.int .u64 (limb a 0 : Nat)) ∧ w'.cell? ⟨w.heap.size + 1 + 1, 1, none⟩ = some (.int .u64 (limb a 1 : Nat)) ∧ w'.cell? ⟨w.heap.size + 1 + 1, 2, none⟩ = some (.int .u64 (limb a 2 : Nat)) ∧ w'.cell? ⟨w.heap.size + 1 + 1, 3, none⟩ = some (.int .u64 (limb a 3 : Nat)) ∧ Qv w w' s t a) : Qv w w' s t a := h.2.2.2.2.2.2.2.2.2.2.2.2

set_option maxRecDepth 100000 in
set_option maxHeartbeats 4000000 in
theorem refShares_walk (s t a : Nat) (w : World) (hs : s < 2 ^ 256) (ht : t < 2 ^ 256) (ha : a < 2 ^ 256) : Calls Tryd.prog 7 #[U s, U t, U a] w fun e w' => e = .returned (.tuple #[U (shv s t a), .bool (shk s t a)]) ∧ Below w.heap.size w w' := by
  have T0 := Lib.hid (Qv.first (w := w) (s := s) (t := t) (a := a))
  have Hs := Lib.hid hs
  have Ht := Lib.hid ht
  have Ha := Lib.hid ha
  unfold shv shk vgood
  obtain ⟨g, hg⟩ : ∃ g, g = decide (s ≤ MOST) := ⟨_, rfl⟩
  obtain ⟨k, hk⟩ : ∃ g, g = decide (t ≤ MOST) := ⟨_, rfl⟩
  rw [← hg, ← hk]
  have HG := Lib.hid hg.symm
  have HK := Lib.hid hk.symm
  clear hs ht ha hg hk
  rcases (by cases g <;> cases k <;> simp : g = false ∨ g = true ∧ k = false ∨ g = true ∧ k = true) with rfl | ⟨rfl, rfl⟩ | ⟨rfl, rfl⟩
  · rw [Bool.false_and, if_neg (by decide), Bool.false_and, U_zero]
    unfold U
    go_enter Tryd.func7, Tryd.ntmps7
    go_wp2_with (go_at_call 18; with_reducible refine (ramountW_c s _ false Hs.out HG.out).mono ?_; rintro e w1 ⟨rfl, hb1⟩; have u1 := T0.out.below hb1; obtain ⟨fz, hfz⟩ := u1.z.a; obtain ⟨y0, y1, y2, y3⟩ := hfz.frees4; obtain ⟨z0, z1, z2, z3⟩ := hfz.cells4; have l1 := u1.z.s; clear hb1)
    refine bodyPost_ret (v := .tuple #[.agg #[.int .u64 0, .int .u64 0, .int .u64 0, .int .u64 0], .bool false]) (by simp [results, Tryd.results7, go_sem, z0, z1, z2, z3]) rfl ⟨rfl, below_set4 u1.x.l (by omega)⟩
  · rw [Bool.true_and, if_neg (by decide), Bool.false_and, U_zero]
    unfold U
    go_enter Tryd.func7, Tryd.ntmps7
    go_wp2_with (first
      | (go_at_call 18; with_reducible refine (ramountW_c t _ false Ht.out HK.out).mono ?_; rintro e w2 ⟨rfl, hb2⟩; have u2 := u1.below hb2; obtain ⟨fz, hfz⟩ := u2.z.a; obtain ⟨y0, y1, y2, y3⟩ := hfz.frees4; obtain ⟨z0, z1, z2, z3⟩ := hfz.cells4; have l2 := u2.z.s; clear hb2)
      | (go_at_call 18; with_reducible refine (ramountW_c s _ true Hs.out HG.out).mono ?_; rintro e w1 ⟨rfl, hb1⟩; have u1 := T0.out.below hb1; obtain ⟨b0, b1, b2, b3⟩ := u1.x.b.cells4; clear hb1))
    refine bodyPost_ret (v := .tuple #[.agg #[.int .u64 0, .int .u64 0, .int .u64 0, .int .u64 0], .bool false]) (by simp [results, Tryd.results7, go_sem, z0, z1, z2, z3]) rfl ⟨rfl, below_set4 u2.x.l (by omega)⟩
  · rw [Bool.true_and, if_pos rfl, Bool.true_and]
    obtain ⟨m, hm⟩ : ∃ x, x = addv t 1000 := ⟨_, rfl⟩
    obtain ⟨d, hd⟩ : ∃ x, x = addv s 1000 := ⟨_, rfl⟩
    rw [← hm, ← hd]
    have Hml := Lib.hid (show m < 2 ^ 256 by rw [hm]; exact addv_lt _ _)
    have Hdl := Lib.hid (show d < 2 ^ 256 by rw [hd]; exact addv_lt _ _)
    obtain ⟨x, hx⟩ : ∃ x, x = qv a m d := ⟨_, rfl⟩
    obtain ⟨ok, hok⟩ : ∃ x, x = qok a m d := ⟨_, rfl⟩
    rw [← hx, ← hok]
    have Hm := Lib.hid hm
    have Hd := Lib.hid hd
    have Hx := Lib.hid hx
    have Hok := Lib.hid hok
    clear hm hd hx hok
    unfold U
    go_enter Tryd.func7, Tryd.ntmps7
    go_upto_region 3 with (first
      | (go_at_call 18; with_reducible refine (ramountW_c t _ true Ht.out HK.out).mono ?_; rintro e w2 ⟨rfl, hb2⟩; have u2 := Lib.hid (u1.below hb2); clear hb2)
      | (go_at_call 18; with_reducible refine (ramountW_c s _ true Hs.out HG.out).mono ?_; rintro e w1 ⟨rfl, hb1⟩; have u1 := T0.out.below hb1; obtain ⟨b0, b1, b2, b3⟩ := u1.x.b.cells4; clear hb1))
    go_region_held3 (fun w' => w'.cell? ⟨w.heap.size, 0, none⟩ = some (.int .u64 (limb s 0 : Nat)) ∧ w'.cell? ⟨w.heap.size, 1, none⟩ = some (.int .u64 (limb s 1 : Nat)) ∧ w'.cell? ⟨w.heap.size, 2, none⟩ = some (.int .u64 (limb s 2 : Nat)) ∧ w'.cell? ⟨w.heap.size, 3, none⟩ = some (.int .u64 (limb s 3 : Nat)) ∧ w'.cell? ⟨w.heap.size + 1, 0, none⟩ = some (.int .u64 (limb t 0 : Nat)) ∧ w'.cell? ⟨w.heap.size + 1, 1, none⟩ = some (.int .u64 (limb t 1 : Nat)) ∧ w'.cell? ⟨w.heap.size + 1, 2, none⟩ = some (.int .u64 (limb t 2 : Nat)) ∧ w'.cell? ⟨w.heap.size + 1, 3, none⟩ = some (.int .u64 (limb t 3 : Nat)) ∧ w'.cell? ⟨w.heap.size + 1 + 1, 0, none⟩ = some (.int .u64 (limb a 0 : Nat)) ∧ w'.cell? ⟨w.heap.size + 1 + 1, 1, none⟩ = some (.int .u64 (limb a 1 : Nat)) ∧ w'.cell? ⟨w.heap.size + 1 + 1, 2, none⟩ = some (.int .u64 (limb a 2 : Nat)) ∧ w'.cell? ⟨w.heap.size + 1 + 1, 3, none⟩ = some (.int .u64 (limb a 3 : Nat)) ∧ Qv w w' s t a)
      ((refine heldQv ?_; repeat (first | with_reducible exact u5 | with_reducible exact u4 | with_reducible exact u3 | with_reducible exact u2.out | with_reducible refine Qv.drew ?_ | with_reducible refine Qv.put4 ?_ rfl | with_reducible exact un_heldQv (by with_reducible assumption))))
      (first
        | (go_at_call 19; refine (rdown_walk a m d _ Ha.out Hml.out Hdl.out).mono ?_; rintro e w5 ⟨rfl, hb5⟩; have u5 := u4.below hb5; rw [← Hx.out, ← Hok.out]; obtain ⟨fz, hfz⟩ := u5.z.a; obtain ⟨y0, y1, y2, y3⟩ := hfz.frees4; obtain ⟨z0, z1, z2, z3⟩ := hfz.cells4; have l5 := u5.z.s; unfold U)
        | (go_at_call 20; with_reducible refine (rmoreW_c s _ Hs.out).mono ?_; rintro e w4 ⟨rfl, hb4⟩; have u4 : Qv w w4 s t a := Qv.below (un_heldQv (by with_reducible assumption)) hb4; rw [← Hd.out]; unfold U)
        | (go_at_call 20; with_reducible refine (rmoreW_c t _ Ht.out).mono ?_; rintro e w3 ⟨rfl, hb3⟩; have u3 : Qv w w3 s t a := Qv.below (un_heldQv (by with_reducible assumption)) hb3; rw [← Hm.out]; unfold U))
    all_goals
      go_wp2
      refine bodyPost_ret (v := .tuple #[.agg #[.int .u64 (limb x 0 : Nat), .int .u64 (limb x 1 : Nat), .int .u64 (limb x 2 : Nat), .int .u64 (limb x 3 : Nat)], .bool ok]) (by simp [results, Tryd.results7, go_sem, z0, z1, z2, z3]) rfl ⟨rfl, below_set4 u5.x.l (by omega)⟩

set_option maxRecDepth 100000 in
set_option maxHeartbeats 4000000 in
theorem refTokens_walk (s t a : Nat) (w : World) (hs : s < 2 ^ 256) (ht : t < 2 ^ 256) (ha : a < 2 ^ 256) : Calls Tryd.prog 9 #[U s, U t, U a] w fun e w' => e = .returned (.tuple #[U (tkv s t a), .bool (tkk s t a)]) ∧ Below w.heap.size w w' := by
  have T0 := Lib.hid (Qv.first (w := w) (s := s) (t := t) (a := a))
  have Hs := Lib.hid hs
  have Ht := Lib.hid ht
  have Ha := Lib.hid ha
  unfold tkv tkk vgood
  obtain ⟨g, hg⟩ : ∃ g, g = decide (s ≤ MOST) := ⟨_, rfl⟩
  obtain ⟨k, hk⟩ : ∃ g, g = decide (t ≤ MOST) := ⟨_, rfl⟩
  rw [← hg, ← hk]
  have HG := Lib.hid hg.symm
  have HK := Lib.hid hk.symm
  clear hs ht ha hg hk
  rcases (by cases g <;> cases k <;> simp : g = false ∨ g = true ∧ k = false ∨ g = true ∧ k = true) with rfl | ⟨rfl, rfl⟩ | ⟨rfl, rfl⟩
  · rw [Bool.false_and, if_neg (by decide), Bool.false_and, U_zero]
    unfold U
    go_enter Tryd.func9, Tryd.ntmps9
    go_wp2_with (go_at_call 18; with_reducible refine (ramountW_c s _ false Hs.out HG.out).mono ?_; rintro e w1 ⟨rfl, hb1⟩; have u1 := T0.out.below hb1; obtain ⟨fz, hfz⟩ := u1.z.a; obtain ⟨y0, y1, y2, y3⟩ := hfz.frees4; obtain ⟨z0, z1, z2, z3⟩ := hfz.cells4; have l1 := u1.z.s; clear hb1)
    refine bodyPost_ret (v := .tuple #[.agg #[.int .u64 0, .int .u64 0, .int .u64 0, .int .u64 0], .bool false]) (by simp [results, Tryd.results9, go_sem, z0, z1, z2, z3]) rfl ⟨rfl, below_set4 u1.x.l (by omega)⟩
  · rw [Bool.true_and, if_neg (by decide), Bool.false_and, U_zero]
    unfold U
    go_enter Tryd.func9, Tryd.ntmps9
    go_wp2_with (first
      | (go_at_call 18; with_reducible refine (ramountW_c t _ false Ht.out HK.out).mono ?_; rintro e w2 ⟨rfl, hb2⟩; have u2 := u1.below hb2; obtain ⟨fz, hfz⟩ := u2.z.a; obtain ⟨y0, y1, y2, y3⟩ := hfz.frees4; obtain ⟨z0, z1, z2, z3⟩ := hfz.cells4; have l2 := u2.z.s; clear hb2)
      | (go_at_call 18; with_reducible refine (ramountW_c s _ true Hs.out HG.out).mono ?_; rintro e w1 ⟨rfl, hb1⟩; have u1 := T0.out.below hb1; obtain ⟨b0, b1, b2, b3⟩ := u1.x.b.cells4; clear hb1))
    refine bodyPost_ret (v := .tuple #[.agg #[.int .u64 0, .int .u64 0, .int .u64 0, .int .u64 0], .bool false]) (by simp [results, Tryd.results9, go_sem, z0, z1, z2, z3]) rfl ⟨rfl, below_set4 u2.x.l (by omega)⟩
  · rw [Bool.true_and, if_pos rfl, Bool.true_and]
    obtain ⟨m, hm⟩ : ∃ x, x = addv s 1000 := ⟨_, rfl⟩
    obtain ⟨d, hd⟩ : ∃ x, x = addv t 1000 := ⟨_, rfl⟩
    rw [← hm, ← hd]
    have Hml := Lib.hid (show m < 2 ^ 256 by rw [hm]; exact addv_lt _ _)
    have Hdl := Lib.hid (show d < 2 ^ 256 by rw [hd]; exact addv_lt _ _)
    obtain ⟨x, hx⟩ : ∃ x, x = qv a m d := ⟨_, rfl⟩
    obtain ⟨ok, hok⟩ : ∃ x, x = qok a m d := ⟨_, rfl⟩
    rw [← hx, ← hok]
    have Hm := Lib.hid hm
    have Hd := Lib.hid hd
    have Hx := Lib.hid hx
    have Hok := Lib.hid hok
    clear hm hd hx hok
    unfold U
    go_enter Tryd.func9, Tryd.ntmps9
    go_upto_region 3 with (first
      | (go_at_call 18; with_reducible refine (ramountW_c t _ true Ht.out HK.out).mono ?_; rintro e w2 ⟨rfl, hb2⟩; have u2 := Lib.hid (u1.below hb2); clear hb2)
      | (go_at_call 18; with_reducible refine (ramountW_c s _ true Hs.out HG.out).mono ?_; rintro e w1 ⟨rfl, hb1⟩; have u1 := T0.out.below hb1; obtain ⟨b0, b1, b2, b3⟩ := u1.x.b.cells4; clear hb1))
    go_region_held3 (fun w' => w'.cell? ⟨w.heap.size, 0, none⟩ = some (.int .u64 (limb s 0 : Nat)) ∧ w'.cell? ⟨w.heap.size, 1, none⟩ = some (.int .u64 (limb s 1 : Nat)) ∧ w'.cell? ⟨w.heap.size, 2, none⟩ = some (.int .u64 (limb s 2 : Nat)) ∧ w'.cell? ⟨w.heap.size, 3, none⟩ = some (.int .u64 (limb s 3 : Nat)) ∧ w'.cell? ⟨w.heap.size + 1, 0, none⟩ = some (.int .u64 (limb t 0 : Nat)) ∧ w'.cell? ⟨w.heap.size + 1, 1, none⟩ = some (.int .u64 (limb t 1 : Nat)) ∧ w'.cell? ⟨w.heap.size + 1, 2, none⟩ = some (.int .u64 (limb t 2 : Nat)) ∧ w'.cell? ⟨w.heap.size + 1, 3, none⟩ = some (.int .u64 (limb t 3 : Nat)) ∧ w'.cell? ⟨w.heap.size + 1 + 1, 0, none⟩ = some (.int .u64 (limb a 0 : Nat)) ∧ w'.cell? ⟨w.heap.size + 1 + 1, 1, none⟩ = some (.int .u64 (limb a 1 : Nat)) ∧ w'.cell? ⟨w.heap.size + 1 + 1, 2, none⟩ = some (.int .u64 (limb a 2 : Nat)) ∧ w'.cell? ⟨w.heap.size + 1 + 1, 3, none⟩ = some (.int .u64 (limb a 3 : Nat)) ∧ Qv w w' s t a)
      ((refine heldQv ?_; repeat (first | with_reducible exact u5 | with_reducible exact u4 | with_reducible exact u3 | with_reducible exact u2.out | with_reducible refine Qv.drew ?_ | with_reducible refine Qv.put4 ?_ rfl | with_reducible exact un_heldQv (by with_reducible assumption))))
      (first
        | (go_at_call 19; refine (rdown_walk a m d _ Ha.out Hml.out Hdl.out).mono ?_; rintro e w5 ⟨rfl, hb5⟩; have u5 := u4.below hb5; rw [← Hx.out, ← Hok.out]; obtain ⟨fz, hfz⟩ := u5.z.a; obtain ⟨y0, y1, y2, y3⟩ := hfz.frees4; obtain ⟨z0, z1, z2, z3⟩ := hfz.cells4; have l5 := u5.z.s; unfold U)
        | (go_at_call 20; with_reducible refine (rmoreW_c t _ Ht.out).mono ?_; rintro e w4 ⟨rfl, hb4⟩; have u4 : Qv w w4 s t a := Qv.below (un_heldQv (by with_reducible assumption)) hb4; rw [← Hd.out]; unfold U)
        | (go_at_call 20; with_reducible refine (rmoreW_c s _ Hs.out).mono ?_; rintro e w3 ⟨rfl, hb3⟩; have u3 : Qv w w3 s t a := Qv.below (un_heldQv (by with_reducible assumption)) hb3; rw [← Hm.out]; unfold U))
    all_goals
      go_wp2
      refine bodyPost_ret (v := .tuple #[.agg #[.int .u64 (limb x 0 : Nat), .int .u64 (limb x 1 : Nat), .int .u64 (limb x 2 : Nat), .int .u64 (limb x 3 : Nat)], .bool ok]) (by simp [results, Tryd.results9, go_sem, z0, z1, z2, z3]) rfl ⟨rfl, below_set4 u5.x.l (by omega)⟩

theorem rcmpV_c (a b : Nat) (w : World) (ha : a < 2 ^ 256) (hb : b < 2 ^ 256) : Calls Tryd.prog 13 #[.agg #[.int .u64 (limb a 0 : Nat), .int .u64 (limb a 1 : Nat), .int .u64 (limb a 2 : Nat), .int .u64 (limb a 3 : Nat)], .agg #[.int .u64 (limb b 0 : Nat), .int .u64 (limb b 1 : Nat), .int .u64 (limb b 2 : Nat), .int .u64 (limb b 3 : Nat)]] w fun e w' => e = .returned (.int .i64 (cmpU a b)) ∧ Below w.heap.size w w' := rcmp_walk a b w ha hb
set_option maxRecDepth 100000 in
set_option maxHeartbeats 4000000 in
theorem refGood_walk (s t : Nat) (w : World) (hs : s < 2 ^ 256) (ht : t < 2 ^ 256) : Calls Tryd.prog 11 #[U s, U t] w fun e w' => e = .returned (.bool (rgood s t)) ∧ Below w.heap.size w w' := by
  unfold rgood vgood
  obtain ⟨g, hg⟩ : ∃ g, g = decide (s ≤ MOST) := ⟨_, rfl⟩
  obtain ⟨h, hh⟩ : ∃ g, g = decide (t ≤ MOST) := ⟨_, rfl⟩
  obtain ⟨c, hc⟩ : ∃ c, c = cmpU t s := ⟨_, rfl⟩
  obtain ⟨k, hk⟩ : ∃ g, g = decide (t ≤ s) := ⟨_, rfl⟩
  rw [← hg, ← hh, ← hk]
  have hdec : decide (c ≤ 0) = k := by rw [hk, hc]; exact decide_eq_decide.2 (cmpU_le t s)
  have HG := Lib.hid hg.symm
  have HH := Lib.hid hh.symm
  have Hs := Lib.hid hs
  have Ht := Lib.hid ht
  have Hc := Lib.hid hc
  have T0 := Lib.hid (two_first (a := s) (b := t) (w := w) (t1 := 24) (t2 := 24))
  clear hg hh hs ht hc hk
  unfold U
  rcases (by cases g <;> cases h <;> simp : g = false ∨ g = true ∧ h = false ∨ g = true ∧ h = true) with rfl | ⟨rfl, rfl⟩ | ⟨rfl, rfl⟩
  · rw [Bool.false_and, Bool.false_and]
    go_enter Tryd.func11, Tryd.ntmps11
    go_wp2_with (go_at_call 18; with_reducible refine (ramountW_c s _ false Hs.out HG.out).mono ?_; rintro e w1 ⟨rfl, hb1⟩; have u1 := T0.out.below hb1; clear hb1)
    go_ret
    exact ⟨rfl, u1.l⟩
  · rw [Bool.true_and, Bool.false_and]
    go_enter Tryd.func11, Tryd.ntmps11
    go_wp2_with (first
      | (go_at_call 18; with_reducible refine (ramountW_c t _ false Ht.out HH.out).mono ?_; rintro e w2 ⟨rfl, hb2⟩; have u2 := u1.below hb2; clear hb2)
      | (go_at_call 18; with_reducible refine (ramountW_c s _ true Hs.out HG.out).mono ?_; rintro e w1 ⟨rfl, hb1⟩; have u1 := T0.out.below hb1; obtain ⟨b0, b1, b2, b3⟩ := u1.b.cells4; clear hb1))
    go_ret
    exact ⟨rfl, u2.l⟩
  · rw [Bool.true_and, Bool.true_and]
    go_enter Tryd.func11, Tryd.ntmps11
    go_wp2_with (first
      | (go_at_call 13; refine (rcmpV_c t s _ Ht.out Hs.out).mono ?_; rintro e w3 ⟨rfl, hb3⟩; rw [← Hc.out]; have u3 := u2.below hb3; clear hb3)
      | (go_at_call 18; with_reducible refine (ramountW_c t _ true Ht.out HH.out).mono ?_; rintro e w2 ⟨rfl, hb2⟩; have u2 := u1.below hb2; obtain ⟨c0, c1, c2, c3⟩ := u2.a.cells4; obtain ⟨d0, d1, d2, d3⟩ := u2.b.cells4; clear hb2)
      | (go_at_call 18; with_reducible refine (ramountW_c s _ true Hs.out HG.out).mono ?_; rintro e w1 ⟨rfl, hb1⟩; have u1 := T0.out.below hb1; obtain ⟨b0, b1, b2, b3⟩ := u1.b.cells4; clear hb1))
    go_ret
    exact ⟨rfl, u3.l⟩
end Go.Proofs.YtomhbggfdjooaaaDoor

namespace Go.Proofs.YtomhbggfdjooaaaDoor
open Go.RowKit Go.Sort

theorem eqlit_run {x n : Nat} (h : x = n) (hn : n < 2 ^ 64) (w : World) :
    (Op.equalIn 10000 24 (.agg #[.int .u64 (limb x 0 : Nat), .int .u64 (limb x 1 : Nat), .int .u64 (limb x 2 : Nat), .int .u64 (limb x 3 : Nat)]) (.agg #[.int .u64 (n : Nat), .int .u64 0, .int .u64 0, .int .u64 0])).run Tryd.prog w = .ok true w := by
  subst h
  have e : U x = lit x := U_small hn
  have hx : x < 2 ^ 256 := by omega
  have h2 := eq_run hx hx w
  unfold U lit at e
  rw [e] at h2 ⊢
  rw [h2, decide_eq_true rfl]
theorem rshares_lit (s a x : Nat) (w : World) (hv : Vr w) (hs : s < 2 ^ 64) (ha : a < 2 ^ 64) (h : shv s 0 a = x ∧ shk s 0 a = true) : Calls Tryd.prog 6 #[.agg #[.int .u64 (s : Nat), .int .u64 0, .int .u64 0, .int .u64 0], .agg #[.int .u64 0, .int .u64 0, .int .u64 0, .int .u64 0], .agg #[.int .u64 (a : Nat), .int .u64 0, .int .u64 0, .int .u64 0]] w fun e w' => e = .returned (.tuple #[U x, .bool true]) ∧ Below w.heap.size w w' := by
  have h1 := rateShares_walk s 0 a w (by omega) (by decide) (by omega) hv
  rw [h.1, h.2, U_small hs, U_small ha, U_zero] at h1
  exact h1
theorem rtokens_lit (s a x : Nat) (w : World) (hv : Vr w) (hs : s < 2 ^ 64) (ha : a < 2 ^ 64) (h : tkv s 0 a = x ∧ tkk s 0 a = true) : Calls Tryd.prog 8 #[.agg #[.int .u64 (s : Nat), .int .u64 0, .int .u64 0, .int .u64 0], .agg #[.int .u64 0, .int .u64 0, .int .u64 0, .int .u64 0], .agg #[.int .u64 (a : Nat), .int .u64 0, .int .u64 0, .int .u64 0]] w fun e w' => e = .returned (.tuple #[U x, .bool true]) ∧ Below w.heap.size w w' := by
  have h1 := rateTokens_walk s 0 a w (by omega) (by decide) (by omega) hv
  rw [h.1, h.2, U_small hs, U_small ha, U_zero] at h1
  exact h1
set_option maxRecDepth 100000 in
set_option maxHeartbeats 4000000 in
theorem lives18_walk (w : World) (hv : Vr w) : Calls Tryd.prog 12 #[] w fun e w' => e = .returned (.bool true) ∧ Below w.heap.size w w' := by
  obtain ⟨x, hx⟩ : ∃ x, x = 100 := ⟨_, rfl⟩
  obtain ⟨y, hy⟩ : ∃ x, x = 50 := ⟨_, rfl⟩
  obtain ⟨z, hz⟩ : ∃ x, x = 100 := ⟨_, rfl⟩
  have HA := Lib.hid (fun W (hW : Below w.heap.size w W) => show Calls Tryd.prog 6 #[.agg #[.int .u64 0, .int .u64 0, .int .u64 0, .int .u64 0], .agg #[.int .u64 0, .int .u64 0, .int .u64 0, .int .u64 0], .agg #[.int .u64 100, .int .u64 0, .int .u64 0, .int .u64 0]] W fun e w' => e = .returned (.tuple #[U x, .bool true]) ∧ Below W.heap.size W w' from rshares_lit 0 100 x W (hv.below hW) (by decide) (by decide) (by rw [hx]; exact ⟨by decide +kernel, by decide +kernel⟩))
  have HB := Lib.hid (fun W (hW : Below w.heap.size w W) => show Calls Tryd.prog 6 #[.agg #[.int .u64 1000, .int .u64 0, .int .u64 0, .int .u64 0], .agg #[.int .u64 0, .int .u64 0, .int .u64 0, .int .u64 0], .agg #[.int .u64 100, .int .u64 0, .int .u64 0, .int .u64 0]] W fun e w' => e = .returned (.tuple #[U y, .bool true]) ∧ Below W.heap.size W w' from rshares_lit 1000 100 y W (hv.below hW) (by decide) (by decide) (by rw [hy]; exact ⟨by decide +kernel, by decide +kernel⟩))
  have HC := Lib.hid (fun W (hW : Below w.heap.size w W) => show Calls Tryd.prog 8 #[.agg #[.int .u64 1000, .int .u64 0, .int .u64 0, .int .u64 0], .agg #[.int .u64 0, .int .u64 0, .int .u64 0, .int .u64 0], .agg #[.int .u64 50, .int .u64 0, .int .u64 0, .int .u64 0]] W fun e w' => e = .returned (.tuple #[U z, .bool true]) ∧ Below W.heap.size W w' from rtokens_lit 1000 50 z W (hv.below hW) (by decide) (by decide) (by rw [hz]; exact ⟨by decide +kernel, by decide +kernel⟩))
  have HV := Lib.hid (fun W (hW : Below w.heap.size w W) => show Calls Tryd.prog 24 #[] W fun e w' => e = .returned (.agg #[.int .u64 1000, .int .u64 0, .int .u64 0, .int .u64 0]) ∧ Below W.heap.size W w' from by have h := virtual_walk W (hv.below hW); rw [U1000] at h; exact h)
  have heqx : ∀ w, (Op.equalIn 10000 24 (.agg #[.int .u64 (limb x 0 : Nat), .int .u64 (limb x 1 : Nat), .int .u64 (limb x 2 : Nat), .int .u64 (limb x 3 : Nat)]) (.agg #[.int .u64 100, .int .u64 0, .int .u64 0, .int .u64 0])).run Tryd.prog w = .ok true w := fun w => eqlit_run (n := 100) hx (by decide) w
  have heqy : ∀ w, (Op.equalIn 10000 24 (.agg #[.int .u64 (limb y 0 : Nat), .int .u64 (limb y 1 : Nat), .int .u64 (limb y 2 : Nat), .int .u64 (limb y 3 : Nat)]) (.agg #[.int .u64 50, .int .u64 0, .int .u64 0, .int .u64 0])).run Tryd.prog w = .ok true w := fun w => eqlit_run (n := 50) hy (by decide) w
  have heqz : ∀ w, (Op.equalIn 10000 24 (.agg #[.int .u64 (limb z 0 : Nat), .int .u64 (limb z 1 : Nat), .int .u64 (limb z 2 : Nat), .int .u64 (limb z 3 : Nat)]) (.agg #[.int .u64 100, .int .u64 0, .int .u64 0, .int .u64 0])).run Tryd.prog w = .ok true w := fun w => eqlit_run (n := 100) hz (by decide) w
  have heqv : ∀ w, (Op.equalIn 10000 24 (.agg #[.int .u64 1000, .int .u64 0, .int .u64 0, .int .u64 0]) (.agg #[.int .u64 1000, .int .u64 0, .int .u64 0, .int .u64 0])).run Tryd.prog w = .ok true w := fun w => by rw [eqU]; rfl
  have B0 := Lib.hid (Below.refl w.heap.size w)
  clear hx hy hz hv
  go_enter Tryd.func12, Tryd.ntmps12
  go_wp2_with (first
    | (go_at_call 24; have g5 := k3; clear g5; refine (HV.out _ k3.l).mono ?_; rintro e w4 ⟨rfl, hb4⟩; have k4 := k3.call hb4; clear hb4)
    | (go_at_call 8; have g5 := k2; clear g5; refine (HC.out _ k2.l).mono ?_; rintro e w3 ⟨rfl, hb3⟩; have k3 := Bk.push (t := 24) z (k2.call hb3); obtain ⟨⟨a0, a1, a2, a3⟩, a4⟩ := k3.cells w1.heap.size x (by simp); obtain ⟨⟨b0, b1, b2, b3⟩, b4⟩ := k3.cells w2.heap.size y (by simp); clear hb3; unfold U)
    | (go_at_call 6; have g5 := k1; clear g5; refine (HB.out _ k1.l).mono ?_; rintro e w2 ⟨rfl, hb2⟩; have k2 := Bk.push (t := 24) y (k1.call hb2); clear hb2; unfold U)
    | (go_at_call 6; refine (HA.out _ B0.out).mono ?_; rintro e w1 ⟨rfl, hb1⟩; have k1 := Bk.push (t := 24) x ((Bk.nil (w := w)).call hb1); clear hb1; unfold U))
  go_ret
  exact ⟨rfl, k4.l⟩
end Go.Proofs.YtomhbggfdjooaaaDoor
