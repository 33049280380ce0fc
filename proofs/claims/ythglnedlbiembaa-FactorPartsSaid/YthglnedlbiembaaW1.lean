/- wad.One, Most, quotient and what it gives, walked. -/
import Derived.Test.YthglnedlbiembaaM7D
import Derived.Test.YthglnedlbiembaaM7U
namespace Go.Proofs.Ythglnedlbiembaa
open Go.RowKit Go.Sort

def WAD : Nat := 1000000000000000000
def MOST : Nat := 340282366920938463463374607431768211455
theorem WAD_lt : WAD < 2 ^ 256 := by decide
theorem MOST_lt : MOST < 2 ^ 256 := by decide
theorem U_WAD : U WAD = .agg #[.int .u64 1000000000000000000, .int .u64 0, .int .u64 0, .int .u64 0] := U_small (n := 1000000000000000000) (by decide)
theorem U_MOST : U MOST = .agg #[.int .u64 18446744073709551615, .int .u64 18446744073709551615, .int .u64 0, .int .u64 0] := by
  unfold U
  rw [show limb MOST 0 = 18446744073709551615 by decide, show limb MOST 1 = 18446744073709551615 by decide, show limb MOST 2 = 0 by decide, show limb MOST 3 = 0 by decide]; rfl
theorem ofWAD_c (w : World) : Calls Try.prog 39 #[.int .u64 1000000000000000000] w fun e w' => e = .returned (.agg #[.int .u64 1000000000000000000, .int .u64 0, .int .u64 0, .int .u64 0]) ∧ Below w.heap.size w w' := by
  have h := of_walk 1000000000000000000 w
  exact h.mono fun e w' ⟨he, hw⟩ => ⟨by rw [he]; rfl, hw⟩
set_option maxRecDepth 100000 in
theorem one_walk (w : World) : Calls Try.prog 72 #[] w fun e w' => e = .returned (U WAD) ∧ Below w.heap.size w w' := by
  rw [U_WAD]
  go_enter Try.func72, Try.ntmps72
  go_wp2_with (go_at_call 39; refine (ofWAD_c _).mono ?_; rintro e w1 ⟨rfl, hb1⟩; have hz : Arr .u64 w1 w.heap.size 4 (fun _ => 0) := Arr.below (Arr.new4 (f := fun _ => 0) rfl) hb1 (by rw [World.size_alloc]; omega); obtain ⟨y0, y1, y2, y3⟩ := hz.frees4; obtain ⟨z0, z1, z2, z3⟩ := hz.cells4)
  refine bodyPost_ret (v := .agg #[.int .u64 1000000000000000000, .int .u64 0, .int .u64 0, .int .u64 0]) (by simp [results, Try.results72, go_sem, z0, z1, z2, z3]) rfl ⟨rfl, below_set4 (((Below.refl _ _).alloc (Nat.le_refl _) _).trans (hb1.mono (by rw [World.size_alloc]; omega))) (by omega)⟩
set_option maxRecDepth 100000 in
theorem most_walk (w : World) : Calls Try.prog 65 #[] w fun e w' => e = .returned (U MOST) ∧ Below w.heap.size w w' := by
  rw [U_MOST]
  go_enter Try.func65, Try.ntmps65
  go_wp2
  refine bodyPost_ret (v := .agg #[.int .u64 18446744073709551615, .int .u64 18446744073709551615, .int .u64 0, .int .u64 0]) (by simp [results, Try.results65, go_sem]) rfl ⟨rfl, (Below.refl _ _).alloc (Nat.le_refl _) _⟩
/-- what quotient gives -/
def Quot (w : World) (up : Bool) (v : Value) : Prop := ∃ L, v = .func (Fn.func 126) #[] #[.pointer (some ⟨L, 0, none⟩)] ∧ w.cell? ⟨L, 0, none⟩ = some (.bool up) ∧ L < w.heap.size
theorem Quot.below {w w' : World} {up : Bool} {v : Value} (h : Quot w up v) (hb : Below w.heap.size w w') : Quot w' up v := by
  obtain ⟨L, rfl, h1, h2⟩ := h
  exact ⟨L, rfl, by rw [hb.cell (p := ⟨L, 0, none⟩) h2]; exact h1, Nat.lt_of_lt_of_le h2 hb.size⟩
set_option maxRecDepth 100000 in
theorem quot_walk (up : Bool) (w : World) : Calls Try.prog 116 #[.bool up] w fun e w' => (∃ v, e = .returned v ∧ Quot w' up v) ∧ Below w.heap.size w w' := by
  go_enter Try.func116, Try.ntmps116
  go_wp2
  go_ret
  exact ⟨⟨_, rfl, w.heap.size, rfl, by simp, by simp⟩, (Below.refl _ _).alloc (Nat.le_refl _) _⟩
set_option maxRecDepth 100000 in
set_option maxHeartbeats 1000000 in
theorem quotF_down (a b d L : Nat) (w : World) (ha : a < 2 ^ 256) (hb : b < 2 ^ 256) (hd : d < 2 ^ 256) (hc : w.cell? ⟨L, 0, none⟩ = some (.bool false)) :
    Calls Try.prog 126 #[U a, U b, U d, .pointer (some ⟨L, 0, none⟩)] w fun e w' => e = .returned (.tuple #[U (qv a b d), .bool (qok a b d)]) ∧ Below w.heap.size w w' := by
  have hL : L < w.heap.size := World.block_lt_of_cell? w _ hc
  have hc' : ∀ o1 o2 o3 o4 : Obj, ((((w.alloc o1).alloc o2).alloc o3).alloc o4).cell? ⟨L, 0, none⟩ = w.cell? ⟨L, 0, none⟩ := fun o1 o2 o3 o4 => by
    rw [World.cell?_alloc_lt _ _ _ (by simp; omega), World.cell?_alloc_lt _ _ _ (by simp; omega), World.cell?_alloc_lt _ _ _ (by simp; omega), World.cell?_alloc_lt _ _ _ (by simp; omega)]
  have Ha := Lib.hid ha
  have Hb := Lib.hid hb
  have Hd := Lib.hid hd
  obtain ⟨x, hx⟩ : ∃ x, x = qv a b d := ⟨_, rfl⟩
  obtain ⟨ok, hok⟩ : ∃ x, x = qok a b d := ⟨_, rfl⟩
  rw [← hx, ← hok]
  have Hx := Lib.hid hx
  have Hok := Lib.hid hok
  clear ha hb hd hx hok
  have T0 := Lib.hid (three0_first (a := a) (b := b) (d := d) (w := w) (t1 := 24) (t2 := 24) (t3 := 24) (t4 := 24))
  unfold U
  go_enter Try.func126, Try.ntmps126
  go_wp2_with (go_at_call 40; refine (down_walk a b d _ Ha.out Hb.out Hd.out).mono ?_; rintro e w1 ⟨rfl, hb1⟩; rw [← Hx.out, ← Hok.out]; have u1 := T0.out.below hb1; obtain ⟨z0, z1, z2, z3⟩ := u1.z.cells4; obtain ⟨y0, y1, y2, y3⟩ := u1.z.frees4; unfold U)
  refine bodyPost_ret (v := .tuple #[.agg #[.int .u64 (limb x 0 : Nat), .int .u64 (limb x 1 : Nat), .int .u64 (limb x 2 : Nat), .int .u64 (limb x 3 : Nat)], .bool ok]) (by simp [results, Try.results126, go_sem, z0, z1, z2, z3]) rfl ⟨rfl, below_set4 u1.t.l (by omega)⟩
set_option maxRecDepth 100000 in
set_option maxHeartbeats 1000000 in
theorem quotF_up (a b d L : Nat) (w : World) (ha : a < 2 ^ 256) (hb : b < 2 ^ 256) (hd : d < 2 ^ 256) (hc : w.cell? ⟨L, 0, none⟩ = some (.bool true)) :
    Calls Try.prog 126 #[U a, U b, U d, .pointer (some ⟨L, 0, none⟩)] w fun e w' => e = .returned (.tuple #[U (uv a b d), .bool (uok a b d)]) ∧ Below w.heap.size w w' := by
  have hL : L < w.heap.size := World.block_lt_of_cell? w _ hc
  have hc' : ∀ o1 o2 o3 o4 : Obj, ((((w.alloc o1).alloc o2).alloc o3).alloc o4).cell? ⟨L, 0, none⟩ = w.cell? ⟨L, 0, none⟩ := fun o1 o2 o3 o4 => by
    rw [World.cell?_alloc_lt _ _ _ (by simp; omega), World.cell?_alloc_lt _ _ _ (by simp; omega), World.cell?_alloc_lt _ _ _ (by simp; omega), World.cell?_alloc_lt _ _ _ (by simp; omega)]
  have Ha := Lib.hid ha
  have Hb := Lib.hid hb
  have Hd := Lib.hid hd
  obtain ⟨x, hx⟩ : ∃ x, x = uv a b d := ⟨_, rfl⟩
  obtain ⟨ok, hok⟩ : ∃ x, x = uok a b d := ⟨_, rfl⟩
  rw [← hx, ← hok]
  have Hx := Lib.hid hx
  have Hok := Lib.hid hok
  clear ha hb hd hx hok
  have T0 := Lib.hid (three0_first (a := a) (b := b) (d := d) (w := w) (t1 := 24) (t2 := 24) (t3 := 24) (t4 := 24))
  unfold U
  go_enter Try.func126, Try.ntmps126
  go_wp2_with (go_at_call 42; refine (up_walk a b d _ Ha.out Hb.out Hd.out).mono ?_; rintro e w1 ⟨rfl, hb1⟩; rw [← Hx.out, ← Hok.out]; have u1 := T0.out.below hb1; obtain ⟨z0, z1, z2, z3⟩ := u1.z.cells4; obtain ⟨y0, y1, y2, y3⟩ := u1.z.frees4; unfold U)
  refine bodyPost_ret (v := .tuple #[.agg #[.int .u64 (limb x 0 : Nat), .int .u64 (limb x 1 : Nat), .int .u64 (limb x 2 : Nat), .int .u64 (limb x 3 : Nat)], .bool ok]) (by simp [results, Try.results126, go_sem, z0, z1, z2, z3]) rfl ⟨rfl, below_set4 u1.t.l (by omega)⟩
end Go.Proofs.Ythglnedlbiembaa
