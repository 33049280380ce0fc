/- A store that no call made: Made, Get; what stands on it: cell.Row, delay.Get, Of, split.Set, Get, walked. -/
import Derived.Test.YtedkhpnlhkjjgaaK2
import Derived.Test.YtedkhpnlhkjjgaaK6
namespace Go.Proofs.Ytedkhpnlhkjjgaa
open Go.RowKit

theorem hp_lt {w : World} {p : Nat} {o : Obj} (h : w.heap[p]? = some o) : p < w.heap.size := (Array.getElem?_eq_some_iff.1 h).1
theorem hp_cell {w : World} {p i : Nat} {cs : Array Value} {t : TypeId} {fr : Nat × Nat} (h : w.heap[p]? = some (.cells cs t fr)) : w.cell? ⟨p, i, none⟩ = cs[i]? := by
  simp [World.cell?, h]
theorem hp_free {w : World} {p i : Nat} {cs : Array Value} {t : TypeId} (h : w.heap[p]? = some (.cells cs t (0, 0))) : w.frozen? ⟨p, i, none⟩ = false := by
  simp [World.frozen?, h]
/-- nil, or a store without entries -/
def SDead (w : World) (p : Value) : Prop :=
  p = .pointer none ∨ ∃ b, p = .pointer (some ⟨b, 0, none⟩) ∧ b < w.heap.size ∧ w.cell? ⟨b, 0, none⟩ = some (.map none)
theorem SDead.below {w w' : World} {p : Value} (h : SDead w p) (hb : Below w.heap.size w w') : SDead w' p := by
  rcases h with h | ⟨b, h1, h2, h3⟩
  · exact .inl h
  · exact .inr ⟨b, h1, Nat.lt_of_lt_of_le h2 hb.size, by rw [hb.cell (p := ⟨b, 0, none⟩) h2]; exact h3⟩
set_option maxRecDepth 100000 in
set_option maxHeartbeats 400000 in
theorem made_dead (p : Value) (w : World) (h : SDead w p) : Calls Try.prog 27 #[p] w fun e w' => e = .returned (.bool false) ∧ w = w' := by
  rcases h with rfl | ⟨b, rfl, h2, h3⟩
  · go_enter Try.func27, Try.ntmps27
    go_wp2
    go_ret
    exact ⟨rfl, rfl⟩
  · have hm := fun w => run_neq_map_nil (P := Try.prog) w 103 _ _ none Try.underlying103
    go_enter Try.func27, Try.ntmps27
    go_wp2
    go_ret
    exact ⟨rfl, rfl⟩
set_option maxRecDepth 100000 in
set_option maxHeartbeats 400000 in
theorem sget_dead (p : Value) (k : ByteArray) (w : World) (h : SDead w p) : Calls Try.prog 47 #[p, .string k] w fun e w' => e = .returned (.tuple #[.string { data := #[] }, .bool false]) ∧ w = w' := by
  have HM := Lib.hid (made_dead p w h)
  clear h
  go_enter Try.func47, Try.ntmps47
  go_wp2_with (go_at_call 27; refine HM.out.mono ?_; rintro e w1 ⟨rfl, rfl⟩)
  go_ret2
  exact ⟨rfl, rfl⟩
theorem nums_none (w : World) : Calls Try.prog 113 #[.string { data := #[] }] w fun e w' => e = .returned (.tuple #[.slice (some ⟨w.heap.size, 0, none⟩) 0 0, .bool true]) ∧ Below w.heap.size w w' := by
  refine (nums_walk { data := #[] } 0 w rfl (by omega)).mono ?_
  rintro e w' ⟨⟨_, he, _⟩ | ⟨⟨i, hi, _⟩, _⟩, hb⟩
  · exact ⟨he, hb⟩
  · omega
set_option maxRecDepth 100000 in
set_option maxHeartbeats 400000 in
theorem numbers_dead (p : Value) (k : ByteArray) (w : World) (h : SDead w p) : Calls Try.prog 111 #[.func (Fn.func 47) #[p] #[], .string k] w fun e w' => e = .returned (.slice (some ⟨w.heap.size, 0, none⟩) 0 0) ∧ Below w.heap.size w w' := by
  have HG := Lib.hid (sget_dead p k w h)
  have HN := Lib.hid (nums_none w)
  clear h
  go_enter Try.func111, Try.ntmps111
  go_wp2_with (first
    | (go_at_call 113; refine HN.out.mono ?_; rintro e w1 ⟨rfl, hb⟩; have HB := Lib.hid hb; clear hb)
    | (go_at_call 47; refine HG.out.mono ?_; rintro e w1 ⟨rfl, rfl⟩))
  go_ret
  exact ⟨rfl, HB.out⟩
set_option maxRecDepth 100000 in
set_option maxHeartbeats 400000 in
theorem row_dead (p : Value) (k : ByteArray) (w : World) (h : SDead w p) : Calls Try.prog 77 #[p, .string k] w fun e w' => e = .returned (.slice (some ⟨w.heap.size, 0, none⟩) 0 0) ∧ Below w.heap.size w w' := by
  have HN := Lib.hid (numbers_dead p k w h)
  clear h
  go_enter Try.func77, Try.ntmps77
  go_wp2_with (go_at_call 111; refine HN.out.mono ?_; rintro e w1 ⟨rfl, hb⟩; have HB := Lib.hid hb; clear hb)
  go_ret
  exact ⟨rfl, HB.out⟩
/-- delay's nothing -/
def dv0 : Value := .agg #[.bool false, .int .i64 0, .int .i64 0, .int .i64 0, .bool false]
set_option maxRecDepth 100000 in
set_option maxHeartbeats 400000 in
theorem dget_dead (p : Value) (t : Int) (A : Option Addr) (n c : Nat) (f : Nat → Int) (w : World) (h : SDead w p) (hl : Il w A n f) (hn : n ≤ 100) : Calls Try.prog 59 #[p, .int .i64 t, .slice A n c] w fun e w' => e = .returned dv0 ∧ Below w.heap.size w w' := by
  have hb0 := (Below.refl w.heap.size w).alloc (Nat.le_refl _) (.cells #[.bool false, .int .i64 0, .int .i64 0, .int .i64 0, .bool false] 100)
  have HB0 := Lib.hid hb0
  have HK := Lib.hid (key_walk t A n c f _ (hl.below hb0) hn)
  have HD := Lib.hid (h.below hb0)
  have r0 : (w.alloc (.cells #[.bool false, .int .i64 0, .int .i64 0, .int .i64 0, .bool false] 100)).heap[w.heap.size]? = some (.cells #[.bool false, .int .i64 0, .int .i64 0, .int .i64 0, .bool false] 100 (0, 0)) := heap_alloc_new _ _
  have R0 := Lib.hid r0
  have Z0 := Lib.hid (show w.heap.size < (w.alloc (.cells #[.bool false, .int .i64 0, .int .i64 0, .int .i64 0, .bool false] 100)).heap.size by simp)
  clear h hl hb0 r0
  unfold dv0
  go_enter Try.func59, Try.ntmps59
  go_wp2_with (first
    | (go_at_call 77; refine HR.out.mono ?_; rintro e w2 ⟨rfl, hb2⟩; have HB2 := Lib.hid (HB1.out.trans (hb2.mono HB1.out.size)); have r2 := (hb2.block w.heap.size (Nat.lt_of_lt_of_le Z0.out Z1.out)).trans R1.out; have c0 := (hp_cell (i := 0) r2).trans rfl; have g0 := hp_free (i := 0) r2; have c1 := (hp_cell (i := 1) r2).trans rfl; have g1 := hp_free (i := 1) r2; have c2 := (hp_cell (i := 2) r2).trans rfl; have g2 := hp_free (i := 2) r2; have c3 := (hp_cell (i := 3) r2).trans rfl; have g3 := hp_free (i := 3) r2; have c4 := (hp_cell (i := 4) r2).trans rfl; have g4 := hp_free (i := 4) r2; have Z2 := Lib.hid (hp_lt r2); clear hb2 r2)
    | (go_at_call 60; refine HK.out.mono ?_; rintro e w1 ⟨rfl, hb1⟩; have HR := Lib.hid (row_dead p (keyStr t f n) w1 (HD.out.below hb1)); have HB1 := Lib.hid (HB0.out.trans (hb1.mono HB0.out.size)); have R1 := Lib.hid ((hb1.block w.heap.size Z0.out).trans R0.out); have Z1 := Lib.hid hb1.size; clear hb1))
  refine bodyPost_ret (v := .agg #[.bool false, .int .i64 0, .int .i64 0, .int .i64 0, .bool false]) (by simp [results, Try.results59, go_sem, c0, c1, c2, c3, c4]) rfl ⟨rfl, ?_⟩
  exact ((((HB2.out.setCell (Nat.le_refl _) _).setCell (Nat.le_refl _) _).setCell (Nat.le_refl _) _).setCell (Nat.le_refl _) _).setCell (Nat.le_refl _) _
set_option maxRecDepth 100000 in
set_option maxHeartbeats 400000 in
theorem settle0 (b : Int) (w : World) : Calls Try.prog 107 #[dv0, .int .i64 b] w fun e w' => e = .returned dv0 ∧ Below w.heap.size w w' := by
  unfold dv0
  go_enter Try.func107, Try.ntmps107
  go_wp2
  refine bodyPost_ret (v := .agg #[.bool false, .int .i64 0, .int .i64 0, .int .i64 0, .bool false]) (by simp [results, Try.results107, go_sem]) rfl ⟨rfl, ?_⟩
  exact ((Below.refl w.heap.size w).alloc (Nat.le_refl _) _).alloc (by simp) _
set_option maxRecDepth 100000 in
set_option maxHeartbeats 400000 in
theorem of0 (b : Int) (w : World) : Calls Try.prog 58 #[dv0, .int .i64 b] w fun e w' => e = .returned (.tuple #[.int .i64 0, .bool false]) ∧ Below w.heap.size w w' := by
  have hb0 := (Below.refl w.heap.size w).alloc (Nat.le_refl _) (.cells #[.bool false, .int .i64 0, .int .i64 0, .int .i64 0, .bool false] 100)
  have HB0 := Lib.hid hb0
  have HS := settle0 b (w.alloc (.cells #[.bool false, .int .i64 0, .int .i64 0, .int .i64 0, .bool false] 100))
  unfold dv0 at HS ⊢
  have HSe := Lib.hid HS
  clear hb0 HS
  go_enter Try.func58, Try.ntmps58
  go_wp2_with (go_at_call 107; refine HSe.out.mono ?_; rintro e w1 ⟨rfl, hb1⟩; have HB1 := Lib.hid (HB0.out.trans (hb1.mono HB0.out.size)); clear hb1)
  all_goals
    go_region
    all_goals
      go_wp2
      go_ret2
      exact ⟨rfl, (HB1.out.alloc HB1.out.size _).drew⟩
def two2 (a b : Int) : Nat → Int
  | 0 => a
  | _ => b
theorem il2 (a b : Int) (w : World) (t : TypeId) (ha : a < 2 ^ 63) (hb : b < 2 ^ 63) : Il (w.alloc (.cells #[.int .i64 a, .int .i64 b] t)) (some ⟨w.heap.size, 0, none⟩) 2 (two2 a b) := by
  refine ⟨fun i => by unfold two2; split <;> assumption, fun _ => ⟨w.heap.size, 0, rfl, by simp, fun i hi => ?_⟩⟩
  rcases (by omega : i = 0 ∨ i = 1) with rfl | rfl
  · rw [World.cell?_alloc_new]; rfl
  · rw [World.cell?_alloc_new]; rfl
end Go.Proofs.Ytedkhpnlhkjjgaa
