/- A store that no call made: Made, Get; what stands on it: cell.Row, delay.Get, Of, split.Set, Get, walked. -/
import Derived.Test.YtfoppgbbjmoofaaK2
import Derived.Test.YtfoppgbbjmoofaaK6
namespace Go.Proofs.Ytfoppgbbjmoofaa
open Go.RowKit

theorem hp_lt {w : World} {p : Nat} {o : Obj} (h : w.heap[p]? = some o) : p < w.heap.size := (Array.getElem?_eq_some_iff.1 h).1
theorem hp_cell {w : World} {p i : Nat} {cs : Array Value} {t : TypeId} {fr : Nat × Nat} (h : w.heap[p]? = some (.cells cs t fr)) : w.cell? ⟨p, i, none⟩ = cs[i]? := by
  simp [World.cell?, h]
theorem hp_free {w : World} {p i : Nat} {cs : Array Value} {t : TypeId} (h : w.heap[p]? = some (.cells cs t (0, 0))) : w.frozen? ⟨p, i, none⟩ = false := by
  simp [World.frozen?, h]
/-- nil, or a store without entries -/
def SDead (w : World) (p : Value) : Prop :=
  p = .pointer none ∨ ∃ b, p = .pointer (some ⟨b, 0, none⟩) ∧ b < w.heap.size ∧ w.cell? ⟨b, 0, none⟩ = some (.map none)
theorem SDead.below {w w' : World} {p : Value} (h : SDead w p) (hb : Below w.heap.size w w') : SDead w' p := by
  rcases h with h | ⟨b, h1, h2, h3⟩
  · exact .inl h
  · exact .inr ⟨b, h1, Nat.lt_of_lt_of_le h2 hb.size, by rw [hb.cell (p := ⟨b, 0, none⟩) h2]; exact h3⟩
set_option maxRecDepth 100000 in
set_option maxHeartbeats 400000 in
theorem made_dead (p : Value) (w : World) (h : SDead w p) : Calls Try.prog 40 #[p] w fun e w' => e = .returned (.bool false) ∧ w = w' := by
  rcases h with rfl | ⟨b, rfl, h2, h3⟩
  · go_enter Try.func40, Try.ntmps40
    go_wp2
    go_ret
    exact ⟨rfl, rfl⟩
  · have hm := fun w => run_neq_map_nil (P := Try.prog) w 27 _ _ none Try.underlying27
    go_enter Try.func40, Try.ntmps40
    go_wp2
    go_ret
    exact ⟨rfl, rfl⟩
set_option maxRecDepth 100000 in
set_option maxHeartbeats 400000 in
theorem sget_dead (p : Value) (k : ByteArray) (w : World) (h : SDead w p) : Calls Try.prog 63 #[p, .string k] w fun e w' => e = .returned (.tuple #[.string { data := #[] }, .bool false]) ∧ w = w' := by
  have HM := Lib.hid (made_dead p w h)
  clear h
  go_enter Try.func63, Try.ntmps63
  go_wp2_with (go_at_call 40; refine HM.out.mono ?_; rintro e w1 ⟨rfl, rfl⟩)
  go_ret2
  exact ⟨rfl, rfl⟩
theorem nums_none (w : World) : Calls Try.prog 88 #[.string { data := #[] }] w fun e w' => e = .returned (.tuple #[.slice (some ⟨w.heap.size, 0, none⟩) 0 0, .bool true]) ∧ Below w.heap.size w w' := by
  refine (nums_walk { data := #[] } 0 w rfl (by omega)).mono ?_
  rintro e w' ⟨⟨_, he, _⟩ | ⟨⟨i, hi, _⟩, _⟩, hb⟩
  · exact ⟨he, hb⟩
  · omega
set_option maxRecDepth 100000 in
set_option maxHeartbeats 400000 in
theorem numbers_dead (p : Value) (k : ByteArray) (w : World) (h : SDead w p) : Calls Try.prog 67 #[.func (Fn.func 63) #[p] #[], .string k] w fun e w' => e = .returned (.slice (some ⟨w.heap.size, 0, none⟩) 0 0) ∧ Below w.heap.size w w' := by
  have HG := Lib.hid (sget_dead p k w h)
  have HN := Lib.hid (nums_none w)
  clear h
  go_enter Try.func67, Try.ntmps67
  go_wp2_with (first
    | (go_at_call 88; refine HN.out.mono ?_; rintro e w1 ⟨rfl, hb⟩; have HB := Lib.hid hb; clear hb)
    | (go_at_call 63; refine HG.out.mono ?_; rintro e w1 ⟨rfl, rfl⟩))
  go_ret
  exact ⟨rfl, HB.out⟩
/-- delay's nothing -/
def dv0 : Value := .agg #[.bool false, .int .i64 0, .int .i64 0, .int .i64 0, .bool false]
def two2 (a b : Int) : Nat → Int
  | 0 => a
  | _ => b
theorem il2 (a b : Int) (w : World) (t : TypeId) (ha : a < 2 ^ 63) (hb : b < 2 ^ 63) : Il (w.alloc (.cells #[.int .i64 a, .int .i64 b] t)) (some ⟨w.heap.size, 0, none⟩) 2 (two2 a b) := by
  refine ⟨fun i => by unfold two2; split <;> assumption, fun _ => ⟨w.heap.size, 0, rfl, by simp, fun i hi => ?_⟩⟩
  rcases (by omega : i = 0 ∨ i = 1) with rfl | rfl
  · rw [World.cell?_alloc_new]; rfl
  · rw [World.cell?_alloc_new]; rfl
end Go.Proofs.Ytfoppgbbjmoofaa
