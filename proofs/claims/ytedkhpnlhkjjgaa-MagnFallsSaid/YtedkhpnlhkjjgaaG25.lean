/- muldiv.Down, Up, walked. -/
import Derived.Test.YtedkhpnlhkjjgaaG23
import Derived.Test.YtedkhpnlhkjjgaaG24
import Derived.Deep.RegionHeld3
namespace Go.Proofs.Ytedkhpnlhkjjgaa
open Go.RowKit Go.Sort

def qok (a b d : Nat) : Bool := decide (quoOk (a * b) d)
def qv (a b d : Nat) : Nat := if quoOk (a * b) d then a * b / d else 0
def qr (a b d : Nat) : Nat := if quoOk (a * b) d then a * b % d else 0
theorem mul_halves {a b : Nat} (ha : a < 2 ^ 256) (hb : b < 2 ^ 256) : a * b / 2 ^ 256 < 2 ^ 256 ∧ a * b % 2 ^ 256 < 2 ^ 256 ∧ a * b / 2 ^ 256 * 2 ^ 256 + a * b % 2 ^ 256 = a * b :=
  ⟨(Nat.div_lt_iff_lt_mul (by decide)).2 (Nat.mul_lt_mul'' ha hb), Nat.mod_lt _ (by decide), Nat.div_add_mod' _ _⟩

theorem Three.drewN {w wr : World} {a b c : Nat} (h : Three w wr a b c) (n : Nat) : Three w (wr.drewN n) a b c := ⟨h.a.drewN n, h.b.drewN n, h.c.drewN n, below_drewN h.l n, h.s⟩
/-- three numbers in boxes, and a box of noughts -/
structure Three0 (w wr : World) (a b c : Nat) : Prop where
  t : Three w wr a b c
  z : Arr .u64 wr (w.heap.size + 1 + 1 + 1) 4 (fun _ => 0)
  s : w.heap.size + 1 + 1 + 1 < wr.heap.size
theorem Three0.below {w wr w' : World} {a b c : Nat} (h : Three0 w wr a b c) (hb : Below wr.heap.size wr w') : Three0 w w' a b c := ⟨h.t.below hb, h.z.below hb h.s, Nat.lt_of_lt_of_le h.s hb.size⟩
theorem Three0.alloc {w wr : World} {a b c : Nat} (h : Three0 w wr a b c) (o : Obj) : Three0 w (wr.alloc o) a b c := ⟨h.t.alloc o, h.z.alloc o, by rw [World.size_alloc]; have := h.s; omega⟩
theorem Three0.drewN {w wr : World} {a b c : Nat} (h : Three0 w wr a b c) (n : Nat) : Three0 w (wr.drewN n) a b c := ⟨h.t.drewN n, h.z.drewN n, h.s⟩
theorem Three0.drew {w wr : World} {a b c : Nat} (h : Three0 w wr a b c) : Three0 w wr.drew a b c := h.drewN 1
theorem three0_first {a b d : Nat} {w : World} {t1 t2 t3 t4 : TypeId} :
    Three0 w ((((w.alloc (.cells #[.int .u64 (limb a 0 : Nat), .int .u64 (limb a 1 : Nat), .int .u64 (limb a 2 : Nat), .int .u64 (limb a 3 : Nat)] t1)).alloc (.cells #[.int .u64 (limb b 0 : Nat), .int .u64 (limb b 1 : Nat), .int .u64 (limb b 2 : Nat), .int .u64 (limb b 3 : Nat)] t2)).alloc (.cells #[.int .u64 (limb d 0 : Nat), .int .u64 (limb d 1 : Nat), .int .u64 (limb d 2 : Nat), .int .u64 (limb d 3 : Nat)] t3)).alloc (.cells #[.int .u64 0, .int .u64 0, .int .u64 0, .int .u64 0] t4)) a b d :=
  ⟨Three.alloc ⟨((Arr.new4 (f := limb a) rfl).alloc _).alloc _, (Arr.new4 (f := limb b) (by simp)).alloc _, Arr.new4 (f := limb d) (by simp), (((Below.refl _ _).alloc (Nat.le_refl _) _).alloc (by simp only [World.size_alloc]; omega) _).alloc (by simp only [World.size_alloc]; omega) _, by simp⟩ _,
   Arr.new4 (f := fun _ => 0) (by simp), by simp⟩

theorem Three0.put4 {w wr : World} {a b d L : Nat} {x0 x1 x2 x3 : Value} (h : Three0 w wr a b d) (hL : w.heap.size + 1 + 1 + 1 < L) :
    Three0 w ((((wr.setCell ⟨L, 0, none⟩ x0).setCell ⟨L, 1, none⟩ x1).setCell ⟨L, 2, none⟩ x2).setCell ⟨L, 3, none⟩ x3) a b d :=
  ⟨⟨h.t.a.put4_far (by omega), h.t.b.put4_far (by omega), h.t.c.put4_far (by omega), below_set4 h.t.l (by omega), by simp only [World.size_setCell]; exact h.t.s⟩, h.z.put4_far (by omega), by simp only [World.size_setCell]; exact h.s⟩
theorem held_of {w w' : World} {a b d : Nat} (h : Three0 w w' a b d) : w'.cell? ⟨w.heap.size, 0, none⟩ = some (.int .u64 (limb a 0 : Nat)) ∧ w'.cell? ⟨w.heap.size, 1, none⟩ = some (.int .u64 (limb a 1 : Nat)) ∧ w'.cell? ⟨w.heap.size, 2, none⟩ = some (.int .u64 (limb a 2 : Nat)) ∧ w'.cell? ⟨w.heap.size, 3, none⟩ = some (.int .u64 (limb a 3 : Nat)) ∧ w'.cell? ⟨w.heap.size + 1, 0, none⟩ = some (.int .u64 (limb b 0 : Nat)) ∧ w'.cell? ⟨w.heap.size + 1, 1, none⟩ = some (.int .u64 (limb b 1 : Nat)) ∧ w'.cell? ⟨w.heap.size + 1, 2, none⟩ = some (.int .u64 (limb b 2 : Nat)) ∧ w'.cell? ⟨w.heap.size + 1, 3, none⟩ = some (.int .u64 (limb b 3 : Nat)) ∧ w'.cell? ⟨w.heap.size + 1 + 1, 0, none⟩ = some (.int .u64 (limb d 0 : Nat)) ∧ w'.cell? ⟨w.heap.size + 1 + 1, 1, none⟩ = some (.int .u64 (limb d 1 : Nat)) ∧ w'.cell? ⟨w.heap.size + 1 + 1, 2, none⟩ = some (.int .u64 (limb d 2 : Nat)) ∧ w'.cell? ⟨w.heap.size + 1 + 1, 3, none⟩ = some (.int .u64 (limb d 3 : Nat)) ∧ Three0 w w' a b d := by
  obtain ⟨a0, a1, a2, a3⟩ := h.t.a.cells4
  obtain ⟨b0, b1, b2, b3⟩ := h.t.b.cells4
  obtain ⟨c0, c1, c2, c3⟩ := h.t.c.cells4
  exact ⟨a0, a1, a2, a3, b0, b1, b2, b3, c0, c1, c2, c3, h⟩
theorem un_held {w w' : World} {a b d : Nat} (h : w'.cell? ⟨w.heap.size, 0, none⟩ = some (.int .u64 (limb a 0 : Nat)) ∧ w'.cell? ⟨w.heap.size, 1, none⟩ = some (.int .u64 (limb a 1 : Nat)) ∧ w'.cell? ⟨w.heap.size, 2, none⟩ = some (.int .u64 (limb a 2 : Nat)) ∧ w'.cell? ⟨w.heap.size, 3, none⟩ = some (.int .u64 (limb a 3 : Nat)) ∧ w'.cell? ⟨w.heap.size + 1, 0, none⟩ = some (.int .u64 (limb b 0 : Nat)) ∧ w'.cell? ⟨w.heap.size + 1, 1, none⟩ = some (.int .u64 (limb b 1 : Nat)) ∧ w'.cell? ⟨w.heap.size + 1, 2, none⟩ = some (.int .u64 (limb b 2 : Nat)) ∧ w'.cell? ⟨w.heap.size + 1, 3, none⟩ = some (.int .u64 (limb b 3 : Nat)) ∧ w'.cell? ⟨w.heap.size + 1 + 1, 0, none⟩ = some (.int .u64 (limb d 0 : Nat)) ∧ w'.cell? ⟨w.heap.size + 1 + 1, 1, none⟩ = some (.int .u64 (limb d 1 : Nat)) ∧ w'.cell? ⟨w.heap.size + 1 + 1, 2, none⟩ = some (.int .u64 (limb d 2 : Nat)) ∧ w'.cell? ⟨w.heap.size + 1 + 1, 3, none⟩ = some (.int .u64 (limb d 3 : Nat)) ∧ Three0 w w' a b d) : Three0 w w' a b d := h.2.2.2.2.2.2.2.2.2.2.2.2

theorem carry0 {κ : IntKind} {w1 w2 : World} {L : Nat} {f : Nat → Nat} (h : Arr κ w1 L 4 f) (hb : Below w1.heap.size w1 w2) : Arr κ w2 L 4 f := h.below hb h.lt4
theorem carry1 {κ : IntKind} {w1 w2 : World} {o : Obj} {L : Nat} {f : Nat → Nat} (h : Arr κ w1 L 4 f) (hb : Below (w1.alloc o).heap.size (w1.alloc o) w2) : Arr κ w2 L 4 f := (h.alloc o).below hb (h.alloc o).lt4
theorem carry2 {κ : IntKind} {w1 w2 : World} {o o' : Obj} {L : Nat} {f : Nat → Nat} (h : Arr κ w1 L 4 f) (hb : Below ((w1.alloc o).alloc o').heap.size ((w1.alloc o).alloc o') w2) : Arr κ w2 L 4 f := ((h.alloc o).alloc o').below hb ((h.alloc o).alloc o').lt4
theorem z_one {w1 w2 : World} {t : TypeId} (hb : Below (w1.alloc (.cells #[.int .u64 0, .int .u64 0, .int .u64 0, .int .u64 0] t)).heap.size (w1.alloc (.cells #[.int .u64 0, .int .u64 0, .int .u64 0, .int .u64 0] t)) w2) : Arr .u64 w2 w1.heap.size 4 (fun _ => 0) :=
  Arr.below (Arr.new4 (f := fun _ => 0) rfl) hb (by rw [World.size_alloc]; omega)
theorem z_two {w1 w2 : World} {t t' : TypeId} (hb : Below ((w1.alloc (.cells #[.int .u64 0, .int .u64 0, .int .u64 0, .int .u64 0] t)).alloc (.cells #[.int .u64 0, .int .u64 0, .int .u64 0, .int .u64 0] t')).heap.size ((w1.alloc (.cells #[.int .u64 0, .int .u64 0, .int .u64 0, .int .u64 0] t)).alloc (.cells #[.int .u64 0, .int .u64 0, .int .u64 0, .int .u64 0] t')) w2) :
    Arr .u64 w2 w1.heap.size 4 (fun _ => 0) ∧ Arr .u64 w2 (w1.heap.size + 1) 4 (fun _ => 0) :=
  ⟨Arr.below ((Arr.new4 (f := fun _ => 0) rfl).alloc _) hb (by simp only [World.size_alloc]; omega), Arr.below (Arr.new4 (f := fun _ => 0) (by rw [World.size_alloc])) hb (by simp only [World.size_alloc]; omega)⟩


theorem z_one_d {w1 w2 : World} {t : TypeId} (hb : Below (w1.alloc (.cells #[.int .u64 0, .int .u64 0, .int .u64 0, .int .u64 0] t)).drew.heap.size (w1.alloc (.cells #[.int .u64 0, .int .u64 0, .int .u64 0, .int .u64 0] t)).drew w2) : Arr .u64 w2 w1.heap.size 4 (fun _ => 0) :=
  Arr.below (Arr.new4 (f := fun _ => 0) rfl).drew hb (by show w1.heap.size < (w1.alloc _).heap.size; rw [World.size_alloc]; omega)
theorem z_two_d {w1 w2 : World} {t t' : TypeId} (hb : Below ((w1.alloc (.cells #[.int .u64 0, .int .u64 0, .int .u64 0, .int .u64 0] t)).alloc (.cells #[.int .u64 0, .int .u64 0, .int .u64 0, .int .u64 0] t')).drew.heap.size ((w1.alloc (.cells #[.int .u64 0, .int .u64 0, .int .u64 0, .int .u64 0] t)).alloc (.cells #[.int .u64 0, .int .u64 0, .int .u64 0, .int .u64 0] t')).drew w2) :
    Arr .u64 w2 w1.heap.size 4 (fun _ => 0) ∧ Arr .u64 w2 (w1.heap.size + 1) 4 (fun _ => 0) :=
  ⟨Arr.below ((Arr.new4 (f := fun _ => 0) rfl).alloc _).drew hb (by show w1.heap.size < ((w1.alloc _).alloc _).heap.size; simp only [World.size_alloc]; omega), Arr.below (Arr.new4 (f := fun _ => 0) (by rw [World.size_alloc])).drew hb (by show w1.heap.size + 1 < ((w1.alloc _).alloc _).heap.size; simp only [World.size_alloc]; omega)⟩

def upVal (n d : Nat) : Nat := if n % d = 0 then n / d else n / d + 1
def upOk (n d : Nat) : Prop := d ≠ 0 ∧ upVal n d < 2 ^ 256
instance (n d : Nat) : Decidable (upOk n d) := by unfold upOk; infer_instance
def uok (a b d : Nat) : Bool := decide (upOk (a * b) d)
def uv (a b d : Nat) : Nat := if upOk (a * b) d then upVal (a * b) d else 0
end Go.Proofs.Ytedkhpnlhkjjgaa

namespace Go.Proofs.Ytedkhpnlhkjjgaa
open Go.RowKit Go.Sort

end Go.Proofs.Ytedkhpnlhkjjgaa

namespace Go.Proofs.Ytedkhpnlhkjjgaa
open Go.RowKit Go.Sort

theorem up_no {a b d : Nat} (h : ¬ quoOk (a * b) d) : uok a b d = false ∧ uv a b d = 0 ∧ qv a b d = 0 ∧ qok a b d = false := by
  have hn : ¬ upOk (a * b) d := fun hu => h ⟨hu.1, by have := hu.2; unfold upVal at this; split at this <;> omega⟩
  unfold uok uv qv qok
  rw [if_neg hn, if_neg h, decide_eq_false hn, decide_eq_false h]; exact ⟨rfl, rfl, rfl, rfl⟩
theorem up_even {a b d : Nat} (h : quoOk (a * b) d) (hr : a * b % d = 0) : uok a b d = true ∧ uv a b d = qv a b d ∧ qok a b d = true ∧ qr a b d = 0 := by
  have hu : upOk (a * b) d := ⟨h.1, by unfold upVal; rw [if_pos hr]; exact h.2⟩
  unfold uok uv qv qok qr
  rw [if_pos hu, if_pos h, if_pos h, decide_eq_true hu, decide_eq_true h]
  exact ⟨rfl, by unfold upVal; rw [if_pos hr], rfl, hr⟩
theorem up_odd {a b d : Nat} (h : quoOk (a * b) d) (hr : a * b % d ≠ 0) : uok a b d = addk (qv a b d) 1 ∧ uv a b d = addv (qv a b d) 1 ∧ qok a b d = true ∧ qr a b d ≠ 0 := by
  have e : upVal (a * b) d = a * b / d + 1 := by unfold upVal; rw [if_neg hr]
  have hu : upOk (a * b) d ↔ a * b / d + 1 < 2 ^ 256 := by unfold upOk; rw [e]; exact ⟨fun k => k.2, fun k => ⟨h.1, k⟩⟩
  unfold uok uv qv qok qr addk addv
  rw [if_pos h, if_pos h, decide_eq_true h, e]
  refine ⟨decide_eq_decide.2 hu, ?_, rfl, hr⟩
  by_cases hk : a * b / d + 1 < 2 ^ 256
  · rw [if_pos hk, if_pos (hu.2 hk)]
  · rw [if_neg hk, if_neg (fun hc => hk (hu.1 hc))]
theorem qv_lt (a b d : Nat) : qv a b d < 2 ^ 256 := by unfold qv; split; rename_i h; exact h.2; decide
theorem qr_lt {a b d : Nat} (hd : d < 2 ^ 256) : qr a b d < 2 ^ 256 := by unfold qr; split; rename_i h; exact Nat.lt_trans (Nat.mod_lt _ (Nat.pos_of_ne_zero h.1)) hd; decide
theorem uv_lt (a b d : Nat) : uv a b d < 2 ^ 256 := by unfold uv; split; rename_i h; exact h.2; decide
theorem of1_c (w : World) : Calls Try.prog 105 #[.int .u64 1] w fun e w' => e = .returned (.agg #[.int .u64 1, .int .u64 0, .int .u64 0, .int .u64 0]) ∧ Below w.heap.size w w' := by
  have h := of_walk 1 w
  exact h.mono fun e w' ⟨he, hw⟩ => ⟨by rw [he]; rfl, hw⟩
theorem add1_c (a : Nat) (w : World) (ha : a < 2 ^ 256) : Calls Try.prog 97 #[U a, .agg #[.int .u64 1, .int .u64 0, .int .u64 0, .int .u64 0]] w fun e w' => e = .returned (.tuple #[U (addv a 1), .bool (addk a 1)]) ∧ Below w.heap.size w w' := by
  have h := add_c a 1 w ha (by decide)
  rw [U_small (n := 1) (by decide)] at h
  exact h

end Go.Proofs.Ytedkhpnlhkjjgaa
