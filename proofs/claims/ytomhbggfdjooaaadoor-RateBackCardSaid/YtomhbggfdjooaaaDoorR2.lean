/- tallageref01.Of, walked. -/
import Derived.Test.YtomhbggfdjooaaaDoorR1
import Derived.Deep.RegionHeld3
import Derived.Deep.AppendLies
namespace Go.Proofs.YtomhbggfdjooaaaDoor
open Go.RowKit Go.Sort

theorem infoU32 : (Tryd.prog.info? 53).map (fun i => (i.zero, i.size, i.bytes)) = some (some (.int .u32 0), 1, 4) := by kernel_rfl
theorem own_below {B : Nat} {e : TypeId} {k : Nat} {v : Value} {n : Nat} {xs : List Value} {w w' : World} (h : w.ownsRow B e k v n xs) (hb : Below w.heap.size w w') : w'.ownsRow B e k v n xs :=
  h.kept (row := none) ⟨hb.os, hb.tape, hb.output, hb.size, fun j hj _ => hb.block j hj⟩ (by cases hv : v.ownBlock <;> simp)
/-- the values of k words -/
def u32s (f : Nat → Nat) (k : Nat) : List Value := (List.range k).map fun i => Value.int .u32 (f i : Nat)
theorem u32s_succ (f : Nat → Nat) (k : Nat) : u32s f (k + 1) = u32s f k ++ [.int .u32 (f k : Nat)] := by simp [u32s, List.range_succ]
theorem u32s_get {f : Nat → Nat} {k i : Nat} (h : i < k) : (u32s f k)[i]? = some (.int .u32 (f i : Nat)) := by simp [u32s, h]
theorem u32s_congr {f g : Nat → Nat} {k : Nat} (h : ∀ i, i < k → f i = g i) : u32s f k = u32s g k := by
  unfold u32s; refine List.map_congr_left fun i hi => ?_; rw [h i (List.mem_range.1 hi)]
theorem own_Ws {w : World} {B e : Nat} {v : Value} {n : Nat} {f : Nat → Nat} (hf : ∀ i, f i < 2 ^ 32) (h : w.ownsRow B e 1 v n (u32s f n)) : Ws w v n f := by
  refine ⟨hf, ?_⟩
  rcases h.2 with ⟨rfl, rfl⟩ | ⟨g, cap, cur, rfl, hb, hg, r⟩
  · exact .inl ⟨rfl, rfl⟩
  · refine .inr ⟨g, 0, cap, rfl, ?_, lt_of_block hg, fun i hi => ?_⟩
    · exact r.1
    · rw [Nat.zero_add, h.cellAt i (by omega), u32s_get hi]
theorem own_ne {w : World} {B e k n : Nat} {v : Value} {xs : List Value} (h : w.ownsRow B e k v n xs) {b : Nat} (hb : b < B) : v.ownBlock ≠ some b := by
  rcases h.2 with ⟨rfl, rfl⟩ | ⟨g, cap, cur, rfl, hB, hg, r⟩
  · simp [Value.ownBlock]
  · simp [Value.ownBlock]; omega
/-- v is a number of at most m words, without noughts above -/
def NatV (w : World) (v : Value) (N m : Nat) : Prop := ∃ n f, n ≤ m ∧ Ws w v n f ∧ nval f n = N ∧ Trimmed n f
theorem NatV.below {w w' : World} {v : Value} {N m : Nat} (h : NatV w v N m) (hb : Below w.heap.size w w') : NatV w' v N m := by
  obtain ⟨n, f, h1, h2, h3, h4⟩ := h
  exact ⟨n, f, h1, h2.below hb, h3, h4⟩
theorem w32_lo (a k : Nat) : IntKind.u32.wrap ((limb a k : Nat) : Int) = ((w32 a (2 * k) : Nat) : Int) := by
  rw [IntKind.wrap_u32]
  unfold limb w32
  rw [show 32 * (2 * k) = 64 * k by omega]
  omega
theorem w32_hi (a k : Nat) : IntKind.u32.wrap ((limb a k : Nat) / 4294967296 : Int) = ((w32 a (2 * k + 1) : Nat) : Int) := by
  rw [IntKind.wrap_u32]
  have e : w32 a (2 * k + 1) = a / 2 ^ (64 * k) / 2 ^ 32 % 2 ^ 32 := by unfold w32; rw [Nat.div_div_eq_div_mul, ← Nat.pow_add]; congr 3; omega
  rw [e]
  unfold limb
  omega
theorem own_ge {w : World} {B e k n : Nat} {v : Value} {xs : List Value} (h : w.ownsRow B e k v n xs) : ∀ j, v.ownBlock = some j → B ≤ j := by
  intro j hj
  rcases h.2 with ⟨rfl, rfl⟩ | ⟨g, cap, cur, rfl, hB, hg, r⟩
  · simp [Value.ownBlock] at hj
  · simp [Value.ownBlock] at hj; omega
theorem Arr.grown {κ : IntKind} {w w' : World} {b n : Nat} {f : Nat → Nat} {row : Option Nat} (h : Arr κ w b n f) (hg : w.grownBy w' row) (hb : b < w.heap.size) (hne : row ≠ some b) : Arr κ w' b n f :=
  ⟨fun i hi => by rw [hg.cell_far ⟨b, i, none⟩ hb (Ne.symm hne)]; exact h.cell i hi, fun i hi => by rw [hg.frozen_far ⟨b, i, none⟩ hb (Ne.symm hne)]; exact h.free i hi⟩
def OfRel (a : Nat) (w : World) (x y : Value) (wr : World) : Prop :=
  ∃ k : Nat, k ≤ 4 ∧ y = .int .i64 (k : Nat) ∧ wr.ownsRow (w.heap.size + 1) 53 1 x (2 * k) (u32s (w32 a) (2 * k)) ∧ Arr .u64 wr w.heap.size 4 (limb a) ∧ Below w.heap.size w wr ∧ w.heap.size < wr.heap.size
def NatPost (N m : Nat) (w : World) (e : Ending) (w' : World) : Prop := (∃ v, e = .returned v ∧ NatV w' v N m) ∧ Below w.heap.size w w'

set_option maxRecDepth 100000 in
set_option maxHeartbeats 2000000 in
theorem ofn_walk (a : Nat) (w : World) (ha : a < 2 ^ 256) : Calls Tryd.prog 26 #[U a] w (NatPost a 8 w) := by
  obtain ⟨i0, hi, hz0, hz1, hz2⟩ := info_parts infoU32
  have Ha := Lib.hid ha
  clear ha
  unfold U
  go_enter Tryd.func26, Tryd.ntmps26
  go_wp2
  go_loopw [3, 4] (OfRel a w) (fun _ y _ => 4 - (intOf y).toNat)
  case atStart =>
    exact ⟨0, by omega, rfl, World.ownsRow_nil _ _ _ _, Arr.new4 (f := limb a) rfl, (Below.refl _ _).alloc (Nat.le_refl _) _, by simp⟩
  case round =>
    obtain ⟨k, hk, rfl, hown, hb, hbel, hsz⟩ := hrel
    by_cases hlt : k < 4
    · have c1 := hb.cell k hlt
      have r1 := w32_lo a k
      have r2 := w32_hi a k
      have hne := own_ne hown (show w.heap.size < w.heap.size + 1 by omega)
      go_wp2
      go_region_held3 (fun w' => w'.cell? ⟨w.heap.size, k, none⟩ = some (.int .u64 (limb a k : Nat)))
        (first
          | go_keep
          | (rw [hgrow.cell_far _ (by show w.heap.size < (wr.alloc _).heap.size; rw [World.size_alloc]; omega) (Ne.symm hne)]; exact ((hb.alloc _).drew).cell k hlt))
        ((refine step_append_lies _ (by rfl) _ _ _ (by rfl) (w.heap.size + 1) 53 i0 _ 1 4 Tryd.underlying42 hi hz0 hz1 hz2 rfl (by omega) _ (2 * k) (u32s (w32 a) (2 * k)) (by rfl) ((hown.alloc _).drew)
             ⟨wr.heap.size, 0, none⟩ 2 2 [.int .u32 (w32 a (2 * k) : Nat), .int .u32 (w32 a (2 * k + 1) : Nat)] (by rfl) (by rfl) (World.news_of_block (cs := #[.int .u32 (w32 a (2 * k) : Nat), .int .u32 (w32 a (2 * k + 1) : Nat)]) (t := 53) (fr := (0, 0)) (heap_alloc_new wr _)) (by simp [Value.oneCell'])
             (by omega) (by unfold maxLen; omega) (by omega) (by simp; omega) (wr.heap.size + 1) (by simp) ?_; intro gg cap w1 hown1 hgrow hat hlt1))
      go_wp2
      go_roundw
      case rel =>
        have hsz2 : w.heap.size < ((wr.alloc (.cells #[.int .u32 (w32 a (2 * k) : Nat), .int .u32 (w32 a (2 * k + 1) : Nat)] 53)).drew).heap.size := by
          show w.heap.size < (wr.alloc _).heap.size; rw [World.size_alloc]; omega
        refine ⟨k + 1, by omega, by go_num, ?_, ((hb.alloc _).drew).grown hgrow hsz2 hne, ?_, Nat.lt_of_lt_of_le hsz2 hgrow.size⟩
        · rw [show 2 * (k + 1) = 2 * k + 1 + 1 by omega, u32s_succ, u32s_succ, List.append_assoc]; exact hown1
        · exact (below_drewN (hbel.alloc (Nat.le_of_lt hsz) _) 1).grown hgrow (Nat.le_of_lt hsz2) (fun j hj => by have := own_ge hown j hj; omega)
      case measure => simp [intOf]; omega
    · obtain rfl : k = 4 := by omega
      have hws := own_Ws (w32_lt a) hown
      have hv : nval (w32 a) (2 * 4) = a := by rw [nval_w32]; exact Nat.mod_eq_of_lt Ha.out
      have Hws := Lib.hid hws
      have Hv := Lib.hid hv
      clear hown hb hws hv
      go_wp2_with (go_at_call 40; refine (trim_walk _ _ _ _ Hws.out (by omega)).mono ?_; rintro e w' ⟨v, n, rfl, hn, hw, hnv, htr, rfl⟩)
      go_ret
      exact ⟨⟨v, rfl, n, w32 a, hn, hw, by rw [hnv]; exact Hv.out, htr⟩, hbel⟩
end Go.Proofs.YtomhbggfdjooaaaDoor
