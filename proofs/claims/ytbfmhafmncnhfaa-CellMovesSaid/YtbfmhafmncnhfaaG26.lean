/- tallageref01.Of, walked. -/
import Derived.Test.YtbfmhafmncnhfaaG25
import Derived.Deep.RegionHeld3
import Derived.Deep.AppendLies
namespace Go.Proofs.Ytbfmhafmncnhfaa
open Go.RowKit Go.Sort

theorem infoU32 : (Try.prog.info? 126).map (fun i => (i.zero, i.size, i.bytes)) = some (some (.int .u32 0), 1, 4) := by kernel_rfl
theorem own_below {B : Nat} {e : TypeId} {k : Nat} {v : Value} {n : Nat} {xs : List Value} {w w' : World} (h : w.ownsRow B e k v n xs) (hb : Below w.heap.size w w') : w'.ownsRow B e k v n xs :=
  h.kept (row := none) ⟨hb.os, hb.tape, hb.output, hb.size, fun j hj _ => hb.block j hj⟩ (by cases hv : v.ownBlock <;> simp)
/-- the values of k words -/
def u32s (f : Nat → Nat) (k : Nat) : List Value := (List.range k).map fun i => Value.int .u32 (f i : Nat)
theorem u32s_succ (f : Nat → Nat) (k : Nat) : u32s f (k + 1) = u32s f k ++ [.int .u32 (f k : Nat)] := by simp [u32s, List.range_succ]
theorem u32s_get {f : Nat → Nat} {k i : Nat} (h : i < k) : (u32s f k)[i]? = some (.int .u32 (f i : Nat)) := by simp [u32s, h]
theorem u32s_congr {f g : Nat → Nat} {k : Nat} (h : ∀ i, i < k → f i = g i) : u32s f k = u32s g k := by
  unfold u32s; refine List.map_congr_left fun i hi => ?_; rw [h i (List.mem_range.1 hi)]
theorem own_Ws {w : World} {B e : Nat} {v : Value} {n : Nat} {f : Nat → Nat} (hf : ∀ i, f i < 2 ^ 32) (h : w.ownsRow B e 1 v n (u32s f n)) : Ws w v n f := by
  refine ⟨hf, ?_⟩
  rcases h.2 with ⟨rfl, rfl⟩ | ⟨g, cap, cur, rfl, hb, hg, r⟩
  · exact .inl ⟨rfl, rfl⟩
  · refine .inr ⟨g, 0, cap, rfl, ?_, lt_of_block hg, fun i hi => ?_⟩
    · exact r.1
    · rw [Nat.zero_add, h.cellAt i (by omega), u32s_get hi]
theorem own_ne {w : World} {B e k n : Nat} {v : Value} {xs : List Value} (h : w.ownsRow B e k v n xs) {b : Nat} (hb : b < B) : v.ownBlock ≠ some b := by
  rcases h.2 with ⟨rfl, rfl⟩ | ⟨g, cap, cur, rfl, hB, hg, r⟩
  · simp [Value.ownBlock]
  · simp [Value.ownBlock]; omega
/-- v is a number of at most m words, without noughts above -/
def NatV (w : World) (v : Value) (N m : Nat) : Prop := ∃ n f, n ≤ m ∧ Ws w v n f ∧ nval f n = N ∧ Trimmed n f
theorem NatV.below {w w' : World} {v : Value} {N m : Nat} (h : NatV w v N m) (hb : Below w.heap.size w w') : NatV w' v N m := by
  obtain ⟨n, f, h1, h2, h3, h4⟩ := h
  exact ⟨n, f, h1, h2.below hb, h3, h4⟩
theorem w32_lo (a k : Nat) : IntKind.u32.wrap ((limb a k : Nat) : Int) = ((w32 a (2 * k) : Nat) : Int) := by
  rw [IntKind.wrap_u32]
  unfold limb w32
  rw [show 32 * (2 * k) = 64 * k by omega]
  omega
theorem w32_hi (a k : Nat) : IntKind.u32.wrap ((limb a k : Nat) / 4294967296 : Int) = ((w32 a (2 * k + 1) : Nat) : Int) := by
  rw [IntKind.wrap_u32]
  have e : w32 a (2 * k + 1) = a / 2 ^ (64 * k) / 2 ^ 32 % 2 ^ 32 := by unfold w32; rw [Nat.div_div_eq_div_mul, ← Nat.pow_add]; congr 3; omega
  rw [e]
  unfold limb
  omega
theorem own_ge {w : World} {B e k n : Nat} {v : Value} {xs : List Value} (h : w.ownsRow B e k v n xs) : ∀ j, v.ownBlock = some j → B ≤ j := by
  intro j hj
  rcases h.2 with ⟨rfl, rfl⟩ | ⟨g, cap, cur, rfl, hB, hg, r⟩
  · simp [Value.ownBlock] at hj
  · simp [Value.ownBlock] at hj; omega
theorem Arr.grown {κ : IntKind} {w w' : World} {b n : Nat} {f : Nat → Nat} {row : Option Nat} (h : Arr κ w b n f) (hg : w.grownBy w' row) (hb : b < w.heap.size) (hne : row ≠ some b) : Arr κ w' b n f :=
  ⟨fun i hi => by rw [hg.cell_far ⟨b, i, none⟩ hb (Ne.symm hne)]; exact h.cell i hi, fun i hi => by rw [hg.frozen_far ⟨b, i, none⟩ hb (Ne.symm hne)]; exact h.free i hi⟩
def OfRel (a : Nat) (w : World) (x y : Value) (wr : World) : Prop :=
  ∃ k : Nat, k ≤ 4 ∧ y = .int .i64 (k : Nat) ∧ wr.ownsRow (w.heap.size + 1) 126 1 x (2 * k) (u32s (w32 a) (2 * k)) ∧ Arr .u64 wr w.heap.size 4 (limb a) ∧ Below w.heap.size w wr ∧ w.heap.size < wr.heap.size
def NatPost (N m : Nat) (w : World) (e : Ending) (w' : World) : Prop := (∃ v, e = .returned v ∧ NatV w' v N m) ∧ Below w.heap.size w w'

set_option maxRecDepth 100000 in
set_option maxHeartbeats 2000000 in
theorem ofn_walk (a : Nat) (w : World) (ha : a < 2 ^ 256) : Calls Try.prog 56 #[U a] w (NatPost a 8 w) := by
  obtain ⟨i0, hi, hz0, hz1, hz2⟩ := info_parts infoU32
  have Ha := Lib.hid ha
  clear ha
  unfold U
  go_enter Try.func56, Try.ntmps56
  go_wp2
  go_loopw [3, 4] (OfRel a w) (fun _ y _ => 4 - (intOf y).toNat)
  case atStart =>
    exact ⟨0, by omega, rfl, World.ownsRow_nil _ _ _ _, Arr.new4 (f := limb a) rfl, (Below.refl _ _).alloc (Nat.le_refl _) _, by simp⟩
  case round =>
    obtain ⟨k, hk, rfl, hown, hb, hbel, hsz⟩ := hrel
    by_cases hlt : k < 4
    · have c1 := hb.cell k hlt
      have r1 := w32_lo a k
      have r2 := w32_hi a k
      have hne := own_ne hown (show w.heap.size < w.heap.size + 1 by omega)
      go_wp2
      go_region_held3 (fun w' => w'.cell? ⟨w.heap.size, k, none⟩ = some (.int .u64 (limb a k : Nat)))
        (first
          | go_keep
          | (rw [hgrow.cell_far _ (by show w.heap.size < (wr.alloc _).heap.size; rw [World.size_alloc]; omega) (Ne.symm hne)]; exact ((hb.alloc _).drew).cell k hlt))
        ((refine step_append_lies _ (by rfl) _ _ _ (by rfl) (w.heap.size + 1) 126 i0 _ 1 4 Try.underlying98 hi hz0 hz1 hz2 rfl (by omega) _ (2 * k) (u32s (w32 a) (2 * k)) (by rfl) ((hown.alloc _).drew)
             ⟨wr.heap.size, 0, none⟩ 2 2 [.int .u32 (w32 a (2 * k) : Nat), .int .u32 (w32 a (2 * k + 1) : Nat)] (by rfl) (by rfl) (World.news_of_block (cs := #[.int .u32 (w32 a (2 * k) : Nat), .int .u32 (w32 a (2 * k + 1) : Nat)]) (t := 126) (fr := (0, 0)) (heap_alloc_new wr _)) (by simp [Value.oneCell'])
             (by omega) (by unfold maxLen; omega) (by omega) (by simp; omega) (wr.heap.size + 1) (by simp) ?_; intro gg cap w1 hown1 hgrow hat hlt1))
      go_wp2
      go_roundw
      case rel =>
        have hsz2 : w.heap.size < ((wr.alloc (.cells #[.int .u32 (w32 a (2 * k) : Nat), .int .u32 (w32 a (2 * k + 1) : Nat)] 126)).drew).heap.size := by
          show w.heap.size < (wr.alloc _).heap.size; rw [World.size_alloc]; omega
        refine ⟨k + 1, by omega, by go_num, ?_, ((hb.alloc _).drew).grown hgrow hsz2 hne, ?_, Nat.lt_of_lt_of_le hsz2 hgrow.size⟩
        · rw [show 2 * (k + 1) = 2 * k + 1 + 1 by omega, u32s_succ, u32s_succ, List.append_assoc]; exact hown1
        · exact (below_drewN (hbel.alloc (Nat.le_of_lt hsz) _) 1).grown hgrow (Nat.le_of_lt hsz2) (fun j hj => by have := own_ge hown j hj; omega)
      case measure => simp [intOf]; omega
    · obtain rfl : k = 4 := by omega
      have hws := own_Ws (w32_lt a) hown
      have hv : nval (w32 a) (2 * 4) = a := by rw [nval_w32]; exact Nat.mod_eq_of_lt Ha.out
      have Hws := Lib.hid hws
      have Hv := Lib.hid hv
      clear hown hb hws hv
      go_wp2_with (go_at_call 76; refine (trim_walk _ _ _ _ Hws.out (by omega)).mono ?_; rintro e w' ⟨v, n, rfl, hn, hw, hnv, htr, rfl⟩)
      go_ret
      exact ⟨⟨v, rfl, n, w32 a, hn, hw, by rw [hnv]; exact Hv.out, htr⟩, hbel⟩
end Go.Proofs.Ytbfmhafmncnhfaa

namespace Go.Proofs.Ytbfmhafmncnhfaa
open Go.RowKit Go.Sort

theorem one32 (w : World) (x : Int) (t : TypeId) : ∀ j u, ([.int .u32 x] : List Value)[j]? = some u → (w.alloc (.cells #[.int .u32 x] t)).cell? ((⟨w.heap.size, 0, none⟩ : Addr).add j) = some u := by
  intro j u h
  match j, h with
  | 0, h => simp at h; subst h; simp [Addr.add]
theorem one32' (x : Int) : ∀ u ∈ ([.int .u32 x] : List Value), u.oneCell' = true := fun u hu => by simp at hu; subst hu; rfl
theorem Ws.open_ {w : World} {v : Value} {n : Nat} {f : Nat → Nat} (h : Ws w v n f) : ∃ A c, v = .slice A n c ∧ (0 < n → ∃ g o, A = some ⟨g, o, none⟩ ∧ g < w.heap.size ∧ ∀ i, i < n → w.cell? ⟨g, o + i, none⟩ = some (.int .u32 (f i : Nat))) := by
  rcases h.at_ with ⟨rfl, rfl⟩ | ⟨g, o, c, rfl, hc, hg, hx⟩
  · exact ⟨none, 0, rfl, fun h => absurd h (by omega)⟩
  · exact ⟨_, c, rfl, fun _ => ⟨g, o, rfl, hg, hx⟩⟩
/-- a word, or nought behind the end -/
def padw (f : Nat → Nat) (n : Nat) : Nat → Nat := fun i => if i < n then f i else 0
theorem padw_lt {f : Nat → Nat} (hf : ∀ i, f i < 2 ^ 32) (n : Nat) : ∀ i, padw f n i < 2 ^ 32 := fun i => by unfold padw; split; exact hf i; decide
theorem nval_pad (f : Nat → Nat) {n k : Nat} (h : n ≤ k) : nval (padw f n) k = nval f n := by
  rw [nval_top (f := padw f n) h (fun i h1 _ => by unfold padw; rw [if_neg (by omega)])]
  exact nval_congr n fun i hi => by unfold padw; rw [if_pos hi]
theorem nval_upd (h : Nat → Nat) (k v : Nat) : nval (upd h k v) (k + 1) = nval h k + v * 2 ^ (32 * k) := by
  simp only [nval]; rw [upd_same]; congr 1; exact nval_congr k fun i hi => upd_ne h (by omega)
theorem u32s_upd (h : Nat → Nat) (k v : Nat) : u32s (upd h k v) (k + 1) = u32s h k ++ [.int .u32 (v : Nat)] := by
  rw [u32s_succ, upd_same]; congr 1; exact u32s_congr fun i hi => upd_ne h (by omega)

def PlusRel (n m : Nat) (f g : Nat → Nat) (w : World) (x y z : Value) (wr : World) : Prop :=
  ∃ (k c : Nat) (h : Nat → Nat), z = .int .i64 (k : Nat) ∧ y = .int .u64 (c : Nat) ∧ c ≤ 1 ∧ k ≤ max n m + 1 ∧ (k = max n m + 1 → c = 0) ∧ (∀ i, h i < 2 ^ 32) ∧
    nval h k + c * 2 ^ (32 * k) = nval (padw f n) k + nval (padw g m) k ∧ wr.ownsRow w.heap.size 126 1 x k (u32s h k) ∧ Below w.heap.size w wr
theorem plus_next {n m k c lo hi X : Nat} {f g h : Nat → Nat} {w wr : World} {x : Value} (hf : ∀ i, f i < 2 ^ 32) (hg : ∀ i, g i < 2 ^ 32) (hc : c ≤ 1) (hk : k ≤ max n m) (hlast : k = max n m → padw f n k = 0 ∧ padw g m k = 0)
    (hh : ∀ i, h i < 2 ^ 32) (hv : nval h k + c * 2 ^ (32 * k) = nval (padw f n) k + nval (padw g m) k) (hX : X = c + padw f n k + padw g m k) (hlo : lo = X % 4294967296) (hhi : hi = X / 4294967296)
    (hown : wr.ownsRow w.heap.size 126 1 x (k + 1) (u32s h k ++ [.int .u32 (lo : Nat)])) (hbel : Below w.heap.size w wr) : PlusRel n m f g w x (.int .u64 (hi : Nat)) (.int .i64 ((k + 1 : Nat) : Int)) wr := by
  have h1 := padw_lt hf n k
  have h2 := padw_lt hg m k
  refine ⟨k + 1, hi, upd h k lo, rfl, rfl, by omega, by omega, fun e => ?_, upd_lt hh (by omega), ?_, ?_, hbel⟩
  · have := hlast (by omega)
    omega
  · rw [nval_upd, pow_succ32]
    simp only [nval]
    have e : lo + hi * 2 ^ 32 = c + padw f n k + padw g m k := by omega
    have e2 := congrArg (· * 2 ^ (32 * k)) e
    simp only [Nat.add_mul, Nat.mul_assoc] at e2
    omega
  · rw [u32s_upd]; exact hown

set_option maxRecDepth 100000 in
set_option maxHeartbeats 4000000 in
theorem plus_walk (va vb : Value) (n m : Nat) (f g : Nat → Nat) (w : World) (ha : Ws w va n f) (hb : Ws w vb m g) (hn : n ≤ 50) (hm : m ≤ 50) :
    Calls Try.prog 55 #[va, vb] w (NatPost (nval f n + nval g m) (max n m + 1) w) := by
  obtain ⟨i0, hi, hz0, hz1, hz2⟩ := info_parts infoU32
  obtain ⟨A, ca, rfl, oa⟩ := ha.open_
  obtain ⟨B, cb, rfl, ob⟩ := hb.open_
  have Hf := Lib.hid ha.small
  have Hg := Lib.hid hb.small
  have Oa := Lib.hid oa
  have Ob := Lib.hid ob
  clear ha hb oa ob
  go_enter Try.func55, Try.ntmps55
  go_wp2
  go_loopw [5, 6, 7] (PlusRel n m f g w) (fun _ y z _ => 2 * (51 - (intOf z).toNat) + (intOf y).toNat)
  case atStart =>
    exact ⟨0, 0, fun _ => 0, rfl, rfl, by omega, by omega, fun _ => rfl, by simp, by simp [nval], World.ownsRow_nil _ _ _ _, Below.refl _ _⟩
  case round =>
    obtain ⟨k, c, h, rfl, rfl, hc, hkm, hlast, hh, hv, hown, hbel⟩ := hrel
    have Hh := Lib.hid hh
    have Hv := Lib.hid hv
    have Hlast := Lib.hid hlast
    have hsz := hbel.size
    clear hh hv hlast
    obtain ⟨X, hX⟩ : ∃ X, X = c + padw f n k + padw g m k := ⟨_, rfl⟩
    obtain ⟨lo, hlo⟩ : ∃ X', X' = X % 4294967296 := ⟨_, rfl⟩
    obtain ⟨hi', hhi⟩ : ∃ X', X' = X / 4294967296 := ⟨_, rfl⟩
    have hXl : X < 2 ^ 33 := by have := padw_lt Hf.out n k; have := padw_lt Hg.out m k; omega
    have s3 : IntKind.u32.wrap (X : Int) = (lo : Int) := by rw [IntKind.wrap_u32]; omega
    have s4 : (X : Int) / 4294967296 = (hi' : Int) := by omega
    have HX := Lib.hid hX
    have Hlo := Lib.hid hlo
    have Hhi := Lib.hid hhi
    have HXl := Lib.hid hXl
    have Hms := Lib.hid (show (2 * (51 - (k + 1)) + hi' < 2 * (51 - k) + c ∨ 51 ≤ k) by omega) 
    clear hX hlo hhi hXl
    by_cases h1 : k < n
    · have q1 : (k : Int) < (n : Int) := by omega
      obtain ⟨ga, ofa, rfl, hga, hxa⟩ := Oa.out (by omega)
      have ca1 : wr.cell? ⟨ga, ofa + k, none⟩ = some (.int .u32 (f k : Nat)) := by rw [hbel.cell (p := ⟨ga, ofa + k, none⟩) hga]; exact hxa k h1
      have pa : padw f n k = f k := by unfold padw; rw [if_pos h1]
      have fk := Hf.out k
      have s0 : IntKind.u64.wrap ((f k : Nat) : Int) = ((f k : Nat) : Int) := wrap_u64 (by omega)
      obtain ⟨x1, hx1⟩ : ∃ x, x = c + f k := ⟨_, rfl⟩
      have s1 : IntKind.u64.wrap ((c : Int) + (f k : Nat)) = (x1 : Int) := by rw [← Int.natCast_add, ← hx1, wrap_u64 (by omega)]
      have Hx1 := Lib.hid hx1
      have Hpa := Lib.hid pa
      clear hxa hx1 pa fk
      by_cases h2 : k < m
      · have q2 : (k : Int) < (m : Int) := by omega
        obtain ⟨gb, ofb, rfl, hgb, hxb⟩ := Ob.out (by omega)
        have cb1 : wr.cell? ⟨gb, ofb + k, none⟩ = some (.int .u32 (g k : Nat)) := by rw [hbel.cell (p := ⟨gb, ofb + k, none⟩) hgb]; exact hxb k h2
        have s0' : IntKind.u64.wrap ((g k : Nat) : Int) = ((g k : Nat) : Int) := wrap_u64 (by have := Hg.out k; omega)
        have pb : X = x1 + g k := by rw [HX.out, Hpa.out, Hx1.out]; unfold padw; rw [if_pos h2]
        have s2 : IntKind.u64.wrap ((x1 : Int) + (g k : Nat)) = (X : Int) := by rw [← Int.natCast_add, ← pb, wrap_u64 (by have := HXl.out; omega)]
        clear hxb pb
        go_wp2_with (at_builtin; refine wpList_append_own _ rfl (.tmp 48) (.tmp 51) _ rfl w.heap.size 126 i0 (.int .u32 0) 1 4 Try.underlying98 hi hz0 hz1 hz2 rfl (by omega) _ k (u32s h k) rfl (hown.alloc _) ⟨wr.heap.size, 0, none⟩ 1 1 [.int .u32 (lo : Nat)] rfl rfl (one32 _ _ _) (one32' _) (by unfold maxLen; omega) (by omega) (by simp only [World.size_alloc]; omega) ?_; intro v3 w3 hown3 hg3 _)
        go_roundw
        case rel =>
          exact plus_next Hf.out Hg.out hc (by omega) (fun e => by omega) Hh.out Hv.out HX.out Hlo.out Hhi.out hown3 ((hbel.alloc hsz _).grown hg3 (by simp only [World.size_alloc]; omega) (own_ge hown))
        case measure => have hms := Hms.out; simp [intOf]; omega
      · have q2 : ¬ (k : Int) < (m : Int) := by omega
        have pb : X = x1 := by rw [HX.out, Hpa.out, Hx1.out]; unfold padw; rw [if_neg h2]; rfl
        have Hpb := Lib.hid pb
        rw [pb] at s3 s4
        clear pb
        go_wp2_with (at_builtin; refine wpList_append_own _ rfl (.tmp 48) (.tmp 51) _ rfl w.heap.size 126 i0 (.int .u32 0) 1 4 Try.underlying98 hi hz0 hz1 hz2 rfl (by omega) _ k (u32s h k) rfl (hown.alloc _) ⟨wr.heap.size, 0, none⟩ 1 1 [.int .u32 (lo : Nat)] rfl rfl (one32 _ _ _) (one32' _) (by unfold maxLen; omega) (by omega) (by simp only [World.size_alloc]; omega) ?_; intro v3 w3 hown3 hg3 _)
        go_roundw
        case rel =>
          exact plus_next Hf.out Hg.out hc (by omega) (fun e => by omega) Hh.out Hv.out HX.out Hlo.out Hhi.out hown3 ((hbel.alloc hsz _).grown hg3 (by simp only [World.size_alloc]; omega) (own_ge hown))
        case measure => have hms := Hms.out; simp [intOf]; omega
    · have q1 : ¬ (k : Int) < (n : Int) := by omega
      have pa : padw f n k = 0 := by unfold padw; rw [if_neg h1]
      by_cases h2 : k < m
      · have q2 : (k : Int) < (m : Int) := by omega
        obtain ⟨gb, ofb, rfl, hgb, hxb⟩ := Ob.out (by omega)
        have cb1 : wr.cell? ⟨gb, ofb + k, none⟩ = some (.int .u32 (g k : Nat)) := by rw [hbel.cell (p := ⟨gb, ofb + k, none⟩) hgb]; exact hxb k h2
        have s0' : IntKind.u64.wrap ((g k : Nat) : Int) = ((g k : Nat) : Int) := wrap_u64 (by have := Hg.out k; omega)
        have pb : X = c + g k := by rw [HX.out, pa]; unfold padw; rw [if_pos h2]; omega
        have s2 : IntKind.u64.wrap ((c : Int) + (g k : Nat)) = (X : Int) := by rw [← Int.natCast_add, ← pb, wrap_u64 (by have := HXl.out; omega)]
        clear hxb pb
        have Hpa := Lib.hid pa
        clear pa
        go_wp2_with (at_builtin; refine wpList_append_own _ rfl (.tmp 48) (.tmp 51) _ rfl w.heap.size 126 i0 (.int .u32 0) 1 4 Try.underlying98 hi hz0 hz1 hz2 rfl (by omega) _ k (u32s h k) rfl (hown.alloc _) ⟨wr.heap.size, 0, none⟩ 1 1 [.int .u32 (lo : Nat)] rfl rfl (one32 _ _ _) (one32' _) (by unfold maxLen; omega) (by omega) (by simp only [World.size_alloc]; omega) ?_; intro v3 w3 hown3 hg3 _)
        go_roundw
        case rel =>
          exact plus_next Hf.out Hg.out hc (by omega) (fun e => by omega) Hh.out Hv.out HX.out Hlo.out Hhi.out hown3 ((hbel.alloc hsz _).grown hg3 (by simp only [World.size_alloc]; omega) (own_ge hown))
        case measure => have hms := Hms.out; simp [intOf]; omega
      · have q2 : ¬ (k : Int) < (m : Int) := by omega
        have pb : padw g m k = 0 := by unfold padw; rw [if_neg h2]
        have pX : X = c := by rw [HX.out, pa, pb]; omega
        have Hpa := Lib.hid pa
        have Hpb := Lib.hid pb
        have HpX := Lib.hid pX
        by_cases hc0 : c = 0
        · have q3 : ¬ (0 : Int) < (c : Int) := by omega
          have Hc0 := Lib.hid hc0
          clear pa pb pX hc0 s3 s4
          have hws := own_Ws Hh.out hown
          have hval : nval h k = nval f n + nval g m := by
            have := Hv.out
            rw [Hc0.out, nval_pad f (by omega), nval_pad g (by omega)] at this
            omega
          have Hval := Lib.hid hval
          clear hval
          go_wp2_with (go_at_call 76; refine (trim_walk _ _ _ _ hws (by omega)).mono ?_; rintro e w' ⟨v, n', rfl, hn', hw, hnv, htr, rfl⟩)
          go_ret
          exact ⟨⟨v, rfl, n', h, by omega, hw, by rw [hnv]; exact Hval.out, htr⟩, hbel⟩
        · have q3 : (0 : Int) < (c : Int) := by omega
          have hk2 : k ≠ max n m + 1 := fun e => hc0 (Hlast.out e)
          rw [pX] at s3 s4
          clear pa pb pX
          go_wp2_with (at_builtin; refine wpList_append_own _ rfl (.tmp 48) (.tmp 51) _ rfl w.heap.size 126 i0 (.int .u32 0) 1 4 Try.underlying98 hi hz0 hz1 hz2 rfl (by omega) _ k (u32s h k) rfl (hown.alloc _) ⟨wr.heap.size, 0, none⟩ 1 1 [.int .u32 (lo : Nat)] rfl rfl (one32 _ _ _) (one32' _) (by unfold maxLen; omega) (by omega) (by simp only [World.size_alloc]; omega) ?_; intro v3 w3 hown3 hg3 _)
          go_roundw
          case rel =>
            exact plus_next Hf.out Hg.out hc (by omega) (fun e => ⟨Hpa.out, Hpb.out⟩) Hh.out Hv.out HX.out Hlo.out Hhi.out hown3 ((hbel.alloc hsz _).grown hg3 (by simp only [World.size_alloc]; omega) (own_ge hown))
          case measure => have hms := Hms.out; simp [intOf]; omega
end Go.Proofs.Ytbfmhafmncnhfaa

namespace Go.Proofs.Ytbfmhafmncnhfaa
open Go.RowKit Go.Sort

theorem nval_cmp {f g : Nat → Nat} {j : Nat} (hf : ∀ i, f i < 2 ^ 32) : ∀ {n : Nat}, j < n → (∀ i, j < i → i < n → f i = g i) → f j < g j → nval f n < nval g n
  | 0, h, _, _ => absurd h (by omega)
  | n + 1, h, he, hlt => by
    simp only [nval]
    rcases Nat.eq_or_lt_of_le (Nat.le_of_lt_succ h) with e | e
    · subst e
      have h1 := nval_lt j (fun i _ => hf i)
      have h2 := Nat.mul_le_mul_right (2 ^ (32 * j)) (show f j + 1 ≤ g j from hlt)
      rw [Nat.add_mul] at h2; omega
    · have h1 := nval_cmp hf e (fun i h1 h2 => he i h1 (by omega)) hlt
      rw [he n e (by omega)]; omega
theorem trim_lt {f g : Nat → Nat} {n m : Nat} (hf : ∀ i, f i < 2 ^ 32) (h : n < m) (ht : Trimmed m g) : nval f n < nval g m := by
  have h1 := nval_lt n (fun i _ => hf i)
  obtain ⟨k, rfl⟩ : ∃ k, m = k + 1 := ⟨m - 1, by omega⟩
  rcases ht with h2 | h2
  · omega
  · rw [Nat.add_sub_cancel] at h2
    have h3 : 2 ^ (32 * n) ≤ 2 ^ (32 * k) := Nat.pow_le_pow_right (by decide) (by omega)
    have h4 := Nat.mul_le_mul_right (2 ^ (32 * k)) (show 1 ≤ g k by omega)
    simp only [nval]
    omega
theorem cmpU_lt {a b : Nat} (h : a < b) : cmpU a b = -1 := by unfold cmpU; rw [if_neg (by omega), if_neg (by omega)]
theorem cmpU_gt {a b : Nat} (h : b < a) : cmpU a b = 1 := by unfold cmpU; rw [if_neg (by omega), if_pos (by omega)]
theorem cmpU_ge' (a b : Nat) : (0 : Int) ≤ cmpU a b ↔ b ≤ a := by
  rcases Nat.lt_trichotomy a b with h | h | h
  · rw [cmpU_lt h]; omega
  · unfold cmpU; rw [if_pos h]; omega
  · rw [cmpU_gt h]; omega
theorem cmpU_eq {a b : Nat} (h : a = b) : cmpU a b = 0 := by unfold cmpU; rw [if_pos h]
def CmpRel (n : Nat) (f g : Nat → Nat) (w : World) (x : Value) (wr : World) : Prop :=
  ∃ k : Nat, k ≤ n ∧ x = .int .i64 ((k : Int) - 1) ∧ (∀ i, k ≤ i → i < n → f i = g i) ∧ Below w.heap.size w wr
def NCmpPost (N M : Nat) (w : World) (e : Ending) (w' : World) : Prop := e = .returned (.int .i64 (cmpU N M)) ∧ Below w.heap.size w w'

end Go.Proofs.Ytbfmhafmncnhfaa
