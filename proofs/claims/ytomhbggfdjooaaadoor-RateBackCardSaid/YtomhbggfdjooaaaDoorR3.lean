/- tallageref01.Plus, walked. -/
import Derived.Test.YtomhbggfdjooaaaDoorR2
namespace Go.Proofs.YtomhbggfdjooaaaDoor
open Go.RowKit Go.Sort

theorem one32 (w : World) (x : Int) (t : TypeId) : ∀ j u, ([.int .u32 x] : List Value)[j]? = some u → (w.alloc (.cells #[.int .u32 x] t)).cell? ((⟨w.heap.size, 0, none⟩ : Addr).add j) = some u := by
  intro j u h
  match j, h with
  | 0, h => simp at h; subst h; simp [Addr.add]
theorem one32' (x : Int) : ∀ u ∈ ([.int .u32 x] : List Value), u.oneCell' = true := fun u hu => by simp at hu; subst hu; rfl
theorem Ws.open_ {w : World} {v : Value} {n : Nat} {f : Nat → Nat} (h : Ws w v n f) : ∃ A c, v = .slice A n c ∧ (0 < n → ∃ g o, A = some ⟨g, o, none⟩ ∧ g < w.heap.size ∧ ∀ i, i < n → w.cell? ⟨g, o + i, none⟩ = some (.int .u32 (f i : Nat))) := by
  rcases h.at_ with ⟨rfl, rfl⟩ | ⟨g, o, c, rfl, hc, hg, hx⟩
  · exact ⟨none, 0, rfl, fun h => absurd h (by omega)⟩
  · exact ⟨_, c, rfl, fun _ => ⟨g, o, rfl, hg, hx⟩⟩
/-- a word, or nought behind the end -/
def padw (f : Nat → Nat) (n : Nat) : Nat → Nat := fun i => if i < n then f i else 0
theorem padw_lt {f : Nat → Nat} (hf : ∀ i, f i < 2 ^ 32) (n : Nat) : ∀ i, padw f n i < 2 ^ 32 := fun i => by unfold padw; split; exact hf i; decide
theorem nval_pad (f : Nat → Nat) {n k : Nat} (h : n ≤ k) : nval (padw f n) k = nval f n := by
  rw [nval_top (f := padw f n) h (fun i h1 _ => by unfold padw; rw [if_neg (by omega)])]
  exact nval_congr n fun i hi => by unfold padw; rw [if_pos hi]
theorem nval_upd (h : Nat → Nat) (k v : Nat) : nval (upd h k v) (k + 1) = nval h k + v * 2 ^ (32 * k) := by
  simp only [nval]; rw [upd_same]; congr 1; exact nval_congr k fun i hi => upd_ne h (by omega)
theorem u32s_upd (h : Nat → Nat) (k v : Nat) : u32s (upd h k v) (k + 1) = u32s h k ++ [.int .u32 (v : Nat)] := by
  rw [u32s_succ, upd_same]; congr 1; exact u32s_congr fun i hi => upd_ne h (by omega)

def PlusRel (n m : Nat) (f g : Nat → Nat) (w : World) (x y z : Value) (wr : World) : Prop :=
  ∃ (k c : Nat) (h : Nat → Nat), z = .int .i64 (k : Nat) ∧ y = .int .u64 (c : Nat) ∧ c ≤ 1 ∧ k ≤ max n m + 1 ∧ (k = max n m + 1 → c = 0) ∧ (∀ i, h i < 2 ^ 32) ∧
    nval h k + c * 2 ^ (32 * k) = nval (padw f n) k + nval (padw g m) k ∧ wr.ownsRow w.heap.size 53 1 x k (u32s h k) ∧ Below w.heap.size w wr
theorem plus_next {n m k c lo hi X : Nat} {f g h : Nat → Nat} {w wr : World} {x : Value} (hf : ∀ i, f i < 2 ^ 32) (hg : ∀ i, g i < 2 ^ 32) (hc : c ≤ 1) (hk : k ≤ max n m) (hlast : k = max n m → padw f n k = 0 ∧ padw g m k = 0)
    (hh : ∀ i, h i < 2 ^ 32) (hv : nval h k + c * 2 ^ (32 * k) = nval (padw f n) k + nval (padw g m) k) (hX : X = c + padw f n k + padw g m k) (hlo : lo = X % 4294967296) (hhi : hi = X / 4294967296)
    (hown : wr.ownsRow w.heap.size 53 1 x (k + 1) (u32s h k ++ [.int .u32 (lo : Nat)])) (hbel : Below w.heap.size w wr) : PlusRel n m f g w x (.int .u64 (hi : Nat)) (.int .i64 ((k + 1 : Nat) : Int)) wr := by
  have h1 := padw_lt hf n k
  have h2 := padw_lt hg m k
  refine ⟨k + 1, hi, upd h k lo, rfl, rfl, by omega, by omega, fun e => ?_, upd_lt hh (by omega), ?_, ?_, hbel⟩
  · have := hlast (by omega)
    omega
  · rw [nval_upd, pow_succ32]
    simp only [nval]
    have e : lo + hi * 2 ^ 32 = c + padw f n k + padw g m k := by omega
    have e2 := congrArg (· * 2 ^ (32 * k)) e
    simp only [Nat.add_mul, Nat.mul_assoc] at e2
    omega
  · rw [u32s_upd]; exact hown

set_option maxRecDepth 100000 in
set_option maxHeartbeats 4000000 in
theorem plus_walk (va vb : Value) (n m : Nat) (f g : Nat → Nat) (w : World) (ha : Ws w va n f) (hb : Ws w vb m g) (hn : n ≤ 50) (hm : m ≤ 50) :
    Calls Tryd.prog 28 #[va, vb] w (NatPost (nval f n + nval g m) (max n m + 1) w) := by
  obtain ⟨i0, hi, hz0, hz1, hz2⟩ := info_parts infoU32
  obtain ⟨A, ca, rfl, oa⟩ := ha.open_
  obtain ⟨B, cb, rfl, ob⟩ := hb.open_
  have Hf := Lib.hid ha.small
  have Hg := Lib.hid hb.small
  have Oa := Lib.hid oa
  have Ob := Lib.hid ob
  clear ha hb oa ob
  go_enter Tryd.func28, Tryd.ntmps28
  go_wp2
  go_loopw [5, 6, 7] (PlusRel n m f g w) (fun _ y z _ => 2 * (51 - (intOf z).toNat) + (intOf y).toNat)
  case atStart =>
    exact ⟨0, 0, fun _ => 0, rfl, rfl, by omega, by omega, fun _ => rfl, by simp, by simp [nval], World.ownsRow_nil _ _ _ _, Below.refl _ _⟩
  case round =>
    obtain ⟨k, c, h, rfl, rfl, hc, hkm, hlast, hh, hv, hown, hbel⟩ := hrel
    have Hh := Lib.hid hh
    have Hv := Lib.hid hv
    have Hlast := Lib.hid hlast
    have hsz := hbel.size
    clear hh hv hlast
    obtain ⟨X, hX⟩ : ∃ X, X = c + padw f n k + padw g m k := ⟨_, rfl⟩
    obtain ⟨lo, hlo⟩ : ∃ X', X' = X % 4294967296 := ⟨_, rfl⟩
    obtain ⟨hi', hhi⟩ : ∃ X', X' = X / 4294967296 := ⟨_, rfl⟩
    have hXl : X < 2 ^ 33 := by have := padw_lt Hf.out n k; have := padw_lt Hg.out m k; omega
    have s3 : IntKind.u32.wrap (X : Int) = (lo : Int) := by rw [IntKind.wrap_u32]; omega
    have s4 : (X : Int) / 4294967296 = (hi' : Int) := by omega
    have HX := Lib.hid hX
    have Hlo := Lib.hid hlo
    have Hhi := Lib.hid hhi
    have HXl := Lib.hid hXl
    have Hms := Lib.hid (show (2 * (51 - (k + 1)) + hi' < 2 * (51 - k) + c ∨ 51 ≤ k) by omega) 
    clear hX hlo hhi hXl
    by_cases h1 : k < n
    · have q1 : (k : Int) < (n : Int) := by omega
      obtain ⟨ga, ofa, rfl, hga, hxa⟩ := Oa.out (by omega)
      have ca1 : wr.cell? ⟨ga, ofa + k, none⟩ = some (.int .u32 (f k : Nat)) := by rw [hbel.cell (p := ⟨ga, ofa + k, none⟩) hga]; exact hxa k h1
      have pa : padw f n k = f k := by unfold padw; rw [if_pos h1]
      have fk := Hf.out k
      have s0 : IntKind.u64.wrap ((f k : Nat) : Int) = ((f k : Nat) : Int) := wrap_u64 (by omega)
      obtain ⟨x1, hx1⟩ : ∃ x, x = c + f k := ⟨_, rfl⟩
      have s1 : IntKind.u64.wrap ((c : Int) + (f k : Nat)) = (x1 : Int) := by rw [← Int.natCast_add, ← hx1, wrap_u64 (by omega)]
      have Hx1 := Lib.hid hx1
      have Hpa := Lib.hid pa
      clear hxa hx1 pa fk
      by_cases h2 : k < m
      · have q2 : (k : Int) < (m : Int) := by omega
        obtain ⟨gb, ofb, rfl, hgb, hxb⟩ := Ob.out (by omega)
        have cb1 : wr.cell? ⟨gb, ofb + k, none⟩ = some (.int .u32 (g k : Nat)) := by rw [hbel.cell (p := ⟨gb, ofb + k, none⟩) hgb]; exact hxb k h2
        have s0' : IntKind.u64.wrap ((g k : Nat) : Int) = ((g k : Nat) : Int) := wrap_u64 (by have := Hg.out k; omega)
        have pb : X = x1 + g k := by rw [HX.out, Hpa.out, Hx1.out]; unfold padw; rw [if_pos h2]
        have s2 : IntKind.u64.wrap ((x1 : Int) + (g k : Nat)) = (X : Int) := by rw [← Int.natCast_add, ← pb, wrap_u64 (by have := HXl.out; omega)]
        clear hxb pb
        go_wp2_with (at_builtin; refine wpList_append_own _ rfl (.tmp 48) (.tmp 51) _ rfl w.heap.size 53 i0 (.int .u32 0) 1 4 Tryd.underlying42 hi hz0 hz1 hz2 rfl (by omega) _ k (u32s h k) rfl (hown.alloc _) ⟨wr.heap.size, 0, none⟩ 1 1 [.int .u32 (lo : Nat)] rfl rfl (one32 _ _ _) (one32' _) (by unfold maxLen; omega) (by omega) (by simp only [World.size_alloc]; omega) ?_; intro v3 w3 hown3 hg3 _)
        go_roundw
        case rel =>
          exact plus_next Hf.out Hg.out hc (by omega) (fun e => by omega) Hh.out Hv.out HX.out Hlo.out Hhi.out hown3 ((hbel.alloc hsz _).grown hg3 (by simp only [World.size_alloc]; omega) (own_ge hown))
        case measure => have hms := Hms.out; simp [intOf]; omega
      · have q2 : ¬ (k : Int) < (m : Int) := by omega
        have pb : X = x1 := by rw [HX.out, Hpa.out, Hx1.out]; unfold padw; rw [if_neg h2]; rfl
        have Hpb := Lib.hid pb
        rw [pb] at s3 s4
        clear pb
        go_wp2_with (at_builtin; refine wpList_append_own _ rfl (.tmp 48) (.tmp 51) _ rfl w.heap.size 53 i0 (.int .u32 0) 1 4 Tryd.underlying42 hi hz0 hz1 hz2 rfl (by omega) _ k (u32s h k) rfl (hown.alloc _) ⟨wr.heap.size, 0, none⟩ 1 1 [.int .u32 (lo : Nat)] rfl rfl (one32 _ _ _) (one32' _) (by unfold maxLen; omega) (by omega) (by simp only [World.size_alloc]; omega) ?_; intro v3 w3 hown3 hg3 _)
        go_roundw
        case rel =>
          exact plus_next Hf.out Hg.out hc (by omega) (fun e => by omega) Hh.out Hv.out HX.out Hlo.out Hhi.out hown3 ((hbel.alloc hsz _).grown hg3 (by simp only [World.size_alloc]; omega) (own_ge hown))
        case measure => have hms := Hms.out; simp [intOf]; omega
    · have q1 : ¬ (k : Int) < (n : Int) := by omega
      have pa : padw f n k = 0 := by unfold padw; rw [if_neg h1]
      by_cases h2 : k < m
      · have q2 : (k : Int) < (m : Int) := by omega
        obtain ⟨gb, ofb, rfl, hgb, hxb⟩ := Ob.out (by omega)
        have cb1 : wr.cell? ⟨gb, ofb + k, none⟩ = some (.int .u32 (g k : Nat)) := by rw [hbel.cell (p := ⟨gb, ofb + k, none⟩) hgb]; exact hxb k h2
        have s0' : IntKind.u64.wrap ((g k : Nat) : Int) = ((g k : Nat) : Int) := wrap_u64 (by have := Hg.out k; omega)
        have pb : X = c + g k := by rw [HX.out, pa]; unfold padw; rw [if_pos h2]; omega
        have s2 : IntKind.u64.wrap ((c : Int) + (g k : Nat)) = (X : Int) := by rw [← Int.natCast_add, ← pb, wrap_u64 (by have := HXl.out; omega)]
        clear hxb pb
        have Hpa := Lib.hid pa
        clear pa
        go_wp2_with (at_builtin; refine wpList_append_own _ rfl (.tmp 48) (.tmp 51) _ rfl w.heap.size 53 i0 (.int .u32 0) 1 4 Tryd.underlying42 hi hz0 hz1 hz2 rfl (by omega) _ k (u32s h k) rfl (hown.alloc _) ⟨wr.heap.size, 0, none⟩ 1 1 [.int .u32 (lo : Nat)] rfl rfl (one32 _ _ _) (one32' _) (by unfold maxLen; omega) (by omega) (by simp only [World.size_alloc]; omega) ?_; intro v3 w3 hown3 hg3 _)
        go_roundw
        case rel =>
          exact plus_next Hf.out Hg.out hc (by omega) (fun e => by omega) Hh.out Hv.out HX.out Hlo.out Hhi.out hown3 ((hbel.alloc hsz _).grown hg3 (by simp only [World.size_alloc]; omega) (own_ge hown))
        case measure => have hms := Hms.out; simp [intOf]; omega
      · have q2 : ¬ (k : Int) < (m : Int) := by omega
        have pb : padw g m k = 0 := by unfold padw; rw [if_neg h2]
        have pX : X = c := by rw [HX.out, pa, pb]; omega
        have Hpa := Lib.hid pa
        have Hpb := Lib.hid pb
        have HpX := Lib.hid pX
        by_cases hc0 : c = 0
        · have q3 : ¬ (0 : Int) < (c : Int) := by omega
          have Hc0 := Lib.hid hc0
          clear pa pb pX hc0 s3 s4
          have hws := own_Ws Hh.out hown
          have hval : nval h k = nval f n + nval g m := by
            have := Hv.out
            rw [Hc0.out, nval_pad f (by omega), nval_pad g (by omega)] at this
            omega
          have Hval := Lib.hid hval
          clear hval
          go_wp2_with (go_at_call 40; refine (trim_walk _ _ _ _ hws (by omega)).mono ?_; rintro e w' ⟨v, n', rfl, hn', hw, hnv, htr, rfl⟩)
          go_ret
          exact ⟨⟨v, rfl, n', h, by omega, hw, by rw [hnv]; exact Hval.out, htr⟩, hbel⟩
        · have q3 : (0 : Int) < (c : Int) := by omega
          have hk2 : k ≠ max n m + 1 := fun e => hc0 (Hlast.out e)
          rw [pX] at s3 s4
          clear pa pb pX
          go_wp2_with (at_builtin; refine wpList_append_own _ rfl (.tmp 48) (.tmp 51) _ rfl w.heap.size 53 i0 (.int .u32 0) 1 4 Tryd.underlying42 hi hz0 hz1 hz2 rfl (by omega) _ k (u32s h k) rfl (hown.alloc _) ⟨wr.heap.size, 0, none⟩ 1 1 [.int .u32 (lo : Nat)] rfl rfl (one32 _ _ _) (one32' _) (by unfold maxLen; omega) (by omega) (by simp only [World.size_alloc]; omega) ?_; intro v3 w3 hown3 hg3 _)
          go_roundw
          case rel =>
            exact plus_next Hf.out Hg.out hc (by omega) (fun e => ⟨Hpa.out, Hpb.out⟩) Hh.out Hv.out HX.out Hlo.out Hhi.out hown3 ((hbel.alloc hsz _).grown hg3 (by simp only [World.size_alloc]; omega) (own_ge hown))
          case measure => have hms := Hms.out; simp [intOf]; omega
end Go.Proofs.YtomhbggfdjooaaaDoor
