/- tallageref01.Minus, walked. -/
import Derived.Test.YtomhbggfdjooaaaDoorR4
namespace Go.Proofs.YtomhbggfdjooaaaDoor
open Go.RowKit Go.Sort

theorem nval_split (g : Nat → Nat) (n : Nat) : ∀ d, ∃ q, nval g (n + d) = nval g n + q * 2 ^ (32 * n)
  | 0 => ⟨0, by simp⟩
  | d + 1 => by
    obtain ⟨q, hq⟩ := nval_split g n d
    refine ⟨q + g (n + d) * 2 ^ (32 * d), ?_⟩
    show nval g (n + d) + g (n + d) * 2 ^ (32 * (n + d)) = _
    rw [hq, Nat.add_mul, Nat.mul_assoc, ← Nat.pow_add, show 32 * d + 32 * n = 32 * (n + d) by omega]; omega
theorem nval_low {g : Nat → Nat} {n m : Nat} (h : nval g m < 2 ^ (32 * n)) : nval (padw g m) n = nval g m := by
  rcases Nat.lt_or_ge n m with h1 | h1
  · obtain ⟨q, hq⟩ := nval_split g n (m - n)
    rw [show n + (m - n) = m by omega] at hq
    have h2 : nval (padw g m) n = nval g n := nval_congr n fun i hi => by unfold padw; rw [if_pos (by omega)]
    rw [h2]
    rcases Nat.eq_zero_or_pos q with h3 | h3
    · rw [h3] at hq; omega
    · have := Nat.mul_le_mul_right (2 ^ (32 * n)) h3; omega
  · exact nval_pad g h1
def MinusRel (n m : Nat) (f g : Nat → Nat) (w : World) (x y z : Value) (wr : World) : Prop :=
  ∃ (k b : Nat) (h : Nat → Nat), z = .int .i64 (k : Nat) ∧ y = .int .u64 (b : Nat) ∧ b ≤ 1 ∧ k ≤ n ∧ (∀ i, h i < 2 ^ 32) ∧
    nval h k + nval (padw g m) k = nval f k + b * 2 ^ (32 * k) ∧ wr.ownsRow w.heap.size 53 1 x k (u32s h k) ∧ Below w.heap.size w wr
def MinusPost (N M n : Nat) (w : World) (e : Ending) (w' : World) : Prop :=
  ((N < M ∧ e = .returned (.tuple #[.slice none 0 0, .bool false])) ∨ (M ≤ N ∧ ∃ v, e = .returned (.tuple #[v, .bool true]) ∧ NatV w' v (N - M) n)) ∧ Below w.heap.size w w'
theorem minus_next {n m k b lo b' y : Nat} {f g h : Nat → Nat} {w wr : World} {x : Value} (hk : k < n) (hh : ∀ i, h i < 2 ^ 32)
    (hv : nval h k + nval (padw g m) k = nval f k + b * 2 ^ (32 * k)) (hy : y = b + padw g m k) (hb' : b' ≤ 1) (hlo : lo + y = f k + b' * 4294967296) (hlol : lo < 4294967296)
    (hown : wr.ownsRow w.heap.size 53 1 x (k + 1) (u32s h k ++ [.int .u32 (lo : Nat)])) (hbel : Below w.heap.size w wr) : MinusRel n m f g w x (.int .u64 (b' : Nat)) (.int .i64 ((k + 1 : Nat) : Int)) wr := by
  refine ⟨k + 1, b', upd h k lo, rfl, rfl, hb', by omega, upd_lt hh (by omega), ?_, ?_, hbel⟩
  · rw [nval_upd, pow_succ32]
    simp only [nval]
    have e2 := congrArg (· * 2 ^ (32 * k)) hlo
    rw [hy] at e2
    simp only [Nat.add_mul, Nat.mul_assoc] at e2
    have e3 : (4294967296 : Nat) = 2 ^ 32 := rfl
    rw [e3] at e2
    omega
  · rw [u32s_upd]; exact hown

set_option maxRecDepth 100000 in
set_option maxHeartbeats 4000000 in
theorem minus_walk (va vb : Value) (n m : Nat) (f g : Nat → Nat) (w : World) (ha : Ws w va n f) (hb : Ws w vb m g) (hn : n ≤ 50) (hm : m ≤ 50) :
    Calls Tryd.prog 29 #[va, vb] w (MinusPost (nval f n) (nval g m) n w) := by
  obtain ⟨i0, hi, hz0, hz1, hz2⟩ := info_parts infoU32
  have Ha := Lib.hid ha
  have Hb := Lib.hid hb
  clear ha hb
  obtain ⟨cm, hcm⟩ : ∃ c, c = cmpU (nval f n) (nval g m) := ⟨_, rfl⟩
  have Hcm := Lib.hid hcm
  clear hcm
  by_cases hlt : nval f n < nval g m
  · have q1 : cm < 0 := by rw [Hcm.out, cmpU_lt hlt]; decide
    have Hlt := Lib.hid hlt
    clear hlt
    go_enter Tryd.func29, Tryd.ntmps29
    go_wp2_with (go_at_call 25; refine (ncmp_walk _ _ n m f g _ Ha.out Hb.out (by omega) (by omega)).mono ?_; rintro e w1 ⟨rfl, hb1⟩; rw [← Hcm.out])
    refine bodyPost_ret (v := .tuple #[.slice none 0 0, .bool false]) (by simp [results, Tryd.results29, go_sem]) rfl ⟨.inl ⟨Hlt.out, rfl⟩, hb1⟩
  · have q1 : ¬ cm < 0 := by rw [Hcm.out]; have := (cmpU_ge' (nval f n) (nval g m)).2 (by omega); omega
    have Hge := Lib.hid (show nval g m ≤ nval f n by omega)
    clear hlt
    obtain ⟨A, ca, rfl, oa⟩ := Ha.out.open_
    obtain ⟨B, cb, rfl, ob⟩ := Hb.out.open_
    have Hf := Lib.hid Ha.out.small
    have Hg := Lib.hid Hb.out.small
    have Oa := Lib.hid oa
    have Ob := Lib.hid ob
    clear oa ob
    go_enter Tryd.func29, Tryd.ntmps29
    go_wp2_with (go_at_call 25; refine (ncmp_walk _ _ n m f g _ Ha.out Hb.out (by omega) (by omega)).mono ?_; rintro e w1 ⟨rfl, hb1⟩; rw [← Hcm.out])
    go_loopw [6, 7, 8] (MinusRel n m f g w) (fun _ _ z _ => n - (intOf z).toNat)
    case atStart =>
      exact ⟨0, 0, fun _ => 0, rfl, rfl, by omega, by omega, by simp, by simp [nval], World.ownsRow_nil _ _ _ _, hb1⟩
    case round =>
      obtain ⟨k, b, h, rfl, rfl, hbl, hkn, hh, hv, hown, hbel⟩ := hrel
      have Hh := Lib.hid hh
      have Hv := Lib.hid hv
      have hsz := hbel.size
      clear hh hv
      by_cases h1 : k < n
      · have q2 : (k : Int) < (n : Int) := by omega
        obtain ⟨ga, ofa, rfl, hga, hxa⟩ := Oa.out (by omega)
        have ca1 : wr.cell? ⟨ga, ofa + k, none⟩ = some (.int .u32 (f k : Nat)) := by rw [hbel.cell (p := ⟨ga, ofa + k, none⟩) hga]; exact hxa k h1
        have s0 : IntKind.u64.wrap ((f k : Nat) : Int) = ((f k : Nat) : Int) := wrap_u64 (by have := Hf.out k; omega)
        obtain ⟨y, hy⟩ : ∃ y, y = b + padw g m k := ⟨_, rfl⟩
        have hyl : y ≤ 4294967296 := by have := padw_lt Hg.out m k; omega
        have Hy := Lib.hid hy
        clear hxa hy
        by_cases h2 : k < m
        · have q3 : (k : Int) < (m : Int) := by omega
          obtain ⟨gb, ofb, rfl, hgb, hxb⟩ := Ob.out (by omega)
          have cb1 : wr.cell? ⟨gb, ofb + k, none⟩ = some (.int .u32 (g k : Nat)) := by rw [hbel.cell (p := ⟨gb, ofb + k, none⟩) hgb]; exact hxb k h2
          have s0' : IntKind.u64.wrap ((g k : Nat) : Int) = ((g k : Nat) : Int) := wrap_u64 (by have := Hg.out k; omega)
          have s1 : IntKind.u64.wrap ((b : Int) + (g k : Nat)) = (y : Int) := by
            have e : y = b + g k := by rw [Hy.out]; unfold padw; rw [if_pos h2]
            rw [← Int.natCast_add, ← e, wrap_u64 (by omega)]
          clear hxb
          by_cases h3 : f k < y
          · have q4 : (f k : Int) < (y : Int) := by omega
            obtain ⟨x1, hx1⟩ : ∃ x, x = f k + 4294967296 := ⟨_, rfl⟩
            obtain ⟨lo, hlo⟩ : ∃ x, x = f k + 4294967296 - y := ⟨_, rfl⟩
            have fk := Hf.out k
            have s2 : IntKind.u64.wrap ((f k : Nat) + 4294967296 : Int) = (x1 : Int) := by rw [hx1, show ((f k : Nat) + 4294967296 : Int) = ((f k + 4294967296 : Nat) : Int) by omega]; exact wrap_u64 (by omega)
            have s3 : IntKind.u64.wrap ((x1 : Int) - (y : Int)) = (lo : Int) := by rw [show (x1 : Int) - (y : Int) = ((lo : Nat) : Int) by omega]; exact wrap_u64 (by omega)
            have s4 : IntKind.u32.wrap (lo : Int) = (lo : Int) := by rw [IntKind.wrap_u32]; omega
            have Hlo := Lib.hid (show lo + y = f k + 1 * 4294967296 ∧ lo < 4294967296 by omega)
            clear hx1 hlo fk hyl
            go_wp2_with (at_builtin; refine wpList_append_own _ rfl (.tmp 43) (.tmp 48) _ rfl w.heap.size 53 i0 (.int .u32 0) 1 4 Tryd.underlying42 hi hz0 hz1 hz2 rfl (by omega) _ k (u32s h k) rfl (hown.alloc _) ⟨wr.heap.size, 0, none⟩ 1 1 [.int .u32 (lo : Nat)] rfl rfl (one32 _ _ _) (one32' _) (by unfold maxLen; omega) (by omega) (by simp only [World.size_alloc]; omega) ?_; intro v3 w3 hown3 hg3 _)
            go_roundw
            case rel =>
              exact minus_next (b' := 1) h1 Hh.out Hv.out Hy.out (by omega) Hlo.out.1 Hlo.out.2 hown3 ((hbel.alloc hsz _).grown hg3 (by simp only [World.size_alloc]; omega) (own_ge hown))
            case measure => simp [intOf]; omega
          · have q4 : ¬ (f k : Int) < (y : Int) := by omega
            obtain ⟨lo, hlo⟩ : ∃ x, x = f k - y := ⟨_, rfl⟩
            have fk := Hf.out k
            have s3 : IntKind.u64.wrap ((f k : Nat) - (y : Int) : Int) = (lo : Int) := by rw [show ((f k : Nat) : Int) - (y : Int) = ((lo : Nat) : Int) by omega]; exact wrap_u64 (by omega)
            have s4 : IntKind.u32.wrap (lo : Int) = (lo : Int) := by rw [IntKind.wrap_u32]; omega
            have Hlo := Lib.hid (show lo + y = f k + 0 * 4294967296 ∧ lo < 4294967296 by omega)
            clear hlo fk hyl
            go_wp2_with (at_builtin; refine wpList_append_own _ rfl (.tmp 43) (.tmp 48) _ rfl w.heap.size 53 i0 (.int .u32 0) 1 4 Tryd.underlying42 hi hz0 hz1 hz2 rfl (by omega) _ k (u32s h k) rfl (hown.alloc _) ⟨wr.heap.size, 0, none⟩ 1 1 [.int .u32 (lo : Nat)] rfl rfl (one32 _ _ _) (one32' _) (by unfold maxLen; omega) (by omega) (by simp only [World.size_alloc]; omega) ?_; intro v3 w3 hown3 hg3 _)
            go_roundw
            case rel =>
              exact minus_next (b' := 0) h1 Hh.out Hv.out Hy.out (by omega) Hlo.out.1 Hlo.out.2 hown3 ((hbel.alloc hsz _).grown hg3 (by simp only [World.size_alloc]; omega) (own_ge hown))
            case measure => simp [intOf]; omega
        · have q3 : ¬ (k : Int) < (m : Int) := by omega
          obtain rfl : y = b := by rw [Hy.out]; unfold padw; rw [if_neg h2]; rfl
          by_cases h3 : f k < y
          · have q4 : (f k : Int) < (y : Int) := by omega
            obtain ⟨x1, hx1⟩ : ∃ x, x = f k + 4294967296 := ⟨_, rfl⟩
            obtain ⟨lo, hlo⟩ : ∃ x, x = f k + 4294967296 - y := ⟨_, rfl⟩
            have fk := Hf.out k
            have s2 : IntKind.u64.wrap ((f k : Nat) + 4294967296 : Int) = (x1 : Int) := by rw [hx1, show ((f k : Nat) + 4294967296 : Int) = ((f k + 4294967296 : Nat) : Int) by omega]; exact wrap_u64 (by omega)
            have s3 : IntKind.u64.wrap ((x1 : Int) - (y : Int)) = (lo : Int) := by rw [show (x1 : Int) - (y : Int) = ((lo : Nat) : Int) by omega]; exact wrap_u64 (by omega)
            have s4 : IntKind.u32.wrap (lo : Int) = (lo : Int) := by rw [IntKind.wrap_u32]; omega
            have Hlo := Lib.hid (show lo + y = f k + 1 * 4294967296 ∧ lo < 4294967296 by omega)
            clear hx1 hlo fk hyl
            go_wp2_with (at_builtin; refine wpList_append_own _ rfl (.tmp 43) (.tmp 48) _ rfl w.heap.size 53 i0 (.int .u32 0) 1 4 Tryd.underlying42 hi hz0 hz1 hz2 rfl (by omega) _ k (u32s h k) rfl (hown.alloc _) ⟨wr.heap.size, 0, none⟩ 1 1 [.int .u32 (lo : Nat)] rfl rfl (one32 _ _ _) (one32' _) (by unfold maxLen; omega) (by omega) (by simp only [World.size_alloc]; omega) ?_; intro v3 w3 hown3 hg3 _)
            go_roundw
            case rel =>
              exact minus_next (b' := 1) h1 Hh.out Hv.out Hy.out (by omega) Hlo.out.1 Hlo.out.2 hown3 ((hbel.alloc hsz _).grown hg3 (by simp only [World.size_alloc]; omega) (own_ge hown))
            case measure => simp [intOf]; omega
          · have q4 : ¬ (f k : Int) < (y : Int) := by omega
            obtain ⟨lo, hlo⟩ : ∃ x, x = f k - y := ⟨_, rfl⟩
            have fk := Hf.out k
            have s3 : IntKind.u64.wrap ((f k : Nat) - (y : Int) : Int) = (lo : Int) := by rw [show ((f k : Nat) : Int) - (y : Int) = ((lo : Nat) : Int) by omega]; exact wrap_u64 (by omega)
            have s4 : IntKind.u32.wrap (lo : Int) = (lo : Int) := by rw [IntKind.wrap_u32]; omega
            have Hlo := Lib.hid (show lo + y = f k + 0 * 4294967296 ∧ lo < 4294967296 by omega)
            clear hlo fk hyl
            go_wp2_with (at_builtin; refine wpList_append_own _ rfl (.tmp 43) (.tmp 48) _ rfl w.heap.size 53 i0 (.int .u32 0) 1 4 Tryd.underlying42 hi hz0 hz1 hz2 rfl (by omega) _ k (u32s h k) rfl (hown.alloc _) ⟨wr.heap.size, 0, none⟩ 1 1 [.int .u32 (lo : Nat)] rfl rfl (one32 _ _ _) (one32' _) (by unfold maxLen; omega) (by omega) (by simp only [World.size_alloc]; omega) ?_; intro v3 w3 hown3 hg3 _)
            go_roundw
            case rel =>
              exact minus_next (b' := 0) h1 Hh.out Hv.out Hy.out (by omega) Hlo.out.1 Hlo.out.2 hown3 ((hbel.alloc hsz _).grown hg3 (by simp only [World.size_alloc]; omega) (own_ge hown))
            case measure => simp [intOf]; omega
      · have q2 : ¬ (k : Int) < (n : Int) := by omega
        have hkn' : k = n := by omega
        have hws := own_Ws Hh.out hown
        have hval : nval h k = nval f n - nval g m := by
          have e := Hv.out
          have h5 := nval_lt k (fun i _ => Hh.out i)
          have h6 := nval_lt n (fun i _ => Hf.out i)
          have h7 := Hge.out
          rw [hkn'] at e h5 ⊢
          rw [nval_low (g := g) (n := n) (m := m) (by omega)] at e
          rcases (show b = 0 ∨ b = 1 by omega) with rfl | rfl
          · omega
          · omega
        have Hval := Lib.hid hval
        have Hkn := Lib.hid hkn'
        clear hval hkn'
        go_wp2_with (go_at_call 40; refine (trim_walk _ _ _ _ hws (by omega)).mono ?_; rintro e w' ⟨v, n', rfl, hn', hw, hnv, htr, rfl⟩)
        refine bodyPost_ret (v := .tuple #[v, .bool true]) (by simp [results, Tryd.results29, go_sem]) rfl ⟨.inr ⟨Hge.out, v, rfl, n', h, by omega, hw, by rw [hnv]; exact Hval.out, htr⟩, hbel⟩
end Go.Proofs.YtomhbggfdjooaaaDoor
