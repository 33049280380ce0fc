/- trim and Minus once more, with where the result lies. -/
import Derived.Test.YtomhbggfdjooaaaDoorRA
namespace Go.Proofs.YtomhbggfdjooaaaDoor
open Go.RowKit Go.Sort

/-- a slice's block is B or later -/
def FreshV (B : Nat) (v : Value) : Prop := ∀ g o n c, v = .slice (some ⟨g, o, none⟩) n c → B ≤ g
theorem FreshV.cut {B g o n k c : Nat} (h : FreshV B (.slice (some ⟨g, o, none⟩) n c)) : FreshV B (.slice (some ⟨g, o, none⟩) k c) := fun g' o' n' c' e => by
  cases e
  exact h _ _ _ _ rfl
theorem own_fresh {w : World} {B e k n : Nat} {v : Value} {xs : List Value} (h : w.ownsRow B e k v n xs) : FreshV B v := by
  intro g o n' c e
  rcases h.2 with ⟨rfl, _⟩ | ⟨g', cap, cur, rfl, hB, _, _⟩
  · cases e
  · cases e; exact hB
def TrimPostF (w : World) (v0 : Value) (n : Nat) (f : Nat → Nat) (e : Ending) (w' : World) : Prop :=
  ∃ v k, e = .returned v ∧ k ≤ n ∧ Ws w v k f ∧ nval f k = nval f n ∧ Trimmed k f ∧ w' = w ∧ ∀ B, FreshV B v0 → FreshV B v
def MinusPostF (N M n : Nat) (w : World) (e : Ending) (w' : World) : Prop :=
  ((N < M ∧ e = .returned (.tuple #[.slice none 0 0, .bool false])) ∨ (M ≤ N ∧ ∃ v, e = .returned (.tuple #[v, .bool true]) ∧ NatV w' v (N - M) n ∧ FreshV w.heap.size v)) ∧ Below w.heap.size w w'

set_option maxRecDepth 100000 in
set_option maxHeartbeats 1000000 in
theorem trimF_walk (v : Value) (n : Nat) (f : Nat → Nat) (w : World) (h : Ws w v n f) (hn : n ≤ 1000) : Calls Tryd.prog 40 #[v] w (TrimPostF w v n f) := by
  rcases h.at_ with ⟨rfl, rfl⟩ | ⟨g, o, c, rfl, hc, hg, hx⟩
  · go_enter Tryd.func40, Tryd.ntmps40
    go_wp2
    go_loopw [3] (TrimRel 0 f w) (fun x _ => (intOf x).toNat)
    case atStart => exact ⟨0, Nat.le_refl _, rfl, fun i _ h => absurd h (by omega), rfl⟩
    case round =>
      obtain ⟨k, hk, rfl, hz, rfl⟩ := hrel
      obtain rfl : k = 0 := by omega
      go_wp2
      go_ret
      exact ⟨_, 0, rfl, Nat.le_refl _, h, rfl, .inl rfl, rfl, fun _ hf => hf⟩
  · go_enter Tryd.func40, Tryd.ntmps40
    go_wp2
    go_loopw [3] (TrimRel n f w) (fun x _ => (intOf x).toNat)
    case atStart => exact ⟨n, Nat.le_refl _, rfl, fun i h1 h2 => absurd h2 (by omega), rfl⟩
    case round =>
      obtain ⟨k, hk, rfl, hz, rfl⟩ := hrel
      have hkc : (k : Int) ≤ (c : Int) := by omega
      by_cases hk0 : k = 0
      · have q1 : ¬ (0 : Int) < (k : Int) := by omega
        have Hk0 := Lib.hid hk0
        have Hz := Lib.hid hz
        have Hh := Lib.hid h
        clear hk0 hz h hx
        go_wp2
        go_ret
        exact ⟨_, k, rfl, by omega, Hh.out.cut (by omega), (nval_top hk Hz.out).symm, .inl Hk0.out, rfl, fun _ hf => hf.cut⟩
      · obtain ⟨m, hm⟩ : ∃ m, k = m + 1 := ⟨k - 1, by omega⟩
        have q1 : (0 : Int) < (k : Int) := by omega
        have q2 : IntKind.i64.wrap ((k : Int) - 1) = (k : Int) - 1 := IntWalk.i64_in _ (by omega)
        have q3 : ((k : Int) - 1).toNat = m := by omega
        have q4 : (0 : Int) ≤ (k : Int) - 1 := by omega
        have q5 : (k : Int) - 1 < (n : Int) := by omega
        have c1 := hx m (by omega)
        have Hm := Lib.hid hm
        have Hz := Lib.hid hz
        have Hh := Lib.hid h
        clear hm hz h hx
        by_cases h0 : f m = 0
        · have q6 : ((f m : Int) == 0) = true := by rw [h0]; rfl
          have H0 := Lib.hid h0
          clear h0
          go_wp2
          go_roundw
          case rel =>
            refine ⟨m, by have := Hm.out; omega, by congr 1; have := Hm.out; omega, fun i h1 h2 => ?_, rfl⟩
            rcases Nat.eq_or_lt_of_le h1 with e | e
            · rw [← e]; exact H0.out
            · exact Hz.out i (by have := Hm.out; omega) h2
          case measure => simp [intOf]; omega
        · have q6 : ((f m : Int) == 0) = false := by rw [beq_eq_false_iff_ne]; omega
          have H0 := Lib.hid h0
          clear h0
          go_wp2
          go_ret
          exact ⟨_, k, rfl, by omega, Hh.out.cut (by omega), (nval_top hk Hz.out).symm, .inr (by rw [Hm.out, Nat.add_sub_cancel]; exact H0.out), rfl, fun _ hf => hf.cut⟩
set_option maxRecDepth 100000 in
set_option maxHeartbeats 4000000 in
theorem minusF_walk (va vb : Value) (n m : Nat) (f g : Nat → Nat) (w : World) (ha : Ws w va n f) (hb : Ws w vb m g) (hn : n ≤ 50) (hm : m ≤ 50) :
    Calls Tryd.prog 29 #[va, vb] w (MinusPostF (nval f n) (nval g m) n w) := by
  obtain ⟨i0, hi, hz0, hz1, hz2⟩ := info_parts infoU32
  have Ha := Lib.hid ha
  have Hb := Lib.hid hb
  clear ha hb
  obtain ⟨cm, hcm⟩ : ∃ c, c = cmpU (nval f n) (nval g m) := ⟨_, rfl⟩
  have Hcm := Lib.hid hcm
  clear hcm
  by_cases hlt : nval f n < nval g m
  · have q1 : cm < 0 := by rw [Hcm.out, cmpU_lt hlt]; decide
    have Hlt := Lib.hid hlt
    clear hlt
    go_enter Tryd.func29, Tryd.ntmps29
    go_wp2_with (go_at_call 25; refine (ncmp_walk _ _ n m f g _ Ha.out Hb.out (by omega) (by omega)).mono ?_; rintro e w1 ⟨rfl, hb1⟩; rw [← Hcm.out])
    refine bodyPost_ret (v := .tuple #[.slice none 0 0, .bool false]) (by simp [results, Tryd.results29, go_sem]) rfl ⟨.inl ⟨Hlt.out, rfl⟩, hb1⟩
  · have q1 : ¬ cm < 0 := by rw [Hcm.out]; have := (cmpU_ge' (nval f n) (nval g m)).2 (by omega); omega
    have Hge := Lib.hid (show nval g m ≤ nval f n by omega)
    clear hlt
    obtain ⟨A, ca, rfl, oa⟩ := Ha.out.open_
    obtain ⟨B, cb, rfl, ob⟩ := Hb.out.open_
    have Hf := Lib.hid Ha.out.small
    have Hg := Lib.hid Hb.out.small
    have Oa := Lib.hid oa
    have Ob := Lib.hid ob
    clear oa ob
    go_enter Tryd.func29, Tryd.ntmps29
    go_wp2_with (go_at_call 25; refine (ncmp_walk _ _ n m f g _ Ha.out Hb.out (by omega) (by omega)).mono ?_; rintro e w1 ⟨rfl, hb1⟩; rw [← Hcm.out])
    go_loopw [6, 7, 8] (MinusRel n m f g w) (fun _ _ z _ => n - (intOf z).toNat)
    case atStart =>
      exact ⟨0, 0, fun _ => 0, rfl, rfl, by omega, by omega, by simp, by simp [nval], World.ownsRow_nil _ _ _ _, hb1⟩
    case round =>
      obtain ⟨k, b, h, rfl, rfl, hbl, hkn, hh, hv, hown, hbel⟩ := hrel
      have Hh := Lib.hid hh
      have Hv := Lib.hid hv
      have hsz := hbel.size
      clear hh hv
      by_cases h1 : k < n
      · have q2 : (k : Int) < (n : Int) := by omega
        obtain ⟨ga, ofa, rfl, hga, hxa⟩ := Oa.out (by omega)
        have ca1 : wr.cell? ⟨ga, ofa + k, none⟩ = some (.int .u32 (f k : Nat)) := by rw [hbel.cell (p := ⟨ga, ofa + k, none⟩) hga]; exact hxa k h1
        have s0 : IntKind.u64.wrap ((f k : Nat) : Int) = ((f k : Nat) : Int) := wrap_u64 (by have := Hf.out k; omega)
        obtain ⟨y, hy⟩ : ∃ y, y = b + padw g m k := ⟨_, rfl⟩
        have hyl : y ≤ 4294967296 := by have := padw_lt Hg.out m k; omega
        have Hy := Lib.hid hy
        clear hxa hy
        by_cases h2 : k < m
        · have q3 : (k : Int) < (m : Int) := by omega
          obtain ⟨gb, ofb, rfl, hgb, hxb⟩ := Ob.out (by omega)
          have cb1 : wr.cell? ⟨gb, ofb + k, none⟩ = some (.int .u32 (g k : Nat)) := by rw [hbel.cell (p := ⟨gb, ofb + k, none⟩) hgb]; exact hxb k h2
          have s0' : IntKind.u64.wrap ((g k : Nat) : Int) = ((g k : Nat) : Int) := wrap_u64 (by have := Hg.out k; omega)
          have s1 : IntKind.u64.wrap ((b : Int) + (g k : Nat)) = (y : Int) := by
            have e : y = b + g k := by rw [Hy.out]; unfold padw; rw [if_pos h2]
            rw [← Int.natCast_add, ← e, wrap_u64 (by omega)]
          clear hxb
          by_cases h3 : f k < y
          · have q4 : (f k : Int) < (y : Int) := by omega
            obtain ⟨x1, hx1⟩ : ∃ x, x = f k + 4294967296 := ⟨_, rfl⟩
            obtain ⟨lo, hlo⟩ : ∃ x, x = f k + 4294967296 - y := ⟨_, rfl⟩
            have fk := Hf.out k
            have s2 : IntKind.u64.wrap ((f k : Nat) + 4294967296 : Int) = (x1 : Int) := by rw [hx1, show ((f k : Nat) + 4294967296 : Int) = ((f k + 4294967296 : Nat) : Int) by omega]; exact wrap_u64 (by omega)
            have s3 : IntKind.u64.wrap ((x1 : Int) - (y : Int)) = (lo : Int) := by rw [show (x1 : Int) - (y : Int) = ((lo : Nat) : Int) by omega]; exact wrap_u64 (by omega)
            have s4 : IntKind.u32.wrap (lo : Int) = (lo : Int) := by rw [IntKind.wrap_u32]; omega
            have Hlo := Lib.hid (show lo + y = f k + 1 * 4294967296 ∧ lo < 4294967296 by omega)
            clear hx1 hlo fk hyl
            go_wp2_with (at_builtin; refine wpList_append_own _ rfl (.tmp 43) (.tmp 48) _ rfl w.heap.size 53 i0 (.int .u32 0) 1 4 Tryd.underlying42 hi hz0 hz1 hz2 rfl (by omega) _ k (u32s h k) rfl (hown.alloc _) ⟨wr.heap.size, 0, none⟩ 1 1 [.int .u32 (lo : Nat)] rfl rfl (one32 _ _ _) (one32' _) (by unfold maxLen; omega) (by omega) (by simp only [World.size_alloc]; omega) ?_; intro v3 w3 hown3 hg3 _)
            go_roundw
            case rel =>
              exact minus_next (b' := 1) h1 Hh.out Hv.out Hy.out (by omega) Hlo.out.1 Hlo.out.2 hown3 ((hbel.alloc hsz _).grown hg3 (by simp only [World.size_alloc]; omega) (own_ge hown))
            case measure => simp [intOf]; omega
          · have q4 : ¬ (f k : Int) < (y : Int) := by omega
            obtain ⟨lo, hlo⟩ : ∃ x, x = f k - y := ⟨_, rfl⟩
            have fk := Hf.out k
            have s3 : IntKind.u64.wrap ((f k : Nat) - (y : Int) : Int) = (lo : Int) := by rw [show ((f k : Nat) : Int) - (y : Int) = ((lo : Nat) : Int) by omega]; exact wrap_u64 (by omega)
            have s4 : IntKind.u32.wrap (lo : Int) = (lo : Int) := by rw [IntKind.wrap_u32]; omega
            have Hlo := Lib.hid (show lo + y = f k + 0 * 4294967296 ∧ lo < 4294967296 by omega)
            clear hlo fk hyl
            go_wp2_with (at_builtin; refine wpList_append_own _ rfl (.tmp 43) (.tmp 48) _ rfl w.heap.size 53 i0 (.int .u32 0) 1 4 Tryd.underlying42 hi hz0 hz1 hz2 rfl (by omega) _ k (u32s h k) rfl (hown.alloc _) ⟨wr.heap.size, 0, none⟩ 1 1 [.int .u32 (lo : Nat)] rfl rfl (one32 _ _ _) (one32' _) (by unfold maxLen; omega) (by omega) (by simp only [World.size_alloc]; omega) ?_; intro v3 w3 hown3 hg3 _)
            go_roundw
            case rel =>
              exact minus_next (b' := 0) h1 Hh.out Hv.out Hy.out (by omega) Hlo.out.1 Hlo.out.2 hown3 ((hbel.alloc hsz _).grown hg3 (by simp only [World.size_alloc]; omega) (own_ge hown))
            case measure => simp [intOf]; omega
        · have q3 : ¬ (k : Int) < (m : Int) := by omega
          obtain rfl : y = b := by rw [Hy.out]; unfold padw; rw [if_neg h2]; rfl
          by_cases h3 : f k < y
          · have q4 : (f k : Int) < (y : Int) := by omega
            obtain ⟨x1, hx1⟩ : ∃ x, x = f k + 4294967296 := ⟨_, rfl⟩
            obtain ⟨lo, hlo⟩ : ∃ x, x = f k + 4294967296 - y := ⟨_, rfl⟩
            have fk := Hf.out k
            have s2 : IntKind.u64.wrap ((f k : Nat) + 4294967296 : Int) = (x1 : Int) := by rw [hx1, show ((f k : Nat) + 4294967296 : Int) = ((f k + 4294967296 : Nat) : Int) by omega]; exact wrap_u64 (by omega)
            have s3 : IntKind.u64.wrap ((x1 : Int) - (y : Int)) = (lo : Int) := by rw [show (x1 : Int) - (y : Int) = ((lo : Nat) : Int) by omega]; exact wrap_u64 (by omega)
            have s4 : IntKind.u32.wrap (lo : Int) = (lo : Int) := by rw [IntKind.wrap_u32]; omega
            have Hlo := Lib.hid (show lo + y = f k + 1 * 4294967296 ∧ lo < 4294967296 by omega)
            clear hx1 hlo fk hyl
            go_wp2_with (at_builtin; refine wpList_append_own _ rfl (.tmp 43) (.tmp 48) _ rfl w.heap.size 53 i0 (.int .u32 0) 1 4 Tryd.underlying42 hi hz0 hz1 hz2 rfl (by omega) _ k (u32s h k) rfl (hown.alloc _) ⟨wr.heap.size, 0, none⟩ 1 1 [.int .u32 (lo : Nat)] rfl rfl (one32 _ _ _) (one32' _) (by unfold maxLen; omega) (by omega) (by simp only [World.size_alloc]; omega) ?_; intro v3 w3 hown3 hg3 _)
            go_roundw
            case rel =>
              exact minus_next (b' := 1) h1 Hh.out Hv.out Hy.out (by omega) Hlo.out.1 Hlo.out.2 hown3 ((hbel.alloc hsz _).grown hg3 (by simp only [World.size_alloc]; omega) (own_ge hown))
            case measure => simp [intOf]; omega
          · have q4 : ¬ (f k : Int) < (y : Int) := by omega
            obtain ⟨lo, hlo⟩ : ∃ x, x = f k - y := ⟨_, rfl⟩
            have fk := Hf.out k
            have s3 : IntKind.u64.wrap ((f k : Nat) - (y : Int) : Int) = (lo : Int) := by rw [show ((f k : Nat) : Int) - (y : Int) = ((lo : Nat) : Int) by omega]; exact wrap_u64 (by omega)
            have s4 : IntKind.u32.wrap (lo : Int) = (lo : Int) := by rw [IntKind.wrap_u32]; omega
            have Hlo := Lib.hid (show lo + y = f k + 0 * 4294967296 ∧ lo < 4294967296 by omega)
            clear hlo fk hyl
            go_wp2_with (at_builtin; refine wpList_append_own _ rfl (.tmp 43) (.tmp 48) _ rfl w.heap.size 53 i0 (.int .u32 0) 1 4 Tryd.underlying42 hi hz0 hz1 hz2 rfl (by omega) _ k (u32s h k) rfl (hown.alloc _) ⟨wr.heap.size, 0, none⟩ 1 1 [.int .u32 (lo : Nat)] rfl rfl (one32 _ _ _) (one32' _) (by unfold maxLen; omega) (by omega) (by simp only [World.size_alloc]; omega) ?_; intro v3 w3 hown3 hg3 _)
            go_roundw
            case rel =>
              exact minus_next (b' := 0) h1 Hh.out Hv.out Hy.out (by omega) Hlo.out.1 Hlo.out.2 hown3 ((hbel.alloc hsz _).grown hg3 (by simp only [World.size_alloc]; omega) (own_ge hown))
            case measure => simp [intOf]; omega
      · have q2 : ¬ (k : Int) < (n : Int) := by omega
        have hkn' : k = n := by omega
        have hws := own_Ws Hh.out hown
        have HFr := Lib.hid (own_fresh hown)
        have hval : nval h k = nval f n - nval g m := by
          have e := Hv.out
          have h5 := nval_lt k (fun i _ => Hh.out i)
          have h6 := nval_lt n (fun i _ => Hf.out i)
          have h7 := Hge.out
          rw [hkn'] at e h5 ⊢
          rw [nval_low (g := g) (n := n) (m := m) (by omega)] at e
          rcases (show b = 0 ∨ b = 1 by omega) with rfl | rfl
          · omega
          · omega
        have Hval := Lib.hid hval
        have Hkn := Lib.hid hkn'
        clear hval hkn'
        go_wp2_with (go_at_call 40; refine (trimF_walk _ _ _ _ hws (by omega)).mono ?_; rintro e w' ⟨v, n', rfl, hn', hw, hnv, htr, rfl, hfr⟩)
        refine bodyPost_ret (v := .tuple #[v, .bool true]) (by simp [results, Tryd.results29, go_sem]) rfl ⟨.inr ⟨Hge.out, v, rfl, ⟨n', h, by omega, hw, by rw [hnv]; exact Hval.out, htr⟩, hfr _ HFr.out⟩, hbel⟩
end Go.Proofs.YtomhbggfdjooaaaDoor
