/- tallageref01.Text, walked. -/
import Derived.Test.YthglnedlbiembaaUD
import Derived.Test.YthglnedlbiembaaRD
namespace Go.Proofs.Ythglnedlbiembaa
open Go.RowKit Go.Sort

theorem Ws.ten {w : World} {t : TypeId} : Ws (w.alloc (.cells #[.int .u32 10] t)) (.slice (some ⟨w.heap.size, 0, none⟩) 1 1) 1 (fun _ => 10) :=
  ⟨by simp, .inr ⟨w.heap.size, 0, 1, rfl, by omega, by simp, fun i hi => by obtain rfl : i = 0 := (by omega); simp⟩⟩
theorem quo10_c (va : Value) (N : Nat) (w : World) (t : TypeId) (ha : NatV w va N 20) :
    Calls Try.prog 106 #[va, .slice (some ⟨w.heap.size, 0, none⟩) 1 1] (w.alloc (.cells #[.int .u32 10] t))
      fun e w' => (∃ q r, e = .returned (.tuple #[q, r]) ∧ NatV w' q (N / 10) 20 ∧ NatV w' r (N % 10) 20) ∧ Below (w.alloc (.cells #[.int .u32 10] t)).heap.size (w.alloc (.cells #[.int .u32 10] t)) w' := by
  have h := quoRem_c va (.slice (some ⟨w.heap.size, 0, none⟩) 1 1) N 10 20 (w.alloc (.cells #[.int .u32 10] t)) (ha.below ((Below.refl _ _).alloc (Nat.le_refl _) _)) ⟨1, fun _ => 10, by omega, Ws.ten, rfl, .inr (by decide)⟩ (by omega) (by decide)
  exact h
theorem digits_cons (a k : Nat) : digits a (k + 1) = ((48 + a / 10 ^ k % 10 : Nat) : Int) :: digits a k := by
  unfold digits
  rw [List.range_succ_eq_map, List.map_cons, List.map_map]
  congr 1
  refine List.map_congr_left fun t _ => ?_
  show ((digAt a (k + 1) (t + 1) : Nat) : Int) = _
  unfold digAt
  rw [show k + 1 - 1 - (t + 1) = k - 1 - t by omega]
theorem NatV.wide {w : World} {v : Value} {N m m' : Nat} (h : NatV w v N m) (hm : m ≤ m') : NatV w v N m' := by
  obtain ⟨n, f, h1, h2, h3, h4⟩ := h
  exact ⟨n, f, by omega, h2, h3, h4⟩
def strN : Value → Nat
  | .string b => 78 - b.size
  | _ => 0
theorem low_word {f : Nat → Nat} {n N : Nat} (hf : ∀ i, f i < 2 ^ 32) (hn : 0 < n) (h : nval f n = N) (hN : N < 2 ^ 32) : f 0 = N := by
  obtain ⟨q, hq⟩ := nval_split f 1 (n - 1)
  rw [show 1 + (n - 1) = n by omega, h] at hq
  have h1 : nval f 1 = f 0 := by simp [nval]
  have := hf 0
  rw [h1] at hq
  omega
def RtRel (a : Nat) (w : World) (n s : Value) (wr : World) : Prop :=
  ∃ k, k < 78 ∧ NatV wr n (a / 10 ^ k) 20 ∧ s = .string (strOfNums (digits a k)) ∧ (k = 0 ∨ 10 ^ k ≤ a) ∧ Below w.heap.size w wr

theorem str_cons (x : Int) (l : List Int) : strOfNums [x] ++ strOfNums l = strOfNums (x :: l) := by
  unfold strOfNums
  ext1
  simp
theorem trimmed_zero'' {n : Nat} {f : Nat → Nat} (h : Trimmed n f) : nval f n = 0 ↔ n = 0 := trimmed_zero h
theorem rt_digits {a m k : Nat} {x : Int} (hm : m = a / 10 ^ k) (hx : x = 48 + ((m % 10 : Nat) : Int)) : strOfNums [x] ++ strOfNums (digits a k) = strOfNums (digits a (k + 1)) := by
  rw [str_cons, digits_cons, hx, hm]; rfl
theorem rt_div {a m k : Nat} (hm : m = a / 10 ^ k) : m / 10 = a / 10 ^ (k + 1) := by rw [hm, Nat.div_div_eq_div_mul, Nat.pow_succ]
theorem rt_round {a m k n7 c7 : Nat} {f7 : Nat → Nat} {A7 : Option Addr} {w w2 : World} {x : Int} {o : Obj} (ha : a < 2 ^ 256) (hm : m = a / 10 ^ k) (h7 : Ws w2 (.slice A7 n7 c7) n7 f7 ∧ nval f7 n7 = m / 10 ∧ n7 ≤ 20 ∧ Trimmed n7 f7) (hn : n7 ≠ 0) (hk : k < 78)
    (hx : x = 48 + ((m % 10 : Nat) : Int)) (hb : Below w.heap.size w w2) :
    RtRel a w (.slice A7 n7 c7) (.string (strOfNums [x] ++ strOfNums (digits a k))) (w2.alloc o) ∧ strN (.string (strOfNums [x] ++ strOfNums (digits a k))) < strN (.string (strOfNums (digits a k))) := by
  obtain ⟨h1, h2, h3, h4⟩ := h7
  have hne : a / 10 ^ (k + 1) ≠ 0 := by rw [← rt_div hm, ← h2]; exact fun h => hn ((trimmed_zero'' h4).1 h)
  rw [rt_digits hm hx]
  refine ⟨⟨k + 1, pow_bound ha hne, ?_, rfl, .inr ?_, hb.alloc hb.size o⟩, ?_⟩
  · rw [← rt_div hm]
    exact (show NatV w2 _ _ _ from ⟨n7, f7, h3, h1, h2, h4⟩).below ((Below.refl _ _).alloc (Nat.le_refl _) _)
  · rcases Nat.lt_or_ge a (10 ^ (k + 1)) with h | h
    · exact absurd (Nat.div_eq_of_lt h) hne
    · exact h
  · show 78 - (strOfNums _).size < 78 - (strOfNums _).size
    rw [strOfNums_size, strOfNums_size, digits_length, digits_length]; omega

theorem rt_end {a m k n7 c7 : Nat} {f7 : Nat → Nat} {A7 : Option Addr} {w w2 : World} {x : Int} {o : Obj} (hm : m = a / 10 ^ k) (h7 : Ws w2 (.slice A7 n7 c7) n7 f7 ∧ nval f7 n7 = m / 10 ∧ n7 ≤ 20 ∧ Trimmed n7 f7) (hn : n7 = 0) (hp : k = 0 ∨ 10 ^ k ≤ a) (hk : k < 78)
    (hx : x = 48 + ((m % 10 : Nat) : Int)) (hb : Below w.heap.size w w2) : TextPost a w (.returned (.string (strOfNums [x] ++ strOfNums (digits a k)))) (w2.alloc o) := by
  obtain ⟨h1, h2, h3, h4⟩ := h7
  have h0 : a / 10 ^ (k + 1) = 0 := by rw [← rt_div hm, ← h2]; exact (trimmed_zero'' h4).2 hn
  rw [rt_digits hm hx]
  refine ⟨k + 1, rfl, by omega, by omega, ?_, ?_, hb.alloc hb.size o⟩
  · rcases Nat.lt_or_ge a (10 ^ (k + 1)) with h | h
    · exact h
    · have := Nat.div_pos h (Nat.pow_pos (by decide)); omega
  · rcases hp with h | h
    · left; omega
    · right; rw [Nat.add_sub_cancel]; exact h

set_option maxRecDepth 100000 in
set_option maxHeartbeats 2000000 in
theorem rtext_walk (a : Nat) (w : World) (hal : a < 2 ^ 256) : Calls Try.prog 36 #[U a] w (TextPost a w) := by
  have Hal := Lib.hid hal
  clear hal
  unfold U
  go_enter Try.func36, Try.ntmps36
  go_wp2_with (go_at_call 96; refine (ofn_c a _ Hal.out).mono ?_; rintro e w1 ⟨⟨v1, rfl, hv1⟩, hb1⟩)
  go_loopw [3, 4] (RtRel a w) (fun _ y _ => strN y)
  case atStart =>
    exact ⟨0, by omega, by rw [Nat.pow_zero, Nat.div_one]; exact hv1.wide (by omega), rfl, .inl rfl, ((Below.refl _ _).alloc (Nat.le_refl _) _).trans (hb1.mono (by simp))⟩
  case round =>
    obtain ⟨k, hk, hn, rfl, hp, hbel⟩ := hrel
    obtain ⟨m, hm⟩ : ∃ m, m = a / 10 ^ k := ⟨_, rfl⟩
    rw [← hm] at hn
    have Hm := Lib.hid hm
    have Hp := Lib.hid hp
    clear hm hp
    go_upto_region 4 with (go_at_call 106; refine (quo10_c _ m _ _ hn).mono ?_; rintro e w2 ⟨⟨q, r, rfl, hq, n6, f6, hn6, hw6, hv6, ht6⟩, hb2⟩; obtain ⟨A6, c6, rfl, hA6⟩ := hw6.open_; obtain ⟨n7, f7, hn7, hw7, hv7, ht7⟩ := hq; obtain ⟨A7, c7, rfl, hA7⟩ := hw7.open_)
    obtain ⟨dg, hdg⟩ : ∃ x, x = m % 10 := ⟨_, rfl⟩
    have hdl : dg < 10 := by omega
    have hb2' : Below w.heap.size w w2 := hbel.trans ((((Below.refl _ _).alloc (Nat.le_refl _) _).trans (hb2.mono (by rw [World.size_alloc]; omega))).mono hbel.size)
    have hcv := run_convert_bytes_arg (P := Try.prog) (w2.alloc (.cells #[.int .u8 (48 + (dg : Int))] 5)) 33 5 Try.underlying33 Try.underlying5 w2.heap.size 0 1 1 [48 + (dg : Int)] rfl
      (fun i hi => by obtain rfl : i = 0 := (by omega); simp) 9 Try.underlying9
    have o1 : IntKind.u8.wrap (48 + (dg : Int)) = 48 + (dg : Int) := IntWalk.u8_in _ (by omega)
    have H7 := Lib.hid (show Ws w2 (.slice A7 n7 c7) n7 f7 ∧ nval f7 n7 = m / 10 ∧ n7 ≤ 20 ∧ Trimmed n7 f7 from ⟨hw7, hv7, hn7, ht7⟩)
    have Hdg := Lib.hid hdg
    have Hb := Lib.hid hb2'
    have z2 : (strOfNums (digits a k)).size = k := by rw [strOfNums_size, digits_length]
    by_cases h6 : n6 = 0
    · have p1 : ¬ (0 : Int) < (n6 : Int) := by omega
      have d0 : dg = 0 := by rw [h6] at hv6; rw [hdg, ← hv6]; rfl
      have D0 := Lib.hid d0
      clear h6 hw6 hv6 ht6 hA6 hA7 hw7 hv7 ht7 hdg hb2 hb2' hbel hn d0
      have hcv0 := run_convert_bytes_arg (P := Try.prog) (w2.alloc (.cells #[.int .u8 48] 5)) 33 5 Try.underlying33 Try.underlying5 w2.heap.size 0 1 1 [48] rfl
        (fun i hi => by obtain rfl : i = 0 := (by omega); simp) 9 Try.underlying9
      have z1 : ¬ 9223372036854775807 < (strOfNums [48]).size + (strOfNums (digits a k)).size := by rw [z2, strOfNums_size]; show ¬ _ < 1 + k; omega
      clear hcv z2
      by_cases h7 : n7 = 0
      · have p2 : ((n7 : Int) == 0) = true := by rw [h7]; rfl
        have Hn7 := Lib.hid h7
        clear h7
        go_wp2
        go_ret
        exact rt_end Hm.out H7.out Hn7.out Hp.out hk (show (48 : Int) = 48 + ((m % 10 : Nat) : Int) by rw [← Hdg.out, D0.out]; rfl) Hb.out
      · have p2 : ((n7 : Int) == 0) = false := by rw [beq_eq_false_iff_ne]; omega
        have Hn7 := Lib.hid h7
        clear h7
        go_wp2
        exact rt_round Hal.out Hm.out H7.out Hn7.out hk (show (48 : Int) = 48 + ((m % 10 : Nat) : Int) by rw [← Hdg.out, D0.out]; rfl) Hb.out
    · have p1 : (0 : Int) < (n6 : Int) := by omega
      obtain ⟨g6, o6, rfl, hg6, hx6⟩ := hA6 (by omega)
      have cx := hx6 0 (by omega)
      rw [Nat.add_zero, low_word hw6.small (by omega) (hv6.trans hdg.symm) (by omega)] at cx
      have o2 : IntKind.u8.wrap (dg : Int) = (dg : Int) := IntWalk.u8_in _ (by omega)
      have z1 : ¬ 9223372036854775807 < (strOfNums [48 + (dg : Int)]).size + (strOfNums (digits a k)).size := by rw [z2, strOfNums_size]; show ¬ _ < 1 + k; omega
      clear z2
      clear h6 hw6 hv6 ht6 hx6 hA6 hA7 hw7 hv7 ht7 hdg hb2 hb2' hbel hn
      by_cases h7 : n7 = 0
      · have p2 : ((n7 : Int) == 0) = true := by rw [h7]; rfl
        have Hn7 := Lib.hid h7
        clear h7
        go_wp2
        go_ret
        exact rt_end Hm.out H7.out Hn7.out Hp.out hk (show (48 : Int) + (dg : Int) = 48 + ((m % 10 : Nat) : Int) by rw [Hdg.out]) Hb.out
      · have p2 : ((n7 : Int) == 0) = false := by rw [beq_eq_false_iff_ne]; omega
        have Hn7 := Lib.hid h7
        clear h7
        go_wp2
        exact rt_round Hal.out Hm.out H7.out Hn7.out hk (show (48 : Int) + (dg : Int) = 48 + ((m % 10 : Nat) : Int) by rw [Hdg.out]) Hb.out
end Go.Proofs.Ythglnedlbiembaa
