/- delay: Settle, Of, a value's row; Get and Set on a live store, walked. -/
import Derived.Test.YtedkhpnlhkjjgaaTD
import Derived.Deep.RegionHeld3
import Derived.StillTailTactics
namespace Go.Proofs.Ytedkhpnlhkjjgaa
open Go.RowKit Go.Maps

theorem nums_row {f : Nat → Int} {n : Nat} (w : World) (hn : n ≤ 100) (hf : ∀ i, i < n → 0 ≤ f i ∧ f i < 2 ^ 63) : Calls Try.prog 113 #[.string (rowV f n)] w fun e w' => e = .returned (.tuple #[.slice (some ⟨w.heap.size, 0, none⟩) n n, .bool true]) ∧ (∀ i, i < n → w'.cell? ⟨w.heap.size, i, none⟩ = some (.int .i64 (f i))) ∧ (1 ≤ n → w.heap.size < w'.heap.size) ∧ Below w.heap.size w w' := by
  have hch : ∀ i, i < n → chunk (rowV f n) i = (f i).toNat := fun i hi => chunk_tl (f := f) (n := n) rfl hi (hf i hi).2
  refine (nums_walk (rowV f n) n w (by rw [rowV_size]) hn).mono ?_
  rintro e w' ⟨⟨_, he, hr⟩ | ⟨⟨i, hi, hne⟩, _⟩, hb⟩
  · refine ⟨he, fun i hi => ?_, fun _ => (hr.lt w.heap.size rfl).2, hb⟩
    rw [hr.cellAt i (by omega)]
    have h0 := (hf i hi).1
    have e1 : (((f i).toNat : Nat) : Int) = f i := by omega
    simp [i64n, hi, hch i hi, e1]
  · have := (hf i hi).2
    rw [hch i hi] at hne
    omega
set_option maxRecDepth 100000 in
set_option maxHeartbeats 1000000 in
theorem crow_some {w W : World} {b : Nat} {F : List Nat} {L : SL} {q : Nat} {qs : List Value} (h : SNew w W b F L q qs) (k : ByteArray) (f : Nat → Int) (n : Nat) (hn0 : 1 ≤ n) (hn : n ≤ 100) (hf : ∀ i, i < n → 0 ≤ f i ∧ f i < 2 ^ 63) (hk : k.size ≤ maxLen) (he : sget L k = some (rowV f n)) :
    Calls Try.prog 77 #[.pointer (some ⟨b, 0, none⟩), .string k] W fun e W' => (∃ g, e = .returned (.slice (some ⟨g, 0, none⟩) n n) ∧ (∀ i, i < n → W'.cell? ⟨g, i, none⟩ = some (.int .i64 (f i))) ∧ g < W'.heap.size) ∧ Below W.heap.size W W' := by
  have HG := Lib.hid (h.get_some k (rowV f n) hk he)
  have HN := Lib.hid (fun w => nums_row w hn hf)
  have HNB : Hid (Calls Try.prog 111 #[.func (Fn.func 47) #[.pointer (some ⟨b, 0, none⟩)] #[], .string k] W fun e W' => (∃ g, e = .returned (.slice (some ⟨g, 0, none⟩) n n) ∧ (∀ i, i < n → W'.cell? ⟨g, i, none⟩ = some (.int .i64 (f i))) ∧ g < W'.heap.size) ∧ Below W.heap.size W W') := by
    obtain ⟨rv, hrv⟩ : ∃ x, x = rowV f n := ⟨_, rfl⟩
    rw [← hrv] at HG HN
    have HN0 := Lib.hid hn0
    clear h hk he hn hf hrv hn0
    refine Lib.hid ?_
    go_enter Try.func111, Try.ntmps111
    go_wp2_with (first
      | (go_at_call 113; refine (HN.out w1).mono ?_; rintro e w2 ⟨rfl, hc, hl, hb⟩; have HC := Lib.hid hc; have HL := Lib.hid (hl HN0.out); have HB2 := Lib.hid (HB1.out.trans (hb.mono HB1.out.size)); clear hc hl hb)
      | (go_at_call 47; refine HG.out.mono ?_; rintro e w1 ⟨rfl, _, hb1⟩; have HB1 := Lib.hid hb1; clear hb1))
    go_ret
    exact ⟨⟨_, rfl, HC.out, HL.out⟩, HB2.out⟩
  clear h hk he hn hf HG HN hn0
  go_enter Try.func77, Try.ntmps77
  go_wp2_with (go_at_call 111; refine HNB.out.mono ?_; rintro e w1 ⟨⟨g, rfl, hc, hl⟩, hb1⟩; have HC := Lib.hid hc; have HL := Lib.hid hl; have HB1 := Lib.hid hb1; clear hb1 hc hl)
  go_ret
  exact ⟨⟨g, rfl, HC.out, HL.out⟩, HB1.out⟩
set_option maxRecDepth 100000 in
set_option maxHeartbeats 1000000 in
theorem crow_none {w W : World} {b : Nat} {F : List Nat} {L : SL} {q : Nat} {qs : List Value} (h : SNew w W b F L q qs) (k : ByteArray) (hk : k.size ≤ maxLen) (he : sget L k = none) :
    Calls Try.prog 77 #[.pointer (some ⟨b, 0, none⟩), .string k] W fun e W' => (∃ g, e = .returned (.slice (some ⟨g, 0, none⟩) 0 0)) ∧ Below W.heap.size W W' := by
  have HN := Lib.hid (numbers_none h k hk he)
  clear h hk he
  go_enter Try.func77, Try.ntmps77
  go_wp2_with (go_at_call 111; refine HN.out.mono ?_; rintro e w1 ⟨⟨g, rfl⟩, hb1⟩; have HB1 := Lib.hid hb1; clear hb1)
  go_ret
  exact ⟨⟨g, rfl⟩, HB1.out⟩
/-- delay's values -/
def dval (h : Bool) (n x a : Int) (m : Bool) : Value := .agg #[.bool h, .int .i64 n, .int .i64 x, .int .i64 a, .bool m]
set_option maxRecDepth 100000 in
set_option maxHeartbeats 400000 in
theorem settle_stays (h : Bool) (n x a b : Int) (w : World) (hab : b < a) : Calls Try.prog 107 #[dval h n x a true, .int .i64 b] w fun e w' => e = .returned (dval h n x a true) ∧ Below w.heap.size w w' := by
  unfold dval
  go_enter Try.func107, Try.ntmps107
  go_wp2
  refine bodyPost_ret (v := .agg #[.bool h, .int .i64 n, .int .i64 x, .int .i64 a, .bool true]) (by simp [results, Try.results107, go_sem]) rfl ⟨rfl, ?_⟩
  exact ((Below.refl w.heap.size w).alloc (Nat.le_refl _) _).alloc (by simp) _
set_option maxRecDepth 100000 in
set_option maxHeartbeats 400000 in
theorem settle_turns (h : Bool) (n x a b : Int) (w : World) (hab : ¬ b < a) : Calls Try.prog 107 #[dval h n x a true, .int .i64 b] w fun e w' => e = .returned (dval true x 0 0 false) ∧ Below w.heap.size w w' := by
  unfold dval
  go_enter Try.func107, Try.ntmps107
  go_wp2
  refine bodyPost_ret (v := .agg #[.bool true, .int .i64 x, .int .i64 0, .int .i64 0, .bool false]) (by simp [results, Try.results107, go_sem]) rfl ⟨rfl, ?_⟩
  exact ((Below.refl w.heap.size w).alloc (Nat.le_refl _) _).alloc (by simp) _
set_option maxRecDepth 100000 in
set_option maxHeartbeats 400000 in
theorem of_of (h0 : Bool) (n0 x a : Int) (m : Bool) (h1 : Bool) (n1 x1 a1 : Int) (m1 : Bool) (b : Int) (w : World) (HS0 : ∀ w, Calls Try.prog 107 #[dval h0 n0 x a m, .int .i64 b] w fun e w' => e = .returned (dval h1 n1 x1 a1 m1) ∧ Below w.heap.size w w') :
    Calls Try.prog 58 #[dval h0 n0 x a m, .int .i64 b] w fun e w' => e = .returned (.tuple #[.int .i64 n1, .bool h1]) ∧ Below w.heap.size w w' := by
  have hb0 := (Below.refl w.heap.size w).alloc (Nat.le_refl _) (.cells #[.bool h0, .int .i64 n0, .int .i64 x, .int .i64 a, .bool m] 100)
  have HB0 := Lib.hid hb0
  have HS := HS0 (w.alloc (.cells #[.bool h0, .int .i64 n0, .int .i64 x, .int .i64 a, .bool m] 100))
  unfold dval at HS ⊢
  have HSe := Lib.hid HS
  clear hb0 HS HS0
  go_enter Try.func58, Try.ntmps58
  go_wp2_with (go_at_call 107; refine HSe.out.mono ?_; rintro e w1 ⟨rfl, hb1⟩; have HB1 := Lib.hid (HB0.out.trans (hb1.mono HB0.out.size)); clear hb1)
  all_goals
    go_region
    all_goals
      go_wp2
      go_ret2
      exact ⟨rfl, (HB1.out.alloc HB1.out.size _).drew⟩
set_option maxRecDepth 100000 in
set_option maxHeartbeats 400000 in
theorem flag_walk (b : Bool) (w : World) : Calls Try.prog 139 #[.bool b] w fun e w' => e = .returned (.int .i64 (if b then 1 else 0)) ∧ w = w' := by
  cases b <;>
    (go_enter Try.func139, Try.ntmps139
     go_wp2
     go_ret
     exact ⟨rfl, rfl⟩)
end Go.Proofs.Ytedkhpnlhkjjgaa
