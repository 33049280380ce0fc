/- u256.Of and u256.Text, walked. -/
import Derived.Test.YtcodlbfomfjmfaaUA
import Derived.Test.YtcodlbfomfjmfaaLives1
import Derived.Laws.BytesArg
import Derived.Deep.DeepCutAuto
import Derived.Deep.CutBlock
import Derived.Test.YtcodlbfomfjmfaaU3
namespace Go.Proofs.Ytcodlbfomfjmfaa
open Go.RowKit

def OfPost (n : Nat) (w : World) (e : Ending) (w' : World) : Prop := e = .returned (.agg #[.int .u64 (n : Nat), .int .u64 0, .int .u64 0, .int .u64 0]) ∧ Below w.heap.size w w'
set_option maxRecDepth 100000 in
theorem of_walk (n : Nat) (w : World) : Calls Try.prog 41 #[.int .u64 (n : Nat)] w (OfPost n w) := by
  go_enter Try.func41, Try.ntmps41
  go_wp2
  refine bodyPost_ret (v := .agg #[.int .u64 (n : Nat), .int .u64 0, .int .u64 0, .int .u64 0]) (by simp [results, Try.results41, go_sem]) rfl ⟨rfl, ?_⟩
  exact (Below.refl _ _).alloc (Nat.le_refl _) _

/-- the decimal digit of a at place t of j digits, as a byte -/
def digAt (a j t : Nat) : Nat := 48 + a / 10 ^ (j - 1 - t) % 10
theorem digAt_lt (a j t : Nat) : digAt a j t < 256 := by unfold digAt; omega
/-- j digits of a -/
def digits (a j : Nat) : List Int := (List.range j).map fun t => ((digAt a j t : Nat) : Int)
theorem digits_length (a j : Nat) : (digits a j).length = j := by simp [digits]
theorem digits_getD {a j t : Nat} (h : t < j) : (digits a j).getD t 0 = (digAt a j t : Nat) := by
  simp [digits, List.getD, List.getElem?_map, List.getElem?_range h]

theorem zero78 : Try.zeroCells142 = Array.replicate 78 (.int .u8 0) := by kernel_rfl
theorem pow_bound {a j : Nat} (ha : a < 2 ^ 256) (h : a / 10 ^ j ≠ 0) : j < 78 := by
  rcases Nat.lt_or_ge j 78 with h1 | h1
  · exact h1
  · refine absurd (Nat.div_eq_of_lt (Nat.lt_of_lt_of_le ha ?_)) h
    exact Nat.le_trans (by decide) (Nat.pow_le_pow_right (by decide) h1)
theorem div10_c (m : Nat) (w : World) (hm : m < 2 ^ 256) : Calls Try.prog 23 #[U m, .agg #[.int .u64 10, .int .u64 0, .int .u64 0, .int .u64 0]] w
    fun e w' => e = .returned (.tuple #[U (m / 10), U (m % 10), .bool true]) ∧ Below w.heap.size w w' := by
  have h := div_walk m 10 w hm (by decide)
  rw [U_small (show 10 < 2 ^ 64 by decide)] at h
  exact h.mono fun e w' ⟨he, hw⟩ => ⟨by rw [he, if_neg (by decide), if_neg (by decide), decide_eq_true (by decide)], hw⟩
theorem of10_c (w : World) : Calls Try.prog 41 #[.int .u64 10] w
    fun e w' => e = .returned (.agg #[.int .u64 10, .int .u64 0, .int .u64 0, .int .u64 0]) ∧ Below w.heap.size w w' := of_walk 10 w

def TextPost (a : Nat) (w : World) (e : Ending) (w' : World) : Prop :=
  ∃ j, e = .returned (.string (strOfNums (digits a j))) ∧ 1 ≤ j ∧ j ≤ 78 ∧ a < 10 ^ j ∧ (j = 1 ∨ 10 ^ (j - 1) ≤ a) ∧ Below w.heap.size w w'
def TextRel (a : Nat) (w : World) (i : Value) (wr : World) : Prop :=
  ∃ (j : Nat) (f : Nat → Nat), j ≤ 78 ∧ i = .int .i64 ((78 - j : Nat) : Int) ∧ (j = 0 ∨ 10 ^ (j - 1) ≤ a) ∧ (∀ t, 78 - j ≤ t → t < 78 → f t = 48 + a / 10 ^ (77 - t) % 10) ∧
    Arr .u64 wr w.heap.size 4 (limb (a / 10 ^ j)) ∧ Arr .u8 wr (w.heap.size + 1) 78 f ∧ Below w.heap.size w wr ∧ w.heap.size + 1 < wr.heap.size

set_option maxRecDepth 100000 in
set_option maxHeartbeats 2000000 in
theorem text_walk (a : Nat) (w : World) (hal : a < 2 ^ 256) : Calls Try.prog 37 #[U a] w (TextPost a w) := by
  have heq := fun w => eq0_run hal w
  have Hal := Lib.hid hal
  clear hal
  unfold U
  by_cases ha0 : a = 0
  · have hd : decide (a = 0) = true := decide_eq_true ha0
    have Ha0 := Lib.hid ha0
    clear ha0
    go_enter Try.func37, Try.ntmps37
    go_wp2
    go_ret
    exact ⟨1, by rw [Ha0.out]; rfl, by omega, by omega, by rw [Ha0.out]; decide, .inl rfl, (Below.refl _ _).alloc (Nat.le_refl _) _⟩
  · have hd : decide (a = 0) = false := decide_eq_false ha0
    have Ha0 := Lib.hid ha0
    clear ha0
    go_enter Try.func37, Try.ntmps37
    go_wp2
    go_loopw [4] (TextRel a w) (fun i _ => (intOf i).toNat)
    case atStart =>
      refine ⟨0, fun _ => 0, by omega, rfl, .inl rfl, fun t h1 h2 => by omega, ?_, ?_, ((Below.refl _ _).alloc (Nat.le_refl _) _).alloc (by simp only [World.size_alloc]; omega) _, by simp⟩
      · rw [Nat.pow_zero, Nat.div_one]; exact (Arr.new4 (f := limb a) rfl).alloc _
      · rw [zero78]; exact Arr.new_rep (by simp)
    case round =>
      obtain ⟨j, f, hj, rfl, hp, hf, ha, hs, hbel, hsz⟩ := hrel
      have hml : a / 10 ^ j < 2 ^ 256 := Nat.lt_of_le_of_lt (Nat.div_le_self _ _) Hal.out
      obtain ⟨m, hm⟩ : ∃ m, m = a / 10 ^ j := ⟨_, rfl⟩
      rw [← hm] at ha hml
      have heqm := fun w => eq0_run hml w
      have Hml := Lib.hid hml
      have Hp := Lib.hid hp
      have Hf := Lib.hid hf
      clear hml hp hf
      obtain ⟨m0, m1, m2, m3⟩ := ha.cells4
      by_cases hc : m = 0
      · have hdm : decide (m = 0) = true := decide_eq_true hc
        have hj1 : j ≠ 0 := by
          rintro rfl
          exact Ha0.out (by rw [← hc, hm, Nat.pow_zero, Nat.div_one])
        have hlast : a < 10 ^ j := by
          rcases Nat.lt_or_ge a (10 ^ j) with h | h
          · exact h
          · have := Nat.div_pos h (Nat.pow_pos (by decide)); omega
        have Hlast := Lib.hid hlast
        have Hc := Lib.hid hc
        have Hm := Lib.hid hm
        clear hc hm hlast
        have i1 : ((78 - j : Nat) : Int) ≤ 78 := by omega
        have hcv := run_convert_bytes_arg (P := Try.prog) wr 33 5 Try.underlying33 Try.underlying5 (w.heap.size + 1) (78 - j) (78 - (78 - j)) (78 - (78 - j)) (digits a j) (by rw [digits_length]; omega)
          (fun i hi => by rw [digits_getD (by omega), hs.cell (78 - j + i) (by omega), Hf.out _ (by omega) (by omega)]; unfold digAt; rw [show 77 - (78 - j + i) = j - 1 - i by omega]) 9 Try.underlying9
        go_wp2
        go_ret
        exact ⟨j, rfl, by omega, hj, Hlast.out, (by rcases Hp.out with h | h; exact absurd h hj1; exact .inr h), hbel⟩
      · have hdm : decide (m = 0) = false := decide_eq_false hc
        have hj78 : j < 78 := pow_bound Hal.out (by rw [← hm]; exact hc)
        have Hc := Lib.hid hc
        have Hm := Lib.hid hm
        obtain ⟨n1, hn1⟩ : ∃ x, x = m / 10 := ⟨_, rfl⟩
        obtain ⟨dg, hdg⟩ : ∃ x, x = m % 10 := ⟨_, rfl⟩
        have za : w.heap.size < wr.heap.size := by omega
        have hdl : dg < 10 := by omega
        have dI : (dg : Int) < 10 := by omega
        have Hn1 := Lib.hid hn1
        have Hdg := Lib.hid hdg
        clear hc hm hn1 hdg
        go_upto_region 7 with (fail)
        go_cut [] (fun wx => Arr .u64 wx w.heap.size 4 (limb n1) ∧ Arr .u64 wx wr.heap.size 4 (limb dg) ∧ Arr .u8 wx (w.heap.size + 1) 78 f ∧ Below w.heap.size w wx ∧ wr.heap.size < wx.heap.size)
        case first =>
          go_region_with (first
            | (go_at_call 41; refine (of10_c _).mono ?_; rintro e w2 ⟨rfl, hb2⟩; have ha2 : Arr .u64 w2 w.heap.size 4 (limb m) := ((ha.alloc _).drew).below hb2 (by show _ < (wr.alloc _).heap.size; rw [World.size_alloc]; omega); have hd2 : Arr .u64 w2 wr.heap.size 4 (fun _ => 0) := ((Arr.new4 (f := fun _ => 0) rfl).drew).below hb2 (by show _ < (wr.alloc _).heap.size; rw [World.size_alloc]; omega); have hs2 : Arr .u8 w2 (w.heap.size + 1) 78 f := ((hs.alloc _).drew).below hb2 (by show _ < (wr.alloc _).heap.size; rw [World.size_alloc]; omega); have hl2 : Below w.heap.size w w2 := (below_drewN (hbel.alloc (by omega) _) 1).trans (hb2.mono (by show _ ≤ (wr.alloc _).heap.size; rw [World.size_alloc]; omega)); have hz2 : wr.heap.size + 1 ≤ w2.heap.size := by { have h := hb2.size; exact Nat.le_trans (by show _ ≤ (wr.alloc _).heap.size; rw [World.size_alloc]; omega) h }; obtain ⟨m0', m1', m2', m3'⟩ := ha2.cells4)
            | (go_at_call 23; refine (div10_c m _ Hml.out).mono ?_; rintro e w3 ⟨rfl, hb3⟩; rw [← Hn1.out, ← Hdg.out]; have ha3 : Arr .u64 w3 w.heap.size 4 (limb m) := ha2.below hb3 (by omega); have hd3 : Arr .u64 w3 wr.heap.size 4 (fun _ => 0) := hd2.below hb3 (by omega); have hs3 : Arr .u8 w3 (w.heap.size + 1) 78 f := hs2.below hb3 (by omega); have hl3 : Below w.heap.size w w3 := hl2.trans (hb3.mono (by omega)); have hz3 : wr.heap.size + 1 ≤ w3.heap.size := Nat.le_trans hz2 hb3.size; obtain ⟨x0, x1, x2, x3⟩ := ha3.frees4; obtain ⟨u0, u1, u2, u3⟩ := hd3.frees4; obtain ⟨x0', x1', x2', x3'⟩ := ha3.cells4; obtain ⟨u0', u1', u2', u3'⟩ := hd3.cells4; have ne1 : w.heap.size ≠ wr.heap.size := (by omega); have ne2 : wr.heap.size ≠ w.heap.size := (by omega); unfold U))
          all_goals
            go_wp2
            go_meet
            case rel =>
              exact ⟨(ha3.put4 (n := n1)).put4_far ne2, (hd3.put4_far ne1).put4 (n := dg), (hs3.put4_far (by omega)).put4_far (by omega), below_set4 (below_set4 hl3 (Nat.le_refl _)) (by omega), by simp only [World.size_setCell]; omega⟩
        case rest =>
          obtain ⟨ka, kd, ks, kl, kz⟩ := hcut
          clear m0 m1 m2 m3 ha hs hbel
          have e0 : limb dg 0 = dg := by unfold limb; simp; omega
          have c0 : wc.cell? ⟨wr.heap.size, 0, none⟩ = some (.int .u64 (dg : Nat)) := by rw [kd.cell 0 (by omega), e0]
          have f1 := ks.free (77 - j) (by omega)
          have f2 := ks.cell (77 - j) (by omega)
          have w8 : IntKind.u8.wrap (dg : Int) = (dg : Int) := IntWalk.u8_in _ (by omega)
          have w9 : IntKind.u8.wrap (48 + (dg : Int)) = ((48 + dg : Nat) : Int) := by rw [IntWalk.u8_in _ (by omega)]; omega
          have i1 : ((78 - j : Nat) : Int) - 1 = ((77 - j : Nat) : Int) := by omega
          have i2 : ((77 - j : Nat) : Int) < 78 := by omega
          have i3 : IntKind.i64.wrap (((78 - j : Nat) : Int) - 1) = ((77 - j : Nat) : Int) := by rw [IntWalk.i64_in _ (by omega)]; omega
          clear e0
          go_wp2
          go_roundw
          case rel =>
            have ks' := ks.set (k := 77 - j) (v := 48 + dg) (by omega)
            rw [Int.natCast_add] at ks'
            refine ⟨j + 1, upd f (77 - j) (48 + dg), by omega, by rw [show 78 - (j + 1) = 77 - j by omega], .inr ?_, fun t h1 h2 => ?_, ?_, ks', kl.setCell (by simp) _, by rw [World.size_setCell]; omega⟩
            · rw [Nat.add_sub_cancel]
              rcases Nat.lt_or_ge a (10 ^ j) with h | h
              · exact absurd (by rw [Hm.out]; exact Nat.div_eq_of_lt h) Hc.out
              · exact h
            · by_cases ht : t = 77 - j
              · rw [ht, upd_same, show 77 - (77 - j) = j by omega, ← Hm.out, Hdg.out]
              · rw [upd_ne _ ht]; exact Hf.out t (by omega) h2
            · rw [Nat.pow_succ, ← Nat.div_div_eq_div_mul, ← Hm.out, ← Hn1.out]; exact ka.set_far (by omega)
          case measure => simp [intOf]; omega
end Go.Proofs.Ytcodlbfomfjmfaa
