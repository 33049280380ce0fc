/- Bytes as a text, and tallagelaw04.lives, walked. -/
import Derived.Test.YtcodlbfomfjmfaaOv
import Derived.Test.YtcodlbfomfjmfaaLives1
import Derived.Laws.BytesArg
namespace Go.Proofs.Ytcodlbfomfjmfaa
open Go.RowKit

/-- the text of n bytes -/
def sof (f : Nat → Nat) (n : Nat) : ByteArray := strOfNums ((List.range n).map fun i => ((f i : Nat) : Int))
theorem sof_congr {f g : Nat → Nat} {n : Nat} (h : ∀ i, i < n → f i = g i) : sof f n = sof g n := by
  unfold sof
  congr 1
  refine List.map_congr_left fun i hi => ?_
  rw [h i (List.mem_range.1 hi)]
theorem conv_sl {w : World} {A : Option Addr} {n c : Nat} {f : Nat → Nat} (h : Sl w A n f) (hA : A = none → n = 0) : (convert 33 9 (.slice A n c)).run Try.prog w = .ok (.string (sof f n)) w := by
  rcases Nat.eq_zero_or_pos n with rfl | hn
  · rw [run_convert_bytes_string w 33 9 5 A 0 c Try.underlying33 Try.underlying5 Try.underlying9]
    cases A <;> simp [Conv.bytesToString, loadCells]
    all_goals rfl
  · obtain ⟨g, o, rfl, hg, hc⟩ := h.at_ hn
    exact run_convert_bytes_arg (P := Try.prog) w 33 5 Try.underlying33 Try.underlying5 g o n c _ (by simp) (fun i hi => by rw [hc i hi]; simp [hi]) 9 Try.underlying9
def dat04 (i : Nat) : Nat := if i = 0 then 128 else 0
theorem dat04_stop : Stop dat04 2 0 1 := ⟨fun j hj => by obtain rfl : j = 0 := (by omega); decide, by omega, .inr (.inr (by decide))⟩
theorem dat04_got {v e k' : Nat} (h : VarGot dat04 2 0 9 v e k') : v = 0 ∧ e = 4 := by
  obtain ⟨i, h1, h2, h3, _⟩ := h
  obtain rfl := h1.one dat04_stop
  have e4 : gerr dat04 2 0 1 9 = 4 := by decide
  refine ⟨?_, by rw [h2, e4]⟩
  rw [h3]; unfold gval; rw [e4]; rfl
theorem var300_c (w : World) : Calls Try.prog 43 #[.slice none 0 0, .int .i64 300] w fun e w' => (∃ v A c, e = .returned v ∧ v = .slice A 2 c ∧ (convert 33 9 v).run Try.prog w' = .ok (.string { data := #[172, 2] }) w') ∧ Below w.heap.size w w' := by
  refine (var_walk none 0 0 (fun _ => 0) 300 300 w ⟨fun _ => by decide, fun h => absurd h (by omega)⟩ (fun _ => ⟨rfl, rfl⟩) (by omega) (by decide) rfl).mono ?_
  rintro e w' ⟨⟨v, k, rfl, hg, hv⟩, hb⟩
  obtain rfl : k = 1 := hg.one ⟨fun j hj => by obtain rfl : j = 0 := (by omega); decide, by decide⟩
  obtain ⟨A, c, rfl, hs, hz⟩ := own_sl hv (cat_small (fun _ => by decide) (vb_small hg))
  refine ⟨⟨_, A, c, rfl, rfl, ?_⟩, hb⟩
  have h := conv_sl (c := c) hs (fun h => (hz h).1)
  exact h.trans (by rfl)
theorem amount258_c (w : World) : Calls Try.prog 45 #[.slice none 0 0, .agg #[.int .u64 258, .int .u64 0, .int .u64 0, .int .u64 0]] w fun e w' => (∃ v A c, e = .returned v ∧ v = .slice A 3 c ∧ (convert 33 9 v).run Try.prog w' = .ok (.string { data := #[2, 1, 2] }) w') ∧ Below w.heap.size w w' := by
  have h := oamount_walk none 0 0 (fun _ => 0) 258 w (by decide) ⟨fun _ => by decide, fun h => absurd h (by omega)⟩ (fun _ => ⟨rfl, rfl⟩) (by omega)
  rw [U_small (by decide)] at h
  refine h.mono ?_
  rintro e w' ⟨⟨v, rfl, hv⟩, hb⟩
  have ec : cnt 258 = 2 := cnt_is (m := 2) (by decide) (.inr (by decide))
  have hs := own_sl hv (cat_small (cat_small (fun _ => by decide) (fun _ => by rw [ec]; decide)) (ab_small _))
  rw [ec] at hs
  obtain ⟨A, c, rfl, hs, hz⟩ := hs
  refine ⟨⟨_, A, c, rfl, rfl, ?_⟩, hb⟩
  have h := conv_sl (c := c) hs (fun h => (hz h).1)
  refine h.trans ?_
  have e3 : sof (cat (cat (fun _ => 0) 0 (fun _ => 2)) 1 (ab 258)) 3 = { data := #[2, 1, 2] } := by
    have e : ab 258 = fun i => byteAt 258 (1 - i) := by funext i; unfold ab; rw [ec]
    rw [e]; rfl
  rw [← e3]
theorem But.frame {p : Nat} {a b c : World} (h : Below a.heap.size a b) (hp : a.heap.size ≤ p) (k : But b.heap.size p b c) : Below a.heap.size a c := h.trans (k.below (C := a.heap.size) hp h.size)
set_option maxRecDepth 100000 in
set_option maxHeartbeats 2000000 in
theorem lives04_walk (w : World) : Calls Try.prog 42 #[] w fun e w' => e = .returned (.bool true) ∧ Below w.heap.size w w' := by
  have hb0 := (Below.refl w.heap.size w).alloc (Nat.le_refl _) (.cells #[.int .u8 128, .int .u8 0] 5)
  have hs0 : Sl (w.alloc (.cells #[.int .u8 128, .int .u8 0] 5)) (some ⟨w.heap.size, 0, none⟩) 2 dat04 := by
    refine Sl.of_arr (fun i => by unfold dat04; split <;> decide) (Arr.alloc_new w _ _ fun i hi => ?_) (by simp)
    rcases (by omega : i = 0 ∨ i = 1) with rfl | rfl <;> rfl
  have HR := Lib.hid (read_walk _ 2 2 dat04 _ hs0 (fun h => by cases h) (by omega))
  have HB0 := Lib.hid hb0
  have Z0 : w.heap.size ≤ (w.alloc (.cells #[.int .u8 128, .int .u8 0] 5)).heap.size := by simp
  have HZ0 := Lib.hid Z0
  clear hb0 hs0 Z0
  go_enter Try.func42, Try.ntmps42
  go_wp2_with (first
    | (go_at_call 53; refine (err_live (HS4.out)).mono ?_; rintro e w5 ⟨rfl, rfl⟩)
    | (go_at_call 45; refine (amount258_c _).mono ?_; rintro e w4 ⟨⟨v4, A4, c4, rfl, rfl, hcv4⟩, hb4⟩; have HB4 := Lib.hid hb4; have HS4 := Lib.hid (HS3.out.below hb4); clear hb4)
    | (go_at_call 43; refine (var300_c _).mono ?_; rintro e w3 ⟨⟨v3, A3, c3, rfl, rfl, hcv3⟩, hb3⟩; have HB3 := Lib.hid hb3; have HS3 := Lib.hid (HS2.out.below hb3); clear hb3)
    | (go_at_call 57; refine (lvar_walk HS1.out 9).mono ?_; rintro e w2 ⟨v, e2, k2, rfl, hg, hs2, hb2⟩; obtain ⟨rfl, rfl⟩ := dat04_got hg; have HS2 := Lib.hid hs2; have HB2 := Lib.hid (But.frame HB1.out HP.out hb2); clear hs2 hb2 hg)
    | (go_at_call 51; refine HR.out.mono ?_; rintro e w1 ⟨p, A1, c1, rfl, hs1, hp1, hb1⟩; have HS1 := Lib.hid hs1; have HB1 := Lib.hid (HB0.out.trans (hb1.mono HZ0.out)); have HP := Lib.hid (Nat.le_trans HZ0.out hp1); clear hs1 hp1 hb1))
  go_ret
  exact ⟨rfl, (HB2.out.trans (HB3.out.mono HB2.out.size)).trans (HB4.out.mono (Nat.le_trans HB2.out.size HB3.out.size))⟩
end Go.Proofs.Ytcodlbfomfjmfaa
