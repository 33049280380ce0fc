/- The law ShaNone, walked from its box. -/
import Derived.Test.YtjemgoifemdoeaaHs
namespace Go.Proofs.Ytjemgoifemdoeaa
open Go.RowKit

theorem eqZ (w : World) : (Op.equalIn 10000 25 (.agg h32) (.agg #[.int .u8 0, .int .u8 0, .int .u8 0, .int .u8 0, .int .u8 0, .int .u8 0, .int .u8 0, .int .u8 0, .int .u8 0, .int .u8 0, .int .u8 0, .int .u8 0, .int .u8 0, .int .u8 0, .int .u8 0, .int .u8 0, .int .u8 0, .int .u8 0, .int .u8 0, .int .u8 0, .int .u8 0, .int .u8 0, .int .u8 0, .int .u8 0, .int .u8 0, .int .u8 0, .int .u8 0, .int .u8 0, .int .u8 0, .int .u8 0, .int .u8 0, .int .u8 0])).run Try.prog w = .ok true w := by kernel_rfl
theorem idxN0 (a b : Value) (w : World) : (Instr.index 44 (.agg #[a, b]) (.int .i64 0)).run Try.prog w = .ok a w := by kernel_rfl
theorem idxN1 (a b : Value) (w : World) : (Instr.index 44 (.agg #[a, b]) (.int .i64 1)).run Try.prog w = .ok b w := by kernel_rfl
set_option maxRecDepth 100000 in
set_option maxHeartbeats 2000000 in
theorem shaNone_walk (A : Option Addr) (n c : Nat) (w : World) : Calls Try.prog 6 #[.slice A n c] w fun e w' => e = .returned (.bool true) ∧ Below w.heap.size w w' := by
  by_cases hn : 500 < n
  · have p1 : (500 : Int) < n := by omega
    go_enter Try.func6, Try.ntmps6
    go_wp2_with (go_at_call 15; refine (lives05_walk _).mono ?_; rintro e w9 ⟨rfl, hb9⟩)
    go_ret
    exact ⟨rfl, hb9⟩
  · have p1 : ¬ (500 : Int) < n := by omega
    have heq := eqZ
    have hx0 := idxN0
    have hx1 := idxN1
    have h0 : NotMade (w.alloc (.cells Try.zeroCells43 43)) (.pointer (some ⟨w.heap.size, 0, none⟩)) :=
      .inr ⟨_, rfl, by simp, by rw [World.cell?_alloc_new]; kernel_rfl⟩
    have H0 := Lib.hid h0
    clear h0
    go_enter Try.func6, Try.ntmps6
    go_wp2
    go_loopw [11] (fun i wr => ∃ k : Nat, k ≤ 2 ∧ i = .int .i64 (k : Nat) ∧ Below w.heap.size w wr ∧ NotMade wr (.pointer (some ⟨w.heap.size, 0, none⟩))) (fun i _ => 2 - (intOf i).toNat)
    case atStart => exact ⟨0, by omega, rfl, (Below.refl _ _).alloc (Nat.le_refl _) _, H0.out⟩
    case round =>
      obtain ⟨k, hk, rfl, hb, hn⟩ := hrel
      have HB := Lib.hid hb
      have HN := Lib.hid hn
      clear hb hn
      by_cases h2 : k < 2
      · have p2 : (k : Int) < 2 := by omega
        rcases (by omega : k = 0 ∨ k = 1) with rfl | rfl
        · have N0 := Lib.hid (show NotMade wr (.pointer none) from .inl rfl)
          go_wp2_with (first
            | (go_at_call 25; (with_reducible refine (copy_dead _ _ N1.out).mono ?_); rintro e w8 ⟨rfl, rfl⟩)
            | (go_at_call 27; (with_reducible refine (len_dead _ _ N1.out).mono ?_); rintro e w8 ⟨rfl, rfl⟩)
            | (go_at_call 26; (with_reducible refine (sum_dead _ _ N0.out).mono ?_); rintro e w5 ⟨rfl, hb5⟩; have HB5 := Lib.hid hb5; have N1 := Lib.hid (N0.out.below hb5); clear hb5)
            | (go_at_call 28; (with_reducible refine (reset_dead _ _ N0.out).mono ?_); rintro e w8 ⟨rfl, rfl⟩)
            | (go_at_call 24; (with_reducible refine (write_dead _ _ _ N0.out).mono ?_); rintro e w8 ⟨rfl, rfl⟩))
          exact ⟨⟨1, by omega, rfl, HB.out.trans (HB5.out.mono HB.out.size), HN.out.below HB5.out⟩, by simp [intOf]⟩
        · have N0 := HN
          go_wp2_with (first
            | (go_at_call 25; (with_reducible refine (copy_dead _ _ N1.out).mono ?_); rintro e w8 ⟨rfl, rfl⟩)
            | (go_at_call 27; (with_reducible refine (len_dead _ _ N1.out).mono ?_); rintro e w8 ⟨rfl, rfl⟩)
            | (go_at_call 26; (with_reducible refine (sum_dead _ _ N0.out).mono ?_); rintro e w5 ⟨rfl, hb5⟩; have HB5 := Lib.hid hb5; have N1 := Lib.hid (N0.out.below hb5); clear hb5)
            | (go_at_call 28; (with_reducible refine (reset_dead _ _ N0.out).mono ?_); rintro e w8 ⟨rfl, rfl⟩)
            | (go_at_call 24; (with_reducible refine (write_dead _ _ _ N0.out).mono ?_); rintro e w8 ⟨rfl, rfl⟩))
          exact ⟨⟨2, by omega, rfl, HB.out.trans (HB5.out.mono HB.out.size), HN.out.below HB5.out⟩, by simp [intOf]⟩
      · have p2 : ¬ (k : Int) < 2 := by omega
        go_wp2_with (go_at_call 15; refine (lives05_walk _).mono ?_; rintro e w9 ⟨rfl, hb9⟩; have HB9 := Lib.hid hb9; clear hb9)
        go_ret
        exact ⟨rfl, HB.out.trans (HB9.out.mono HB.out.size)⟩
end Go.Proofs.Ytjemgoifemdoeaa
