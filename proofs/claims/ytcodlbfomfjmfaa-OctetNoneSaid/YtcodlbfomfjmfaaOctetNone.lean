/- The law OctetNone, walked from its box. -/
import Derived.Test.YtcodlbfomfjmfaaOx
import Derived.Test.YtcodlbfomfjmfaaOo
namespace Go.Proofs.Ytcodlbfomfjmfaa
open Go.RowKit

theorem eqH (w : World) : (Op.equalIn 10000 44 (.agg z32) (.agg #[.int .u8 0, .int .u8 0, .int .u8 0, .int .u8 0, .int .u8 0, .int .u8 0, .int .u8 0, .int .u8 0, .int .u8 0, .int .u8 0, .int .u8 0, .int .u8 0, .int .u8 0, .int .u8 0, .int .u8 0, .int .u8 0, .int .u8 0, .int .u8 0, .int .u8 0, .int .u8 0, .int .u8 0, .int .u8 0, .int .u8 0, .int .u8 0, .int .u8 0, .int .u8 0, .int .u8 0, .int .u8 0, .int .u8 0, .int .u8 0, .int .u8 0, .int .u8 0])).run Try.prog w = .ok true w := by kernel_rfl
theorem idx0 (a b : Value) (w : World) : (Instr.index 73 (.agg #[a, b]) (.int .i64 0)).run Try.prog w = .ok a w := by kernel_rfl
theorem idx1 (a b : Value) (w : World) : (Instr.index 73 (.agg #[a, b]) (.int .i64 1)).run Try.prog w = .ok b w := by kernel_rfl
/-- the law's world: its box, and the source z -/
structure NoneAt (W w : World) (s : Value) (mo : Int) : Prop where
  b : Below W.heap.size W w
  lt : W.heap.size < w.heap.size
  c : w.cell? ⟨W.heap.size, 1, none⟩ = some (.int .i64 mo)
  d : Dead w s
  z : Dead w (.pointer (some ⟨W.heap.size + 1, 0, none⟩))
theorem NoneAt.step {W w w' : World} {s : Value} {mo : Int} (h : NoneAt W w s mo) (hb : Below w.heap.size w w') : NoneAt W w' s mo :=
  ⟨h.b.trans (hb.mono h.b.size), Nat.lt_of_lt_of_le h.lt hb.size, by rw [hb.cell (p := ⟨W.heap.size, 1, none⟩) h.lt]; exact h.c, h.d.below hb, h.z.below hb⟩
theorem NoneAt.nil {W w : World} {s : Value} {mo : Int} (h : NoneAt W w s mo) : NoneAt W w (.pointer none) mo := ⟨h.b, h.lt, h.c, .inl rfl, h.z⟩
set_option maxRecDepth 100000 in
set_option maxHeartbeats 2000000 in
theorem octetNone_walk (kd mo : Int) (w : World) : Calls Try.prog 9 #[.agg #[.int .i64 kd, .int .i64 mo]] w fun e w' => e = .returned (.bool true) ∧ Below w.heap.size w w' := by
  have heq := eqU
  have heqH := eqH
  have hx0 := idx0
  have hx1 := idx1
  have h0 : NoneAt w ((w.alloc (.cells #[.int .i64 kd, .int .i64 mo] 57)).alloc (.cells #[.bool false, .slice none 0 0, .int .i64 0, .int .i64 0] 72)) (.pointer (some ⟨w.heap.size + 1, 0, none⟩)) mo := by
    refine ⟨((Below.refl _ _).alloc (Nat.le_refl _) _).alloc (by simp) _, by simp; omega, by simp, .inr ⟨_, rfl, by simp, by simp⟩, .inr ⟨_, rfl, by simp, by simp⟩⟩
  have H0 := Lib.hid h0
  clear h0
  go_enter Try.func9, Try.ntmps9
  go_wp2
  go_loopw [7] (fun i wr => ∃ k : Nat, k ≤ 2 ∧ i = .int .i64 (k : Nat) ∧ NoneAt w wr (.pointer (some ⟨w.heap.size + 1, 0, none⟩)) mo) (fun i _ => 2 - (intOf i).toNat)
  case atStart => exact ⟨0, by omega, rfl, H0.out⟩
  case round =>
    obtain ⟨k, hk, rfl, hn⟩ := hrel
    have HN := Lib.hid hn
    clear hn
    by_cases h2 : k < 2
    · have p1 : (k : Int) < 2 := by omega
      rcases (by omega : k = 0 ∨ k = 1) with rfl | rfl
      · have N0 := Lib.hid HN.out.nil
        have c0 := N0.out.c
        go_wp2_with (first
          | (go_at_call 55; refine (end_dead _ _ N7.out.d).mono ?_; rintro e w8 ⟨rfl, hb8⟩; have N8 := Lib.hid (N7.out.step hb8); clear hb8)
          | (go_at_call 53; refine (err_dead _ _ N6.out.d).mono ?_; rintro e w7 ⟨rfl, hb7⟩; have N7 := Lib.hid (N6.out.step hb7); clear hb7)
          | (go_at_call 54; refine (left_dead _ _ N5.out.d).mono ?_; rintro e w6 ⟨rfl, hb6⟩; have N6 := Lib.hid (N5.out.step hb6); clear hb6)
          | (go_at_call 61; refine (byte_dead _ _ N4.out.d).mono ?_; rintro e w5 ⟨rfl, hb5⟩; have N5 := Lib.hid (N4.out.step hb5); clear hb5)
          | (go_at_call 59; refine (text_dead _ mo _ N3.out.d).mono ?_; rintro e w4 ⟨rfl, hb4⟩; have N4 := Lib.hid (N3.out.step hb4); clear hb4)
          | (go_at_call 60; refine (hash_dead _ _ N2.out.d).mono ?_; rintro e w3 ⟨rfl, hb3⟩; have N3 := Lib.hid (N2.out.step hb3); have C3 := N3.out.c; clear hb3)
          | (go_at_call 58; refine (amount_dead _ _ N1.out.d).mono ?_; rintro e w2 ⟨rfl, hb2⟩; rw [U_zero]; have N2 := Lib.hid (N1.out.step hb2); clear hb2)
          | (go_at_call 57; refine (dvar_dead _ mo _ N0.out.d).mono ?_; rintro e w1 ⟨rfl, hb1⟩; have N1 := Lib.hid (N0.out.step hb1); clear hb1))
        exact ⟨⟨1, by omega, rfl, N8.out.b, N8.out.lt, N8.out.c, N8.out.z, N8.out.z⟩, by simp [intOf]⟩
      · have N0 := Lib.hid HN.out
        have c0 := N0.out.c
        go_wp2_with (first
          | (go_at_call 55; refine (end_dead _ _ N7.out.d).mono ?_; rintro e w8 ⟨rfl, hb8⟩; have N8 := Lib.hid (N7.out.step hb8); clear hb8)
          | (go_at_call 53; refine (err_dead _ _ N6.out.d).mono ?_; rintro e w7 ⟨rfl, hb7⟩; have N7 := Lib.hid (N6.out.step hb7); clear hb7)
          | (go_at_call 54; refine (left_dead _ _ N5.out.d).mono ?_; rintro e w6 ⟨rfl, hb6⟩; have N6 := Lib.hid (N5.out.step hb6); clear hb6)
          | (go_at_call 61; refine (byte_dead _ _ N4.out.d).mono ?_; rintro e w5 ⟨rfl, hb5⟩; have N5 := Lib.hid (N4.out.step hb5); clear hb5)
          | (go_at_call 59; refine (text_dead _ mo _ N3.out.d).mono ?_; rintro e w4 ⟨rfl, hb4⟩; have N4 := Lib.hid (N3.out.step hb4); clear hb4)
          | (go_at_call 60; refine (hash_dead _ _ N2.out.d).mono ?_; rintro e w3 ⟨rfl, hb3⟩; have N3 := Lib.hid (N2.out.step hb3); have C3 := N3.out.c; clear hb3)
          | (go_at_call 58; refine (amount_dead _ _ N1.out.d).mono ?_; rintro e w2 ⟨rfl, hb2⟩; rw [U_zero]; have N2 := Lib.hid (N1.out.step hb2); clear hb2)
          | (go_at_call 57; refine (dvar_dead _ mo _ N0.out.d).mono ?_; rintro e w1 ⟨rfl, hb1⟩; have N1 := Lib.hid (N0.out.step hb1); clear hb1))
        exact ⟨⟨2, by omega, rfl, N8.out⟩, by simp [intOf]⟩
    · have p1 : ¬ (k : Int) < 2 := by omega
      go_wp2_with (go_at_call 42; refine (lives04_walk _).mono ?_; rintro e w9 ⟨rfl, hb9⟩; have HB9 := Lib.hid hb9; clear hb9)
      go_ret
      exact ⟨rfl, HN.out.b.trans (HB9.out.mono HN.out.b.size)⟩
end Go.Proofs.Ytcodlbfomfjmfaa
