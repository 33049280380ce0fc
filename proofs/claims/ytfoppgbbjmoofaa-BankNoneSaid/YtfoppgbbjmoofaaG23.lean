/- The law BankNone, walked from its box. -/
import Derived.Test.YtfoppgbbjmoofaaG22
import Derived.Lib.QuietBelow
import Derived.Deep.Quiet
import Derived.Deep.QuietTactic
import Derived.Test.YtfoppgbbjmoofaaG00
import Derived.OpenShut
import Derived.ChangeOld
import Derived.ChangeSlices
import Derived.Carry
import Derived.Deep.Slices
import Derived.ChangeSame
import Derived.Laws.IdiomArrays
namespace Go.Proofs.Ytfoppgbbjmoofaa
open Go.RowKit Go.Maps Go.Sort

theorem nbankNone0 (a b : Value) (w : World) : (Instr.index 33 (.agg #[a, b]) (.int .i64 0)).run Try.prog w = .ok a w := by kernel_rfl
theorem nbankNone1 (a b : Value) (w : World) : (Instr.index 33 (.agg #[a, b]) (.int .i64 1)).run Try.prog w = .ok b w := by kernel_rfl
theorem bankNone_b {f : FuncId} {args : Array Value} {w : World} {v : Value} (h : Calls Try.prog f args w fun e w' => e = .returned v ∧ w = w') : Calls Try.prog f args w fun e w' => e = .returned v ∧ Below w.heap.size w w' := h.mono fun _ _ h => ⟨h.1, by rw [← h.2]; exact Below.refl _ _⟩
/-- the law's world: its box, and the store z -/
structure BankNoneAt (W w : World) (s : Value) (p : Bool) (tk : Int) (fr : Int) (tt : Int) (a : Nat) : Prop where
  bl : Below W.heap.size W w
  r : w.heap[W.heap.size]? = some (.cells #[.bool p, .int .i64 tk, .int .i64 fr, .int .i64 tt, .int .u64 (limb a 0 : Nat), .int .u64 (limb a 1 : Nat), .int .u64 (limb a 2 : Nat), .int .u64 (limb a 3 : Nat)] 26 (0, 0))
  d : SDead w s
  z : SDead w (.pointer (some ⟨W.heap.size + 1, 0, none⟩))
theorem BankNoneAt.step {W w w' : World} {s : Value} {p : Bool} {tk : Int} {fr : Int} {tt : Int} {a : Nat} (h : BankNoneAt W w s p tk fr tt a) (hb : Below w.heap.size w w') : BankNoneAt W w' s p tk fr tt a :=
  ⟨h.bl.trans (hb.mono h.bl.size), (hb.block _ (hp_lt h.r)).trans h.r, h.d.below hb, h.z.below hb⟩
theorem BankNoneAt.nil {W w : World} {s : Value} {p : Bool} {tk : Int} {fr : Int} {tt : Int} {a : Nat} (h : BankNoneAt W w s p tk fr tt a) : BankNoneAt W w (.pointer none) p tk fr tt a := ⟨h.bl, h.r, .inl rfl, h.z⟩
theorem BankNoneAt.back {W w : World} {s : Value} {p : Bool} {tk : Int} {fr : Int} {tt : Int} {a : Nat} (h : BankNoneAt W w s p tk fr tt a) : BankNoneAt W w (.pointer (some ⟨W.heap.size + 1, 0, none⟩)) p tk fr tt a := ⟨h.bl, h.r, h.z, h.z⟩

set_option maxRecDepth 100000 in
set_option maxHeartbeats 4000000 in
theorem bankNone_walk (p : Bool) (tk : Int) (fr : Int) (tt : Int) (a : Nat) (w : World) (ht : tk < 2 ^ 63) (htt : tt < 2 ^ 63) (ha : a < 2 ^ 256) : Calls Try.prog 3 #[.agg #[.bool p, .int .i64 tk, .int .i64 fr, .int .i64 tt, .int .u64 (limb a 0 : Nat), .int .u64 (limb a 1 : Nat), .int .u64 (limb a 2 : Nat), .int .u64 (limb a 3 : Nat)]] w fun e w' => e = .returned (.bool true) ∧ Below w.heap.size w w' := by
  have hx0 := nbankNone0
  have q0 := fun w => eqU 0 0 0 0 0 0 0 0 w
  have HP := Lib.hid (And.intro ht (And.intro htt ha))
  clear ht htt ha
  have hx1 := nbankNone1
  have h0 : BankNoneAt w ((w.alloc (.cells #[.bool p, .int .i64 tk, .int .i64 fr, .int .i64 tt, .int .u64 (limb a 0 : Nat), .int .u64 (limb a 1 : Nat), .int .u64 (limb a 2 : Nat), .int .u64 (limb a 3 : Nat)] 26)).alloc (.cells #[.map none, .slice none 0 0, .slice none 0 0] 31)) (.pointer (some ⟨w.heap.size + 1, 0, none⟩)) p tk fr tt a := by
    refine ⟨((Below.refl _ _).alloc (Nat.le_refl _) _).alloc (by simp) _, (heap_alloc_old _ _ (by simp)).trans (heap_alloc_new _ _), .inr ⟨_, rfl, by simp, by simp⟩, .inr ⟨_, rfl, by simp, by simp⟩⟩
  have H0 := Lib.hid h0
  clear h0
  go_enter Try.func3, Try.ntmps3
  go_wp2
  go_loopw [9] (fun i wr => ∃ j : Nat, j ≤ 2 ∧ i = .int .i64 (j : Nat) ∧ BankNoneAt w wr (.pointer (some ⟨w.heap.size + 1, 0, none⟩)) p tk fr tt a) (fun i _ => 2 - (intOf i).toNat)
  case atStart => exact ⟨0, by omega, rfl, H0.out⟩
  case round =>
    obtain ⟨j, hj, rfl, hn⟩ := hrel
    have HN := Lib.hid hn
    clear hn
    by_cases h2 : j < 2
    · have p1 : (j : Int) < 2 := by omega
      rcases (by omega : j = 0 ∨ j = 1) with rfl | rfl
      · have N0 := Lib.hid HN.out.nil
        have HMi := Lib.hid (fun (W : World) (h : SDead W (.pointer (none : Option Addr))) => show Calls Try.prog 6 #[.pointer (none : Option Addr), .int .i64 tk, .int .i64 tt, .agg #[.int .u64 (limb a 0 : Nat), .int .u64 (limb a 1 : Nat), .int .u64 (limb a 2 : Nat), .int .u64 (limb a 3 : Nat)]] W fun e w' => (∃ r : Int, e = .returned (.int .i64 r)) ∧ Below W.heap.size W w' from mint_dead (none : Option Addr) tk tt a W HP.out.2.2 h)
        have HTo := Lib.hid (fun (W : World) (h : SDead W (.pointer (none : Option Addr))) => show Calls Try.prog 7 #[.pointer (none : Option Addr), .int .i64 tk] W fun e w' => (∃ ok, e = .returned (.tuple #[.agg #[.int .u64 0, .int .u64 0, .int .u64 0, .int .u64 0], .bool ok])) ∧ Below W.heap.size W w' from by have h0 := total_dead (none : Option Addr) tk W h; rw [U_zero] at h0; exact h0)
        have HBa := Lib.hid (fun (W : World) (h : SDead W (.pointer (none : Option Addr))) => show Calls Try.prog 8 #[.pointer (none : Option Addr), .int .i64 tk, .int .i64 tt] W fun e w' => e = .returned (.agg #[.int .u64 0, .int .u64 0, .int .u64 0, .int .u64 0]) ∧ Below W.heap.size W w' from by have h0 := balance_dead (none : Option Addr) tk tt W HP.out.1 HP.out.2.1 h; rw [U_zero] at h0; exact h0)
        have r := N0.out.r
        have c0 := (hp_cell (i := 0) r).trans rfl
        have c1 := (hp_cell (i := 1) r).trans rfl
        have c2 := (hp_cell (i := 2) r).trans rfl
        have c3 := (hp_cell (i := 3) r).trans rfl
        have c4 := (hp_cell (i := 4) r).trans rfl
        have c5 := (hp_cell (i := 5) r).trans rfl
        have c6 := (hp_cell (i := 6) r).trans rfl
        have c7 := (hp_cell (i := 7) r).trans rfl
        clear r
        go_wp2_with (first
          | (go_at_call 9; with_reducible refine (len_dead (.pointer (none : Option Addr)) _ N3.out.d).mono ?_; rintro e w9 ⟨rfl, rfl⟩)
          | (go_at_call 8; with_reducible refine (HBa.out _ NX.out.d).mono ?_; rintro e w3 ⟨rfl, hb3⟩; have N3 := Lib.hid (NX.out.step hb3); have r5 := (hb3.block w2.heap.size (by simp)).trans (heap_alloc_new w2 (.cells #[.int .u64 0, .int .u64 0, .int .u64 0, .int .u64 0] 24)); have a0 := (hp_cell (i := 0) r5).trans rfl; have a1 := (hp_cell (i := 1) r5).trans rfl; have a2 := (hp_cell (i := 2) r5).trans rfl; have a3 := (hp_cell (i := 3) r5).trans rfl; clear hb3 r5)
          | (go_at_call 7; with_reducible refine (HTo.out _ N1.out.d).mono ?_; rintro e w2 ⟨⟨ok, rfl⟩, hb2⟩; have N2 := Lib.hid (N1.out.step hb2); have NX := Lib.hid (N2.out.step ((Below.refl w2.heap.size w2).alloc (Nat.le_refl _) (.cells #[.int .u64 0, .int .u64 0, .int .u64 0, .int .u64 0] 24))); clear hb2; have c0 := (hp_cell (i := 0) NX.out.r).trans rfl; have c1 := (hp_cell (i := 1) NX.out.r).trans rfl; have c2 := (hp_cell (i := 2) NX.out.r).trans rfl; have c3 := (hp_cell (i := 3) NX.out.r).trans rfl; have c4 := (hp_cell (i := 4) NX.out.r).trans rfl; have c5 := (hp_cell (i := 5) NX.out.r).trans rfl; have c6 := (hp_cell (i := 6) NX.out.r).trans rfl; have c7 := (hp_cell (i := 7) NX.out.r).trans rfl)
          | (go_at_call 6; with_reducible refine (HMi.out _ N0.out.d).mono ?_; rintro e w1 ⟨⟨r, rfl⟩, hb1⟩; have N1 := Lib.hid (N0.out.step hb1); clear hb1; have c0 := (hp_cell (i := 0) N1.out.r).trans rfl; have c1 := (hp_cell (i := 1) N1.out.r).trans rfl; have c2 := (hp_cell (i := 2) N1.out.r).trans rfl; have c3 := (hp_cell (i := 3) N1.out.r).trans rfl; have c4 := (hp_cell (i := 4) N1.out.r).trans rfl; have c5 := (hp_cell (i := 5) N1.out.r).trans rfl; have c6 := (hp_cell (i := 6) N1.out.r).trans rfl; have c7 := (hp_cell (i := 7) N1.out.r).trans rfl))
        exact ⟨⟨1, by omega, rfl, N3.out.back⟩, by simp [intOf]⟩
      · have N0 := Lib.hid HN.out
        have HMi := Lib.hid (fun (W : World) (h : SDead W (.pointer (some ⟨w.heap.size + 1, 0, none⟩ : Option Addr))) => show Calls Try.prog 6 #[.pointer (some ⟨w.heap.size + 1, 0, none⟩ : Option Addr), .int .i64 tk, .int .i64 tt, .agg #[.int .u64 (limb a 0 : Nat), .int .u64 (limb a 1 : Nat), .int .u64 (limb a 2 : Nat), .int .u64 (limb a 3 : Nat)]] W fun e w' => (∃ r : Int, e = .returned (.int .i64 r)) ∧ Below W.heap.size W w' from mint_dead (some ⟨w.heap.size + 1, 0, none⟩ : Option Addr) tk tt a W HP.out.2.2 h)
        have HTo := Lib.hid (fun (W : World) (h : SDead W (.pointer (some ⟨w.heap.size + 1, 0, none⟩ : Option Addr))) => show Calls Try.prog 7 #[.pointer (some ⟨w.heap.size + 1, 0, none⟩ : Option Addr), .int .i64 tk] W fun e w' => (∃ ok, e = .returned (.tuple #[.agg #[.int .u64 0, .int .u64 0, .int .u64 0, .int .u64 0], .bool ok])) ∧ Below W.heap.size W w' from by have h0 := total_dead (some ⟨w.heap.size + 1, 0, none⟩ : Option Addr) tk W h; rw [U_zero] at h0; exact h0)
        have HBa := Lib.hid (fun (W : World) (h : SDead W (.pointer (some ⟨w.heap.size + 1, 0, none⟩ : Option Addr))) => show Calls Try.prog 8 #[.pointer (some ⟨w.heap.size + 1, 0, none⟩ : Option Addr), .int .i64 tk, .int .i64 tt] W fun e w' => e = .returned (.agg #[.int .u64 0, .int .u64 0, .int .u64 0, .int .u64 0]) ∧ Below W.heap.size W w' from by have h0 := balance_dead (some ⟨w.heap.size + 1, 0, none⟩ : Option Addr) tk tt W HP.out.1 HP.out.2.1 h; rw [U_zero] at h0; exact h0)
        have r := N0.out.r
        have c0 := (hp_cell (i := 0) r).trans rfl
        have c1 := (hp_cell (i := 1) r).trans rfl
        have c2 := (hp_cell (i := 2) r).trans rfl
        have c3 := (hp_cell (i := 3) r).trans rfl
        have c4 := (hp_cell (i := 4) r).trans rfl
        have c5 := (hp_cell (i := 5) r).trans rfl
        have c6 := (hp_cell (i := 6) r).trans rfl
        have c7 := (hp_cell (i := 7) r).trans rfl
        clear r
        go_wp2_with (first
          | (go_at_call 9; with_reducible refine (len_dead (.pointer (some ⟨w.heap.size + 1, 0, none⟩ : Option Addr)) _ N3.out.d).mono ?_; rintro e w9 ⟨rfl, rfl⟩)
          | (go_at_call 8; with_reducible refine (HBa.out _ NX.out.d).mono ?_; rintro e w3 ⟨rfl, hb3⟩; have N3 := Lib.hid (NX.out.step hb3); have r5 := (hb3.block w2.heap.size (by simp)).trans (heap_alloc_new w2 (.cells #[.int .u64 0, .int .u64 0, .int .u64 0, .int .u64 0] 24)); have a0 := (hp_cell (i := 0) r5).trans rfl; have a1 := (hp_cell (i := 1) r5).trans rfl; have a2 := (hp_cell (i := 2) r5).trans rfl; have a3 := (hp_cell (i := 3) r5).trans rfl; clear hb3 r5)
          | (go_at_call 7; with_reducible refine (HTo.out _ N1.out.d).mono ?_; rintro e w2 ⟨⟨ok, rfl⟩, hb2⟩; have N2 := Lib.hid (N1.out.step hb2); have NX := Lib.hid (N2.out.step ((Below.refl w2.heap.size w2).alloc (Nat.le_refl _) (.cells #[.int .u64 0, .int .u64 0, .int .u64 0, .int .u64 0] 24))); clear hb2; have c0 := (hp_cell (i := 0) NX.out.r).trans rfl; have c1 := (hp_cell (i := 1) NX.out.r).trans rfl; have c2 := (hp_cell (i := 2) NX.out.r).trans rfl; have c3 := (hp_cell (i := 3) NX.out.r).trans rfl; have c4 := (hp_cell (i := 4) NX.out.r).trans rfl; have c5 := (hp_cell (i := 5) NX.out.r).trans rfl; have c6 := (hp_cell (i := 6) NX.out.r).trans rfl; have c7 := (hp_cell (i := 7) NX.out.r).trans rfl)
          | (go_at_call 6; with_reducible refine (HMi.out _ N0.out.d).mono ?_; rintro e w1 ⟨⟨r, rfl⟩, hb1⟩; have N1 := Lib.hid (N0.out.step hb1); clear hb1; have c0 := (hp_cell (i := 0) N1.out.r).trans rfl; have c1 := (hp_cell (i := 1) N1.out.r).trans rfl; have c2 := (hp_cell (i := 2) N1.out.r).trans rfl; have c3 := (hp_cell (i := 3) N1.out.r).trans rfl; have c4 := (hp_cell (i := 4) N1.out.r).trans rfl; have c5 := (hp_cell (i := 5) N1.out.r).trans rfl; have c6 := (hp_cell (i := 6) N1.out.r).trans rfl; have c7 := (hp_cell (i := 7) N1.out.r).trans rfl))
        exact ⟨⟨2, by omega, rfl, N3.out⟩, by simp [intOf]⟩
    · have p1 : ¬ (j : Int) < 2 := by omega
      go_wp2_with (go_at_call 10; refine (lives17_walk _).mono ?_; rintro e w9 ⟨rfl, hb9⟩; have HB9 := Lib.hid hb9; clear hb9)
      go_ret
      exact ⟨rfl, HN.out.bl.trans (HB9.out.mono HN.out.bl.size)⟩
end Go.Proofs.Ytfoppgbbjmoofaa

namespace Go.Proofs.Ytfoppgbbjmoofaa
open Go.ChangeShapes Go.WideShapes Go.ChangeAt Go.RowKit

theorem cells_act17 : Try.prog.cellsOf 26 = 8 := by kernel_rfl
theorem cells_act17_U : Try.prog.cellsOf 24 = 4 := by kernel_rfl
theorem cells_act17_bool : Try.prog.cellsOf 4 = 1 := by kernel_rfl
theorem cells_act17_int : Try.prog.cellsOf 3 = 1 := by kernel_rfl
theorem list_act17 {α : Type} (l : List α) (h : l.length = 8) : ∃ b0 b1 b2 b3 b4 b5 b6 b7, l = [b0, b1, b2, b3, b4, b5, b6, b7] := by
  match l, h with
  | [b0, b1, b2, b3, b4, b5, b6, b7], _ => exact ⟨b0, b1, b2, b3, b4, b5, b6, b7, rfl⟩
theorem listy_act17 {α : Type} (l : List α) (h : l.length = 5) : ∃ y0 y1 y2 y3 y4, l = [y0, y1, y2, y3, y4] := by
  match l, h with
  | [y0, y1, y2, y3, y4], _ => exact ⟨y0, y1, y2, y3, y4, rfl⟩
section
variable {H : Type} {enc : TypeId × Value → H} {W : World} {base : Nat}
set_option maxRecDepth 100000 in
theorem open_u_act17 {m : Nat} {c0 c1 c2 c3 : Value} {x : DataW H × List MemPlace} (hf : DataW.trod enc Try.prog W 0 (fun _ => true) true m 24 [c0, c1, c2, c3] = some x) :
    ∃ a, a < 2 ^ 256 ∧ c0 = .int .u64 (limb a 0 : Nat) ∧ c1 = .int .u64 (limb a 1 : Nat) ∧ c2 = .int .u64 (limb a 2 : Nat) ∧ c3 = .int .u64 (limb a 3 : Nat) := by
  obtain ⟨y0, y1, y2, y3, m, hx, hy0, hy1, hy2, hy3⟩ := trod_array4 Try.underlying24 (show Try.prog.cellsOf 22 = 1 by kernel_rfl) hf
  obtain ⟨x0, e0, rfl, w0⟩ := DataW.trod_int Try.underlying22 hy0
  obtain ⟨x1, e1, rfl, w1⟩ := DataW.trod_int Try.underlying22 hy1
  obtain ⟨x2, e2, rfl, w2⟩ := DataW.trod_int Try.underlying22 hy2
  obtain ⟨x3, e3, rfl, w3⟩ := DataW.trod_int Try.underlying22 hy3
  simp at e0 e1 e2 e3
  have hb0 := bounds_u64 w0
  have hb1 := bounds_u64 w1
  have hb2 := bounds_u64 w2
  have hb3 := bounds_u64 w3
  obtain ⟨n0, rfl⟩ : ∃ n : Nat, x0 = (n : Int) := ⟨x0.toNat, by omega⟩
  obtain ⟨n1, rfl⟩ : ∃ n : Nat, x1 = (n : Int) := ⟨x1.toNat, by omega⟩
  obtain ⟨n2, rfl⟩ : ∃ n : Nat, x2 = (n : Int) := ⟨x2.toNat, by omega⟩
  obtain ⟨n3, rfl⟩ : ∃ n : Nat, x3 = (n : Int) := ⟨x3.toNat, by omega⟩
  have hl : ∀ i, i < 4 → (fun i => match i with | 0 => n0 | 1 => n1 | 2 => n2 | _ => n3 : Nat → Nat) i < 2 ^ 64 := fun i hi => by
    rcases (by omega : i = 0 ∨ i = 1 ∨ i = 2 ∨ i = 3) with rfl | rfl | rfl | rfl
    · show n0 < 2 ^ 64; omega
    · show n1 < 2 ^ 64; omega
    · show n2 < 2 ^ 64; omega
    · show n3 < 2 ^ 64; omega
  refine ⟨val (fun i => match i with | 0 => n0 | 1 => n1 | 2 => n2 | _ => n3 : Nat → Nat) 4, val_lt 4 hl, ?_, ?_, ?_, ?_⟩
  · rw [e0, limb_val 4 hl 0 (by omega)]; rfl
  · rw [e1, limb_val 4 hl 1 (by omega)]; rfl
  · rw [e2, limb_val 4 hl 2 (by omega)]; rfl
  · rw [e3, limb_val 4 hl 3 (by omega)]; rfl
set_option maxRecDepth 100000 in
theorem open_act17 {v : Value} {d : DataW H} {p : List MemPlace} (hv : Value.okWide Try.prog W .any base 26 v) (h : DataW.Trod enc Try.prog W 0 (fun _ => true) true 26 v d p) :
    ∃ x0 x1 x2 x3 a4, v = .agg #[.bool x0, .int .i64 x1, .int .i64 x2, .int .i64 x3, .int .u64 (limb a4 0 : Nat), .int .u64 (limb a4 1 : Nat), .int .u64 (limb a4 2 : Nat), .int .u64 (limb a4 3 : Nat)] ∧ (-9223372036854775808 ≤ x1 ∧ x1 < 2 ^ 63) ∧ (-9223372036854775808 ≤ x2 ∧ x2 < 2 ^ 63) ∧ (-9223372036854775808 ≤ x3 ∧ x3 < 2 ^ 63) ∧ (a4 < 2 ^ 256) := by
  obtain ⟨cs, rfl, hsz, _⟩ : ∃ cs, v = .agg cs ∧ cs.size = Try.prog.cellsOf 26 ∧ Row.okWide Try.prog W .any base 26 cs := by
    simpa [Value.okWide, Try.underlying26] using hv
  rw [cells_act17] at hsz
  obtain ⟨l⟩ := cs
  obtain ⟨b0, b1, b2, b3, b4, b5, b6, b7, rfl⟩ := list_act17 l hsz
  obtain ⟨fuel, hf⟩ := h
  obtain ⟨ys, n2, _, _, _, hyl, hf⟩ := DataW.trod_struct Try.underlying26 hf
  obtain ⟨y0, y1, y2, y3, y4, rfl⟩ := listy_act17 ys hyl
  have f0 : DataW.trod enc Try.prog W 0 (fun _ => true) true n2 4 (([b0, b1, b2, b3, b4, b5, b6, b7].drop 0).take (Try.prog.cellsOf 4)) = some y0 := hf 0 _ rfl
  rw [cells_act17_bool] at f0
  replace f0 : DataW.trod enc Try.prog W 0 (fun _ => true) true n2 4 [b0] = some y0 := f0
  have f1 : DataW.trod enc Try.prog W 0 (fun _ => true) true n2 3 (([b0, b1, b2, b3, b4, b5, b6, b7].drop 1).take (Try.prog.cellsOf 3)) = some y1 := hf 1 _ rfl
  rw [cells_act17_int] at f1
  replace f1 : DataW.trod enc Try.prog W 0 (fun _ => true) true n2 3 [b1] = some y1 := f1
  have f2 : DataW.trod enc Try.prog W 0 (fun _ => true) true n2 3 (([b0, b1, b2, b3, b4, b5, b6, b7].drop 2).take (Try.prog.cellsOf 3)) = some y2 := hf 2 _ rfl
  rw [cells_act17_int] at f2
  replace f2 : DataW.trod enc Try.prog W 0 (fun _ => true) true n2 3 [b2] = some y2 := f2
  have f3 : DataW.trod enc Try.prog W 0 (fun _ => true) true n2 3 (([b0, b1, b2, b3, b4, b5, b6, b7].drop 3).take (Try.prog.cellsOf 3)) = some y3 := hf 3 _ rfl
  rw [cells_act17_int] at f3
  replace f3 : DataW.trod enc Try.prog W 0 (fun _ => true) true n2 3 [b3] = some y3 := f3
  have f4 : DataW.trod enc Try.prog W 0 (fun _ => true) true n2 24 (([b0, b1, b2, b3, b4, b5, b6, b7].drop 4).take (Try.prog.cellsOf 24)) = some y4 := hf 4 _ rfl
  rw [cells_act17_U] at f4
  replace f4 : DataW.trod enc Try.prog W 0 (fun _ => true) true n2 24 [b4, b5, b6, b7] = some y4 := f4
  obtain ⟨x0, e0, _⟩ := DataW.trod_bool Try.underlying4 f0
  simp at e0
  subst e0
  obtain ⟨x1, e1, _, w1⟩ := DataW.trod_int Try.underlying3 f1
  simp at e1
  subst e1
  have h1 := bounds_i64 w1
  obtain ⟨x2, e2, _, w2⟩ := DataW.trod_int Try.underlying3 f2
  simp at e2
  subst e2
  have h2 := bounds_i64 w2
  obtain ⟨x3, e3, _, w3⟩ := DataW.trod_int Try.underlying3 f3
  simp at e3
  subst e3
  have h3 := bounds_i64 w3
  obtain ⟨a4, ha4, rfl, rfl, rfl, rfl⟩ := open_u_act17 f4
  exact ⟨x0, x1, x2, x3, a4, rfl, ⟨by omega, by omega⟩, ⟨by omega, by omega⟩, ⟨by omega, by omega⟩, ha4⟩
end
end Go.Proofs.Ytfoppgbbjmoofaa
