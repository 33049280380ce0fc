/- A number in groups, read: octet.Var's closure, readGroups and Source.Var, walked. -/
import Derived.Test.YtcodlbfomfjmfaaOs
namespace Go.Proofs.Ytcodlbfomfjmfaa
open Go.RowKit

set_option maxRecDepth 100000 in
set_option maxHeartbeats 400000 in
theorem next_ok {w : World} {p bx : Nat} {A : Option Addr} {n c : Nat} {f : Nat → Nat} {k : Nat} (h : Src w p A n c f k 0) (hk : k < n) (hx : w.cell? ⟨bx, 0, none⟩ = some (.pointer (some ⟨p, 0, none⟩))) : Calls Try.prog 120 #[.pointer (some ⟨bx, 0, none⟩)] w fun en w' => en = .returned (.tuple #[.int .u8 (f k : Nat), .bool true]) ∧ Src w' p A n c f (k + 1) 0 ∧ But w.heap.size p w w' := by
  have HT := Lib.hid (take_ok h 1 (by omega) (.func (Fn.func 117) #[.pointer (some ⟨p, 0, none⟩)] #[]))
  clear h
  go_enter Try.func120, Try.ntmps120
  go_wp2_with (go_at_call 121; refine HT.out.mono ?_; rintro en w1 ⟨⟨A2, rfl, hs, hn, ha⟩, hS, hB1⟩; obtain ⟨g, o, rfl, hg, hc⟩ := hs.at_ (by omega); have c0 := hc 0 (by omega); rw [Nat.add_zero, Nat.add_zero] at c0; have HS := Lib.hid hS; have HB := Lib.hid hB1; clear hc hs hn ha hS hB1)
  go_ret2
  exact ⟨rfl, HS.out, HB.out⟩
set_option maxRecDepth 100000 in
set_option maxHeartbeats 400000 in
theorem next_end {w : World} {p bx : Nat} {A : Option Addr} {n c : Nat} {f : Nat → Nat} {k : Nat} (h : Src w p A n c f k 0) (hk : n ≤ k) (hx : w.cell? ⟨bx, 0, none⟩ = some (.pointer (some ⟨p, 0, none⟩))) : Calls Try.prog 120 #[.pointer (some ⟨bx, 0, none⟩)] w fun en w' => en = .returned (.tuple #[.int .u8 0, .bool false]) ∧ Src w' p A n c f k 3 ∧ But w.heap.size p w w' := by
  have HT := Lib.hid (take_short h 1 (by omega))
  clear h
  unfold keepOf at HT
  go_enter Try.func120, Try.ntmps120
  go_wp2_with (go_at_call 121; refine HT.out.mono ?_; rintro en w1 ⟨rfl, hS, hB1⟩; have HS := Lib.hid hS; have HB := Lib.hid hB1; clear hS hB1)
  go_ret2
  exact ⟨rfl, HS.out, HB.out⟩

/-- what is wrong with the groups -/
def ger (f : Nat → Nat) (n k i : Nat) : Nat := if n ≤ k + i then 3 else if i = 9 then 4 else if 0 < i ∧ f (k + i) = 0 then 4 else 0
/-- what the groups from k on tell: v, what is wrong with them, and where they end -/
def Got (f : Nat → Nat) (n k v e k' : Nat) : Prop := ∃ i, Stop f n k i ∧ e = ger f n k i ∧ v = (if e = 0 then gv f k (i + 1) else 0) ∧ (e ≠ 3 → k' = k + i + 1)
theorem wrap64_is (x : Int) : IntKind.i64.wrap x = wrap64 x := by rw [IntKind.wrap_i64]; unfold wrap64; omega
theorem or_grp64 {a d i s : Nat} (hi : i < 9) (ha : a < 128 ^ i) (hd : d < 128) (hs : s = 7 * i) : bits .or .i64 (a : Int) (wrap64 ((d : Int) * 2 ^ s)) = ((a + d * 128 ^ i : Nat) : Int) := by
  rw [← wrap64_is, hs]; exact or_grp hi ha hd
def GrRel (w : World) (p : Nat) (A : Option Addr) (n c : Nat) (f : Nat → Nat) (k : Nat) (x i : Value) (wr : World) : Prop :=
  ∃ j : Nat, j ≤ 9 ∧ i = .int .i64 (j : Nat) ∧ x = .int .i64 (gv f k j : Nat) ∧ (∀ q, q < j → k + q < n ∧ 128 ≤ f (k + q)) ∧ Src wr p A n c f (k + j) 0 ∧ But w.heap.size p w wr
def GrPost (w : World) (p : Nat) (A : Option Addr) (n c : Nat) (f : Nat → Nat) (k : Nat) (en : Ending) (w' : World) : Prop :=
  ∃ v e k' e' : Nat, en = .returned (.tuple #[.int .i64 (v : Nat), .int .i64 (e : Nat)]) ∧ Got f n k v e k' ∧ e' = (if e = 3 then 3 else 0) ∧ Src w' p A n c f k' e' ∧ But w.heap.size p w w'
theorem But.cons {B p : Nat} {a b c : World} (h : But B p a b) (hB : B ≤ b.heap.size) (k : But b.heap.size p b c) : But B p a c := h.trans (k.mono hB)
set_option maxRecDepth 100000 in
set_option maxHeartbeats 2000000 in
theorem groups_walk {w : World} {p bx : Nat} {A : Option Addr} {n c : Nat} {f : Nat → Nat} {k : Nat} (h : Src w p A n c f k 0) (hx : w.cell? ⟨bx, 0, none⟩ = some (.pointer (some ⟨p, 0, none⟩))) (hlt : bx < w.heap.size) (hne : bx ≠ p) :
    Calls Try.prog 119 #[.func (Fn.func 120) #[] #[.pointer (some ⟨bx, 0, none⟩)]] w (GrPost w p A n c f k) := by
  have H := Lib.hid h
  have HX := Lib.hid hx
  clear h hx
  go_enter Try.func119, Try.ntmps119
  go_wp2
  go_loopw [4, 5] (GrRel w p A n c f k) (fun _ i _ => 10 - (intOf i).toNat)
  case atStart => exact ⟨0, by omega, rfl, rfl, fun q hq => absurd hq (by omega), H.out, But.refl _ _ _⟩
  case round =>
    obtain ⟨j, hj, rfl, rfl, hon, hs, hb⟩ := hrel
    have hx : wr.cell? ⟨bx, 0, none⟩ = some (.pointer (some ⟨p, 0, none⟩)) := by rw [hb.cell hlt hne]; exact HX.out
    have Hon := Lib.hid hon
    have Hb := Lib.hid hb
    have hsz := hb.size
    by_cases hk : k + j < n
    · have HN := Lib.hid (next_ok hs hk hx)
      have hsm := hs.sl.small (k + j)
      clear hs hx hb hon
      obtain ⟨y, hy⟩ : ∃ y, y = f (k + j) := ⟨_, rfl⟩
      have Hy := Lib.hid hy
      rw [← hy] at hsm HN
      clear hy
      by_cases h9 : j = 9
      · have HN2 := HN
        have p1 : (j : Int) = 9 := by omega
        go_wp2_with (go_at_call 120; refine HN.out.mono ?_; rintro en w1 ⟨rfl, hS, hB1⟩; have HS := Lib.hid hS; have HB := Lib.hid hB1; clear hS hB1)
        go_ret2
        have e4 : ger f n k j = 4 := by unfold ger; rw [if_neg (by omega), if_pos h9]
        exact ⟨0, 4, k + j + 1, 0, rfl, ⟨j, ⟨Hon.out, hj, .inr (.inl h9)⟩, e4.symm, rfl, fun _ => rfl⟩, rfl, HS.out, Hb.out.cons hsz HB.out⟩
      · have p1 : ¬ (j : Int) = 9 := by omega
        by_cases h0 : 0 < j ∧ y = 0
        · have p2 : (0 : Int) < j := by omega
          have p3 : (y : Int) = 0 := by omega
          go_wp2_with (go_at_call 120; refine HN.out.mono ?_; rintro en w1 ⟨rfl, hS, hB1⟩; have HS := Lib.hid hS; have HB := Lib.hid hB1; clear hS hB1)
          go_ret2
          rw [Hy.out] at h0
          have e4 : ger f n k j = 4 := by unfold ger; rw [if_neg (by omega), if_neg h9, if_pos h0]
          exact ⟨0, 4, k + j + 1, 0, rfl, ⟨j, ⟨Hon.out, hj, .inr (.inr (by omega))⟩, e4.symm, rfl, fun _ => rfl⟩, rfl, HS.out, Hb.out.cons hsz HB.out⟩
        · have q0 : ¬ ((0 : Int) < j ∧ (y : Int) = 0) := by omega
          have hv := gv_lt f k j
          obtain ⟨v, hv'⟩ : ∃ v, v = gv f k j := ⟨_, rfl⟩
          rw [← hv'] at hv
          have Hv := Lib.hid hv'
          have Ht := Lib.hid hv
          obtain ⟨d, hd⟩ : ∃ d, d = y % 128 := ⟨_, rfl⟩
          have d1 : (y : Int) % 128 = (d : Int) := by omega
          have d2 : d < 128 := by omega
          obtain ⟨s, hs⟩ : ∃ s, s = 7 * j := ⟨_, rfl⟩
          have s1 : 7 * (j : Int) = (s : Int) := by omega
          have s2 : s < 64 := by omega
          have Ho := Lib.hid (or_grp64 (a := v) (d := d) (i := j) (by omega) hv d2 hs)
          rw [← hv']
          have Hd := Lib.hid hd
          clear hv' hv hd hs
          go_wp2_with (go_at_call 120; refine HN.out.mono ?_; rintro en w1 ⟨rfl, hS, hB1⟩; have HS := Lib.hid hS; have HB := Lib.hid hB1; clear hS hB1)
          all_goals first
            | (go_ret2
               have e0 : ger f n k j = 0 := by unfold ger; rw [if_neg (by omega), if_neg h9, if_neg (by rw [← Hy.out]; exact h0)]
               refine ⟨v + d * 128 ^ j, 0, k + j + 1, 0, ?_, ⟨j, ⟨Hon.out, hj, .inr (.inr ?_)⟩, e0.symm, ?_, fun _ => rfl⟩, rfl, HS.out, Hb.out.cons hsz HB.out⟩
               · exact congrArg (fun x => Ending.returned (.tuple #[.int .i64 x, .int .i64 0])) Ho.out
               · rw [← Hy.out]; omega
               · rw [if_pos rfl, Hv.out]; simp only [gv]; rw [← Hy.out, Hd.out])
            | (refine ⟨⟨j + 1, by omega, rfl, ?_, fun q hq => ?_, HS.out, Hb.out.cons hsz HB.out⟩, ?_⟩
               · refine congrArg (fun x => Value.int .i64 x) (Ho.out.trans ?_)
                 rw [Hv.out]; simp only [gv]; rw [← Hy.out, Hd.out]
               · rcases Nat.lt_or_eq_of_le (Nat.le_of_lt_succ hq) with h1 | h1
                 · exact Hon.out q h1
                 · rw [h1, ← Hy.out]; omega
               · simp [intOf]; omega)
            | (exfalso; rename_i hh; simp only [beq_iff_eq] at hh; omega)
    · have HN := Lib.hid (next_end hs (by omega) hx)
      clear hs hx hb hon
      go_wp2_with (go_at_call 120; refine HN.out.mono ?_; rintro en w1 ⟨rfl, hS, hB1⟩; have HS := Lib.hid hS; have HB := Lib.hid hB1; clear hS hB1)
      go_ret2
      have e3 : ger f n k j = 3 := by unfold ger; rw [if_pos (by omega)]
      exact ⟨0, 3, k + j, 3, rfl, ⟨j, ⟨Hon.out, hj, .inl (by omega)⟩, e3.symm, rfl, fun h => absurd rfl h⟩, rfl, HS.out, Hb.out.cons hsz HB.out⟩
theorem gerr_of (f : Nat → Nat) (n k i : Nat) (most : Int) : gerr f n k i most = if ger f n k i = 0 then (if most < (gv f k (i + 1) : Nat) then 5 else 0) else ger f n k i := by
  unfold gerr ger
  split
  · rfl
  · split
    · rfl
    · split <;> rfl
/-- what Var tells, and where it leaves the source -/
def VarGot (f : Nat → Nat) (n k : Nat) (most : Int) (v e k' : Nat) : Prop := ∃ i, Stop f n k i ∧ e = gerr f n k i most ∧ v = gval f n k i most ∧ (e = 0 → k' = k + i + 1)
def VarPost (w : World) (p : Nat) (A : Option Addr) (n c : Nat) (f : Nat → Nat) (k : Nat) (most : Int) (en : Ending) (w' : World) : Prop :=
  ∃ v e k' : Nat, en = .returned (.int .i64 (v : Nat)) ∧ VarGot f n k most v e k' ∧ Src w' p A n c f k' e ∧ But w.heap.size p w w'
theorem got_bad {f : Nat → Nat} {n k v e k' : Nat} (h : Got f n k v e k') (he : e ≠ 0) (most : Int) : VarGot f n k most 0 e k' := by
  obtain ⟨i, h1, h2, h3, h4⟩ := h
  have e1 : gerr f n k i most = e := by rw [gerr_of, ← h2, if_neg he]
  exact ⟨i, h1, e1.symm, by unfold gval; rw [e1, if_neg he], fun h => absurd h he⟩
theorem got_wide {f : Nat → Nat} {n k v k' : Nat} (h : Got f n k v 0 k') {most : Int} (hm : most < (v : Nat)) : VarGot f n k most 0 5 k' := by
  obtain ⟨i, h1, h2, h3, h4⟩ := h
  rw [if_pos rfl] at h3
  have e1 : gerr f n k i most = 5 := by rw [gerr_of, ← h2, if_pos rfl, ← h3, if_pos hm]
  exact ⟨i, h1, e1.symm, by unfold gval; rw [e1]; rfl, fun h => absurd h (by decide)⟩
theorem got_good {f : Nat → Nat} {n k v k' : Nat} (h : Got f n k v 0 k') {most : Int} (hm : ¬ most < (v : Nat)) : VarGot f n k most v 0 k' := by
  obtain ⟨i, h1, h2, h3, h4⟩ := h
  rw [if_pos rfl] at h3
  have e1 : gerr f n k i most = 0 := by rw [gerr_of, ← h2, if_pos rfl, ← h3, if_neg hm]
  exact ⟨i, h1, e1.symm, by unfold gval; rw [e1, if_pos rfl]; exact h3, fun _ => h4 (by decide)⟩
set_option maxRecDepth 100000 in
set_option maxHeartbeats 1000000 in
theorem lvar_err {w : World} {p : Nat} {A : Option Addr} {n c : Nat} {f : Nat → Nat} {k e : Nat} (h : Src w p A n c f k e) (he : e ≠ 0) (most : Int) : Calls Try.prog 57 #[.pointer (some ⟨p, 0, none⟩), .int .i64 most] w fun en w' => en = .returned (.int .i64 0) ∧ Below w.heap.size w w' := by
  have hb := (Below.refl w.heap.size w).alloc (Nat.le_refl _) (.cells #[.pointer (some ⟨p, 0, none⟩)] 51)
  have HE := Lib.hid (err_live (h.below hb))
  have p1 : ¬ ((e : Int) = 0) := by omega
  have HB := Lib.hid hb
  clear h hb
  go_enter Try.func57, Try.ntmps57
  go_wp2_with (go_at_call 53; refine HE.out.mono ?_; rintro en w1 ⟨rfl, rfl⟩)
  go_ret
  exact ⟨rfl, HB.out⟩
set_option maxRecDepth 100000 in
set_option maxHeartbeats 2000000 in
theorem lvar_walk {w : World} {p : Nat} {A : Option Addr} {n c : Nat} {f : Nat → Nat} {k : Nat} (h : Src w p A n c f k 0) (most : Int) : Calls Try.prog 57 #[.pointer (some ⟨p, 0, none⟩), .int .i64 most] w (VarPost w p A n c f k most) := by
  have hb := (Below.refl w.heap.size w).alloc (Nat.le_refl _) (.cells #[.pointer (some ⟨p, 0, none⟩)] 51)
  have hp := h.lt
  have h' := h.below hb
  have HE := Lib.hid (err_live h')
  have HX : (w.alloc (.cells #[.pointer (some ⟨p, 0, none⟩)] 51)).cell? ⟨w.heap.size, 0, none⟩ = some (.pointer (some ⟨p, 0, none⟩)) := by rw [World.cell?_alloc_new]; rfl
  have HG := Lib.hid (groups_walk (bx := w.heap.size) h' HX (by simp) (by omega))
  have HB := Lib.hid hb
  have Hp := Lib.hid hp
  have HXX := Lib.hid HX
  have Hsz : w.heap.size < (w.alloc (.cells #[.pointer (some ⟨p, 0, none⟩)] 51)).heap.size := by simp
  have HSz := Lib.hid Hsz
  clear h hb h' hp HX Hsz
  go_enter Try.func57, Try.ntmps57
  go_wp2_with (first
    | (go_at_call 119; refine HG.out.mono ?_; rintro en w1 ⟨v, e, k1, e1, rfl, hg, he1, hs1, hb1⟩; have x1 := (hb1.cell (o := 0) HSz.out (by have := Hp.out; omega)).trans HXX.out; have Hg := Lib.hid hg; have He1 := Lib.hid he1; have Hs1 := Lib.hid hs1; have HB1 := Lib.hid ((But.of_below HB.out).cons (Nat.le_of_lt HSz.out) hb1); have HK := Lib.hid (fun x => keep_live hs1 x); have Hz := Lib.hid (Nat.le_trans (Nat.le_of_lt HSz.out) hb1.size); clear hg he1 hs1 hb1)
    | (go_at_call 53; refine HE.out.mono ?_; rintro en w0 ⟨rfl, rfl⟩))
  · refine (HK.out 5).mono ?_
    rintro en w2 ⟨rfl, hs2, hb2⟩
    have Hs2 := Lib.hid hs2
    have HB2 := Lib.hid (HB1.out.cons Hz.out hb2)
    clear hs2 hb2
    go_wp2
    go_ret
    obtain rfl : e = 0 := by omega
    obtain rfl := He1.out
    exact ⟨0, 5, k1, rfl, got_wide Hg.out (by omega), Hs2.out, HB2.out⟩
  · go_ret
    obtain rfl : e = 0 := by omega
    obtain rfl := He1.out
    exact ⟨v, 0, k1, rfl, got_good Hg.out (by omega), Hs1.out, HB1.out⟩
  · refine (HK.out e).mono ?_
    rintro en w2 ⟨rfl, hs2, hb2⟩
    have Hs2 := Lib.hid hs2
    have HB2 := Lib.hid (HB1.out.cons Hz.out hb2)
    clear hs2 hb2
    have he : e ≠ 0 := by omega
    go_wp2
    go_ret
    refine ⟨0, e, k1, rfl, got_bad Hg.out he most, ?_, HB2.out⟩
    have h1 := Hs2.out
    have h2 := He1.out
    by_cases h3 : e = 3
    · subst h3; rw [if_pos rfl] at h2; subst h2; exact h1
    · rw [if_neg h3] at h2; subst h2; exact h1
end Go.Proofs.Ytcodlbfomfjmfaa
