/- slices.Clone of bytes, octet.Read, and what a source tells of one byte and of a text, walked. -/
import Derived.Test.YtcodlbfomfjmfaaOt
import Derived.Lib.SliceRun
namespace Go.Proofs.Ytcodlbfomfjmfaa
open Go.RowKit

theorem own_sl2 {w : World} {B n : Nat} {e : TypeId} {v : Value} {f : Nat → Nat} (h : w.ownsRow B e 1 v n (bys f n)) (hs : ∀ i, f i < 256) : ∃ A c, v = .slice A n c ∧ Sl w A n f ∧ (A = none → n = 0 ∧ c = 0) ∧ n ≤ c ∧ ∀ a, A = some a → B ≤ a.block ∧ a.block < w.heap.size := by
  obtain ⟨h1, h2⟩ := id h
  rcases h2 with ⟨rfl, rfl⟩ | ⟨g, cap, cur, rfl, hb, hh, r⟩
  · exact ⟨none, 0, rfl, ⟨hs, fun h => absurd h (by omega)⟩, fun _ => ⟨rfl, rfl⟩, Nat.le_refl _, fun a h => by cases h⟩
  · refine ⟨_, cap, rfl, ⟨hs, fun hn => ⟨g, 0, rfl, (h.lt g rfl).2, fun i hi => ?_⟩⟩, (fun h => by cases h), r.1, fun a e => by cases e; exact ⟨hb, (h.lt g rfl).2⟩⟩
    rw [Nat.zero_add, h.cellAt i (by omega), bys_get f hi]
/-- a copy of n bytes -/
def ClonePost (n : Nat) (f : Nat → Nat) (w : World) (en : Ending) (w' : World) : Prop :=
  (∃ A2 c2, en = .returned (.slice A2 n c2) ∧ Sl w' A2 n f ∧ (A2 = none → n = 0 ∧ c2 = 0) ∧ n ≤ c2 ∧ ∀ a, A2 = some a → w.heap.size ≤ a.block ∧ a.block < w'.heap.size) ∧ Below w.heap.size w w'
set_option maxRecDepth 100000 in
set_option maxHeartbeats 1000000 in
theorem clone_walk (A : Option Addr) (n c : Nat) (f : Nat → Nat) (w : World) (hl : Sl w A n f) (hA : A = none → n = 0 ∧ c = 0) (hn : n ≤ 2 ^ 20) : Calls Try.prog 111 #[.slice A n c] w (ClonePost n f w) := by
  obtain ⟨i0, hi, hz0, hz1, hz2⟩ := info_parts oinfoU8
  have q22 : ∀ (w : World) (a : Option Addr) (n c n' c' : Nat), (binOp .eql 33 (.slice a n c) (.slice none n' c')).run Try.prog w = .ok (.bool a.isNone) w := fun w a n c n' c' => Lib.run_eql_slice_nil w _ _ a n c n' c' Try.underlying33
  have HS := Lib.hid hl.small
  cases A with
  | none =>
    obtain ⟨rfl, rfl⟩ := hA rfl
    go_enter Try.func111, Try.ntmps111
    go_wp2
    go_ret
    exact ⟨⟨none, 0, rfl, ⟨HS.out, fun h => absurd h (by omega)⟩, fun _ => ⟨rfl, rfl⟩, Nat.le_refl _, fun a h => by cases h⟩, Below.refl _ _⟩
  | some ad =>
    have Hnews := Lib.hid ((hl.alloc (.cells #[] 5)).news)
    clear hl hA
    go_enter Try.func111, Try.ntmps111
    go_wp2_with (at_builtin; refine wpList_append_own _ rfl _ _ _ rfl w.heap.size 5 i0 (.int .u8 0) 1 1 Try.underlying33 hi hz0 hz1 hz2 rfl (by omega) _ _ _ rfl (World.ownsRow_made w #[] 0 (Nat.le_refl _) (Nat.zero_le _) (by simp)) ad n c (bys f n) rfl (by rw [bys_length]; omega) Hnews.out (bys_one _ _) (by unfold maxLen; omega) (by omega) (by simp) ?_)
    intro v2 w2 hown hgrow _
    have Hown := Lib.hid hown
    have Hb := Lib.hid (((Below.refl w.heap.size w).alloc (Nat.le_refl _) (.cells #[] 5)).grown hgrow (by simp) (by intro k hk; simp [Value.ownBlock] at hk; omega))
    clear hown hgrow
    go_wp2
    go_ret
    obtain ⟨A2, c2, rfl, h1, h2, h3, h4⟩ := own_sl2 (by simpa using Hown.out) HS.out
    exact ⟨⟨A2, c2, rfl, h1, h2, h3, h4⟩, Hb.out⟩
/-- Read's source, at its beginning -/
def ReadPost (n : Nat) (f : Nat → Nat) (w : World) (en : Ending) (w' : World) : Prop :=
  ∃ p A2 c2, en = .returned (.pointer (some ⟨p, 0, none⟩)) ∧ Src w' p A2 n c2 f 0 0 ∧ w.heap.size ≤ p ∧ Below w.heap.size w w'
set_option maxRecDepth 100000 in
set_option maxHeartbeats 1000000 in
theorem read_walk (A : Option Addr) (n c : Nat) (f : Nat → Nat) (w : World) (hl : Sl w A n f) (hA : A = none → n = 0 ∧ c = 0) (hn : n ≤ 2 ^ 20) : Calls Try.prog 51 #[.slice A n c] w (ReadPost n f w) := by
  have HC := Lib.hid (clone_walk A n c f w hl hA hn)
  have Hn := Lib.hid hn
  clear hl hA hn
  go_enter Try.func51, Try.ntmps51
  go_wp2_with (go_at_call 111; refine HC.out.mono ?_; rintro en w1 ⟨⟨A2, c2, rfl, h1, h2, h3, h4⟩, hb⟩; have H1 := Lib.hid h1; have H2 := Lib.hid h2; have H3 := Lib.hid h3; have H4 := Lib.hid h4; have HB := Lib.hid hb; clear h1 h2 h3 h4 hb)
  go_ret
  have hb2 := (Below.refl w1.heap.size w1).alloc (Nat.le_refl _) (.cells #[.bool true, .slice A2 n c2, .int .i64 0, .int .i64 0] 72)
  refine ⟨w1.heap.size, A2, c2, rfl, ⟨heap_alloc_new _ _, H1.out.below hb2, Nat.zero_le _, H3.out, Hn.out, H2.out, fun a ha => Nat.ne_of_lt (H4.out a ha).2⟩, HB.out.size, HB.out.trans (hb2.mono HB.out.size)⟩
set_option maxRecDepth 100000 in
set_option maxHeartbeats 400000 in
theorem byte_err {w : World} {p : Nat} {A : Option Addr} {n c : Nat} {f : Nat → Nat} {k e : Nat} (h : Src w p A n c f k e) (he : e ≠ 0) : Calls Try.prog 61 #[.pointer (some ⟨p, 0, none⟩)] w fun en w' => en = .returned (.int .u8 0) ∧ Below w.heap.size w w' := by
  have HE := Lib.hid (err_live h)
  have p1 : ¬ ((e : Int) = 0) := by omega
  clear h
  go_enter Try.func61, Try.ntmps61
  go_wp2_with (go_at_call 53; refine HE.out.mono ?_; rintro en w1 ⟨rfl, rfl⟩)
  go_ret
  exact ⟨rfl, Below.refl _ _⟩
set_option maxRecDepth 100000 in
set_option maxHeartbeats 400000 in
theorem byte_ok {w : World} {p : Nat} {A : Option Addr} {n c : Nat} {f : Nat → Nat} {k : Nat} (h : Src w p A n c f k 0) (hk : k < n) : Calls Try.prog 61 #[.pointer (some ⟨p, 0, none⟩)] w fun en w' => en = .returned (.int .u8 (f k : Nat)) ∧ Src w' p A n c f (k + 1) 0 ∧ But w.heap.size p w w' := by
  have HE := Lib.hid (err_live h)
  have HT := Lib.hid (take_ok h 1 (by omega) (.func (Fn.func 117) #[.pointer (some ⟨p, 0, none⟩)] #[]))
  clear h
  go_enter Try.func61, Try.ntmps61
  go_wp2_with (first
    | (go_at_call 121; refine HT.out.mono ?_; rintro en w1 ⟨⟨A2, rfl, hs, hn, ha⟩, hS, hB1⟩; obtain ⟨g, o, rfl, hg, hc⟩ := hs.at_ (by omega); have c0 := hc 0 (by omega); rw [Nat.add_zero, Nat.add_zero] at c0; have HS := Lib.hid hS; have HB := Lib.hid hB1; clear hc hs hn ha hS hB1)
    | (go_at_call 53; refine HE.out.mono ?_; rintro en w1 ⟨rfl, rfl⟩))
  go_ret
  exact ⟨rfl, HS.out, HB.out⟩
set_option maxRecDepth 100000 in
set_option maxHeartbeats 400000 in
theorem byte_end {w : World} {p : Nat} {A : Option Addr} {n c : Nat} {f : Nat → Nat} {k : Nat} (h : Src w p A n c f k 0) (hk : n ≤ k) : Calls Try.prog 61 #[.pointer (some ⟨p, 0, none⟩)] w fun en w' => en = .returned (.int .u8 0) ∧ Src w' p A n c f k 3 ∧ But w.heap.size p w w' := by
  have HE := Lib.hid (err_live h)
  have HT := Lib.hid (take_short h 1 (by omega))
  clear h
  unfold keepOf at HT
  go_enter Try.func61, Try.ntmps61
  go_wp2_with (first
    | (go_at_call 121; refine HT.out.mono ?_; rintro en w1 ⟨rfl, hS, hB1⟩; have HS := Lib.hid hS; have HB := Lib.hid hB1; clear hS hB1)
    | (go_at_call 53; refine HE.out.mono ?_; rintro en w1 ⟨rfl, rfl⟩))
  go_ret
  exact ⟨rfl, HS.out, HB.out⟩
def EndPost (w : World) (p : Nat) (A : Option Addr) (n c : Nat) (f : Nat → Nat) (k e : Nat) (en : Ending) (w' : World) : Prop :=
  ∃ e' : Nat, en = .returned (.int .i64 (e' : Nat)) ∧ e' = (if e = 0 ∧ k < n then 4 else e) ∧ Src w' p A n c f k e' ∧ But w.heap.size p w w'
set_option maxRecDepth 100000 in
set_option maxHeartbeats 1000000 in
theorem end_live {w : World} {p : Nat} {A : Option Addr} {n c : Nat} {f : Nat → Nat} {k e : Nat} (h : Src w p A n c f k e) : Calls Try.prog 55 #[.pointer (some ⟨p, 0, none⟩)] w (EndPost w p A n c f k e) := by
  have HL := Lib.hid (left_live h)
  have HS := Lib.hid h
  have hle := h.le
  clear h
  by_cases hd : e = 0 ∧ k < n
  · obtain ⟨rfl, hk⟩ := hd
    rw [if_pos rfl] at HL
    obtain ⟨d, hd⟩ : ∃ d, d = n - k := ⟨_, rfl⟩
    rw [← hd] at HL
    have p1 : (0 : Int) < d := by omega
    clear hd
    go_enter Try.func55, Try.ntmps55
    go_wp2_with (first
      | (go_at_call 53; refine (err_live Hs2.out).mono ?_; rintro en w3 ⟨rfl, rfl⟩)
      | (go_at_call 117; refine (keep_live (HS.out.below HB1.out) 4).mono ?_; rintro en w2 ⟨rfl, hs2, hb2⟩; have Hs2 := Lib.hid hs2; have HB2 := Lib.hid ((But.of_below HB1.out).cons HB1.out.size hb2); clear hs2 hb2)
      | (go_at_call 54; refine HL.out.mono ?_; rintro en w1 ⟨rfl, hb1⟩; have HB1 := Lib.hid hb1; clear hb1))
    go_ret
    exact ⟨4, rfl, (if_pos ⟨rfl, hk⟩).symm, Hs2.out, HB2.out⟩
  · have hz : (if e = 0 then n - k else 0) = 0 := by split <;> omega
    rw [hz] at HL
    clear hz
    have Hd := Lib.hid hd
    clear hd
    go_enter Try.func55, Try.ntmps55
    go_wp2_with (first
      | (go_at_call 53; refine (err_live (HS.out.below HB1.out)).mono ?_; rintro en w3 ⟨rfl, rfl⟩)
      | (go_at_call 54; refine HL.out.mono ?_; rintro en w1 ⟨rfl, hb1⟩; have HB1 := Lib.hid hb1; clear hb1))
    go_ret
    exact ⟨e, rfl, (if_neg Hd.out).symm, HS.out.below HB1.out, But.of_below HB1.out⟩
/-- a text of m bytes, that stand from q on -/
def TextGot (f : Nat → Nat) (n k : Nat) (most : Int) (q m e k' : Nat) : Prop :=
  ∃ v e1 k1, VarGot f n k most v e1 k1 ∧ ((e1 ≠ 0 ∧ m = 0 ∧ e = e1) ∨ (e1 = 0 ∧ n < k1 + v ∧ m = 0 ∧ e = 3) ∨ (e1 = 0 ∧ k1 + v ≤ n ∧ m = v ∧ e = 0 ∧ k' = k1 + v ∧ q = k1))
def RdTextPost (w : World) (p : Nat) (A : Option Addr) (n c : Nat) (f : Nat → Nat) (k : Nat) (most : Int) (en : Ending) (w' : World) : Prop :=
  ∃ A2 c2 q m e k', en = .returned (.slice A2 m c2) ∧ TextGot f n k most q m e k' ∧ Sl w' A2 m (fun i => f (q + i)) ∧ Src w' p A n c f k' e ∧ But w.heap.size p w w'
set_option maxRecDepth 100000 in
set_option maxHeartbeats 1000000 in
theorem ltext_err {w : World} {p : Nat} {A : Option Addr} {n c : Nat} {f : Nat → Nat} {k e : Nat} (h : Src w p A n c f k e) (he : e ≠ 0) (most : Int) : Calls Try.prog 59 #[.pointer (some ⟨p, 0, none⟩), .int .i64 most] w fun en w' => en = .returned (.slice none 0 0) ∧ Below w.heap.size w w' := by
  have HV := Lib.hid (lvar_err h he most)
  have HS := Lib.hid h
  have p1 : ¬ ((e : Int) = 0) := by omega
  clear h
  go_enter Try.func59, Try.ntmps59
  go_wp2_with (first
    | (go_at_call 53; refine (err_live (HS.out.below HB1.out)).mono ?_; rintro en w3 ⟨rfl, rfl⟩)
    | (go_at_call 57; refine HV.out.mono ?_; rintro en w1 ⟨rfl, hb1⟩; have HB1 := Lib.hid hb1; clear hb1))
  go_ret
  exact ⟨rfl, HB1.out⟩
theorem Src.slAt {w : World} {p : Nat} {A : Option Addr} {n c : Nat} {f : Nat → Nat} {k e : Nat} (h : Src w p A n c f k e) : Sl w none 0 (fun i => f (k + i)) := ⟨fun _ => h.sl.small _, fun h => absurd h (by omega)⟩
set_option maxRecDepth 100000 in
set_option maxHeartbeats 2000000 in
theorem ltext_walk {w : World} {p : Nat} {A : Option Addr} {n c : Nat} {f : Nat → Nat} {k : Nat} (h : Src w p A n c f k 0) (most : Int) : Calls Try.prog 59 #[.pointer (some ⟨p, 0, none⟩), .int .i64 most] w (RdTextPost w p A n c f k most) := by
  have HV := Lib.hid (lvar_walk h most)
  have Hmost := Lib.hid h.most
  clear h
  go_enter Try.func59, Try.ntmps59
  go_wp2_with (go_at_call 57; refine HV.out.mono ?_; rintro en w1 ⟨v, e1, k1, rfl, hg, hs1, hb1⟩; have Hg := Lib.hid hg; have Hs1 := Lib.hid hs1; have HB1 := Lib.hid hb1; have HE := Lib.hid (err_live hs1); clear hg hs1 hb1)
  refine HE.out.mono ?_
  rintro en w2 ⟨rfl, rfl⟩
  by_cases he : e1 = 0
  · subst he
    by_cases hm : k1 + v ≤ n
    · have HT := Lib.hid (take_ok Hs1.out v hm (.func (Fn.func 117) #[.pointer (some ⟨p, 0, none⟩)] #[]))
      have Hm := Lib.hid hm
      clear hm
      go_wp2_with (first
        | (go_at_call 111; refine HC.out.mono ?_; rintro en w3 ⟨⟨A3, c3, rfl, h1, h2, h3, h4⟩, hb3⟩; have H1 := Lib.hid h1; have HB3 := Lib.hid hb3; clear h1 h2 h3 h4 hb3)
        | (go_at_call 121; refine HT.out.mono ?_; rintro en w2 ⟨⟨A2, rfl, hs, hn, ha⟩, hS, hB2⟩; have HC := Lib.hid (clone_walk A2 v v _ w2 hs (fun h => ⟨hn h, hn h⟩) (Nat.le_trans (by have := Hm.out; omega) Hmost.out)); have HS := Lib.hid hS; have HB2 := Lib.hid hB2; clear hs hn ha hS hB2))
      go_ret
      exact ⟨A3, c3, k1, v, 0, k1 + v, rfl, ⟨v, 0, k1, Hg.out, .inr (.inr ⟨rfl, Hm.out, rfl, rfl, rfl, rfl⟩)⟩, H1.out, HS.out.below HB3.out, (HB1.out.cons HB1.out.size HB2.out).cons (Nat.le_trans HB1.out.size HB2.out.size) (But.of_below HB3.out)⟩
    · have HT := Lib.hid (take_short Hs1.out v (by omega))
      have Hm := Lib.hid hm
      clear hm
      unfold keepOf at HT
      go_wp2_with (first
        | (go_at_call 111; refine HC.out.mono ?_; rintro en w3 ⟨⟨A3, c3, rfl, h1, h2, h3, h4⟩, hb3⟩; have H1 := Lib.hid h1; have HB3 := Lib.hid hb3; clear h1 h2 h3 h4 hb3)
        | (go_at_call 121; refine HT.out.mono ?_; rintro en w2 ⟨rfl, hS, hB2⟩; have HC := Lib.hid (clone_walk none 0 0 _ w2 hS.slAt (fun h => ⟨rfl, rfl⟩) (by omega)); have HS := Lib.hid hS; have HB2 := Lib.hid hB2; clear hS hB2))
      go_ret
      exact ⟨A3, c3, k1, 0, 3, k1, rfl, ⟨v, 0, k1, Hg.out, .inr (.inl ⟨rfl, by have := Hm.out; omega, rfl, rfl⟩)⟩, H1.out, HS.out.below HB3.out, (HB1.out.cons HB1.out.size HB2.out).cons (Nat.le_trans HB1.out.size HB2.out.size) (But.of_below HB3.out)⟩
  · have p1 : ¬ ((e1 : Int) = 0) := by omega
    go_wp2
    go_ret
    exact ⟨none, 0, k1, 0, e1, k1, rfl, ⟨v, e1, k1, Hg.out, .inl ⟨he, rfl, rfl⟩⟩, Hs1.out.slAt, Hs1.out, HB1.out⟩
end Go.Proofs.Ytcodlbfomfjmfaa
