/- A source that Read made: Err, keep, Left, take, walked. -/
import Derived.Test.YtcodlbfomfjmfaaOr
namespace Go.Proofs.Ytcodlbfomfjmfaa
open Go.RowKit

set_option maxRecDepth 100000 in
set_option maxHeartbeats 400000 in
theorem err_live {w : World} {p : Nat} {A : Option Addr} {n c : Nat} {f : Nat → Nat} {k e : Nat} (h : Src w p A n c f k e) : Calls Try.prog 53 #[.pointer (some ⟨p, 0, none⟩)] w fun en w' => en = .returned (.int .i64 (e : Nat)) ∧ w = w' := by
  have h0 := h.c0
  have h3 := h.c3
  clear h
  go_enter Try.func53, Try.ntmps53
  go_wp2
  go_ret
  exact ⟨rfl, rfl⟩
set_option maxRecDepth 100000 in
set_option maxHeartbeats 400000 in
theorem keep_live {w : World} {p : Nat} {A : Option Addr} {n c : Nat} {f : Nat → Nat} {k e : Nat} (h : Src w p A n c f k e) (x : Nat) : Calls Try.prog 117 #[.pointer (some ⟨p, 0, none⟩), .int .i64 (x : Nat)] w fun en w' => en = .returned (.tuple #[]) ∧ Src w' p A n c f k (if e = 0 then x else e) ∧ But w.heap.size p w w' := by
  have h3 := h.c3
  have g3 := h.fr 3
  have H := Lib.hid h
  clear h
  by_cases he : e = 0
  · subst he
    go_enter Try.func117, Try.ntmps117
    go_wp2
    go_end0
    exact ⟨rfl, H.out.setErr x, (But.refl _ _ _).set _ _⟩
  · have p1 : ¬ ((e : Int) = 0) := by omega
    go_enter Try.func117, Try.ntmps117
    go_wp2
    go_end0
    exact ⟨rfl, H.out, But.refl _ _ _⟩
set_option maxRecDepth 100000 in
set_option maxHeartbeats 400000 in
theorem left_live {w : World} {p : Nat} {A : Option Addr} {n c : Nat} {f : Nat → Nat} {k e : Nat} (h : Src w p A n c f k e) : Calls Try.prog 54 #[.pointer (some ⟨p, 0, none⟩)] w fun en w' => en = .returned (.int .i64 (if e = 0 then n - k else 0 : Nat)) ∧ Below w.heap.size w w' := by
  have h1 := h.c1
  have h2 := h.c2
  have hle := h.le
  have hm := h.most
  have HE := Lib.hid (err_live h)
  clear h
  by_cases he : e = 0
  · subst he
    go_enter Try.func54, Try.ntmps54
    go_wp2_with (go_at_call 53; refine HE.out.mono ?_; rintro en w1 ⟨rfl, rfl⟩)
    go_region
    go_wp2
    go_ret
    refine ⟨?_, (Below.refl _ _).drew⟩
    show Ending.returned (Value.int .i64 ((n : Int) - (k : Int))) = _
    congr 2; omega
  · have p1 : ¬ ((e : Int) = 0) := by omega
    go_enter Try.func54, Try.ntmps54
    go_wp2_with (go_at_call 53; refine HE.out.mono ?_; rintro en w1 ⟨rfl, rfl⟩)
    go_ret
    exact ⟨rfl, Below.refl _ _⟩
set_option maxRecDepth 100000 in
set_option maxHeartbeats 400000 in
theorem take_err {w : World} {p : Nat} {A : Option Addr} {n c : Nat} {f : Nat → Nat} {k e : Nat} (h : Src w p A n c f k e) (he : e ≠ 0) (m : Nat) (q : Value) : Calls Try.prog 121 #[.pointer (some ⟨p, 0, none⟩), .int .i64 (m : Nat), q] w fun en w' => en = .returned (.slice none 0 0) ∧ w = w' := by
  have HE := Lib.hid (err_live h)
  have p1 : ¬ ((e : Int) = 0) := by omega
  clear h
  go_enter Try.func121, Try.ntmps121
  go_wp2_with (go_at_call 53; refine HE.out.mono ?_; rintro en w1 ⟨rfl, rfl⟩)
  go_ret
  exact ⟨rfl, rfl⟩
/-- a source's own 'keep', as a value -/
def keepOf (p : Nat) : Value := .func (Fn.func 117) #[.pointer (some ⟨p, 0, none⟩)] #[]
set_option maxRecDepth 100000 in
set_option maxHeartbeats 400000 in
theorem take_short {w : World} {p : Nat} {A : Option Addr} {n c : Nat} {f : Nat → Nat} {k : Nat} (h : Src w p A n c f k 0) (m : Nat) (hm : n < k + m) : Calls Try.prog 121 #[.pointer (some ⟨p, 0, none⟩), .int .i64 (m : Nat), keepOf p] w fun en w' => en = .returned (.slice none 0 0) ∧ Src w' p A n c f k 3 ∧ But w.heap.size p w w' := by
  have h1 := h.c1
  have h2 := h.c2
  have hle := h.le
  have hmo := h.most
  have HE := Lib.hid (err_live h)
  have HK := Lib.hid (keep_live (h.below (Below.refl _ w).drew) 3)
  clear h
  have p1 : (n : Int) - (k : Int) < m := by omega
  unfold keepOf
  go_enter Try.func121, Try.ntmps121
  go_wp2_with (go_at_call 53; refine HE.out.mono ?_; rintro en w1 ⟨rfl, rfl⟩)
  go_region
  go_wp2_with (go_at_call 117; refine HK.out.mono ?_; rintro en w2 ⟨rfl, hs2, hb2⟩)
  go_ret
  exact ⟨rfl, hs2, (But.of_below (Below.refl _ w).drew).trans hb2⟩
def TakeOk (w : World) (p : Nat) (A : Option Addr) (n c : Nat) (f : Nat → Nat) (k m : Nat) (en : Ending) (w' : World) : Prop :=
  (∃ A2, en = .returned (.slice A2 m m) ∧ Sl w' A2 m (fun i => f (k + i)) ∧ (A2 = none → m = 0) ∧ ∀ a, A2 = some a → a.block ≠ p) ∧ Src w' p A n c f (k + m) 0 ∧ But w.heap.size p w w'
set_option maxRecDepth 100000 in
set_option maxHeartbeats 1000000 in
theorem take_ok {w : World} {p : Nat} {A : Option Addr} {n c : Nat} {f : Nat → Nat} {k : Nat} (h : Src w p A n c f k 0) (m : Nat) (hm : k + m ≤ n) (q : Value) : Calls Try.prog 121 #[.pointer (some ⟨p, 0, none⟩), .int .i64 (m : Nat), q] w (TakeOk w p A n c f k m) := by
  have h1 := h.c1
  have h2 := h.c2
  have g2 := h.fr 2
  have hle := h.le
  have hmo := h.most
  have hcap := h.cap
  have HE := Lib.hid (err_live h)
  have H := Lib.hid h
  clear h
  have p1 : ¬ ((n : Int) - (k : Int) < m) := by omega
  obtain ⟨r, hr⟩ : ∃ r, r = k + m := ⟨_, rfl⟩
  have e1 : (k : Int) + (m : Int) = (r : Int) := by omega
  have e2 : (r : Int) - (m : Int) = (k : Int) := by omega
  have hrn : r ≤ n := by omega
  have HS := Lib.hid ((H.out.setAt r (by omega)).below (((Below.refl _ (w.setCell ⟨p, 2, none⟩ (.int .i64 (r : Nat)))).drew).drew))
  have HB := Lib.hid (((But.refl w.heap.size p w).set 2 (.int .i64 (r : Nat))).trans (But.of_below (((Below.refl _ (w.setCell ⟨p, 2, none⟩ (.int .i64 (r : Nat)))).drew).drew)))
  have Hr := Lib.hid hr
  clear hr hm
  cases A with
  | none =>
    obtain ⟨rfl, rfl⟩ := H.out.nil rfl
    obtain rfl : r = 0 := by omega
    obtain rfl : k = 0 := by omega
    obtain rfl : m = 0 := by omega
    clear hrn hle hmo hcap p1 e1 e2
    go_enter Try.func121, Try.ntmps121
    go_wp2_with (go_at_call 53; refine HE.out.mono ?_; rintro en w1 ⟨rfl, rfl⟩)
    go_region
    go_wp2
    go_region
    go_wp2
    go_ret
    exact ⟨⟨none, rfl, ⟨fun i => H.out.sl.small _, fun h => absurd h (by omega)⟩, fun _ => rfl, fun a h => by cases h⟩, HS.out, HB.out⟩
  | some ad =>
    go_enter Try.func121, Try.ntmps121
    go_wp2_with (go_at_call 53; refine HE.out.mono ?_; rintro en w1 ⟨rfl, rfl⟩)
    go_region
    go_wp2
    go_region
    go_wp2
    · go_ret
      obtain rfl : m = 0 := by omega
      obtain rfl : r = k := by omega
      exact ⟨⟨some ad, rfl, ⟨fun i => H.out.sl.small _, fun h => absurd h (by omega)⟩, fun _ => rfl, H.out.apart⟩, by simpa using HS.out, HB.out⟩
    · go_ret
      have em : r - k = m := by omega
      have hap := H.out.apart
      obtain ⟨g, o, e, hg, hc⟩ := H.out.sl.at_ (by omega)
      cases e
      have hs2 := HS.out
      have hb2 := HB.out
      obtain rfl := Hr.out
      refine ⟨⟨some ⟨g, o + k, none⟩, ?_, hs2.sl.part (c := 0) k m (by omega), fun h => (by cases h), fun a h => (by cases h; exact hap ⟨g, o, none⟩ rfl)⟩, hs2, hb2⟩
      simp only [em, Addr.add_lit]; rfl
end Go.Proofs.Ytcodlbfomfjmfaa
