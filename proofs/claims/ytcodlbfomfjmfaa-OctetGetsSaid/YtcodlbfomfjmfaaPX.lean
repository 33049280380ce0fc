/- The document's source: wrong and take, walked. -/
import Derived.Test.YtcodlbfomfjmfaaOz
namespace Go.Proofs.Ytcodlbfomfjmfaa
open Go.RowKit

theorem Sl.but2 {w w' : World} {A : Option Addr} {n p : Nat} {f : Nat → Nat} (h : Sl w A n f) (hb : But w.heap.size p w w') (ha : 0 < n → ∀ a, A = some a → a.block ≠ p) : Sl w' A n f := by
  refine ⟨h.small, fun hn => ?_⟩
  obtain ⟨g, o, e, hg, hc⟩ := h.at_ hn
  refine ⟨g, o, e, Nat.lt_of_lt_of_le hg hb.size, fun i hi => ?_⟩
  rw [hb.cell hg (ha hn _ e)]
  exact hc i hi
/-- the document's source at q, with m bytes left, that stand in f from k on -/
structure DSrc (w : World) (q : Nat) (B : Option Addr) (m cc : Nat) (f : Nat → Nat) (k : Nat) : Prop where
  heap : w.heap[q]? = some (.cells #[.slice B m cc, .int .i64 0] 55 (0, 0))
  sl : Sl w B m (fun i => f (k + i))
  cap : m ≤ cc
  most : m ≤ 2 ^ 20
  nil : B = none → m = 0 ∧ cc = 0
  apart : 0 < m → ∀ a, B = some a → a.block < q
/-- the document's source at q, with the error e -/
structure DErr (w : World) (q e : Nat) : Prop where
  heap : w.heap[q]? = some (.cells #[.slice none 0 0, .int .i64 (e : Nat)] 55 (0, 0))
  bad : e ≠ 0
theorem DSrc.lt {w : World} {q m cc k : Nat} {B : Option Addr} {f : Nat → Nat} (h : DSrc w q B m cc f k) : q < w.heap.size := heap_lt h.heap
theorem DErr.lt {w : World} {q e : Nat} (h : DErr w q e) : q < w.heap.size := heap_lt h.heap
theorem DSrc.below {w w' : World} {q m cc k : Nat} {B : Option Addr} {f : Nat → Nat} (h : DSrc w q B m cc f k) (hb : Below w.heap.size w w') : DSrc w' q B m cc f k :=
  ⟨by rw [hb.block q h.lt]; exact h.heap, h.sl.below hb, h.cap, h.most, h.nil, h.apart⟩
theorem DErr.below {w w' : World} {q e : Nat} (h : DErr w q e) (hb : Below w.heap.size w w') : DErr w' q e :=
  ⟨by rw [hb.block q h.lt]; exact h.heap, h.bad⟩
theorem DErr.far {w w' : World} {q e b : Nat} (h : DErr w q e) (hb : Below b w w') (hq : q < b) : DErr w' q e := ⟨by rw [hb.block q hq]; exact h.heap, h.bad⟩
theorem DSrc.far {w w' : World} {q m cc k b : Nat} {B : Option Addr} {f : Nat → Nat} (h : DSrc w q B m cc f k) (hb : Below b w w') (hq : q < b) : DSrc w' q B m cc f k := by
  refine ⟨by rw [hb.block q hq]; exact h.heap, ⟨h.sl.small, fun hn => ?_⟩, h.cap, h.most, h.nil, h.apart⟩
  obtain ⟨g, o, e, hg, hc⟩ := h.sl.at_ hn
  have hgB : g < b := Nat.lt_trans (h.apart hn _ e) hq
  refine ⟨g, o, e, Nat.lt_of_lt_of_le hg hb.size, fun i hi => ?_⟩
  rw [hb.cell (p := ⟨g, o + i, none⟩) hgB]
  exact hc i hi
/-- how it stands at k, with the error e -/
def DState (w : World) (q n : Nat) (f : Nat → Nat) (k e : Nat) : Prop :=
  (e = 0 ∧ ∃ B m cc, DSrc w q B m cc f k ∧ k + m = n) ∨ DErr w q e
theorem DState.far {w w' : World} {q n k e b : Nat} {f : Nat → Nat} (h : DState w q n f k e) (hb : Below b w w') (hq : q < b) : DState w' q n f k e := by
  rcases h with ⟨h0, B, m, cc, hs, hn⟩ | hs
  · exact .inl ⟨h0, B, m, cc, hs.far hb hq, hn⟩
  · exact .inr (hs.far hb hq)
theorem DState.below {w w' : World} {q n k e : Nat} {f : Nat → Nat} (h : DState w q n f k e) (hb : Below w.heap.size w w') : DState w' q n f k e := by
  rcases h with ⟨h0, B, m, cc, hs, hn⟩ | hs
  · exact .inl ⟨h0, B, m, cc, hs.below hb, hn⟩
  · exact .inr (hs.below hb)
theorem DState.lt {w : World} {q n k e : Nat} {f : Nat → Nat} (h : DState w q n f k e) : q < w.heap.size := by
  rcases h with ⟨_, B, m, cc, hs, _⟩ | hs
  · exact hs.lt
  · exact hs.lt
set_option maxRecDepth 100000 in
set_option maxHeartbeats 400000 in
theorem wrong_walk {w : World} {q m cc : Nat} {B : Option Addr} {x : Int} (h : w.heap[q]? = some (.cells #[.slice B m cc, .int .i64 x] 55 (0, 0))) (e : Nat) (he : e ≠ 0) : Calls Try.prog 118 #[.pointer (some ⟨q, 0, none⟩), .int .i64 (e : Nat)] w fun en w' => en = .returned (.tuple #[]) ∧ DErr w' q e ∧ But w.heap.size q w w' := by
  have c0 : w.cell? ⟨q, 0, none⟩ = some (.slice B m cc) := cell_in h
  have c1 : w.cell? ⟨q, 1, none⟩ = some (.int .i64 x) := cell_in h
  have g0 : w.frozen? ⟨q, 0, none⟩ = false := free_in h
  have g1 : w.frozen? ⟨q, 1, none⟩ = false := free_in h
  have H := Lib.hid h
  have He := Lib.hid he
  clear h he
  go_enter Try.func118, Try.ntmps118
  go_wp2
  go_end0
  refine ⟨rfl, ⟨?_, He.out⟩, ((But.refl _ _ _).set _ _).set _ _⟩
  exact heap_set (heap_set H.out)
set_option maxRecDepth 100000 in
set_option maxHeartbeats 400000 in
theorem rtake_err {w : World} {q e : Nat} (h : DErr w q e) (m : Nat) : Calls Try.prog 148 #[.pointer (some ⟨q, 0, none⟩), .int .i64 (m : Nat)] w fun en w' => en = .returned (.slice none 0 0) ∧ w = w' := by
  have c1 : w.cell? ⟨q, 1, none⟩ = some (.int .i64 (e : Nat)) := cell_in h.heap
  have p1 : ¬ ((e : Int) = 0) := by have := h.bad; omega
  clear h
  go_enter Try.func148, Try.ntmps148
  go_wp2
  go_ret
  exact ⟨rfl, rfl⟩
set_option maxRecDepth 100000 in
set_option maxHeartbeats 400000 in
theorem rtake_short {w : World} {q m cc k : Nat} {B : Option Addr} {f : Nat → Nat} (h : DSrc w q B m cc f k) (x : Nat) (hx : m < x) : Calls Try.prog 148 #[.pointer (some ⟨q, 0, none⟩), .int .i64 (x : Nat)] w fun en w' => en = .returned (.slice none 0 0) ∧ DErr w' q 3 ∧ But w.heap.size q w w' := by
  have c0 : w.cell? ⟨q, 0, none⟩ = some (.slice B m cc) := cell_in h.heap
  have c1 : w.cell? ⟨q, 1, none⟩ = some (.int .i64 0) := cell_in h.heap
  have HW := Lib.hid (wrong_walk h.heap 3 (by omega))
  have p1 : (m : Int) < x := by omega
  clear h
  go_enter Try.func148, Try.ntmps148
  go_wp2_with (go_at_call 118; refine HW.out.mono ?_; rintro en w2 ⟨rfl, hs2, hb2⟩; have HS2 := Lib.hid hs2; have HB2 := Lib.hid hb2; clear hs2 hb2)
  go_ret
  exact ⟨rfl, HS2.out, HB2.out⟩
theorem own_made (w : World) (u : Value) {b i : Nat} : (((w.setCell ⟨b, i, none⟩ u).alloc (.cells #[] 5))).ownsRow w.heap.size 5 1 (.slice (some ⟨w.heap.size, 0, none⟩) 0 0) 0 [] := by
  have h := World.ownsRow_made (w.setCell ⟨b, i, none⟩ u) #[] 0 (e := 5) (size := 1) (Nat.le_refl _) (Nat.zero_le _) (by simp)
  simpa [World.setCell] using h
theorem own_but {w w' : World} {B n k q : Nat} {e : TypeId} {v : Value} {xs : List Value} (h : w.ownsRow B e k v n xs) (hb : But w.heap.size q w w') (hq : q < B) : w'.ownsRow B e k v n xs :=
  ⟨h.1, h.2.elim .inl fun ⟨g, cap, cur, h1, h2, h3, h4⟩ => .inr ⟨g, cap, cur, h1, h2, (hb.block g (heap_lt h3) (by omega)).trans h3, h4⟩⟩
/-- the field B set anew -/
theorem DSrc.slide {w : World} {q m cc k : Nat} {B : Option Addr} {f : Nat → Nat} (h : DSrc w q B m cc f k) (B2 : Option Addr) (m2 c2 x : Nat) (h1 : m2 ≤ c2) (h2 : m2 ≤ 2 ^ 20) (hs : Sl w B2 m2 (fun i => f (k + x + i))) (hn : B2 = none → m2 = 0 ∧ c2 = 0) (ha : 0 < m2 → ∀ a, B2 = some a → a.block < q) : DSrc (w.setCell ⟨q, 0, none⟩ (.slice B2 m2 c2)) q B2 m2 c2 f (k + x) :=
  ⟨heap_set h.heap, hs.but2 ((But.refl _ _ _).set _ _) (fun hn a e => Nat.ne_of_lt (ha hn a e)), h1, h2, hn, ha⟩
/-- x bytes taken -/
def RTakeOk (w : World) (q m : Nat) (f : Nat → Nat) (k x : Nat) (en : Ending) (w' : World) : Prop :=
  (∃ v, en = .returned v ∧ w'.ownsRow w.heap.size 5 1 v x (bys (fun i => f (k + i)) x)) ∧ (∃ B2 cc2, DSrc w' q B2 (m - x) cc2 f (k + x)) ∧ But w.heap.size q w w'
set_option maxRecDepth 100000 in
set_option maxHeartbeats 1000000 in
theorem rtake_ok {w : World} {q m cc k : Nat} {B : Option Addr} {f : Nat → Nat} (h : DSrc w q B m cc f k) (x : Nat) (hx : x ≤ m) : Calls Try.prog 148 #[.pointer (some ⟨q, 0, none⟩), .int .i64 (x : Nat)] w (RTakeOk w q m f k x) := by
  obtain ⟨i0, hi, hz0, hz1, hz2⟩ := info_parts oinfoU8
  have c0 : w.cell? ⟨q, 0, none⟩ = some (.slice B m cc) := cell_in h.heap
  have c1 : w.cell? ⟨q, 1, none⟩ = some (.int .i64 0) := cell_in h.heap
  have g0 : w.frozen? ⟨q, 0, none⟩ = false := free_in h.heap
  have p1 : ¬ (m : Int) < x := by omega
  have hcap := h.cap
  have hmost := h.most
  have hlt := h.lt
  have H := Lib.hid h
  have Hx := Lib.hid hx
  cases B with
  | none =>
    obtain ⟨rfl, rfl⟩ := h.nil rfl
    obtain rfl : x = 0 := by omega
    clear h
    go_enter Try.func148, Try.ntmps148
    go_wp2_with (at_builtin; refine wpList_append_own_none rfl _ _ _ rfl w.heap.size 5 i0 1 Try.underlying33 hi _ _ _ rfl (World.ownsRow_made w #[] 0 (Nat.le_refl _) (Nat.zero_le _) (by simp)) rfl ?_)
    go_ret
    have hs := H.out.slide none 0 0 0 (Nat.le_refl _) (Nat.zero_le _) (H.out.sl) (fun _ => ⟨rfl, rfl⟩) (fun _ a h => by cases h)
    exact ⟨⟨_, rfl, own_made _ _⟩, ⟨none, 0, hs.below ((Below.refl _ _).alloc (Nat.le_refl _) _)⟩, ((But.refl _ _ _).set _ _).trans (But.of_below ((Below.refl _ _).alloc (by simp [World.setCell]) _))⟩
  | some ad =>
    clear h
    by_cases hx0 : x = 0
    · subst hx0
      go_enter Try.func148, Try.ntmps148
      go_wp2
      go_ret
      have hs := H.out.slide (some ad) m cc 0 hcap hmost H.out.sl (fun h => by cases h) H.out.apart
      exact ⟨⟨_, rfl, own_made _ _⟩, ⟨some ad, cc, hs.below ((Below.refl _ _).alloc (Nat.le_refl _) _)⟩, ((But.refl _ _ _).set _ _).trans (But.of_below ((Below.refl _ _).alloc (by simp [World.setCell]) _))⟩
    · have hxm : 0 < m := by omega
      obtain ⟨ga, oa, e, hga, _⟩ := H.out.sl.at_ hxm
      cases e
      have hsx := H.out.sl.part (c := 0) 0 x (by omega)
      simp only [Nat.add_zero, Nat.zero_add] at hsx
      have Hnews := Lib.hid ((hsx.alloc (.cells #[] 5)).news)
      clear hsx
      go_enter Try.func148, Try.ntmps148
      go_wp2_with (at_builtin; refine wpList_append_own _ rfl _ _ _ rfl w.heap.size 5 i0 (.int .u8 0) 1 1 Try.underlying33 hi hz0 hz1 hz2 rfl (by omega) _ _ _ rfl (World.ownsRow_made w #[] 0 (Nat.le_refl _) (Nat.zero_le _) (by simp)) ⟨ga, oa, none⟩ x cc (bys (fun i => f (k + i)) x) rfl (by rw [bys_length]; omega) Hnews.out (bys_one _ _) (by unfold maxLen; omega) (by omega) (by simp) ?_)
      intro v2 w2 hown hgrow _
      have Hown := Lib.hid hown
      have hb2 := (((Below.refl w.heap.size w).alloc (Nat.le_refl _) (.cells #[] 5)).grown hgrow (by simp) (by intro k hk; simp [Value.ownBlock] at hk; omega))
      have h2 := H.out.below hb2
      have d0 : w2.cell? ⟨q, 0, none⟩ = some (.slice (some ⟨ga, oa, none⟩) m cc) := cell_in h2.heap
      have d1 : w2.frozen? ⟨q, 0, none⟩ = false := free_in h2.heap
      have l2 := h2.lt
      have H2 := Lib.hid h2
      have HB2 := Lib.hid hb2
      clear hown hgrow hb2 h2 c0 c1 g0
      go_wp2
      · go_ret
        have hs := H2.out.slide (some ⟨ga, oa, none⟩) (m - x) 0 x (by omega) (by omega) ⟨fun i => H2.out.sl.small (x + i) |> (by rw [Nat.add_assoc]; exact ·), fun h => absurd h (by omega)⟩ (fun h => by cases h) (fun hm => H2.out.apart (by omega))
        exact ⟨⟨_, rfl, own_but (by simpa using Hown.out) ((But.refl _ _ _).set _ _) hlt⟩, ⟨_, _, hs⟩, (But.of_below HB2.out).trans ((But.refl _ _ _).set _ _)⟩
      · go_ret
        have hs := H2.out.slide (some ⟨ga, oa + x, none⟩) (m - x) (cc - x) x (by omega) (by omega) (by simpa [Nat.add_assoc] using H2.out.sl.part (c := 0) x (m - x) (by omega)) (fun h => by cases h) (fun hm a h => by cases h; exact H2.out.apart (by omega) ⟨ga, oa, none⟩ rfl)
        exact ⟨⟨_, rfl, own_but (by simpa using Hown.out) ((But.refl _ _ _).set _ _) hlt⟩, ⟨_, _, hs⟩, (But.of_below HB2.out).trans ((But.refl _ _ _).set _ _)⟩
end Go.Proofs.Ytcodlbfomfjmfaa

namespace Go.Proofs.Ytcodlbfomfjmfaa
open Go.RowKit

def RVarPost (w : World) (q n : Nat) (f : Nat → Nat) (k : Nat) (most : Int) (en : Ending) (w' : World) : Prop :=
  ∃ v e k2 : Nat, en = .returned (.int .i64 (v : Nat)) ∧ VarGot f n k most v e k2 ∧ DState w' q n f k2 e ∧ But w.heap.size q w w'
set_option maxRecDepth 100000 in
set_option maxHeartbeats 400000 in
theorem rvar_err {w : World} {q e : Nat} (h : DErr w q e) (most : Int) : Calls Try.prog 112 #[.pointer (some ⟨q, 0, none⟩), .int .i64 most] w fun en w' => en = .returned (.int .i64 0) ∧ w = w' := by
  have c1 : w.cell? ⟨q, 1, none⟩ = some (.int .i64 (e : Nat)) := cell_in h.heap
  have p1 : ¬ ((e : Int) = 0) := by have := h.bad; omega
  clear h
  go_enter Try.func112, Try.ntmps112
  go_wp2
  go_ret
  exact ⟨rfl, rfl⟩
theorem var_bad {f : Nat → Nat} {n k i e : Nat} (hs : Stop f n k i) (he : e = ger f n k i) (h0 : e ≠ 0) (most : Int) : VarGot f n k most 0 e 0 :=
  got_bad (k' := if e = 3 then 0 else k + i + 1) (v := 0) ⟨i, hs, he, by rw [if_neg h0], fun h => if_neg h⟩ h0 most |> fun ⟨i, a, b, c, _⟩ => ⟨i, a, b, c, fun h => absurd h h0⟩
theorem grp_small {d : Nat} (hd : d < 128) {i : Nat} (hi : i ≤ 8) : d * 128 ^ i < 9223372036854775808 := by
  have h1 : 128 ^ i ≤ 128 ^ 8 := Nat.pow_le_pow_right (by decide) hi
  have h2 := Nat.mul_le_mul (Nat.le_of_lt_succ hd : d ≤ 127) h1
  exact Nat.lt_of_le_of_lt h2 (by decide)
set_option maxRecDepth 100000 in
set_option maxHeartbeats 4000000 in
theorem rvar_live {w : World} {q m cc k n : Nat} {B : Option Addr} {f : Nat → Nat} (h : DSrc w q B m cc f k) (hn : k + m = n) (most : Int) : Calls Try.prog 112 #[.pointer (some ⟨q, 0, none⟩), .int .i64 most] w (RVarPost w q n f k most) := by
  have c0 : w.cell? ⟨q, 0, none⟩ = some (.slice B m cc) := cell_in h.heap
  have c1 : w.cell? ⟨q, 1, none⟩ = some (.int .i64 0) := cell_in h.heap
  have g0 : w.frozen? ⟨q, 0, none⟩ = false := free_in h.heap
  have HW := Lib.hid (fun e (he : e ≠ 0) => wrong_walk h.heap e he)
  have H := Lib.hid h
  have Hn := Lib.hid hn
  have hcap := h.cap
  clear h hn
  go_enter Try.func112, Try.ntmps112
  go_wp2
  go_loopw [5, 6] (fun x i wr => ∃ j : Nat, j ≤ 9 ∧ i = .int .i64 (j : Nat) ∧ x = .int .i64 (gv f k j : Nat) ∧ (∀ q, q < j → k + q < n ∧ 128 ≤ f (k + q)) ∧ w = wr) (fun _ i _ => 10 - (intOf i).toNat)
  case atStart => exact ⟨0, by omega, rfl, rfl, fun q hq => absurd hq (by omega), rfl⟩
  case round =>
    obtain ⟨j, hj, rfl, rfl, hon, rfl⟩ := hrel
    have Hon := Lib.hid hon
    clear hon
    by_cases hm : m ≤ j
    · have p1 : (m : Int) ≤ j := by omega
      have HW3 := HW.out 3 (by omega)
      go_wp2_with (go_at_call 118; refine HW3.mono ?_; rintro en w2 ⟨rfl, hs2, hb2⟩; have HS2 := Lib.hid hs2; have HB2 := Lib.hid hb2; clear hs2 hb2)
      go_ret
      have hst : Stop f n k j := ⟨Hon.out, hj, .inl (by have := Hn.out; omega)⟩
      exact ⟨0, 3, 0, rfl, var_bad hst (by unfold ger; rw [if_pos (by have := Hn.out; omega)]) (by omega) most, .inr HS2.out, HB2.out⟩
    · have p1 : ¬ (m : Int) ≤ j := by omega
      obtain ⟨ga, oa, rfl, hga, hcs⟩ := H.out.sl.at_ (by omega)
      have sy := hcs j (by omega)
      have hy := H.out.sl.small j
      obtain ⟨y, hy'⟩ : ∃ y, y = f (k + j) := ⟨_, rfl⟩
      simp only [← hy'] at sy hy
      have Hy := Lib.hid hy'
      clear hy' hcs
      by_cases h9 : j = 9
      · have p2 : (j : Int) = 9 := by omega
        have HW4 := HW.out 4 (by omega)
        go_wp2_with (go_at_call 118; refine HW4.mono ?_; rintro en w2 ⟨rfl, hs2, hb2⟩; have HS2 := Lib.hid hs2; have HB2 := Lib.hid hb2; clear hs2 hb2)
        go_ret
        have hst : Stop f n k j := ⟨Hon.out, hj, .inr (.inl h9)⟩
        exact ⟨0, 4, 0, rfl, var_bad hst (by unfold ger; rw [if_neg (by have := Hn.out; omega), if_pos h9]) (by omega) most, .inr HS2.out, HB2.out⟩
      · have p2 : ¬ (j : Int) = 9 := by omega
        obtain ⟨d, hd⟩ : ∃ d, d = y % 128 := ⟨_, rfl⟩
        have d1 : (y : Int) % 128 = (d : Int) := by omega
        have d2 : d < 128 := by omega
        obtain ⟨v, hv⟩ : ∃ v, v = gv f k j := ⟨_, rfl⟩
        have hvl := gv_lt f k j
        rw [← hv] at hvl ⊢
        have Hd := Lib.hid hd
        have Hv := Lib.hid hv
        have Hvl := Lib.hid hvl
        clear hd hv hvl
        have hj8 : j ≤ 8 := by omega
        have HD := Lib.hid (fun i (hi : i ≤ j) => grp_small d2 (Nat.le_trans hi hj8))
        go_wp2_with fail
        go_loopw [7, 8] (fun x i wr => ∃ i' : Nat, i' ≤ j ∧ i = .int .i64 (i' : Nat) ∧ x = .int .i64 ((d * 128 ^ i' : Nat)) ∧ w = wr) (fun _ i _ => j - (intOf i).toNat)
        case atStart => exact ⟨0, Nat.zero_le _, rfl, by rw [Nat.pow_zero, Nat.mul_one], by trivial⟩
        case round =>
          obtain ⟨i, hi, rfl, rfl, rfl⟩ := hrel
          by_cases hlt : i < j
          · have p3 : (i : Int) < j := by omega
            obtain ⟨D, hD⟩ : ∃ D, D = d * 128 ^ i := ⟨_, rfl⟩
            obtain ⟨E, hE⟩ : ∃ E, E = d * 128 ^ (i + 1) := ⟨_, rfl⟩
            have e1 : (D : Int) * 128 = (E : Int) := by rw [hE, hD, Nat.pow_succ, ← Nat.mul_assoc]; simp
            have e2 : E < 9223372036854775808 := by rw [hE]; exact HD.out (i + 1) hlt
            rw [← hD]
            have HE := Lib.hid hE
            clear hD hE
            go_wp2
            exact ⟨⟨i + 1, hlt, by simp, by rw [HE.out], by trivial⟩, by simp [intOf]; omega⟩
          · obtain rfl : i = j := by omega
            have p3 : ¬ (i : Int) < i := by omega
            obtain ⟨D, hD⟩ : ∃ D, D = d * 128 ^ i := ⟨_, rfl⟩
            obtain ⟨V, hV⟩ : ∃ V, V = gv f k (i + 1) := ⟨_, rfl⟩
            have hVl := gv_lt f k (i + 1)
            have e0 : V = v + D := by rw [hV, hD, Hv.out, Hd.out, Hy.out]; rfl
            have e1 : (v : Int) + (D : Int) = (V : Int) := by omega
            have e2 : V < 9223372036854775808 := by rw [hV]; exact Nat.lt_of_lt_of_le hVl (Nat.le_trans (Nat.pow_le_pow_right (by decide) (by omega : i + 1 ≤ 9)) (by decide))
            rw [← hD]
            have HVV := Lib.hid hV
            clear hD hV hVl e0
            obtain ⟨r, hr⟩ : ∃ r, r = i + 1 := ⟨_, rfl⟩
            have e3 : (i : Int) + 1 = (r : Int) := by omega
            have hrm : r ≤ m := by omega
            have Hr := Lib.hid hr
            clear hr
            have hni : ¬ n ≤ k + i := by have := Hn.out; omega
            have hyk := Hy.out
            have hgot : y < 128 → ¬ (0 < i ∧ y = 0) → Got f n k V 0 (k + i + 1) := fun h1 h2 => by
              rw [hyk] at h1 h2
              exact ⟨i, ⟨Hon.out, hj, .inr (.inr h1)⟩, by unfold ger; rw [if_neg hni, if_neg h9, if_neg h2], by rw [if_pos rfl]; exact HVV.out, fun _ => rfl⟩
            have HGot := Lib.hid hgot
            have Hni := Lib.hid hni
            have Hyk := Lib.hid hyk
            clear hgot hni hyk
            by_cases hy128 : y < 128
            · have p4 : (y : Int) < 128 := by omega
              by_cases hi0 : 0 < i
              · have b4 : decide ((0 : Int) < i) = true := decide_eq_true (by omega)
                by_cases hy0 : y = 0
                · have b5 : ((y : Int) == 0) = true := by rw [hy0]; rfl
                  have hst : Stop f n k i := ⟨Hon.out, hj, .inr (.inr (by rw [← Hyk.out]; exact hy128))⟩
                  have Hst := Lib.hid hst
                  have Hy0 := Lib.hid hy0
                  have HW4 := HW.out 4 (by omega)
                  clear hst hy0
                  go_wp2_with (go_at_call 118; refine HW4.mono ?_; rintro en w2 ⟨rfl, hs2, hb2⟩; have HS2 := Lib.hid hs2; have HB2 := Lib.hid hb2; clear hs2 hb2)
                  go_ret
                  exact ⟨0, 4, 0, rfl, var_bad Hst.out (by unfold ger; rw [if_neg Hni.out, if_neg h9, if_pos ⟨hi0, by rw [← Hyk.out]; exact Hy0.out⟩]) (by omega) most, .inr HS2.out, HB2.out⟩
                · have b5 : ((y : Int) == 0) = false := beq_eq_false_iff_ne.2 (by omega)
                  have HG := Lib.hid (HGot.out hy128 (fun h => hy0 h.2))
                  by_cases hmv : most < ((V : Nat) : Int)
                  · have HW5 := HW.out 5 (by omega)
                    go_wp2_with (go_at_call 118; refine HW5.mono ?_; rintro en w2 ⟨rfl, hs2, hb2⟩; have HS2 := Lib.hid hs2; have HB2 := Lib.hid hb2; clear hs2 hb2)
                    go_ret
                    exact ⟨0, 5, k + i + 1, rfl, got_wide HG.out hmv, .inr HS2.out, HB2.out⟩
                  · go_wp2
                    · go_ret
                      have hr := Hr.out; have hmo := H.out.most
                      have hs := H.out.slide (some ⟨ga, oa, none⟩) (m - r) 0 r (by omega) (by omega) ⟨fun i => (by rw [Nat.add_assoc]; exact H.out.sl.small (r + i)), fun h => absurd h (by omega)⟩ (fun h => by cases h) (fun hm => H.out.apart (by omega))
                      have hkr : k + i + 1 = k + r := by omega
                      exact ⟨V, 0, k + i + 1, rfl, got_good HG.out (by omega), .inl ⟨rfl, _, _, _, by rw [hkr]; exact hs, by have := Hn.out; omega⟩, (But.refl _ _ _).set _ _⟩
                    · go_ret
                      have hr := Hr.out; have hmo := H.out.most
                      have hs := H.out.slide (some ⟨ga, oa + r, none⟩) (m - r) (cc - r) r (by omega) (by omega) (by simpa [Nat.add_assoc] using H.out.sl.part (c := 0) r (m - r) (by omega)) (fun h => by cases h) (fun hm a h => by cases h; exact H.out.apart (by omega) ⟨ga, oa, none⟩ rfl)
                      have hkr : k + i + 1 = k + r := by omega
                      exact ⟨V, 0, k + i + 1, rfl, got_good HG.out (by omega), .inl ⟨rfl, _, _, _, by rw [hkr]; exact hs, by have := Hn.out; omega⟩, (But.refl _ _ _).set _ _⟩
              · have b4 : decide ((0 : Int) < i) = false := decide_eq_false (by omega)
                have HG := Lib.hid (HGot.out hy128 (fun h => hi0 h.1))
                by_cases hmv : most < ((V : Nat) : Int)
                · have HW5 := HW.out 5 (by omega)
                  go_wp2_with (go_at_call 118; refine HW5.mono ?_; rintro en w2 ⟨rfl, hs2, hb2⟩; have HS2 := Lib.hid hs2; have HB2 := Lib.hid hb2; clear hs2 hb2)
                  go_ret
                  exact ⟨0, 5, k + i + 1, rfl, got_wide HG.out hmv, .inr HS2.out, HB2.out⟩
                · go_wp2
                  · go_ret
                    have hr := Hr.out; have hmo := H.out.most
                    have hs := H.out.slide (some ⟨ga, oa, none⟩) (m - r) 0 r (by omega) (by omega) ⟨fun i => (by rw [Nat.add_assoc]; exact H.out.sl.small (r + i)), fun h => absurd h (by omega)⟩ (fun h => by cases h) (fun hm => H.out.apart (by omega))
                    have hkr : k + i + 1 = k + r := by omega
                    exact ⟨V, 0, k + i + 1, rfl, got_good HG.out (by omega), .inl ⟨rfl, _, _, _, by rw [hkr]; exact hs, by have := Hn.out; omega⟩, (But.refl _ _ _).set _ _⟩
                  · go_ret
                    have hr := Hr.out; have hmo := H.out.most
                    have hs := H.out.slide (some ⟨ga, oa + r, none⟩) (m - r) (cc - r) r (by omega) (by omega) (by simpa [Nat.add_assoc] using H.out.sl.part (c := 0) r (m - r) (by omega)) (fun h => by cases h) (fun hm a h => by cases h; exact H.out.apart (by omega) ⟨ga, oa, none⟩ rfl)
                    have hkr : k + i + 1 = k + r := by omega
                    exact ⟨V, 0, k + i + 1, rfl, got_good HG.out (by omega), .inl ⟨rfl, _, _, _, by rw [hkr]; exact hs, by have := Hn.out; omega⟩, (But.refl _ _ _).set _ _⟩
            · have p4 : ¬ (y : Int) < 128 := by omega
              go_wp2
              refine ⟨⟨i + 1, by omega, by simp [Hr.out], by rw [HVV.out], fun q hq => ?_, by trivial⟩, ?_⟩
              · rcases Nat.lt_or_eq_of_le (Nat.le_of_lt_succ hq) with h1 | h1
                · exact Hon.out q h1
                · rw [h1, ← Hyk.out]; exact ⟨by have := Hn.out; omega, by omega⟩
              · have := Hr.out; simp [intOf]; omega
end Go.Proofs.Ytcodlbfomfjmfaa

namespace Go.Proofs.Ytcodlbfomfjmfaa
open Go.RowKit

def ByteGot (f : Nat → Nat) (n k v e k' : Nat) : Prop := (n ≤ k ∧ v = 0 ∧ e = 3) ∨ (k < n ∧ v = f k ∧ e = 0 ∧ k' = k + 1)
set_option maxRecDepth 100000 in
set_option maxHeartbeats 400000 in
theorem rbyte_err {w : World} {q e : Nat} (h : DErr w q e) : Calls Try.prog 116 #[.pointer (some ⟨q, 0, none⟩)] w fun en w' => en = .returned (.int .u8 0) ∧ w = w' := by
  have HT := Lib.hid (rtake_err h 1)
  clear h
  go_enter Try.func116, Try.ntmps116
  go_wp2_with (go_at_call 148; refine HT.out.mono ?_; rintro en w2 ⟨rfl, rfl⟩)
  go_ret
  exact ⟨rfl, rfl⟩
def RBytePost (w : World) (q n : Nat) (f : Nat → Nat) (k : Nat) (en : Ending) (w' : World) : Prop :=
  ∃ v e k' : Nat, en = .returned (.int .u8 (v : Nat)) ∧ ByteGot f n k v e k' ∧ DState w' q n f k' e ∧ But w.heap.size q w w'
set_option maxRecDepth 100000 in
set_option maxHeartbeats 400000 in
theorem rbyte_live {w : World} {q m cc k n : Nat} {B : Option Addr} {f : Nat → Nat} (h : DSrc w q B m cc f k) (hn : k + m = n) : Calls Try.prog 116 #[.pointer (some ⟨q, 0, none⟩)] w (RBytePost w q n f k) := by
  by_cases hm : m = 0
  · have HT := Lib.hid (rtake_short h 1 (by omega))
    clear h
    go_enter Try.func116, Try.ntmps116
    go_wp2_with (go_at_call 148; refine HT.out.mono ?_; rintro en w2 ⟨rfl, hs2, hb2⟩; have HS2 := Lib.hid hs2; have HB2 := Lib.hid hb2; clear hs2 hb2)
    go_ret
    exact ⟨0, 3, 0, rfl, .inl ⟨by omega, rfl, rfl⟩, .inr HS2.out, HB2.out⟩
  · have HT := Lib.hid (rtake_ok h 1 (by omega))
    have Hsm := Lib.hid h.sl.small
    clear h
    have Hn := Lib.hid hn
    have Hm := Lib.hid hm
    clear hn hm
    go_enter Try.func116, Try.ntmps116
    go_wp2_with (go_at_call 148; refine HT.out.mono ?_; rintro en w2 ⟨⟨v2, rfl, hv2⟩, ⟨B2, cc2, hs2⟩, hb2⟩; obtain ⟨A2, c2, rfl, hsl, _⟩ := own_sl hv2 Hsm.out; obtain ⟨g2, o2, rfl, hg2, hc2⟩ := hsl.at_ (by omega); have x0 := hc2 0 (by omega); rw [Nat.add_zero, Nat.add_zero] at x0; have HS2 := Lib.hid hs2; have HB2 := Lib.hid hb2; clear hs2 hb2 hv2 hsl hc2)
    go_ret
    exact ⟨f k, 0, k + 1, rfl, .inr ⟨by have := Hn.out; have := Hm.out; omega, rfl, rfl, rfl⟩, .inl ⟨rfl, _, _, _, HS2.out, by have := Hn.out; have := Hm.out; omega⟩, HB2.out⟩
set_option maxRecDepth 100000 in
set_option maxHeartbeats 400000 in
theorem rtext_err {w : World} {q e : Nat} (h : DErr w q e) (most : Int) : Calls Try.prog 115 #[.pointer (some ⟨q, 0, none⟩), .int .i64 most] w fun en w' => en = .returned (.slice none 0 0) ∧ w = w' := by
  have HV := Lib.hid (rvar_err h most)
  have c1 : w.cell? ⟨q, 1, none⟩ = some (.int .i64 (e : Nat)) := cell_in h.heap
  have p1 : ¬ ((e : Int) = 0) := by have := h.bad; omega
  clear h
  go_enter Try.func115, Try.ntmps115
  go_wp2_with (go_at_call 112; refine HV.out.mono ?_; rintro en w2 ⟨rfl, rfl⟩)
  go_ret
  exact ⟨rfl, rfl⟩
def RTextPost (w : World) (q n : Nat) (f : Nat → Nat) (k : Nat) (most : Int) (en : Ending) (w' : World) : Prop :=
  ∃ A2 c2 p m e k', en = .returned (.slice A2 m c2) ∧ TextGot f n k most p m e k' ∧ Sl w' A2 m (fun i => f (p + i)) ∧ DState w' q n f k' e ∧ But w.heap.size q w w'
theorem VarGot.bad {f : Nat → Nat} {n k v e k' : Nat} {most : Int} (h : VarGot f n k most v e k') (he : e ≠ 0) : v = 0 := by
  obtain ⟨i, _, h2, h3, _⟩ := h
  rw [h3]; unfold gval; rw [← h2, if_neg he]
set_option maxRecDepth 100000 in
set_option maxHeartbeats 1000000 in
theorem rtext_live {w : World} {q m cc k n : Nat} {B : Option Addr} {f : Nat → Nat} (h : DSrc w q B m cc f k) (hn : k + m = n) (most : Int) : Calls Try.prog 115 #[.pointer (some ⟨q, 0, none⟩), .int .i64 most] w (RTextPost w q n f k most) := by
  have HV := Lib.hid (rvar_live h hn most)
  have hsm0 : ∀ p i, f (p + i) < 256 ∨ True := fun _ _ => .inr trivial
  have Hsl := Lib.hid h.sl
  clear h hsm0
  go_enter Try.func115, Try.ntmps115
  go_wp2_with fail
  refine HV.out.mono ?_
  rintro en w2 ⟨v, e, k2, rfl, hg, hs2, hb2⟩
  have Hg := Lib.hid hg
  have HB2 := Lib.hid hb2
  clear hg hb2
  rcases hs2 with ⟨rfl, B2, m2, cc2, hs2, hn2⟩ | hs2
  · have c1 : w2.cell? ⟨q, 1, none⟩ = some (.int .i64 0) := cell_in hs2.heap
    have Hn2 := Lib.hid hn2
    by_cases hv : v ≤ m2
    · have HT := Lib.hid (rtake_ok hs2 v hv)
      have Hsm := Lib.hid hs2.sl.small
      have Hv := Lib.hid hv
      clear hs2 hv hn2
      go_wp2_with (go_at_call 148; refine HT.out.mono ?_; rintro en w3 ⟨⟨v3, rfl, hv3⟩, ⟨B3, cc3, hs3⟩, hb3⟩; have HS3 := Lib.hid hs3; have HB3 := Lib.hid hb3; have HV3 := Lib.hid hv3; clear hs3 hb3 hv3)
      go_ret
      obtain ⟨A3, c3, rfl, hsl, _⟩ := own_sl HV3.out Hsm.out
      exact ⟨A3, c3, k2, v, 0, k2 + v, rfl, ⟨v, 0, k2, Hg.out, .inr (.inr ⟨rfl, by have := Hn2.out; have := Hv.out; omega, rfl, rfl, rfl, rfl⟩)⟩, hsl, .inl ⟨rfl, _, _, _, HS3.out, by have := Hn2.out; have := Hv.out; omega⟩, HB2.out.cons HB2.out.size HB3.out⟩
    · have HT := Lib.hid (rtake_short hs2 v (by omega))
      have Hsm := Lib.hid hs2.sl.small
      have Hv := Lib.hid hv
      clear hs2 hv hn2
      go_wp2_with (go_at_call 148; refine HT.out.mono ?_; rintro en w3 ⟨rfl, hs3, hb3⟩; have HS3 := Lib.hid hs3; have HB3 := Lib.hid hb3; clear hs3 hb3)
      go_ret
      exact ⟨none, 0, k2, 0, 3, k2, rfl, ⟨v, 0, k2, Hg.out, .inr (.inl ⟨rfl, by have := Hn2.out; have := Hv.out; omega, rfl, rfl⟩)⟩, ⟨Hsm.out, fun h => absurd h (by omega)⟩, .inr HS3.out, HB2.out.cons HB2.out.size HB3.out⟩
  · have c1 : w2.cell? ⟨q, 1, none⟩ = some (.int .i64 (e : Nat)) := cell_in hs2.heap
    have p1 : ¬ ((e : Int) = 0) := by have := hs2.bad; omega
    have he := hs2.bad
    have HS2 := Lib.hid hs2
    clear hs2
    go_wp2
    go_ret
    exact ⟨none, 0, k, 0, e, k2, rfl, ⟨v, e, k2, Hg.out, .inl ⟨he, rfl, rfl⟩⟩, ⟨Hsl.out.small, fun h => absurd h (by omega)⟩, .inr HS2.out, HB2.out⟩
def REndPost (w : World) (q n : Nat) (f : Nat → Nat) (k e : Nat) (en : Ending) (w' : World) : Prop :=
  ∃ e' : Nat, en = .returned (.int .i64 (e' : Nat)) ∧ e' = (if e = 0 ∧ k < n then 4 else e) ∧ But w.heap.size q w w'
set_option maxRecDepth 100000 in
set_option maxHeartbeats 1000000 in
theorem rend_live {w : World} {q n k e : Nat} {f : Nat → Nat} (h : DState w q n f k e) : Calls Try.prog 56 #[.pointer (some ⟨q, 0, none⟩)] w (REndPost w q n f k e) := by
  rcases h with ⟨rfl, B, m, cc, hs, hn⟩ | hs
  · have c0 : w.cell? ⟨q, 0, none⟩ = some (.slice B m cc) := cell_in hs.heap
    have c1 : w.cell? ⟨q, 1, none⟩ = some (.int .i64 0) := cell_in hs.heap
    by_cases hm : 0 < m
    · have b1 : decide ((0 : Int) < m) = true := decide_eq_true (by omega)
      have HW := Lib.hid (wrong_walk hs.heap 4 (by omega))
      clear hs
      go_enter Try.func56, Try.ntmps56
      go_wp2_with (go_at_call 118; refine HW.out.mono ?_; rintro en w2 ⟨rfl, hs2, hb2⟩; have d1 : w2.cell? ⟨q, 1, none⟩ = some (.int .i64 4) := cell_in hs2.heap; have HB2 := Lib.hid hb2; clear hs2 hb2)
      go_ret
      exact ⟨4, rfl, (if_pos ⟨rfl, by omega⟩).symm, HB2.out⟩
    · have b1 : decide ((0 : Int) < m) = false := decide_eq_false (by omega)
      clear hs
      go_enter Try.func56, Try.ntmps56
      go_wp2
      go_ret
      exact ⟨0, rfl, (if_neg (by omega)).symm, But.refl _ _ _⟩
  · have c0 : w.cell? ⟨q, 0, none⟩ = some (.slice none 0 0) := cell_in hs.heap
    have c1 : w.cell? ⟨q, 1, none⟩ = some (.int .i64 (e : Nat)) := cell_in hs.heap
    have he := hs.bad
    have p1 : ((e : Int) == 0) = false := beq_eq_false_iff_ne.2 (by omega)
    have p2 : ¬ ((e : Int) = 0) := by omega
    clear hs
    go_enter Try.func56, Try.ntmps56
    go_wp2
    go_ret
    exact ⟨e, rfl, (if_neg (by omega)).symm, But.refl _ _ _⟩
end Go.Proofs.Ytcodlbfomfjmfaa
