/- The law OctetGets: one question to both sources, walked. -/
import Derived.Test.YtcodlbfomfjmfaaPY
import Derived.Test.YtcodlbfomfjmfaaHeq
namespace Go.Proofs.Ytcodlbfomfjmfaa
open Go.RowKit

theorem hash_same {cs : Array Value} {g : Nat → Nat} (h : cs = (bys g 32).toArray) (w : World) : (Op.equalIn 10000 44 (.agg cs) (.agg cs)).run Try.prog w = .ok true w := by
  rw [h, hash_eq g g w]; simp
/-- both sources stand alike, and what lay below stays -/
def AskPost (w : World) (p q : Nat) (A : Option Addr) (n c : Nat) (f : Nat → Nat) (en : Ending) (w' : World) : Prop :=
  en = .returned (.bool true) ∧ ∃ k e, Src w' p A n c f k e ∧ DState w' q n f k e ∧ ∀ C, C ≤ w.heap.size → C ≤ p → C ≤ q → Below C w w'
theorem two_buts {w w0 w1 w2 : World} {p q : Nat} (h0 : Below w.heap.size w w0) (h1 : But w0.heap.size p w0 w1) (h2 : But w1.heap.size q w1 w2) : ∀ C, C ≤ w.heap.size → C ≤ p → C ≤ q → Below C w w2 := fun _ hC hp hq =>
  (h0.mono hC).trans ((h1.below hp (Nat.le_trans hC h0.size)).trans (h2.below hq (Nat.le_trans hC (Nat.le_trans h0.size h1.size))))
/-- bytes that stand apart from the document's source stay -/
theorem Sl.but1 {w w' : World} {A : Option Addr} {n q : Nat} {f : Nat → Nat} (h : Sl w A n f) {B : Option Addr} {m cc : Nat} {x : Int} {t : TypeId} (hq : w.heap[q]? = some (.cells #[.slice B m cc, .int .i64 x] t (0, 0))) (hb : But w.heap.size q w w') : Sl w' A n f := by
  refine ⟨h.small, fun hn => ?_⟩
  obtain ⟨g, o, e, hg, hc⟩ := h.at_ hn
  have hgq : g ≠ q := by
    rintro rfl
    have h0 := hc 0 hn
    rw [cell_in hq] at h0
    rcases o with _ | _ | o <;> simp at h0
  refine ⟨g, o, e, Nat.lt_of_lt_of_le hg hb.size, fun i hi => ?_⟩
  rw [hb.cell hg hgq]; exact hc i hi
theorem Sl.none1 {w : World} {A : Option Addr} {n : Nat} {f : Nat → Nat} (h : Sl w A n f) : A = none → n = 0 := fun e => Nat.eq_zero_of_not_pos fun hp => by
  obtain ⟨g, o, e', _⟩ := h.at_ hp
  rw [e] at e'; cases e'
theorem sof_eq {f : Nat → Nat} {q q' m : Nat} (h : 0 < m → q = q') : sof (fun i => f (q + i)) m = sof (fun i => f (q' + i)) m := sof_congr fun i hi => by rw [h (by omega)]
set_option maxRecDepth 100000 in
set_option maxHeartbeats 4000000 in
theorem ask_walk {w : World} {p q : Nat} {A : Option Addr} {n c : Nat} {f : Nat → Nat} {k e : Nat} (h : Src w p A n c f k e) (hd : DState w q n f k e) (hpq : p ≠ q) (kd most : Int) :
    Calls Try.prog 52 #[.pointer (some ⟨p, 0, none⟩), .pointer (some ⟨q, 0, none⟩), .agg #[.int .i64 kd, .int .i64 most]] w (AskPost w p q A n c f) := by
  have hf := h.sl.small
  have hb0 := (Below.refl w.heap.size w).alloc (Nat.le_refl _) (.cells #[.int .i64 kd, .int .i64 most] 57)
  have h0 := h.below hb0
  have d0 := hd.below hb0
  have r0 : (w.alloc (.cells #[.int .i64 kd, .int .i64 most] 57)).heap[w.heap.size]? = some (.cells #[.int .i64 kd, .int .i64 most] 57 (0, 0)) := heap_alloc_new _ _
  have hpl := h.lt
  have hql := hd.lt
  have HSd := Lib.hid (h0.below (Below.refl _ _).drew)
  have HDd := Lib.hid (d0.below (Below.refl _ _).drew)
  have HBd := Lib.hid hb0.drew
  have HB0 := Lib.hid hb0
  have HS0 := Lib.hid h0
  have HD0 := Lib.hid d0
  have R0 := Lib.hid r0
  have HF := Lib.hid hf
  have HPQ := Lib.hid hpq
  have HPL := Lib.hid hpl
  have HQL := Lib.hid hql
  clear h hd hb0 h0 d0 r0 hf hpq hpl hql
  by_cases k0 : kd = 0
  · subst k0
    go_enter Try.func52, Try.ntmps52
    go_upto_region 3 with fail
    go_region_with (first
        | (go_at_call 112; refine (rvar_any HD1.out most).mono ?_; rintro en w2 ⟨v', e2', k2', rfl, hg', hd', hb'⟩; obtain ⟨rfl, rfl, hk⟩ := HG.out.one hg'; obtain ⟨B, m, cc, hhq, _, _⟩ := HD1.out.heap; have HS2 := Lib.hid (HS1.out.other hhq hb' HPQ.out); have HD2 := Lib.hid (hd'.move fun h0 => (hk h0).symm); have HB2 := Lib.hid (two_buts HBd.out HB1.out hb'); clear hg' hd' hb' hk hhq)
        | (go_at_call 57; refine (svar_any HSd.out most).mono ?_; rintro en w1 ⟨v, e2, k2, rfl, hg, hs1, hb1⟩; have r1 := (hb1.block w.heap.size (heap_lt R0.out) (by have := HPL.out; omega)).trans R0.out; have x1 := (cell_in (i := 1) r1).trans rfl; have HG := Lib.hid hg; have HS1 := Lib.hid hs1; have HD1 := Lib.hid (HDd.out.other HSd.out.heap hb1 (fun e => HPQ.out e.symm)); have HB1 := Lib.hid hb1; clear hg hs1 hb1 r1))
    all_goals
      go_wp2
      go_ret
      exact ⟨rfl, k2, e2, HS2.out, HD2.out, HB2.out⟩
  · have K0 := Lib.hid k0
    have b0 : (kd == 0) = false := beq_eq_false_iff_ne.2 k0
    have c0 : ¬ kd = 0 := k0
    clear k0
    by_cases k1 : kd = 1
    · subst k1
      have heq := eqU
      go_enter Try.func52, Try.ntmps52
      go_wp2_with (first
          | (go_at_call 113; refine (ramt_any HD1.out).mono ?_; rintro en w2 ⟨a', e2', k2', rfl, hg', hd', hb'⟩; obtain ⟨rfl, rfl, hk⟩ := HG.out.one hg'; obtain ⟨B, m, cc, hhq, _, _⟩ := HD1.out.heap; have HS2 := Lib.hid (HS1.out.other hhq hb' HPQ.out); have HD2 := Lib.hid (hd'.move fun h0 => (hk h0).symm); have HB2 := Lib.hid (two_buts HB0.out HB1.out hb'); unfold U; clear hg' hd' hb' hk hhq)
          | (go_at_call 58; refine (samt_any HS0.out).mono ?_; rintro en w1 ⟨a, e2, k2, rfl, hg, hs1, hb1⟩; have HG := Lib.hid hg; have HS1 := Lib.hid hs1; have HD1 := Lib.hid (HD0.out.other HS0.out.heap hb1 (fun e => HPQ.out e.symm)); have HB1 := Lib.hid hb1; clear hg hs1 hb1))
      go_ret
      exact ⟨rfl, k2, e2, HS2.out, HD2.out, HB2.out⟩
    · have K1 := Lib.hid k1
      have b1 : (kd == 1) = false := beq_eq_false_iff_ne.2 k1
      have c1 : ¬ kd = 1 := k1
      clear k1
      by_cases k2 : kd = 2
      · subst k2
        go_enter Try.func52, Try.ntmps52
        go_wp2_with (first
            | (go_at_call 114; refine (rhash_any HD1.out HF.out).mono ?_; rintro en w2 ⟨cs', g', e2', k2', rfl, hcs', hg', hd', hb'⟩; obtain ⟨rfl, rfl, hk⟩ := HG.out.one hg'; obtain ⟨B, m, cc, hhq, _, _⟩ := HD1.out.heap; have HS2 := Lib.hid (HS1.out.other hhq hb' HPQ.out); have HD2 := Lib.hid (hd'.move fun h0 => (hk h0).symm); have HB2 := Lib.hid (two_buts HB0.out HB1.out hb'); obtain rfl : cs = cs' := HCs.out.trans hcs'.symm; have hsame := hash_same HCs.out; clear hcs'; clear hg' hd' hb' hk hhq)
            | (go_at_call 60; refine (shash_any HS0.out).mono ?_; rintro en w1 ⟨cs, g, e2, k2, rfl, hcs, hg, hs1, hb1⟩; have HCs := Lib.hid hcs; clear hcs; have HG := Lib.hid hg; have HS1 := Lib.hid hs1; have HD1 := Lib.hid (HD0.out.other HS0.out.heap hb1 (fun e => HPQ.out e.symm)); have HB1 := Lib.hid hb1; clear hg hs1 hb1))
        go_ret
        exact ⟨rfl, k2, e2, HS2.out, HD2.out, HB2.out⟩
      · have K2 := Lib.hid k2
        have b2 : (kd == 2) = false := beq_eq_false_iff_ne.2 k2
        have c2 : ¬ kd = 2 := k2
        clear k2
        by_cases k3 : kd = 3
        · subst k3
          go_enter Try.func52, Try.ntmps52
          go_upto_region 9 with fail
          go_region_with (first
              | (go_at_call 115; refine (rtext_any HD1.out HF.out most).mono ?_; rintro en w2 ⟨A2', c2', q', m', e2', k2', rfl, hg', hsl', hd', hb'⟩; obtain ⟨rfl, rfl, hk, hq⟩ := HG.out.one hg'; obtain ⟨B, m, cc, hhq, _, _⟩ := HD1.out.heap; have HS2 := Lib.hid (HS1.out.other hhq hb' HPQ.out); have HD2 := Lib.hid (hd'.move fun h0 => (hk h0).symm); have HB2 := Lib.hid (two_buts HBd.out HB1.out hb'); have cv2 := conv_sl (c := c2') hsl' hsl'.none1; have cw2 := conv_sl (c := c2) (HSl.out.but1 hhq hb') (HSl.out.but1 hhq hb').none1; rw [← HSS.out] at cw2; rw [← sof_eq hq, ← HSS.out] at cv2; clear hsl' hq; clear hg' hd' hb' hk hhq)
              | (go_at_call 59; refine (stext_any HSd.out most).mono ?_; rintro en w1 ⟨A2, c2, q1, m1, e2, k2, rfl, hg, hsl, hs1, hb1⟩; have r1 := (hb1.block w.heap.size (heap_lt R0.out) (by have := HPL.out; omega)).trans R0.out; have x1 := (cell_in (i := 1) r1).trans rfl; have HG := Lib.hid hg; have HS1 := Lib.hid hs1; have HD1 := Lib.hid (HDd.out.other HSd.out.heap hb1 (fun e => HPQ.out e.symm)); have HB1 := Lib.hid hb1; have HSl := Lib.hid hsl; have cv1 := conv_sl (c := c2) hsl hsl.none1; obtain ⟨S, hS⟩ : ∃ S, S = sof (fun i => f (q1 + i)) m1 := ⟨_, rfl⟩; rw [← hS] at cv1; have HSS := Lib.hid hS; clear hsl hS; clear hg hs1 hb1 r1))
          all_goals
            go_wp2
            go_ret
            exact ⟨rfl, k2, e2, HS2.out, HD2.out, HB2.out⟩
        · have K3 := Lib.hid k3
          have b3 : (kd == 3) = false := beq_eq_false_iff_ne.2 k3
          have c3 : ¬ kd = 3 := k3
          clear k3
          go_enter Try.func52, Try.ntmps52
          go_wp2_with (first
              | (go_at_call 116; refine (rbyte_any HD1.out).mono ?_; rintro en w2 ⟨v', e2', k2', rfl, hg', hd', hb'⟩; obtain ⟨rfl, rfl, hk⟩ := HG.out.one hg'; obtain ⟨B, m, cc, hhq, _, _⟩ := HD1.out.heap; have HS2 := Lib.hid (HS1.out.other hhq hb' HPQ.out); have HD2 := Lib.hid (hd'.move fun h0 => (hk h0).symm); have HB2 := Lib.hid (two_buts HB0.out HB1.out hb'); clear hg' hd' hb' hk hhq)
              | (go_at_call 61; refine (sbyte_any HS0.out).mono ?_; rintro en w1 ⟨v, e2, k2, rfl, hg, hs1, hb1⟩; have HG := Lib.hid hg; have HS1 := Lib.hid hs1; have HD1 := Lib.hid (HD0.out.other HS0.out.heap hb1 (fun e => HPQ.out e.symm)); have HB1 := Lib.hid hb1; clear hg hs1 hb1))
          go_ret
          exact ⟨rfl, k2, e2, HS2.out, HD2.out, HB2.out⟩
end Go.Proofs.Ytcodlbfomfjmfaa
