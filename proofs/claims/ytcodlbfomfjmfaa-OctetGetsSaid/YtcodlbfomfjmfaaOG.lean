/- The law OctetGets, walked. -/
import Derived.Test.YtcodlbfomfjmfaaPg
import Derived.Test.YtcodlbfomfjmfaaWFF
import Derived.Deep.Slices
import Derived.ChangeSame
namespace Go.Proofs.Ytcodlbfomfjmfaa
open Go.RowKit

/-- n questions, that lie in the block g from o on -/
structure Asks (w : World) (g o n : Nat) (kd most : Nat → Int) : Prop where
  lt : 0 < n → g < w.heap.size
  c0 : ∀ i, i < n → w.cell? ⟨g, o + i * 2, none⟩ = some (.int .i64 (kd i))
  c1 : ∀ i, i < n → w.cell? ⟨g, o + i * 2 + 1, none⟩ = some (.int .i64 (most i))
theorem Asks.below {w w' : World} {g o n : Nat} {kd most : Nat → Int} (h : Asks w g o n kd most) (hb : Below w.heap.size w w') : Asks w' g o n kd most :=
  ⟨fun hn => Nat.lt_of_lt_of_le (h.lt hn) hb.size, fun i hi => by rw [hb.cell (p := ⟨g, _, none⟩) (h.lt (by omega))]; exact h.c0 i hi, fun i hi => by rw [hb.cell (p := ⟨g, _, none⟩) (h.lt (by omega))]; exact h.c1 i hi⟩
def GetsRel (w : World) (m p q : Nat) (A : Option Addr) (n c : Nat) (f : Nat → Nat) (i : Value) (wr : World) : Prop :=
  ∃ j k e : Nat, j ≤ m ∧ i = .int .i64 (j : Nat) ∧ Src wr p A n c f k e ∧ DState wr q n f k e ∧ Below w.heap.size w wr
set_option maxRecDepth 100000 in
set_option maxHeartbeats 4000000 in
theorem octetGets_walk (A : Option Addr) (n c : Nat) (f : Nat → Nat) (V : Option Addr) (m cv : Nat) (kd most : Nat → Int) (w : World) (hl : Sl w A n f) (hA : A = none → n = 0 ∧ c = 0) (hnc : n ≤ c) (hv : 0 < m → ∃ g o, V = some ⟨g, o, none⟩ ∧ Asks w g o m kd most) :
    Calls Try.prog 6 #[.slice A n c, .slice V m cv] w fun e w' => e = .returned (.bool true) ∧ Below w.heap.size w w' := by
  have HV := Lib.hid hv
  have HL := Lib.hid hl
  have HA := Lib.hid hA
  have HNC := Lib.hid hnc
  clear hv hl hA hnc
  by_cases hlen : 500 < n
  · have p1 : (500 : Int) < n := by omega
    have b1 : decide ((500 : Int) < n) = true := decide_eq_true (by omega)
    go_enter Try.func6, Try.ntmps6
    go_wp2_with (go_at_call 42; refine (lives04_walk _).mono ?_; rintro e w9 ⟨rfl, hb9⟩; have HB9 := Lib.hid hb9; clear hb9)
    go_ret
    exact ⟨rfl, HB9.out⟩
  · have p1 : ¬ (500 : Int) < n := by omega
    have b1 : decide ((500 : Int) < n) = false := decide_eq_false (by omega)
    by_cases hlen2 : 60 < m
    · have p2 : (60 : Int) < m := by omega
      have b2 : decide ((60 : Int) < m) = true := decide_eq_true (by omega)
      go_enter Try.func6, Try.ntmps6
      go_wp2_with (go_at_call 42; refine (lives04_walk _).mono ?_; rintro e w9 ⟨rfl, hb9⟩; have HB9 := Lib.hid hb9; clear hb9)
      go_ret
      exact ⟨rfl, HB9.out⟩
    · have p2 : ¬ (60 : Int) < m := by omega
      have b2 : decide ((60 : Int) < m) = false := decide_eq_false (by omega)
      have hn20 : n ≤ 2 ^ 20 := by omega
      have HN20 := Lib.hid hn20
      clear hn20
      go_enter Try.func6, Try.ntmps6
      go_wp2_with (go_at_call 51; refine (read_walk A n c f w HL.out HA.out HN20.out).mono ?_; rintro e w1 ⟨p, A2, c2, rfl, hs1, hp1, hb1⟩; have HS1 := Lib.hid hs1; have HP := Lib.hid hp1; have HB1 := Lib.hid hb1; clear hs1 hp1 hb1)
      have hq0 : DSrc (w1.alloc (.cells #[.slice A n c, .int .i64 0] 55)) w1.heap.size A n c f 0 :=
        ⟨heap_alloc_new _ _, by simpa using ((HL.out.below HB1.out).alloc (.cells #[.slice A n c, .int .i64 0] 55)), HNC.out, HN20.out, HA.out, fun hm a h => by obtain ⟨g, o, e, hg, _⟩ := HL.out.at_ hm; rw [e] at h; cases h; exact Nat.lt_of_lt_of_le hg HB1.out.size⟩
      have HQ0 := Lib.hid hq0
      have hpq : p < w1.heap.size := HS1.out.lt
      have HPQ := Lib.hid hpq
      have HQ := Lib.hid HB1.out.size
      obtain ⟨q, hq⟩ : ∃ q, q = w1.heap.size := ⟨_, rfl⟩
      rw [← hq] at HQ0 HPQ HQ ⊢
      have Hq := Lib.hid hq
      clear hq hq0 hpq
      go_loopw [25] (GetsRel w m p q A2 n c2 f) (fun i _ => m - (intOf i).toNat)
      case atStart => exact ⟨0, 0, 0, Nat.zero_le _, rfl, HS1.out.below ((Below.refl _ _).alloc (Nat.le_refl _) _), .inl ⟨rfl, A, n, c, HQ0.out, by omega⟩, HB1.out.alloc HB1.out.size _⟩
      case round =>
        obtain ⟨j, k, e, hj, rfl, hs, hd, hb⟩ := hrel
        have HS := Lib.hid hs
        have HD := Lib.hid hd
        have HB := Lib.hid hb
        clear hs hd hb
        by_cases hlt : j < m
        · have p3 : (j : Int) < m := by omega
          obtain ⟨g, o, rfl, has⟩ := HV.out (by omega)
          have har := has.below HB.out
          have c0 := har.c0 j hlt
          have c1 := har.c1 j hlt
          have gl := har.lt (by omega)
          obtain ⟨x, hx⟩ : ∃ x, x = kd j := ⟨_, rfl⟩
          obtain ⟨y, hy⟩ : ∃ y, y = most j := ⟨_, rfl⟩
          rw [← hx] at c0
          rw [← hy] at c1
          have hal := ((Below.refl wr.heap.size wr).alloc (Nat.le_refl _) (.cells #[.int .i64 x, .int .i64 y] 57)).drew
          have Hal := Lib.hid hal
          have HSa := Lib.hid (HS.out.below hal)
          have HDa := Lib.hid (HD.out.below hal)
          have HZ := Lib.hid (show wr.heap.size ≤ (wr.alloc (.cells #[.int .i64 x, .int .i64 y] 57)).drew.heap.size from hal.size)
          have HPL := Lib.hid (Nat.lt_of_lt_of_le HS.out.lt hal.size)
          have HQL := Lib.hid (Nat.lt_of_lt_of_le HD.out.lt hal.size)
          have Hlt := Lib.hid hlt
          clear has har hx hy hal hlt
          go_upto_region 7 with fail
          go_region_with (first
            | (go_at_call 54; refine HLe.out.mono ?_; rintro en w3 ⟨rfl, hb3⟩; have d30 : w3.cell? ⟨q, 0, none⟩ = some (.slice B m2 cc) := (cell_in ((hb3.block q (heap_lt HHq.out)).trans HHq.out)).trans rfl; have HS3 := Lib.hid (HS2.out.below hb3); have HD3 := Lib.hid (HD2.out.below hb3); have HB3 := Lib.hid (HB2.out.trans (hb3.mono HB2.out.size)); clear hb3)
            | (go_at_call 53; refine HE.out.mono ?_; rintro en w9 ⟨rfl, rfl⟩)
            | (go_at_call 52; refine (ask_walk HSa.out HDa.out (by have := HPQ.out; omega) x y).mono ?_; rintro en w2 ⟨rfl, k2, e2, hs2, hd2, hbb⟩; obtain ⟨B, m2, cc, hhq, hz0, hz1⟩ := hd2.heap; have d20 : w2.cell? ⟨q, 0, none⟩ = some (.slice B m2 cc) := (cell_in hhq).trans rfl; have d21 : w2.cell? ⟨q, 1, none⟩ = some (.int .i64 (e2 : Nat)) := (cell_in hhq).trans rfl; have hle := left_live hs2; rw [show (if e2 = 0 then n - k2 else 0) = m2 by split <;> rename_i h <;> first | (have := hz0 h; omega) | exact (hz1 h).symm] at hle; have HE := Lib.hid (err_live hs2); have HLe := Lib.hid hle; have HS2 := Lib.hid hs2; have HD2 := Lib.hid hd2; have HHq := Lib.hid hhq; have HB2 := Lib.hid (HB.out.trans ((Hal.out.mono HB.out.size).trans (hbb w.heap.size (Nat.le_trans HB.out.size HZ.out) HP.out HQ.out))); clear hs2 hd2 hbb hhq hle hz0 hz1))
          all_goals
            go_wp2
            exact ⟨⟨j + 1, k2, e2, Hlt.out, by simp, HS3.out, HD3.out, HB3.out⟩, by have := Hlt.out; simp [intOf]; omega⟩
        · have p3 : ¬ (j : Int) < m := by omega
          go_wp2_with (first
            | (go_at_call 42; refine (lives04_walk _).mono ?_; rintro en w9 ⟨rfl, hb9⟩; have HB9 := Lib.hid hb9; clear hb9)
            | (go_at_call 56; refine (rend_live HD4.out).mono ?_; rintro en w5 ⟨e5, rfl, he5, hb5⟩; obtain rfl : e5 = e4 := he5.trans HE4.out.symm; have HB5 := Lib.hid (But.frame HB4.out HQ.out hb5); clear he5 hb5)
            | (go_at_call 55; refine (end_live HS.out).mono ?_; rintro en w4 ⟨e4, rfl, he4, hs4, hb4⟩; have HE4 := Lib.hid he4; have HD4 := Lib.hid (HD.out.other HS.out.heap hb4 (by have := HPQ.out; omega)); have HB4 := Lib.hid (But.frame HB.out HP.out hb4); clear he4 hs4 hb4))
          go_ret
          exact ⟨rfl, HB5.out.trans (HB9.out.mono HB5.out.size)⟩
end Go.Proofs.Ytcodlbfomfjmfaa

namespace Go.Proofs.Ytcodlbfomfjmfaa
open Go.ChangeShapes Go.WideShapes Go.ChangeAt Go.RowKit

theorem cellsIntG : Try.prog.cellsOf 3 = 1 := by kernel_rfl
theorem cellsAsk : Try.prog.cellsOf 57 = 2 := by kernel_rfl
theorem list2 {α : Type} (l : List α) (h : l.length = 2) : ∃ a b, l = [a, b] := by
  match l, h with
  | [a, b], _ => exact ⟨a, b, rfl⟩
section
variable {H : Type} {enc : TypeId × Value → H} {W : World} {base : Nat}
set_option maxRecDepth 100000 in
theorem open_bl3 {v : Value} {d : DataW H} {p : List MemPlace} (hv : Value.okWide Try.prog W .any base 33 v) (h : DataW.Trod enc Try.prog W 0 (fun _ => true) true 33 v d p) :
    ∃ A n c f, v = .slice A n c ∧ Sl W A n f ∧ (A = none → n = 0 ∧ c = 0) ∧ n ≤ c := by
  obtain ⟨A, n, c, f, rfl, hl, hz⟩ := open_bl2 hv h
  refine ⟨A, n, c, f, rfl, hl, hz, ?_⟩
  obtain ⟨fuel, hf⟩ := h
  rcases open_ints Try.underlying33 Try.underlying5 cellsU8 hf with ⟨hcs, hx⟩ | ⟨a, len', cap', zs, hcs, _, hl, _⟩
  · simp [Value.cells] at hcs
    omega
  · simp only [Value.cells, List.cons.injEq, Value.slice.injEq, and_true] at hcs
    omega
set_option maxRecDepth 100000 in
theorem open_asks {v : Value} {d : DataW H} {p : List MemPlace} (hv : Value.okWide Try.prog W .any base 50 v) (h : DataW.Trod enc Try.prog W 0 (fun _ => true) true 50 v d p) :
    ∃ V n c kd most, v = .slice V n c ∧ (0 < n → ∃ g o, V = some ⟨g, o, none⟩ ∧ Asks W g o n kd most) := by
  obtain ⟨a0, n, c, rfl⟩ := okWide_slice Try.underlying50 hv
  obtain ⟨fuel, hf⟩ := h
  rcases Go.Deep.open_slice Try.underlying50 hf with ⟨hcs, _⟩ | ⟨a, len, cap, m, n', D, Pl, hcs, _, hl, _, hmm, _, hi⟩
  · simp [Value.cells] at hcs
    obtain ⟨rfl, rfl, rfl⟩ := hcs
    exact ⟨none, 0, 0, fun _ => 0, fun _ => 0, rfl, fun h => absurd h (by omega)⟩
  · simp only [Value.cells, List.cons.injEq, Value.slice.injEq, and_true] at hcs
    obtain ⟨rfl, rfl, rfl⟩ := hcs
    simp only [if_true] at hmm
    rw [cellsAsk] at hi
    rcases Nat.eq_zero_or_pos n with rfl | hn0
    · exact ⟨some a, 0, c, fun _ => 0, fun _ => 0, rfl, fun h => absurd h (by omega)⟩
    have hsp : a.spot = none := by
      obtain ⟨cs, hc, _⟩ := hi 0 (by omega)
      obtain ⟨_, hcl, hat⟩ := World.cells?_some hc
      obtain ⟨b0, b1, rfl⟩ := list2 cs hcl
      exact World.cell?_spot (a := a) (v := b0) (by simpa [Addr.add] using hat 0 (by omega))
    obtain ⟨g, o, sp⟩ := a
    obtain rfl : sp = none := hsp
    have key : ∀ i, i < n → ∃ x : Int × Int, g < W.heap.size ∧ W.cell? ⟨g, o + i * 2, none⟩ = some (.int .i64 x.1) ∧ W.cell? ⟨g, o + i * 2 + 1, none⟩ = some (.int .i64 x.2) := fun i hin => by
      obtain ⟨cs, hc, ht⟩ := hi i (by omega)
      obtain ⟨_, hcl, hat⟩ := World.cells?_some hc
      obtain ⟨b0, b1, rfl⟩ := list2 cs hcl
      obtain ⟨ys, n2, _, _, _, hyl, hf⟩ := DataW.trod_struct Try.underlying57 ht
      obtain ⟨y0, y1, rfl⟩ := list2 ys hyl
      have f0 : DataW.trod enc Try.prog W 0 (fun _ => true) true n2 3 (([b0, b1].drop 0).take (Try.prog.cellsOf 3)) = some y0 := hf 0 _ rfl
      rw [cellsIntG] at f0
      replace f0 : DataW.trod enc Try.prog W 0 (fun _ => true) true n2 3 [b0] = some y0 := f0
      have f1 : DataW.trod enc Try.prog W 0 (fun _ => true) true n2 3 (([b0, b1].drop 1).take (Try.prog.cellsOf 3)) = some y1 := hf 1 _ rfl
      rw [cellsIntG] at f1
      replace f1 : DataW.trod enc Try.prog W 0 (fun _ => true) true n2 3 [b1] = some y1 := f1
      obtain ⟨kd, e0, rfl, _⟩ := DataW.trod_int Try.underlying3 f0
      obtain ⟨N, e1, rfl, wN⟩ := DataW.trod_int Try.underlying3 f1
      simp at e0 e1
      subst e0 e1
      have hlt : g < W.heap.size := by
        have h1 := hat 0 (by omega)
        simp only [add_plain] at h1
        exact World.block_lt_of_cell? W _ h1
      simp only [add_plain] at hat
      exact ⟨(kd, N), hlt, hat 0 (by omega), hat 1 (by omega)⟩
    have hch : ∀ i, (hi : i < n) → g < W.heap.size ∧ W.cell? ⟨g, o + i * 2, none⟩ = some (.int .i64 (if h : i < n then (Classical.choose (key i h)).1 else 0)) ∧ W.cell? ⟨g, o + i * 2 + 1, none⟩ = some (.int .i64 (if h : i < n then (Classical.choose (key i h)).2 else 0)) := fun i hi => by
      rw [dif_pos hi, dif_pos hi]; exact Classical.choose_spec (key i hi)
    exact ⟨some ⟨g, o, none⟩, n, c, fun i => if h : i < n then (Classical.choose (key i h)).1 else 0, fun i => if h : i < n then (Classical.choose (key i h)).2 else 0, rfl, fun hn => ⟨g, o, rfl, fun h => (hch 0 h).1, fun i hi => (hch i hi).2.1, fun i hi => (hch i hi).2.2⟩⟩
end
end Go.Proofs.Ytcodlbfomfjmfaa
