/- The law StoreLast, walked: the acts. -/
import Derived.Test.YtbfmhafmncnhfaaG14
import Derived.Test.YtbfmhafmncnhfaaG00
import Derived.Test.YtbfmhafmncnhfaaG13
import Derived.Test.YtbfmhafmncnhfaaG01
import Derived.ChangeSlices
import Derived.Carry
import Derived.OpenShut
import Derived.ChangeOld
import Derived.Deep.Slices
import Derived.ChangeSame
import Derived.Laws.IdiomArrays
namespace Go.Proofs.Ytbfmhafmncnhfaa
open Go.RowKit Go.Maps Go.Sort

theorem str_ne {a b : ByteArray} (h : a ≠ b) : (a.toList == b.toList) = false := by
  rw [beq_eq_false_iff_ne, Lib.toList_data, Lib.toList_data]
  exact fun e => h (lit_inj (congrArg Lit.string e))
set_option maxRecDepth 100000 in
set_option maxHeartbeats 16000000 in
theorem storeLast_go (A : Option Addr) (N C : Nat) (x0 : Nat → Int) (x1 x2 : Nat → ByteArray) (x3 : Nat → Int) (key beg : ByteArray) (w : World) (hr : RowsV w A N 4 (fun i => [.int .i64 (x0 i), .string (x1 i), .string (x2 i), .int .i64 (x3 i)]))
    (hN : N ≤ 300) (hacc : ∀ j, j < N → lacc x1 x2 (j + 1) ≤ 20000) (hk1 : ∀ i, i < N → (x1 i).size ≤ maxLen) (hk2 : ∀ i, i < N → (x2 i).size ≤ maxLen) (hk : key.size ≤ maxLen) (hbg : beg.size ≤ maxLen) :
    Calls Try.prog 5 #[.slice A N C, .string key, .string beg] w fun e w' => e = .returned (.bool true) ∧ Below w.heap.size w w' := by
  have HL1 := Lib.hid (light08_rows A N C x0 x1 x2 x3 w hr (by omega) true ⟨fun _ => ⟨hN, hacc⟩, fun _ => rfl⟩)
  have HR := Lib.hid hr
  have HS := Lib.hid (And.intro hk1 (And.intro hk2 (And.intro hk hbg)))
  have hN' : (N : Int) ≤ 300 := by omega
  clear hr hN hk1 hk2 hk hbg hacc
  go_enter Try.func5, Try.ntmps5
  go_wp2_with (first
    | (go_at_call 10; with_reducible refine (SNew.new w _ H1.out).mono ?_; rintro e w3 ⟨b, F1, rfl, hs1, _, _⟩; have H3 := Lib.hid hs1; clear hs1)
    | (go_at_call 8; with_reducible refine HL1.out.mono ?_; rintro e w1 ⟨rfl, hb1⟩; have H1 := Lib.hid hb1; clear hb1))
  go_loopw [8, 9, 24] (fun v8 v9 i wr => ∃ (j : Nat) (want : ByteArray) (th : Bool) (L : SL), j ≤ N ∧ i = .int .i64 (j : Nat) ∧ v8 = .string want ∧ v9 = .bool th ∧ SlW w wr b key want th j L) (fun _ _ i _ => N - (intOf i).toNat)
  case atStart => exact ⟨0, ⟨#[]⟩, false, [], by omega, rfl, rfl, rfl, ⟨⟨F1, 0, [], H3.out, Nat.le_refl _⟩, Nat.le_refl _, fun p hp => (by cases hp), .inr ⟨rfl, rfl, rfl⟩⟩⟩
  case round =>
    obtain ⟨j, want, th, L, hj, rfl, rfl, rfl, hw⟩ := hrel
    have HW := Lib.hid hw
    by_cases hlt : j < N
    · have p2 : (j : Int) < (N : Int) := by omega
      obtain ⟨g, o, rfl, hg, hc⟩ := (HR.out.below hw.l) (by omega)
      have d0 := hc j hlt 0 _ rfl
      have d1 := hc j hlt 1 _ rfl
      have d2 := hc j hlt 2 _ rfl
      have d3 := hc j hlt 3 _ rfl
      simp only [Nat.add_zero] at d0
      have hks := HS.out.1 j hlt
      have hvs := HS.out.2.1 j hlt
      obtain ⟨k, ek⟩ : ∃ y, y = x1 j := ⟨_, rfl⟩
      obtain ⟨v, ev⟩ : ∃ y, y = x2 j := ⟨_, rfl⟩
      obtain ⟨kd, ekd⟩ : ∃ y, y = x0 j := ⟨_, rfl⟩
      rw [← ek] at d1 hks
      rw [← ev] at d2 hvs
      rw [← ekd] at d0
      have hj6 : j < 100000 := by omega
      clear hc ek ev ekd
      by_cases hk0 : kd = 0
      · subst hk0
        have hbx := (Below.refl wr.heap.size wr).alloc (Nat.le_refl _) (.cells #[.int .i64 0, .string k, .string v, .int .i64 (x3 j)] 33)
        have hpx := heap_alloc_new wr (.cells #[.int .i64 0, .string k, .string v, .int .i64 (x3 j)] 33)
        have hw2 := hw.below hbx
        have HW2 := Lib.hid hw2
        have Hpx := Lib.hid hpx
        have hSt := hw2.set hj6 k v hks hvs
        have HSt := Lib.hid hSt
        clear hw hbx hpx hw2 hSt hks hvs hj6
        by_cases hkk : k = key
        · subst hkk
          have q1 : (k.toList == k.toList) = true := beq_self_eq_true _
          by_cases hke : k = ⟨#[]⟩
          · have q2 : k.toList.isEmpty = true := by rw [hke, Lib.toList_data]; rfl
            have HKE := Lib.hid hke
            clear hke
            go_upto_region 11 with (go_at_call 22; refine HSt.out.mono ?_; rintro e w5 ⟨⟨r, rfl⟩, hs5, hk5⟩; have H5 := Lib.hid hs5; have r5 := (hk5 _ fAct08).2 _ _ _ Hpx.out; have y0 := (hp_cell (i := 0) r5).trans rfl; have y1 := (hp_cell (i := 1) r5).trans rfl; have y2 := (hp_cell (i := 2) r5).trans rfl; clear hs5 hk5 r5)
            go_wp2
            exact ⟨⟨j + 1, want, th, setE L k v, by omega, by go_num, rfl, rfl, H5.out _ _ (HW2.out.k.other (.inr HKE.out))⟩, by simp [intOf]; omega⟩
          · have q2 : k.toList.isEmpty = false := ba_nil hke
            have HKE := Lib.hid hke
            clear hke
            go_upto_region 11 with (go_at_call 22; refine HSt.out.mono ?_; rintro e w5 ⟨⟨r, rfl⟩, hs5, hk5⟩; have H5 := Lib.hid hs5; have r5 := (hk5 _ fAct08).2 _ _ _ Hpx.out; have y0 := (hp_cell (i := 0) r5).trans rfl; have y1 := (hp_cell (i := 1) r5).trans rfl; have y2 := (hp_cell (i := 2) r5).trans rfl; clear hs5 hk5 r5)
            go_wp2
            exact ⟨⟨j + 1, v, true, setE L k v, by omega, by go_num, rfl, rfl, H5.out _ _ (KeepS.set HKE.out)⟩, by simp [intOf]; omega⟩
        · have q1 := str_ne hkk
          have HKK := Lib.hid hkk
          clear hkk
          go_upto_region 11 with (go_at_call 22; refine HSt.out.mono ?_; rintro e w5 ⟨⟨r, rfl⟩, hs5, hk5⟩; have H5 := Lib.hid hs5; have r5 := (hk5 _ fAct08).2 _ _ _ Hpx.out; have y0 := (hp_cell (i := 0) r5).trans rfl; have y1 := (hp_cell (i := 1) r5).trans rfl; have y2 := (hp_cell (i := 2) r5).trans rfl; clear hs5 hk5 r5)
          go_wp2
          exact ⟨⟨j + 1, want, th, setE L k v, by omega, by go_num, rfl, rfl, H5.out _ _ (HW2.out.k.other (.inl HKK.out))⟩, by simp [intOf]; omega⟩
      · have z0 : (kd == 0) = false := beq_eq_false_iff_ne.2 hk0
        by_cases hk1 : kd = 1
        · subst hk1
          have hbx := (Below.refl wr.heap.size wr).alloc (Nat.le_refl _) (.cells #[.int .i64 1, .string k, .string v, .int .i64 (x3 j)] 33)
          have hpx := heap_alloc_new wr (.cells #[.int .i64 1, .string k, .string v, .int .i64 (x3 j)] 33)
          have hw2 := hw.below hbx
          have HW2 := Lib.hid hw2
          have Hpx := Lib.hid hpx
          have hSt := hw2.del hj6 k hks
          have HSt := Lib.hid hSt
          clear hw hbx hpx hw2 hSt hks hvs hj6 hk0 z0
          by_cases hkk : k = key
          · subst hkk
            have q1 : (k.toList == k.toList) = true := beq_self_eq_true _
            go_upto_region 15 with (go_at_call 23; refine HSt.out.mono ?_; rintro e w5 ⟨⟨r, rfl⟩, hs5, hk5⟩; have H5 := Lib.hid hs5; have r5 := (hk5 _ fAct08).2 _ _ _ Hpx.out; have y0 := (hp_cell (i := 0) r5).trans rfl; have y1 := (hp_cell (i := 1) r5).trans rfl; have y2 := (hp_cell (i := 2) r5).trans rfl; clear hs5 hk5 r5)
            go_wp2
            exact ⟨⟨j + 1, ⟨#[]⟩, false, sdel L k, by omega, by go_num, rfl, rfl, H5.out _ _ KeepS.del⟩, by simp [intOf]; omega⟩
          · have q1 := str_ne hkk
            have HKK := Lib.hid hkk
            clear hkk
            go_upto_region 15 with (go_at_call 23; refine HSt.out.mono ?_; rintro e w5 ⟨⟨r, rfl⟩, hs5, hk5⟩; have H5 := Lib.hid hs5; have r5 := (hk5 _ fAct08).2 _ _ _ Hpx.out; have y0 := (hp_cell (i := 0) r5).trans rfl; have y1 := (hp_cell (i := 1) r5).trans rfl; have y2 := (hp_cell (i := 2) r5).trans rfl; clear hs5 hk5 r5)
            go_wp2
            exact ⟨⟨j + 1, want, th, sdel L k, by omega, by go_num, rfl, rfl, H5.out _ _ (HW2.out.k.delOther HKK.out)⟩, by simp [intOf]; omega⟩
        · have z1 : (kd == 1) = false := beq_eq_false_iff_ne.2 hk1
          have hbx := (Below.refl wr.heap.size wr).alloc (Nat.le_refl _) (.cells #[.int .i64 kd, .string k, .string v, .int .i64 (x3 j)] 33)
          have hw2 := (hw.below hbx).next
          have HW2 := Lib.hid hw2
          clear hw hbx hw2 hks hvs hj6 hk0 hk1
          go_wp2
          exact ⟨⟨j + 1, want, th, L, by omega, by go_num, rfl, rfl, HW2.out⟩, by simp [intOf]; omega⟩
    · obtain rfl : j = N := by omega
      have p2 : ¬ (j : Int) < (j : Int) := by omega
      have hGt := hw.get HS.out.2.2.1
      have HGt := Lib.hid hGt
      clear hw hGt
      go_upto_region 19 with (go_at_call 12; refine HGt.out.mono ?_; rintro e w6 ⟨rfl, hb6⟩; have hw6 := HW.out.below hb6; have HW6 := Lib.hid hw6; have hAl := hw6.all (by omega); have HAl := Lib.hid hAl; clear hb6 hw6 hAl)
      go_upto_region 21 with (go_at_call 20; refine HAl.out.mono ?_; rintro e w7 ⟨⟨v7, rfl, ho7⟩, hb7⟩; obtain ⟨A7, C7, rfl, hrow⟩ := row_pairs ho7; have HRW := Lib.hid hrow; have HW7 := Lib.hid (HW6.out.below hb7); have HB7 := Lib.hid hb7; clear ho7 hrow hb7)
      have hLl := HW.out.len
      go_loopw [14, 68] (fun v14 i wr => ∃ (m n : Nat), m ≤ L.length ∧ n ≤ m ∧ n = (L.take m).countP (hpre beg) ∧ i = .int .i64 (m : Nat) ∧ v14 = .int .i64 (n : Nat) ∧ Below w7.heap.size w7 wr) (fun _ i _ => L.length - (intOf i).toNat)
      case atStart => exact ⟨0, 0, by omega, by omega, rfl, rfl, rfl, Below.refl _ _⟩
      case round =>
        obtain ⟨m, n, hm, hnm, hn, rfl, rfl, hbb⟩ := hrel
        have HBB := Lib.hid hbb
        have HNN := Lib.hid hn
        by_cases hlt2 : m < L.length
        · have p3 : (m : Int) < (L.length : Int) := by omega
          obtain ⟨g7, rfl, _, hg7, hcc⟩ := HRW.out (by omega)
          have c0 := (hbb.cell (p := ⟨g7, m * 2, none⟩) hg7).trans (hcc m hlt2).1
          have c1 := (hbb.cell (p := ⟨g7, m * 2 + 1, none⟩) hg7).trans (hcc m hlt2).2
          have hcp := cp_take (hpre beg) hlt2
          obtain ⟨pp, epp⟩ : ∃ y, y = L[m] := ⟨_, rfl⟩
          rw [← epp] at c0 c1 hcp
          obtain ⟨pk, pv⟩ := pp
          simp only at c0 c1
          rw [← hn] at hcp
          have HCP := Lib.hid hcp
          have hx := HBB.out.alloc HBB.out.size (.cells #[.string pk, .string pv] 43)
          have HX := Lib.hid hx
          clear hbb hn hcc epp hcp hx
          by_cases hsz : beg.size ≤ pk.size
          · have p4 : (beg.size : Int) ≤ (pk.size : Int) := by omega
            have hq := pre_ext (v := pv) hsz
            cases hpb : hpre beg (pk, pv) with
            | true =>
              rw [hpb] at hq
              have hcn := HCP.out
              rw [hpb, if_pos rfl] at hcn
              have HCN := Lib.hid hcn
              clear hcn hpb
              go_wp2
              exact ⟨⟨m + 1, n + 1, by omega, by omega, HCN.out.symm, by go_num, by go_num, HX.out⟩, by simp [intOf]; omega⟩
            | false =>
              rw [hpb] at hq
              have hcn := HCP.out
              rw [hpb, if_neg (by decide), Nat.add_zero] at hcn
              have HCN := Lib.hid hcn
              clear hcn hpb
              go_wp2
              exact ⟨⟨m + 1, n, by omega, by omega, HCN.out.symm, by go_num, rfl, HX.out⟩, by simp [intOf]; omega⟩
          · have p4 : ¬ (beg.size : Int) ≤ (pk.size : Int) := by omega
            have hcn := HCP.out
            rw [pre_short (by omega), if_neg (by decide), Nat.add_zero] at hcn
            have HCN := Lib.hid hcn
            clear hcn
            go_wp2
            exact ⟨⟨m + 1, n, by omega, by omega, HCN.out.symm, by go_num, rfl, HX.out⟩, by simp [intOf]; omega⟩
        · obtain rfl : m = L.length := by omega
          have p3 : ¬ (L.length : Int) < (L.length : Int) := by omega
          rw [List.take_length] at hn
          have hw8 := HW7.out.below hbb
          have HW8 := Lib.hid hw8
          have hUn := hw8.under (by omega) beg
          rw [← hn] at hUn
          have HUn := Lib.hid hUn
          have q1 : (want.toList == want.toList) = true := beq_self_eq_true _
          have q2 : (th == th) = true := beq_self_eq_true _
          have q3 : ((n : Int) == (n : Int)) = true := beq_self_eq_true _
          clear hbb hw8 hUn hn
          go_wp2_with (first
            | (go_at_call 9; refine (lives08_walk _).mono ?_; rintro e w9 ⟨rfl, hb9⟩; have H9 := Lib.hid hb9; clear hb9)
            | (go_at_call 24; refine HUn.out.mono ?_; rintro e w8 ⟨⟨A8, C8, rfl⟩, hb8⟩; have H8 := Lib.hid (HW8.out.below hb8); clear hb8))
          go_ret
          exact ⟨rfl, H8.out.l.trans (H9.out.mono H8.out.l.size)⟩
  all_goals done
end Go.Proofs.Ytbfmhafmncnhfaa

namespace Go.Proofs.Ytbfmhafmncnhfaa
open Go.ChangeShapes Go.WideShapes Go.ChangeAt Go.RowKit

theorem cellsU8 : Try.prog.cellsOf 5 = 1 := by kernel_rfl
section
variable {H : Type} {enc : TypeId × Value → H} {W : World} {base : Nat}
set_option maxRecDepth 100000 in
theorem open_bl {v : Value} {d : DataW H} {p : List MemPlace} (hv : Value.okWide Try.prog W .any base 106 v) (h : DataW.Trod enc Try.prog W 0 (fun _ => true) true 106 v d p) :
    ∃ A n c f, v = .slice A n c ∧ Sl W A n f := by
  obtain ⟨a0, n, c, rfl⟩ := okWide_slice Try.underlying106 hv
  obtain ⟨fuel, hf⟩ := h
  rcases open_ints Try.underlying106 Try.underlying5 cellsU8 hf with ⟨hcs, hx⟩ | ⟨a, len', cap', zs, hcs, _, hl, hm, hz, hx, hcell, hwz⟩
  · simp [Value.cells] at hcs
    obtain ⟨rfl, rfl, rfl⟩ := hcs
    exact ⟨none, 0, 0, fun _ => 0, rfl, fun _ => by decide, fun h => absurd h (by omega)⟩
  · simp only [Value.cells, List.cons.injEq, Value.slice.injEq, and_true] at hcs
    obtain ⟨rfl, rfl, rfl⟩ := hcs
    simp only [if_true] at hz
    have hb : ∀ i, 0 ≤ zs.getD i 0 ∧ zs.getD i 0 < 256 := fun i => by
      rcases Nat.lt_or_ge i zs.length with hi | hi
      · have h1 := hwz (zs.getD i 0) (by simp [List.getD, List.getElem?_eq_getElem hi])
        have h2 := bounds_u8 h1
        omega
      · simp only [List.getD, List.getElem?_eq_none hi, Option.getD_none]; decide
    refine ⟨some a, n, c, fun i => (zs.getD i 0).toNat, rfl, fun i => by have := hb i; omega, fun hn => ?_⟩
    have hc0 := hcell 0 (by omega)
    have hlt := World.block_lt_of_cell? W _ hc0
    obtain ⟨g, o, sp⟩ := a
    have hspot : sp = none := by simpa [Addr.add] using World.cell?_spot hc0
    subst hspot
    exact ⟨g, o, rfl, hlt, fun i hi => by
      have h1 := hcell i (by omega)
      have h2 := (hb i).1
      rw [add_plain] at h1
      rw [h1, Int.toNat_of_nonneg h2]⟩
set_option maxRecDepth 100000 in
theorem open_bl2 {v : Value} {d : DataW H} {p : List MemPlace} (hv : Value.okWide Try.prog W .any base 106 v) (h : DataW.Trod enc Try.prog W 0 (fun _ => true) true 106 v d p) :
    ∃ A n c f, v = .slice A n c ∧ Sl W A n f ∧ (A = none → n = 0 ∧ c = 0) := by
  obtain ⟨a0, n, c, rfl⟩ := okWide_slice Try.underlying106 hv
  obtain ⟨fuel, hf⟩ := h
  rcases open_ints Try.underlying106 Try.underlying5 cellsU8 hf with ⟨hcs, hx⟩ | ⟨a, len', cap', zs, hcs, _, hl, hm, hz, hx, hcell, hwz⟩
  · simp [Value.cells] at hcs
    obtain ⟨rfl, rfl, rfl⟩ := hcs
    exact ⟨none, 0, 0, fun _ => 0, rfl, ⟨fun _ => by decide, fun h => absurd h (by omega)⟩, fun _ => ⟨rfl, rfl⟩⟩
  · simp only [Value.cells, List.cons.injEq, Value.slice.injEq, and_true] at hcs
    obtain ⟨rfl, rfl, rfl⟩ := hcs
    simp only [if_true] at hz
    have hb : ∀ i, 0 ≤ zs.getD i 0 ∧ zs.getD i 0 < 256 := fun i => by
      rcases Nat.lt_or_ge i zs.length with hi | hi
      · have h1 := hwz (zs.getD i 0) (by simp [List.getD, List.getElem?_eq_getElem hi])
        have h2 := bounds_u8 h1
        omega
      · simp only [List.getD, List.getElem?_eq_none hi, Option.getD_none]; decide
    refine ⟨some a, n, c, fun i => (zs.getD i 0).toNat, rfl, ⟨fun i => by have := hb i; omega, fun hn => ?_⟩, fun h => by cases h⟩
    have hc0 := hcell 0 (by omega)
    have hlt := World.block_lt_of_cell? W _ hc0
    obtain ⟨g, o, sp⟩ := a
    have hspot : sp = none := by simpa [Addr.add] using World.cell?_spot hc0
    subst hspot
    exact ⟨g, o, rfl, hlt, fun i hi => by
      have h1 := hcell i (by omega)
      have h2 := (hb i).1
      rw [add_plain] at h1
      rw [h1, Int.toNat_of_nonneg h2]⟩
end
end Go.Proofs.Ytbfmhafmncnhfaa

namespace Go.Proofs.Ytbfmhafmncnhfaa
open Go.ChangeShapes Go.WideShapes Go.ChangeAt Go.RowKit

theorem cells_act08 : Try.prog.cellsOf 33 = 4 := by kernel_rfl
theorem cells_act08_int : Try.prog.cellsOf 3 = 1 := by kernel_rfl
theorem cells_act08_str : Try.prog.cellsOf 9 = 1 := by kernel_rfl
theorem list_act08 {α : Type} (l : List α) (h : l.length = 4) : ∃ b0 b1 b2 b3, l = [b0, b1, b2, b3] := by
  match l, h with
  | [b0, b1, b2, b3], _ => exact ⟨b0, b1, b2, b3, rfl⟩
/-- N rows at A, their fields -/
structure act08sAt (W : World) (A : Option Addr) (N : Nat) (x0 : Nat → Int) (x1 : Nat → ByteArray) (x2 : Nat → ByteArray) (x3 : Nat → Int) : Prop where
  rows : RowsV W A N 4 (fun i => [.int .i64 (x0 i), .string (x1 i), .string (x2 i), .int .i64 (x3 i)])
  f0 : ∀ i, i < N → (-9223372036854775808 ≤ (x0 i) ∧ (x0 i) < 2 ^ 63)
  f1 : ∀ i, i < N → ((x1 i).size ≤ maxLen)
  f2 : ∀ i, i < N → ((x2 i).size ≤ maxLen)
  f3 : ∀ i, i < N → (-9223372036854775808 ≤ (x3 i) ∧ (x3 i) < 2 ^ 63)
theorem act08sAt.below {W W' : World} {A : Option Addr} {N : Nat} {x0 : Nat → Int} {x1 : Nat → ByteArray} {x2 : Nat → ByteArray} {x3 : Nat → Int} (h : act08sAt W A N x0 x1 x2 x3) (hb : Below W.heap.size W W') : act08sAt W' A N x0 x1 x2 x3 :=
  ⟨h.rows.below hb, fun i hi => (h.f0 i hi), fun i hi => (h.f1 i hi), fun i hi => (h.f2 i hi), fun i hi => (h.f3 i hi)⟩
section
variable {H : Type} {enc : TypeId × Value → H} {W : World} {base : Nat}
set_option maxRecDepth 100000 in
theorem open_act08_row {fuel : Nat} {cs : List Value} {x : DataW H × List MemPlace} (hf : DataW.trod enc Try.prog W 0 (fun _ => true) true fuel 33 cs = some x) (hsz : cs.length = 4) :
    ∃ x0 x1 x2 x3, cs = [.int .i64 x0, .string x1, .string x2, .int .i64 x3] ∧ (-9223372036854775808 ≤ x0 ∧ x0 < 2 ^ 63) ∧ (x1.size ≤ maxLen) ∧ (x2.size ≤ maxLen) ∧ (-9223372036854775808 ≤ x3 ∧ x3 < 2 ^ 63) := by
  obtain ⟨b0, b1, b2, b3, rfl⟩ := list_act08 cs hsz
  obtain ⟨ys, n2, _, _, _, hyl, hf⟩ := DataW.trod_struct Try.underlying33 hf
  obtain ⟨y0, y1, y2, y3, rfl⟩ := list_act08 ys hyl
  have f0 : DataW.trod enc Try.prog W 0 (fun _ => true) true n2 3 (([b0, b1, b2, b3].drop 0).take (Try.prog.cellsOf 3)) = some y0 := hf 0 _ rfl
  rw [cells_act08_int] at f0
  replace f0 : DataW.trod enc Try.prog W 0 (fun _ => true) true n2 3 [b0] = some y0 := f0
  have f1 : DataW.trod enc Try.prog W 0 (fun _ => true) true n2 9 (([b0, b1, b2, b3].drop 1).take (Try.prog.cellsOf 9)) = some y1 := hf 1 _ rfl
  rw [cells_act08_str] at f1
  replace f1 : DataW.trod enc Try.prog W 0 (fun _ => true) true n2 9 [b1] = some y1 := f1
  have f2 : DataW.trod enc Try.prog W 0 (fun _ => true) true n2 9 (([b0, b1, b2, b3].drop 2).take (Try.prog.cellsOf 9)) = some y2 := hf 2 _ rfl
  rw [cells_act08_str] at f2
  replace f2 : DataW.trod enc Try.prog W 0 (fun _ => true) true n2 9 [b2] = some y2 := f2
  have f3 : DataW.trod enc Try.prog W 0 (fun _ => true) true n2 3 (([b0, b1, b2, b3].drop 3).take (Try.prog.cellsOf 3)) = some y3 := hf 3 _ rfl
  rw [cells_act08_int] at f3
  replace f3 : DataW.trod enc Try.prog W 0 (fun _ => true) true n2 3 [b3] = some y3 := f3
  obtain ⟨x0, e0, _, w0⟩ := DataW.trod_int Try.underlying3 f0
  simp at e0
  subst e0
  have h0 := bounds_i64 w0
  obtain ⟨x1, e1, _, w1⟩ := DataW.trod_string Try.underlying9 f1
  simp at e1
  subst e1
  obtain ⟨x2, e2, _, w2⟩ := DataW.trod_string Try.underlying9 f2
  simp at e2
  subst e2
  obtain ⟨x3, e3, _, w3⟩ := DataW.trod_int Try.underlying3 f3
  simp at e3
  subst e3
  have h3 := bounds_i64 w3
  exact ⟨x0, x1, x2, x3, rfl, ⟨by omega, by omega⟩, w1, w2, ⟨by omega, by omega⟩⟩
set_option maxRecDepth 100000 in
theorem open_act08s {v : Value} {d : DataW H} {p : List MemPlace} (hv : Value.okWide Try.prog W .any base 22 v) (h : DataW.Trod enc Try.prog W 0 (fun _ => true) true 22 v d p) :
    ∃ A N C x0 x1 x2 x3, v = .slice A N C ∧ (A = none → N = 0 ∧ C = 0) ∧ N ≤ C ∧ C ≤ 9223372036854775807 ∧ act08sAt W A N x0 x1 x2 x3 := by
  obtain ⟨a0, N, C, rfl⟩ := okWide_slice Try.underlying22 hv
  obtain ⟨fuel, hf⟩ := h
  rcases Go.Deep.open_slice Try.underlying22 hf with ⟨hcs, hx⟩ | ⟨a, len, cap, m, n, D, Pl, hcs, hb, hl, hm, hmm, _, hx⟩
  · simp [Value.cells] at hcs
    obtain ⟨rfl, rfl, rfl⟩ := hcs
    exact ⟨none, 0, 0, fun _ => 0, fun _ => ByteArray.empty, fun _ => ByteArray.empty, fun _ => 0, rfl, fun _ => ⟨rfl, rfl⟩, Nat.le_refl _, by decide, ⟨RowsV.nil _ _ _ _, fun i h => absurd h (by omega), fun i h => absurd h (by omega), fun i h => absurd h (by omega), fun i h => absurd h (by omega)⟩⟩
  · simp only [Value.cells, List.cons.injEq, Value.slice.injEq, and_true] at hcs
    obtain ⟨rfl, rfl, rfl⟩ := hcs
    simp only [if_true] at hmm
    subst hmm
    rw [cells_act08] at hx
    obtain ⟨y, hy⟩ := Go.Deep.choose_lt (α := (Int) × (ByteArray) × (ByteArray) × (Int)) (n := m) (p := fun i y => W.cells? 0 (a.add (i * 4)) 4 = some [.int .i64 y.1, .string y.2.1, .string y.2.2.1, .int .i64 y.2.2.2] ∧ (-9223372036854775808 ≤ y.1 ∧ y.1 < 2 ^ 63) ∧ (y.2.1.size ≤ maxLen) ∧ (y.2.2.1.size ≤ maxLen) ∧ (-9223372036854775808 ≤ y.2.2.2 ∧ y.2.2.2 < 2 ^ 63)) (fun i hi => by
      obtain ⟨cs, h1, h2⟩ := hx i hi
      obtain ⟨x0, x1, x2, x3, rfl, g0, g1, g2, g3⟩ := open_act08_row h2 (World.cells?_some h1).2.1
      exact ⟨(x0, x1, x2, x3), h1, g0, g1, g2, g3⟩)
    unfold maxLen at hm
    refine ⟨some a, N, m, fun i => (y i).1, fun i => (y i).2.1, fun i => (y i).2.2.1, fun i => (y i).2.2.2, rfl, (fun h => by cases h), hl, by omega, ⟨RowsV.of_cells (by decide) fun i hi => (hy i (by omega)).1, fun i hi => (hy i (by omega)).2.1, fun i hi => (hy i (by omega)).2.2.1, fun i hi => (hy i (by omega)).2.2.2.1, fun i hi => (hy i (by omega)).2.2.2.2⟩⟩
end
end Go.Proofs.Ytbfmhafmncnhfaa
