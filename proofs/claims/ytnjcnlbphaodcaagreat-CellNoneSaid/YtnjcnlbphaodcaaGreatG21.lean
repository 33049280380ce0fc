/- The document's Same of two rows of pairs. -/
import Derived.Test.YtnjcnlbphaodcaaGreatG20
import Derived.Laws.StructEq
namespace Go.Proofs.YtnjcnlbphaodcaaGreat
open Go.RowKit Go.Maps Go.Sort

/-- a row of pairs at A -/
def Pr (w : World) (A : Option Addr) (l : SL) : Prop := 0 < l.length → ∃ g, A = some ⟨g, 0, none⟩ ∧ g < w.heap.size ∧ ∀ j (h : j < l.length), w.cell? ⟨g, j * 2, none⟩ = some (.string l[j].1) ∧ w.cell? ⟨g, j * 2 + 1, none⟩ = some (.string l[j].2)
theorem Pr.below {w w' : World} {A : Option Addr} {l : SL} (h : Pr w A l) (hb : Below w.heap.size w w') : Pr w' A l := fun hp => by
  obtain ⟨g, e, hg, hc⟩ := h hp
  exact ⟨g, e, Nat.lt_of_lt_of_le hg hb.size, fun j hj => ⟨(hb.cell (p := ⟨g, j * 2, none⟩) hg).trans (hc j hj).1, (hb.cell (p := ⟨g, j * 2 + 1, none⟩) hg).trans (hc j hj).2⟩⟩
theorem Pr.of {w : World} {B : Nat} {v : Value} {l : SL} (h : w.ownsRow B 125 2 v l.length (pcs l)) : ∃ A C, v = .slice A l.length C ∧ Pr w A l := by
  obtain ⟨A, C, e, h⟩ := row_pairs h
  exact ⟨A, C, e, fun hp => by obtain ⟨g, h1, _, h2, h3⟩ := h hp; exact ⟨g, h1, h2, h3⟩⟩
theorem str_ne2 {a b : ByteArray} (h : a ≠ b) : (a.toList == b.toList) = false := by
  rw [beq_eq_false_iff_ne, Lib.toList_data, Lib.toList_data]
  exact fun e => h (lit_inj (congrArg Lit.string e))
theorem pair_und : Tryz.prog.underlying 125 = some (.struct (Tryz.prog.fieldsOf 125)) := by kernel_rfl
theorem pair_held : Tryz.prog.stoodInHeld 125 = false := by kernel_rfl
theorem pair_guard : Tryz.prog.eqGuardType Tryz.prog.depth 125 = false := by kernel_rfl
set_option maxRecDepth 100000 in
theorem pair_ne (k v k' v' : ByteArray) (w : World) : (binOp .neq 125 (.agg #[.string k, .string v]) (.agg #[.string k', .string v'])).run Tryz.prog w = .ok (.bool (!((k.toList == k'.toList) && (v.toList == v'.toList)))) w := by
  have hm : (Tryz.prog.fieldsOf 125).toList.map (fun f => (f.name, f.offset, f.type)) = [("Key", 0, 9), ("Value", 1, 9)] := by kernel_rfl
  obtain ⟨fs, hf⟩ : ∃ y, y = (Tryz.prog.fieldsOf 125).toList := ⟨_, rfl⟩
  rw [← hf] at hm
  match fs, hm with
  | [f0, f1], hm =>
  simp only [List.map_cons, List.map_nil, List.cons.injEq, Prod.mk.injEq, and_true] at hm
  obtain ⟨⟨n0, o0, t0⟩, n1, o1, t1⟩ := hm
  rw [run_neq_struct, run_equalIn_agg _ _ _ _ _ pair_und pair_held, ← hf]
  cases h1 : (k.toList == k'.toList) <;> cases h2 : (v.toList == v'.toList) <;> simp [Op.eqFields, n0, o0, t0, n1, o1, t1, go_sem, h1, h2]
end Go.Proofs.YtnjcnlbphaodcaaGreat

namespace Go.Proofs.YtnjcnlbphaodcaaGreat
open Go.RowKit Go.Maps Go.Sort

set_option maxRecDepth 100000 in
set_option maxHeartbeats 4000000 in
theorem cmove_less {w W : World} {b : Nat} {F : List Nat} {L : SL} {q : Nat} {qs : List Value} (h : SNew w W b F L q qs) (k1 k2 : ByteArray) (x a : Nat) (hk1 : k1.size ≤ maxLen) (he1 : amtAt L k1 x) (hx : x < 2 ^ 256) (ha : a < 2 ^ 256) (hlt : x < a) :
    Calls Tryz.prog 23 #[.pointer (some ⟨b, 0, none⟩), .string k1, .string k2, U a] W fun e W' => e = .returned (.int .i64 13) ∧ Below W.heap.size W W' := by
  have hb0 := (Below.refl W.heap.size W).alloc (Nat.le_refl _) (.cells #[.int .u64 (limb a 0 : Nat), .int .u64 (limb a 1 : Nat), .int .u64 (limb a 2 : Nat), .int .u64 (limb a 3 : Nat)] 24)
  have r0 := heap_alloc_new W (.cells #[.int .u64 (limb a 0 : Nat), .int .u64 (limb a 1 : Nat), .int .u64 (limb a 2 : Nat), .int .u64 (limb a 3 : Nat)] 24)
  have hL := fun W1 => less_walk a W1
  have hA := fun (W1 : World) (hb : Below W.heap.size W W1) => camount_at (h.below hb) k1 x hk1 he1 hx
  have hT := fun (W1 : World) (g : Nat) (hg : W1.heap[g]? = some (.cells #[.int .u64 (limb a 0 : Nat), .int .u64 (limb a 1 : Nat), .int .u64 (limb a 2 : Nat), .int .u64 (limb a 3 : Nat)] 24 (0, 0))) => lessc_no x a g hx ha hlt W1 hg
  rw [U_zero] at hT
  unfold U at hL hA hT
  have HL := Lib.hid hL
  have HA := Lib.hid hA
  have HT := Lib.hid hT
  have H0 := Lib.hid (And.intro hb0 r0)
  clear h hk1 he1 hx ha hlt hb0 r0 hL hA hT
  unfold U
  go_enter Tryz.func23, Tryz.ntmps23
  go_wp2_with (first
    | (go_at_call 54; refine (HT.out _ _ H2.out.2).mono ?_; rintro e w3 ⟨rfl, hb3⟩; have H3 := Lib.hid (And.intro (H2.out.1.trans (hb3.mono H2.out.1.size)) ((hb3.block _ (hp_lt H2.out.2)).trans H2.out.2)); clear hb3)
    | (go_at_call 9; refine (HA.out _ H1.out.1).mono ?_; rintro e w2 ⟨rfl, hb2⟩; have H2 := Lib.hid (And.intro (H1.out.1.trans (hb2.mono H1.out.1.size)) ((hb2.block _ (hp_lt H1.out.2)).trans H1.out.2)); clear hb2)
    | (go_at_call 34; refine (HL.out _).mono ?_; rintro e w1 ⟨rfl, hg1, hb1⟩; rw [World.size_alloc] at hg1; have H1 := Lib.hid (And.intro (H0.out.1.trans (hb1.mono H0.out.1.size)) hg1); clear hg1 hb1))
  go_ret
  exact ⟨rfl, H3.out.1.alloc H3.out.1.size _⟩
set_option maxRecDepth 100000 in
set_option maxHeartbeats 4000000 in
theorem cmove_same {w W : World} {b : Nat} {F : List Nat} {L : SL} {q : Nat} {qs : List Value} (h : SNew w W b F L q qs) (k1 k2 : ByteArray) (x a : Nat) (hk1 : k1.size ≤ maxLen) (he1 : amtAt L k1 x) (hx : x < 2 ^ 256) (ha : a < 2 ^ 256) (hle : a ≤ x) (hs : k1 = k2) :
    Calls Tryz.prog 23 #[.pointer (some ⟨b, 0, none⟩), .string k1, .string k2, U a] W fun e W' => e = .returned (.int .i64 0) ∧ Below W.heap.size W W' := by
  have hb0 := (Below.refl W.heap.size W).alloc (Nat.le_refl _) (.cells #[.int .u64 (limb a 0 : Nat), .int .u64 (limb a 1 : Nat), .int .u64 (limb a 2 : Nat), .int .u64 (limb a 3 : Nat)] 24)
  have r0 := heap_alloc_new W (.cells #[.int .u64 (limb a 0 : Nat), .int .u64 (limb a 1 : Nat), .int .u64 (limb a 2 : Nat), .int .u64 (limb a 3 : Nat)] 24)
  have hL := fun W1 => less_walk a W1
  have hA := fun (W1 : World) (hb : Below W.heap.size W W1) => camount_at (h.below hb) k1 x hk1 he1 hx
  have hT := fun (W1 : World) (g : Nat) (hg : W1.heap[g]? = some (.cells #[.int .u64 (limb a 0 : Nat), .int .u64 (limb a 1 : Nat), .int .u64 (limb a 2 : Nat), .int .u64 (limb a 3 : Nat)] 24 (0, 0))) => lessc_ok x a (x - a) g hx ha hle rfl W1 hg
  have q1 : (k1.toList == k2.toList) = true := by rw [hs]; exact beq_self_eq_true _
  unfold U at hL hA hT
  have HL := Lib.hid hL
  have HA := Lib.hid hA
  have HT := Lib.hid hT
  have H0 := Lib.hid (And.intro hb0 r0)
  clear h hk1 he1 hx ha hle hs hb0 r0 hL hA hT
  unfold U
  go_enter Tryz.func23, Tryz.ntmps23
  go_wp2_with (first
    | (go_at_call 54; refine (HT.out _ _ H2.out.2).mono ?_; rintro e w3 ⟨rfl, hb3⟩; have H3 := Lib.hid (And.intro (H2.out.1.trans (hb3.mono H2.out.1.size)) ((hb3.block _ (hp_lt H2.out.2)).trans H2.out.2)); clear hb3)
    | (go_at_call 9; refine (HA.out _ H1.out.1).mono ?_; rintro e w2 ⟨rfl, hb2⟩; have H2 := Lib.hid (And.intro (H1.out.1.trans (hb2.mono H1.out.1.size)) ((hb2.block _ (hp_lt H1.out.2)).trans H1.out.2)); clear hb2)
    | (go_at_call 34; refine (HL.out _).mono ?_; rintro e w1 ⟨rfl, hg1, hb1⟩; rw [World.size_alloc] at hg1; have H1 := Lib.hid (And.intro (H0.out.1.trans (hb1.mono H0.out.1.size)) hg1); clear hg1 hb1))
  go_ret
  exact ⟨rfl, H3.out.1.alloc H3.out.1.size _⟩
set_option maxRecDepth 100000 in
set_option maxHeartbeats 4000000 in
theorem cmove_over {w W : World} {b : Nat} {F : List Nat} {L : SL} {q : Nat} {qs : List Value} (h : SNew w W b F L q qs) (k1 k2 : ByteArray) (x a : Nat) (hk1 : k1.size ≤ maxLen) (he1 : amtAt L k1 x) (hx : x < 2 ^ 256) (ha : a < 2 ^ 256) (y : Nat) (hk2 : k2.size ≤ maxLen) (hne : k1 ≠ k2) (he2 : amtAt L k2 y) (hy : y < 2 ^ 256) (hle : a ≤ x) (hov : MOST < y + a) :
    Calls Tryz.prog 23 #[.pointer (some ⟨b, 0, none⟩), .string k1, .string k2, U a] W fun e W' => e = .returned (.int .i64 6) ∧ Below W.heap.size W W' := by
  have hb0 := (Below.refl W.heap.size W).alloc (Nat.le_refl _) (.cells #[.int .u64 (limb a 0 : Nat), .int .u64 (limb a 1 : Nat), .int .u64 (limb a 2 : Nat), .int .u64 (limb a 3 : Nat)] 24)
  have r0 := heap_alloc_new W (.cells #[.int .u64 (limb a 0 : Nat), .int .u64 (limb a 1 : Nat), .int .u64 (limb a 2 : Nat), .int .u64 (limb a 3 : Nat)] 24)
  have hL := fun W1 => less_walk a W1
  have hA := fun (W1 : World) (hb : Below W.heap.size W W1) => camount_at (h.below hb) k1 x hk1 he1 hx
  have hT := fun (W1 : World) (g : Nat) (hg : W1.heap[g]? = some (.cells #[.int .u64 (limb a 0 : Nat), .int .u64 (limb a 1 : Nat), .int .u64 (limb a 2 : Nat), .int .u64 (limb a 3 : Nat)] 24 (0, 0))) => lessc_ok x a (x - a) g hx ha hle rfl W1 hg
  have hAd := fun (W1 : World) (hb : Below W.heap.size W W1) => cadd_no (some ⟨b, 0, none⟩) k2 y a hy ha hov W1 (fun W2 hb2 => camount_at ((h.below hb).below hb2) k2 y hk2 he2 hy)
  have q1 := str_ne2 hne
  unfold U at hL hA hT hAd
  have HL := Lib.hid hL
  have HA := Lib.hid hA
  have HT := Lib.hid hT
  have H0 := Lib.hid (And.intro hb0 r0)
  have HAd := Lib.hid hAd
  clear h hk1 he1 hx ha hle hov hy he2 hne hk2 hAd hb0 r0 hL hA hT
  unfold U
  go_enter Tryz.func23, Tryz.ntmps23
  go_upto_region 2 with (first
    | (go_at_call 54; refine (HT.out _ _ H2.out.2).mono ?_; rintro e w3 ⟨rfl, hb3⟩; have H3 := Lib.hid (H2.out.1.trans (hb3.mono H2.out.1.size)); have B3 := Lib.hid (B2.out.trans (hb3.mono B2.out.size)); have HX := Lib.hid (fun (W4 : World) (hW4 : W4 = w3.alloc (.cells #[.int .u64 (limb (x - a) 0 : Nat), .int .u64 (limb (x - a) 1 : Nat), .int .u64 (limb (x - a) 2 : Nat), .int .u64 (limb (x - a) 3 : Nat)] 24)) => show Below (W.alloc (.cells #[.int .u64 (limb a 0 : Nat), .int .u64 (limb a 1 : Nat), .int .u64 (limb a 2 : Nat), .int .u64 (limb a 3 : Nat)] 24)).heap.size (W.alloc (.cells #[.int .u64 (limb a 0 : Nat), .int .u64 (limb a 1 : Nat), .int .u64 (limb a 2 : Nat), .int .u64 (limb a 3 : Nat)] 24)) W4 from by rw [hW4]; exact B3.out.alloc B3.out.size _); clear hb3)
    | (go_at_call 9; refine (HA.out _ H1.out.1).mono ?_; rintro e w2 ⟨rfl, hb2⟩; have H2 := Lib.hid (And.intro (H1.out.1.trans (hb2.mono H1.out.1.size)) ((hb2.block _ (hp_lt H1.out.2)).trans H1.out.2)); have B2 := Lib.hid (B1.out.trans (hb2.mono B1.out.size)); clear hb2)
    | (go_at_call 34; refine (HL.out _).mono ?_; rintro e w1 ⟨rfl, hg1, hb1⟩; rw [World.size_alloc] at hg1; have H1 := Lib.hid (And.intro (H0.out.1.trans (hb1.mono H0.out.1.size)) hg1); have B1 := Lib.hid hb1; clear hg1 hb1))
  have hbx := H3.out.alloc H3.out.size (.cells #[.int .u64 (limb (x - a) 0 : Nat), .int .u64 (limb (x - a) 1 : Nat), .int .u64 (limb (x - a) 2 : Nat), .int .u64 (limb (x - a) 3 : Nat)] 24)
  obtain ⟨W4, hW4⟩ : ∃ W4, W4 = w3.alloc (.cells #[.int .u64 (limb (x - a) 0 : Nat), .int .u64 (limb (x - a) 1 : Nat), .int .u64 (limb (x - a) 2 : Nat), .int .u64 (limb (x - a) 3 : Nat)] 24) := ⟨_, rfl⟩
  rw [← hW4] at hbx ⊢
  have r4 : W4.heap[W.heap.size]? = some (.cells #[.int .u64 (limb a 0 : Nat), .int .u64 (limb a 1 : Nat), .int .u64 (limb a 2 : Nat), .int .u64 (limb a 3 : Nat)] 24 (0, 0)) := by
    have h03 : Below (W.alloc (.cells #[.int .u64 (limb a 0 : Nat), .int .u64 (limb a 1 : Nat), .int .u64 (limb a 2 : Nat), .int .u64 (limb a 3 : Nat)] 24)).heap.size (W.alloc (.cells #[.int .u64 (limb a 0 : Nat), .int .u64 (limb a 1 : Nat), .int .u64 (limb a 2 : Nat), .int .u64 (limb a 3 : Nat)] 24)) W4 := HX.out W4 hW4
    exact (h03.block _ (hp_lt H0.out.2)).trans H0.out.2
  have H4 := Lib.hid (And.intro hbx r4)
  clear hbx hW4
  have c0 := (hp_cell (i := 0) r4).trans rfl
  have c1 := (hp_cell (i := 1) r4).trans rfl
  have c2 := (hp_cell (i := 2) r4).trans rfl
  have c3 := (hp_cell (i := 3) r4).trans rfl
  clear r4
  go_wp2_with (go_at_call 14; refine (HAd.out _ H4.out.1).mono ?_; rintro e w5 ⟨rfl, hb5⟩; have H5 := Lib.hid (H4.out.1.trans (hb5.mono H4.out.1.size)); clear hb5)
  go_ret
  exact ⟨rfl, H5.out⟩
end Go.Proofs.YtnjcnlbphaodcaaGreat

namespace Go.Proofs.YtnjcnlbphaodcaaGreat
open Go.RowKit Go.Maps Go.Sort

theorem first_negN (f : Nat → Int) : ∀ m, (∃ p, p < m ∧ f p < 0) → ∃ p, p < m ∧ f p < 0 ∧ ∀ t, t < p → 0 ≤ f t
  | 0, ⟨p, h, _⟩ => absurd h (Nat.not_lt_zero _)
  | m + 1, ⟨p, h1, h2⟩ => by
    by_cases h : ∃ p, p < m ∧ f p < 0
    · obtain ⟨p, a1, a2, a3⟩ := first_negN f m h
      exact ⟨p, by omega, a2, a3⟩
    · have hpm : p = m := by
        refine Classical.byContradiction fun hne => h ⟨p, by omega, h2⟩
      subst hpm
      refine ⟨p, h1, h2, fun t ht => Classical.byContradiction fun h3 => h ⟨t, ht, by omega⟩⟩
set_option maxRecDepth 100000 in
set_option maxHeartbeats 2000000 in
theorem csetInt_dead (P : Option Addr) (k : ByteArray) (n : Int) (w : World) (h : SDead w (.pointer P)) (hn : n < 2 ^ 63) : Calls Tryz.prog 16 #[.pointer P, .string k, .int .i64 n] w fun e w' => e = .returned (.tuple #[]) ∧ Below w.heap.size w w' := by
  by_cases h1 : n < 1
  · have HS := Lib.hid (cput_dead (.pointer P) k ⟨#[]⟩ w h)
    clear h hn
    go_enter Tryz.func16, Tryz.ntmps16
    go_wp2_with (go_at_call 36; refine HS.out.mono ?_; rintro e w2 ⟨rfl, rfl⟩)
    refine bodyPost_ret (v := .tuple #[]) (by simp [results, Tryz.results16, go_sem]) rfl ⟨rfl, Below.refl _ _⟩
  · have HN := Lib.hid (knum_walk n w hn)
    have HS := Lib.hid (fun (W1 : World) (hb : Below w.heap.size w W1) => (cput_dead (.pointer P) k (numStr n) W1 (h.below hb)).mono fun e W' hp => (⟨hp.1, by rw [← hp.2]; exact hb⟩ : e = .returned (.tuple #[]) ∧ Below w.heap.size w W'))
    clear h hn
    go_enter Tryz.func16, Tryz.ntmps16
    go_wp2_with (first
      | (go_at_call 36; refine (HS.out w1 HB1.out).mono ?_; rintro e w2 ⟨rfl, h1⟩; have H1 := Lib.hid h1; clear h1)
      | (go_at_call 37; refine HN.out.mono ?_; rintro e w1 ⟨rfl, hb1⟩; have HB1 := Lib.hid hb1; clear hb1))
    go_end0
    exact ⟨rfl, H1.out⟩
set_option maxRecDepth 100000 in
set_option maxHeartbeats 2000000 in
theorem cnext_dead (P : Option Addr) (k : ByteArray) (w : World) (h : SDead w (.pointer P)) : Calls Tryz.prog 27 #[.pointer P, .string k] w fun e w' => e = .returned (.int .i64 0) ∧ w = w' := by
  have HM := Lib.hid (made_dead (.pointer P) w h)
  clear h
  go_enter Tryz.func27, Tryz.ntmps27
  go_wp2_with (go_at_call 15; refine HM.out.mono ?_; rintro e w1 ⟨rfl, rfl⟩)
  go_ret
  exact ⟨rfl, rfl⟩
set_option maxRecDepth 100000 in
set_option maxHeartbeats 2000000 in
theorem csetRow_deadA {W : World} (P : Option Addr) (h : SDead W (.pointer P)) (k : ByteArray) (A : Option Addr) (n c : Nat) (f : Nat → Int) (hl : Il W A n f) (hn : n ≤ 100) (hf : ∀ i, i < n → 0 ≤ f i) :
    Calls Tryz.prog 25 #[.pointer P, .string k, .slice A n c] W fun e W' => e = .returned (.tuple #[]) ∧ Below W.heap.size W W' := by
  have hnI : (n : Int) ≤ 100 := by omega
  have hb1 := (Below.refl W.heap.size W).alloc (Nat.le_refl _) (.cells #[.pointer none, .slice none 0 0] 84)
  have hB1 : Bld W.heap.size W.heap.size [] (W.alloc (.cells #[.pointer none, .slice none 0 0] 84)) := .inl ⟨Nat.le_refl _, .slice none 0 0, heap_alloc_new _ _, ⟨rfl, .inl ⟨rfl, rfl⟩⟩, by simp [Value.ownBlock]⟩
  have HB1 := Lib.hid hb1
  have HBl := Lib.hid hB1
  have HF := Lib.hid hf
  have HS := Lib.hid (fun (W1 : World) (hb : Below W.heap.size W W1) => (cput_dead (.pointer P) k (rowV f n) W1 (h.below hb)).mono fun e W' hp => (⟨hp.1, by rw [← hp.2]; exact hb⟩ : e = .returned (.tuple #[]) ∧ Below W.heap.size W W'))
  obtain ⟨rv, hrv⟩ : ∃ x, x = rowV f n := ⟨_, rfl⟩
  rw [← hrv] at HS
  have HRV := Lib.hid hrv
  clear hb1 hB1 hf h hrv
  go_enter Tryz.func25, Tryz.ntmps25
  go_wp2
  go_loopw [11] (fun i wr => ∃ j : Nat, j ≤ n ∧ i = .int .i64 (j : Nat) ∧ Bld W.heap.size W.heap.size (Lib.byteCells (u8l (tl f 0 j))) wr ∧ Below W.heap.size W wr) (fun i _ => n - (intOf i).toNat)
  case atStart => exact ⟨0, by omega, rfl, HBl.out, HB1.out⟩
  case round =>
    obtain ⟨j, hj, rfl, hbl, hbe⟩ := hrel
    have HBd := Lib.hid hbl
    have HBe := Lib.hid hbe
    clear hbl hbe
    have kI : (j : Int) ≤ n := by omega
    by_cases hlt : j < n
    · have p1 : (j : Int) < (n : Int) := by omega
      obtain ⟨g, o, rfl, hg, hc⟩ := hl.at_ (by omega)
      have hm := hl.most j
      have h0 := HF.out j hlt
      have hck : wr.cell? ⟨g, o + j, none⟩ = some (.int .i64 (f j)) := by rw [HBe.out.cell (p := ⟨g, o + j, none⟩) hg]; exact hc j hlt
      have hnc := numStr_cells h0
      obtain ⟨x, hx⟩ : ∃ x, x = f j := ⟨_, rfl⟩
      rw [← hx] at hm h0 hck hnc
      have HX := Lib.hid hx
      have HNum := Lib.hid (fun w => knum_walk x w hm)
      have n1 : ¬ x < 0 := by omega
      have HM := Lib.hid hm
      have HNC := Lib.hid hnc
      clear hc hl hx hm hnc
      go_wp2_with (first
        | (go_at_call 48; refine (bld_write W.heap.size W.heap.size _ (numStr x) w2 (HB2b.out) (by rw [Lib.byteCells_length, u8l_len, tl_len, numStr_sizeA]; omega) HB2.out.size).mono ?_; rintro e w3 ⟨rfl, hb3, hbe3⟩; have HB3b := Lib.hid hb3; have HB3 := Lib.hid (HB2.out.trans hbe3); clear hb3 hbe3)
        | (go_at_call 37; refine (HNum.out _).mono ?_; rintro e w2 ⟨rfl, hb2⟩; have HB2 := Lib.hid (HBe.out.trans (hb2.mono HBe.out.size)); have HB2b := Lib.hid (bld_below HBd.out hb2); clear hb2))
      refine ⟨⟨j + 1, by omega, by simp, ?_, HB3.out⟩, by simp [intOf]; omega⟩
      have := HB3b.out
      rw [HNC.out, byteCells_app, ← u8l_append, HX.out] at this
      rw [tl_snoc, Nat.zero_add]
      exact this
    · obtain rfl : j = n := by omega
      have p1 : ¬ (j : Int) < (j : Int) := by omega
      have HStr := Lib.hid (Tryz.Builder_String_any W.heap.size W.heap.size (u8l (tl f 0 j)) wr HBd.out HBe.out.size)
      have HRV2 := HRV.out
      unfold rowV at HRV2
      rw [← HRV2] at HStr
      clear HRV2
      go_wp2_with (first
        | (go_at_call 36; refine (HS.out w5 HB5.out).mono ?_; rintro e w6 ⟨rfl, h6⟩; have H6 := Lib.hid h6; clear h6)
        | (go_at_call 49; refine HStr.out.mono ?_; rintro e w5 ⟨rfl, hb5⟩; have HB5 := Lib.hid (HBe.out.trans hb5); clear hb5))
      go_end0
      exact ⟨rfl, H6.out⟩
set_option maxRecDepth 100000 in
set_option maxHeartbeats 2000000 in
theorem csetRow_deadB {W : World} (P : Option Addr) (k : ByteArray) (A : Option Addr) (n c : Nat) (f : Nat → Int) (hl : Il W A n f) (hn : n ≤ 100) (p : Nat) (hpn : p < n) (hf : ∀ i, i < p → 0 ≤ f i) (hfp : f p < 0) :
    Calls Tryz.prog 25 #[.pointer P, .string k, .slice A n c] W fun e W' => e = .returned (.tuple #[]) ∧ Below W.heap.size W W' := by
  have hnI : (n : Int) ≤ 100 := by omega
  have hb1 := (Below.refl W.heap.size W).alloc (Nat.le_refl _) (.cells #[.pointer none, .slice none 0 0] 84)
  have hB1 : Bld W.heap.size W.heap.size [] (W.alloc (.cells #[.pointer none, .slice none 0 0] 84)) := .inl ⟨Nat.le_refl _, .slice none 0 0, heap_alloc_new _ _, ⟨rfl, .inl ⟨rfl, rfl⟩⟩, by simp [Value.ownBlock]⟩
  have HB1 := Lib.hid hb1
  have HBl := Lib.hid hB1
  have HF := Lib.hid hf
  have HFp := Lib.hid hfp
  clear hb1 hB1 hf hfp
  go_enter Tryz.func25, Tryz.ntmps25
  go_wp2
  go_loopw [11] (fun i wr => ∃ j : Nat, j ≤ p ∧ i = .int .i64 (j : Nat) ∧ Bld W.heap.size W.heap.size (Lib.byteCells (u8l (tl f 0 j))) wr ∧ Below W.heap.size W wr) (fun i _ => n - (intOf i).toNat)
  case atStart => exact ⟨0, by omega, rfl, HBl.out, HB1.out⟩
  case round =>
    obtain ⟨j, hj, rfl, hbl, hbe⟩ := hrel
    have HBd := Lib.hid hbl
    have HBe := Lib.hid hbe
    clear hbl hbe
    have kI : (j : Int) ≤ n := by omega
    by_cases hlt : j < p
    · have p1 : (j : Int) < (n : Int) := by omega
      obtain ⟨g, o, rfl, hg, hc⟩ := hl.at_ (by omega)
      have hm := hl.most j
      have h0 := HF.out j hlt
      have hck : wr.cell? ⟨g, o + j, none⟩ = some (.int .i64 (f j)) := by rw [HBe.out.cell (p := ⟨g, o + j, none⟩) hg]; exact hc j (by omega)
      have hnc := numStr_cells h0
      obtain ⟨x, hx⟩ : ∃ x, x = f j := ⟨_, rfl⟩
      rw [← hx] at hm h0 hck hnc
      have HX := Lib.hid hx
      have HNum := Lib.hid (fun w => knum_walk x w hm)
      have n1 : ¬ x < 0 := by omega
      have HM := Lib.hid hm
      have HNC := Lib.hid hnc
      clear hc hl hx hm hnc
      go_wp2_with (first
        | (go_at_call 48; refine (bld_write W.heap.size W.heap.size _ (numStr x) w2 (HB2b.out) (by rw [Lib.byteCells_length, u8l_len, tl_len, numStr_sizeA]; omega) HB2.out.size).mono ?_; rintro e w3 ⟨rfl, hb3, hbe3⟩; have HB3b := Lib.hid hb3; have HB3 := Lib.hid (HB2.out.trans hbe3); clear hb3 hbe3)
        | (go_at_call 37; refine (HNum.out _).mono ?_; rintro e w2 ⟨rfl, hb2⟩; have HB2 := Lib.hid (HBe.out.trans (hb2.mono HBe.out.size)); have HB2b := Lib.hid (bld_below HBd.out hb2); clear hb2))
      refine ⟨⟨j + 1, by omega, by simp, ?_, HB3.out⟩, by simp [intOf]; omega⟩
      have := HB3b.out
      rw [HNC.out, byteCells_app, ← u8l_append, HX.out] at this
      rw [tl_snoc, Nat.zero_add]
      exact this
    · obtain rfl : j = p := by omega
      have p1 : (j : Int) < (n : Int) := by omega
      obtain ⟨g, o, rfl, hg, hc⟩ := hl.at_ (by omega)
      have hck : wr.cell? ⟨g, o + j, none⟩ = some (.int .i64 (f j)) := by rw [HBe.out.cell (p := ⟨g, o + j, none⟩) hg]; exact hc j (by omega)
      have hx := HFp.out
      obtain ⟨x, ex⟩ : ∃ x, x = f j := ⟨_, rfl⟩
      rw [← ex] at hck hx
      clear hc hl ex
      go_wp2
      refine bodyPost_ret (v := .tuple #[]) (by simp [results, Tryz.results25, go_sem]) rfl ⟨rfl, HBe.out⟩
theorem csetRow_dead {W : World} (P : Option Addr) (h : SDead W (.pointer P)) (k : ByteArray) (A : Option Addr) (n c : Nat) (f : Nat → Int) (hl : Il W A n f) (hn : n ≤ 100) :
    Calls Tryz.prog 25 #[.pointer P, .string k, .slice A n c] W fun e W' => e = .returned (.tuple #[]) ∧ Below W.heap.size W W' := by
  by_cases hx : ∃ p, p < n ∧ f p < 0
  · obtain ⟨p, h1, h2, h3⟩ := first_negN f n hx
    exact csetRow_deadB P k A n c f hl hn p h1 h3 h2
  · exact csetRow_deadA P h k A n c f hl hn (fun i hi => Classical.byContradiction fun h0 => hx ⟨i, hi, by omega⟩)
set_option maxRecDepth 100000 in
set_option maxHeartbeats 2000000 in
theorem csub_dead0 (P : Option Addr) (k : ByteArray) (a : Nat) (ha : a = 0) (w : World) (h : SDead w (.pointer P)) :
    Calls Tryz.prog 11 #[.pointer P, .string k, U a] w fun e w' => e = .returned (.int .i64 0) ∧ Below w.heap.size w w' := by
  have ha2 : a < 2 ^ 256 := by omega
  have hC : ∀ (W : World) (g : Nat), Below w.heap.size w W → W.heap[g]? = some (.cells #[.int .u64 (limb a 0 : Nat), .int .u64 (limb a 1 : Nat), .int .u64 (limb a 2 : Nat), .int .u64 (limb a 3 : Nat)] 24 (0, 0)) → Calls Tryz.prog 33 #[.pointer P, .string k, .func (.func 54) #[] #[.pointer (some ⟨g, 0, none⟩)]] W fun e w' => e = .returned (.int .i64 0) ∧ Below W.heap.size W w' := by
    intro W g hbW hg
    have hA := camount_dead P k W (h.below hbW)
    have hT := fun (W2 : World) (hb2 : Below W.heap.size W W2) => lessc_ok 0 a a g (by decide) ha2 (by omega) (by omega) W2 ((hb2.block g (hp_lt hg)).trans hg)
    have hS := fun (W1 : World) (hb : Below W.heap.size W W1) => csetAmount_dead (.pointer P) k a ha2 W1 ((h.below hbW).below hb)
    unfold U at hA hT hS
    have HA := Lib.hid hA
    have HTs := Lib.hid hT
    have HS := Lib.hid hS
    clear h hbW hg ha ha2 hA hT hS
    go_enter Tryz.func33, Tryz.ntmps33
    go_wp2_with (first
      | (go_at_call 19; refine (HS.out _ (H2.out.alloc H2.out.size (.cells #[.int .u64 (limb a 0 : Nat), .int .u64 (limb a 1 : Nat), .int .u64 (limb a 2 : Nat), .int .u64 (limb a 3 : Nat)] 24))).mono ?_; rintro e w3 ⟨rfl, hb3⟩; have hbx := H2.out.alloc H2.out.size (.cells #[.int .u64 (limb a 0 : Nat), .int .u64 (limb a 1 : Nat), .int .u64 (limb a 2 : Nat), .int .u64 (limb a 3 : Nat)] 24); have H3 := Lib.hid (hbx.trans (hb3.mono hbx.size)); clear hb3 hbx)
      | (go_at_call 54; refine (HTs.out _ H1.out).mono ?_; rintro e w2 ⟨rfl, hb2⟩; have H2 := Lib.hid (H1.out.trans (hb2.mono H1.out.size)); clear hb2)
      | (go_at_call 9; refine HA.out.mono ?_; rintro e w1 ⟨rfl, hb1⟩; have H1 := Lib.hid hb1; clear hb1))
    go_ret
    exact ⟨rfl, H3.out⟩
  have hb0 := (Below.refl w.heap.size w).alloc (Nat.le_refl _) (.cells #[.int .u64 (limb a 0 : Nat), .int .u64 (limb a 1 : Nat), .int .u64 (limb a 2 : Nat), .int .u64 (limb a 3 : Nat)] 24)
  have hM := fun W1 => less_walk a W1
  unfold U at hM
  have HM := Lib.hid hM
  have HC := Lib.hid hC
  have HB0 := Lib.hid hb0
  clear h ha ha2 hb0 hM hC
  unfold U
  go_enter Tryz.func11, Tryz.ntmps11
  go_wp2_with (first
    | (go_at_call 33; refine (HC.out _ _ H1.out.1 H1.out.2).mono ?_; rintro e w2 ⟨rfl, hb2⟩; have H2 := Lib.hid (H1.out.1.trans (hb2.mono H1.out.1.size)); clear hb2)
    | (go_at_call 34; refine (HM.out _).mono ?_; rintro e w1 ⟨rfl, hg1, hb1⟩; rw [World.size_alloc] at hg1; have H1 := Lib.hid (And.intro (HB0.out.trans (hb1.mono HB0.out.size)) hg1); clear hg1 hb1))
  go_ret
  exact ⟨rfl, H2.out⟩
set_option maxRecDepth 100000 in
set_option maxHeartbeats 4000000 in
theorem cmove_deadA {W : World} (P : Option Addr) (h : SDead W (.pointer P)) (k1 k2 : ByteArray) (x a : Nat) (hx0 : x = 0) (hx : x < 2 ^ 256) (ha : a < 2 ^ 256) (hlt : x < a) :
    Calls Tryz.prog 23 #[.pointer P, .string k1, .string k2, U a] W fun e W' => e = .returned (.int .i64 13) ∧ Below W.heap.size W W' := by
  have hb0 := (Below.refl W.heap.size W).alloc (Nat.le_refl _) (.cells #[.int .u64 (limb a 0 : Nat), .int .u64 (limb a 1 : Nat), .int .u64 (limb a 2 : Nat), .int .u64 (limb a 3 : Nat)] 24)
  have r0 := heap_alloc_new W (.cells #[.int .u64 (limb a 0 : Nat), .int .u64 (limb a 1 : Nat), .int .u64 (limb a 2 : Nat), .int .u64 (limb a 3 : Nat)] 24)
  have hL := fun W1 => less_walk a W1
  have hA := fun (W1 : World) (hb : Below W.heap.size W W1) => (show Calls Tryz.prog 9 #[.pointer P, .string k1] W1 fun e W' => e = .returned (U x) ∧ Below W1.heap.size W1 W' from by rw [hx0]; exact camount_dead P k1 W1 (h.below hb))
  have hT := fun (W1 : World) (g : Nat) (hg : W1.heap[g]? = some (.cells #[.int .u64 (limb a 0 : Nat), .int .u64 (limb a 1 : Nat), .int .u64 (limb a 2 : Nat), .int .u64 (limb a 3 : Nat)] 24 (0, 0))) => lessc_no x a g hx ha hlt W1 hg
  rw [U_zero] at hT
  unfold U at hL hA hT
  have HL := Lib.hid hL
  have HA := Lib.hid hA
  have HT := Lib.hid hT
  have H0 := Lib.hid (And.intro hb0 r0)
  clear h hx0 hx ha hlt hb0 r0 hL hA hT
  unfold U
  go_enter Tryz.func23, Tryz.ntmps23
  go_wp2_with (first
    | (go_at_call 54; refine (HT.out _ _ H2.out.2).mono ?_; rintro e w3 ⟨rfl, hb3⟩; have H3 := Lib.hid (And.intro (H2.out.1.trans (hb3.mono H2.out.1.size)) ((hb3.block _ (hp_lt H2.out.2)).trans H2.out.2)); clear hb3)
    | (go_at_call 9; refine (HA.out _ H1.out.1).mono ?_; rintro e w2 ⟨rfl, hb2⟩; have H2 := Lib.hid (And.intro (H1.out.1.trans (hb2.mono H1.out.1.size)) ((hb2.block _ (hp_lt H1.out.2)).trans H1.out.2)); clear hb2)
    | (go_at_call 34; refine (HL.out _).mono ?_; rintro e w1 ⟨rfl, hg1, hb1⟩; rw [World.size_alloc] at hg1; have H1 := Lib.hid (And.intro (H0.out.1.trans (hb1.mono H0.out.1.size)) hg1); clear hg1 hb1))
  go_ret
  exact ⟨rfl, H3.out.1.alloc H3.out.1.size _⟩
set_option maxRecDepth 100000 in
set_option maxHeartbeats 4000000 in
theorem cmove_deadB {W : World} (P : Option Addr) (h : SDead W (.pointer P)) (k1 k2 : ByteArray) (x a : Nat) (hx0 : x = 0) (hx : x < 2 ^ 256) (ha : a < 2 ^ 256) (hle : a ≤ x) (hs : k1 = k2) :
    Calls Tryz.prog 23 #[.pointer P, .string k1, .string k2, U a] W fun e W' => e = .returned (.int .i64 0) ∧ Below W.heap.size W W' := by
  have hb0 := (Below.refl W.heap.size W).alloc (Nat.le_refl _) (.cells #[.int .u64 (limb a 0 : Nat), .int .u64 (limb a 1 : Nat), .int .u64 (limb a 2 : Nat), .int .u64 (limb a 3 : Nat)] 24)
  have r0 := heap_alloc_new W (.cells #[.int .u64 (limb a 0 : Nat), .int .u64 (limb a 1 : Nat), .int .u64 (limb a 2 : Nat), .int .u64 (limb a 3 : Nat)] 24)
  have hL := fun W1 => less_walk a W1
  have hA := fun (W1 : World) (hb : Below W.heap.size W W1) => (show Calls Tryz.prog 9 #[.pointer P, .string k1] W1 fun e W' => e = .returned (U x) ∧ Below W1.heap.size W1 W' from by rw [hx0]; exact camount_dead P k1 W1 (h.below hb))
  have hT := fun (W1 : World) (g : Nat) (hg : W1.heap[g]? = some (.cells #[.int .u64 (limb a 0 : Nat), .int .u64 (limb a 1 : Nat), .int .u64 (limb a 2 : Nat), .int .u64 (limb a 3 : Nat)] 24 (0, 0))) => lessc_ok x a (x - a) g hx ha hle rfl W1 hg
  have q1 : (k1.toList == k2.toList) = true := by rw [hs]; exact beq_self_eq_true _
  unfold U at hL hA hT
  have HL := Lib.hid hL
  have HA := Lib.hid hA
  have HT := Lib.hid hT
  have H0 := Lib.hid (And.intro hb0 r0)
  clear h hx0 hx ha hle hs hb0 r0 hL hA hT
  unfold U
  go_enter Tryz.func23, Tryz.ntmps23
  go_wp2_with (first
    | (go_at_call 54; refine (HT.out _ _ H2.out.2).mono ?_; rintro e w3 ⟨rfl, hb3⟩; have H3 := Lib.hid (And.intro (H2.out.1.trans (hb3.mono H2.out.1.size)) ((hb3.block _ (hp_lt H2.out.2)).trans H2.out.2)); clear hb3)
    | (go_at_call 9; refine (HA.out _ H1.out.1).mono ?_; rintro e w2 ⟨rfl, hb2⟩; have H2 := Lib.hid (And.intro (H1.out.1.trans (hb2.mono H1.out.1.size)) ((hb2.block _ (hp_lt H1.out.2)).trans H1.out.2)); clear hb2)
    | (go_at_call 34; refine (HL.out _).mono ?_; rintro e w1 ⟨rfl, hg1, hb1⟩; rw [World.size_alloc] at hg1; have H1 := Lib.hid (And.intro (H0.out.1.trans (hb1.mono H0.out.1.size)) hg1); clear hg1 hb1))
  go_ret
  exact ⟨rfl, H3.out.1.alloc H3.out.1.size _⟩
set_option maxRecDepth 100000 in
set_option maxHeartbeats 4000000 in
theorem cmove_deadC {W : World} (P : Option Addr) (h : SDead W (.pointer P)) (k1 k2 : ByteArray) (x a : Nat) (hx0 : x = 0) (hx : x < 2 ^ 256) (ha : a < 2 ^ 256) (ha0 : a = 0) (hle : a ≤ x) (hne : k1 ≠ k2) :
    Calls Tryz.prog 23 #[.pointer P, .string k1, .string k2, U a] W fun e W' => e = .returned (.int .i64 0) ∧ Below W.heap.size W W' := by
  have hb0 := (Below.refl W.heap.size W).alloc (Nat.le_refl _) (.cells #[.int .u64 (limb a 0 : Nat), .int .u64 (limb a 1 : Nat), .int .u64 (limb a 2 : Nat), .int .u64 (limb a 3 : Nat)] 24)
  have r0 := heap_alloc_new W (.cells #[.int .u64 (limb a 0 : Nat), .int .u64 (limb a 1 : Nat), .int .u64 (limb a 2 : Nat), .int .u64 (limb a 3 : Nat)] 24)
  have hL := fun W1 => less_walk a W1
  have hA := fun (W1 : World) (hb : Below W.heap.size W W1) => (show Calls Tryz.prog 9 #[.pointer P, .string k1] W1 fun e W' => e = .returned (U x) ∧ Below W1.heap.size W1 W' from by rw [hx0]; exact camount_dead P k1 W1 (h.below hb))
  have hT := fun (W1 : World) (g : Nat) (hg : W1.heap[g]? = some (.cells #[.int .u64 (limb a 0 : Nat), .int .u64 (limb a 1 : Nat), .int .u64 (limb a 2 : Nat), .int .u64 (limb a 3 : Nat)] 24 (0, 0))) => lessc_ok x a (x - a) g hx ha hle rfl W1 hg
  have hAd := fun (W1 : World) (hb : Below W.heap.size W W1) => cadd_dead P k2 a (by rw [ha0]; exact Nat.zero_le _) W1 (h.below hb)
  have hSu := fun (W1 : World) (hb : Below W.heap.size W W1) => csub_dead0 P k1 a ha0 W1 (h.below hb)
  unfold U at hL hA hT hAd hSu
  have HL := Lib.hid hL
  have HA := Lib.hid hA
  have HT := Lib.hid hT
  have HAd := Lib.hid hAd
  have HSu := Lib.hid hSu
  have H0 := Lib.hid (And.intro hb0 r0)
  have hs12d : (k1.toList == k2.toList) = false := by
    rw [beq_eq_false_iff_ne]
    intro e
    rw [Lib.toList_data, Lib.toList_data] at e
    exact hne (keq_iff.1 (by unfold keq; exact decide_eq_true e))
  have hs12c : (k1.data.toList == k2.data.toList) = false := by
    rw [beq_eq_false_iff_ne]
    intro e
    exact hne (keq_iff.1 (by unfold keq; exact decide_eq_true e))
  clear h hx0 hne hx ha ha0 hle hb0 r0 hL hA hT hAd hSu
  unfold U
  go_enter Tryz.func23, Tryz.ntmps23
  go_upto_region 2 with (first
    | (go_at_call 54; refine (HT.out _ _ H2.out.2).mono ?_; rintro e w3 ⟨rfl, hb3⟩; have H3 := Lib.hid (H2.out.1.trans (hb3.mono H2.out.1.size)); have B3 := Lib.hid (B2.out.trans (hb3.mono B2.out.size)); have HX := Lib.hid (fun (W4 : World) (hW4 : W4 = w3.alloc (.cells #[.int .u64 (limb (x - a) 0 : Nat), .int .u64 (limb (x - a) 1 : Nat), .int .u64 (limb (x - a) 2 : Nat), .int .u64 (limb (x - a) 3 : Nat)] 24)) => show Below (W.alloc (.cells #[.int .u64 (limb a 0 : Nat), .int .u64 (limb a 1 : Nat), .int .u64 (limb a 2 : Nat), .int .u64 (limb a 3 : Nat)] 24)).heap.size (W.alloc (.cells #[.int .u64 (limb a 0 : Nat), .int .u64 (limb a 1 : Nat), .int .u64 (limb a 2 : Nat), .int .u64 (limb a 3 : Nat)] 24)) W4 from by rw [hW4]; exact B3.out.alloc B3.out.size _); clear hb3)
    | (go_at_call 9; refine (HA.out _ H1.out.1).mono ?_; rintro e w2 ⟨rfl, hb2⟩; have H2 := Lib.hid (And.intro (H1.out.1.trans (hb2.mono H1.out.1.size)) ((hb2.block _ (hp_lt H1.out.2)).trans H1.out.2)); have B2 := Lib.hid (B1.out.trans (hb2.mono B1.out.size)); clear hb2)
    | (go_at_call 34; refine (HL.out _).mono ?_; rintro e w1 ⟨rfl, hg1, hb1⟩; rw [World.size_alloc] at hg1; have H1 := Lib.hid (And.intro (H0.out.1.trans (hb1.mono H0.out.1.size)) hg1); have B1 := Lib.hid hb1; clear hg1 hb1))
  have hbx := H3.out.alloc H3.out.size (.cells #[.int .u64 (limb (x - a) 0 : Nat), .int .u64 (limb (x - a) 1 : Nat), .int .u64 (limb (x - a) 2 : Nat), .int .u64 (limb (x - a) 3 : Nat)] 24)
  obtain ⟨W4, hW4⟩ : ∃ W4, W4 = w3.alloc (.cells #[.int .u64 (limb (x - a) 0 : Nat), .int .u64 (limb (x - a) 1 : Nat), .int .u64 (limb (x - a) 2 : Nat), .int .u64 (limb (x - a) 3 : Nat)] 24) := ⟨_, rfl⟩
  rw [← hW4] at hbx ⊢
  have r4 : W4.heap[W.heap.size]? = some (.cells #[.int .u64 (limb a 0 : Nat), .int .u64 (limb a 1 : Nat), .int .u64 (limb a 2 : Nat), .int .u64 (limb a 3 : Nat)] 24 (0, 0)) := by
    have h03 : Below (W.alloc (.cells #[.int .u64 (limb a 0 : Nat), .int .u64 (limb a 1 : Nat), .int .u64 (limb a 2 : Nat), .int .u64 (limb a 3 : Nat)] 24)).heap.size (W.alloc (.cells #[.int .u64 (limb a 0 : Nat), .int .u64 (limb a 1 : Nat), .int .u64 (limb a 2 : Nat), .int .u64 (limb a 3 : Nat)] 24)) W4 := HX.out W4 hW4
    exact (h03.block _ (hp_lt H0.out.2)).trans H0.out.2
  have H4 := Lib.hid (And.intro hbx r4)
  clear hbx hW4
  have c0 := (hp_cell (i := 0) r4).trans rfl
  have c1 := (hp_cell (i := 1) r4).trans rfl
  have c2 := (hp_cell (i := 2) r4).trans rfl
  have c3 := (hp_cell (i := 3) r4).trans rfl
  clear r4
  go_wp2_with (first
    | (go_at_call 11; refine (HSu.out _ H5.out.1).mono ?_; rintro e w6 ⟨rfl, h6⟩; have H6 := Lib.hid (H5.out.1.trans (h6.mono H5.out.1.size)); clear h6)
    | (go_at_call 14; refine (HAd.out _ H4.out.1).mono ?_; rintro e w5 ⟨rfl, h5⟩; have r5 := (h5.block _ (hp_lt H4.out.2)).trans H4.out.2; have H5 := Lib.hid (And.intro (H4.out.1.trans (h5.mono H4.out.1.size)) r5); have c0 := (hp_cell (i := 0) r5).trans rfl; have c1 := (hp_cell (i := 1) r5).trans rfl; have c2 := (hp_cell (i := 2) r5).trans rfl; have c3 := (hp_cell (i := 3) r5).trans rfl; clear h5 r5))
  go_ret
  exact ⟨rfl, H6.out⟩
theorem cmove_dead {W : World} (P : Option Addr) (h : SDead W (.pointer P)) (k1 k2 : ByteArray) (a : Nat) (ha : a < 2 ^ 256) :
    Calls Tryz.prog 23 #[.pointer P, .string k1, .string k2, U a] W fun e W' => (∃ i, e = .returned (.int .i64 i)) ∧ Below W.heap.size W W' := by
  by_cases h0 : 0 < a
  · exact (cmove_deadA P h k1 k2 0 a rfl (by decide) ha h0).mono fun e W' hp => ⟨⟨_, hp.1⟩, hp.2⟩
  · by_cases hk : k1 = k2
    · exact (cmove_deadB P h k1 k2 0 a rfl (by decide) ha (by omega) hk).mono fun e W' hp => ⟨⟨_, hp.1⟩, hp.2⟩
    · exact (cmove_deadC P h k1 k2 0 a rfl (by decide) ha (by omega) (by omega) hk).mono fun e W' hp => ⟨⟨_, hp.1⟩, hp.2⟩
theorem cadd_deadW (P : Option Addr) (k : ByteArray) (a : Nat) (ha : a < 2 ^ 256) (w : World) (h : SDead w (.pointer P)) :
    Calls Tryz.prog 14 #[.pointer P, .string k, U a] w fun e w' => (∃ i, e = .returned (.int .i64 i)) ∧ Below w.heap.size w w' := by
  by_cases h0 : a ≤ MOST
  · exact (cadd_dead P k a h0 w h).mono fun e W' hp => ⟨⟨_, hp.1⟩, hp.2⟩
  · exact (cadd_no P k 0 a (by decide) ha (by omega) w (fun W hb => camount_dead P k W (h.below hb))).mono fun e W' hp => ⟨⟨_, hp.1⟩, hp.2⟩
theorem csub_deadW (P : Option Addr) (k : ByteArray) (a : Nat) (ha : a < 2 ^ 256) (w : World) (h : SDead w (.pointer P)) :
    Calls Tryz.prog 11 #[.pointer P, .string k, U a] w fun e w' => (∃ i, e = .returned (.int .i64 i)) ∧ Below w.heap.size w w' := by
  by_cases h0 : a = 0
  · exact (csub_dead0 P k a h0 w h).mono fun e W' hp => ⟨⟨_, hp.1⟩, hp.2⟩
  · exact (csub_no P k 0 a (by decide) ha (by omega) w (fun W hb => camount_dead P k W (h.below hb))).mono fun e W' hp => ⟨⟨_, hp.1⟩, hp.2⟩
end Go.Proofs.YtnjcnlbphaodcaaGreat
