/- The document's Same of two rows of pairs. -/
import Derived.Test.YtbfmhafmncnhfaaG20
import Derived.Test.YtbfmhafmncnhfaaG10
import Derived.Laws.StructEq
namespace Go.Proofs.Ytbfmhafmncnhfaa
open Go.RowKit Go.Maps Go.Sort

/-- a row of pairs at A -/
def Pr (w : World) (A : Option Addr) (l : SL) : Prop := 0 < l.length → ∃ g, A = some ⟨g, 0, none⟩ ∧ g < w.heap.size ∧ ∀ j (h : j < l.length), w.cell? ⟨g, j * 2, none⟩ = some (.string l[j].1) ∧ w.cell? ⟨g, j * 2 + 1, none⟩ = some (.string l[j].2)
theorem Pr.below {w w' : World} {A : Option Addr} {l : SL} (h : Pr w A l) (hb : Below w.heap.size w w') : Pr w' A l := fun hp => by
  obtain ⟨g, e, hg, hc⟩ := h hp
  exact ⟨g, e, Nat.lt_of_lt_of_le hg hb.size, fun j hj => ⟨(hb.cell (p := ⟨g, j * 2, none⟩) hg).trans (hc j hj).1, (hb.cell (p := ⟨g, j * 2 + 1, none⟩) hg).trans (hc j hj).2⟩⟩
theorem Pr.of {w : World} {B : Nat} {v : Value} {l : SL} (h : w.ownsRow B 43 2 v l.length (pcs l)) : ∃ A C, v = .slice A l.length C ∧ Pr w A l := by
  obtain ⟨A, C, e, h⟩ := row_pairs h
  exact ⟨A, C, e, fun hp => by obtain ⟨g, h1, _, h2, h3⟩ := h hp; exact ⟨g, h1, h2, h3⟩⟩
theorem str_ne2 {a b : ByteArray} (h : a ≠ b) : (a.toList == b.toList) = false := by
  rw [beq_eq_false_iff_ne, Lib.toList_data, Lib.toList_data]
  exact fun e => h (lit_inj (congrArg Lit.string e))
theorem pair_und : Try.prog.underlying 43 = some (.struct (Try.prog.fieldsOf 43)) := by kernel_rfl
theorem pair_held : Try.prog.stoodInHeld 43 = false := by kernel_rfl
theorem pair_guard : Try.prog.eqGuardType Try.prog.depth 43 = false := by kernel_rfl
set_option maxRecDepth 100000 in
theorem pair_ne (k v k' v' : ByteArray) (w : World) : (binOp .neq 43 (.agg #[.string k, .string v]) (.agg #[.string k', .string v'])).run Try.prog w = .ok (.bool (!((k.toList == k'.toList) && (v.toList == v'.toList)))) w := by
  have hm : (Try.prog.fieldsOf 43).toList.map (fun f => (f.name, f.offset, f.type)) = [("Key", 0, 9), ("Value", 1, 9)] := by kernel_rfl
  obtain ⟨fs, hf⟩ : ∃ y, y = (Try.prog.fieldsOf 43).toList := ⟨_, rfl⟩
  rw [← hf] at hm
  match fs, hm with
  | [f0, f1], hm =>
  simp only [List.map_cons, List.map_nil, List.cons.injEq, Prod.mk.injEq, and_true] at hm
  obtain ⟨⟨n0, o0, t0⟩, n1, o1, t1⟩ := hm
  rw [run_neq_struct, run_equalIn_agg _ _ _ _ _ pair_und pair_held, ← hf]
  cases h1 : (k.toList == k'.toList) <;> cases h2 : (v.toList == v'.toList) <;> simp [Op.eqFields, n0, o0, t0, n1, o1, t1, go_sem, h1, h2]
set_option maxRecDepth 100000 in
set_option maxHeartbeats 4000000 in
theorem same_walk (A B : Option Addr) (C D : Nat) (l m : SL) (w : World) (hl : Pr w A l) (hm : Pr w B m) (hN : l.length < 1000000) (T : Bool) (hT : T = true ↔ l = m) :
    Calls Try.prog 19 #[.slice A l.length C, .slice B m.length D] w fun e w' => e = .returned (.bool T) ∧ Below w.heap.size w w' := by
  by_cases hlen : l.length = m.length
  · have HT := Lib.hid hT
    have HL := Lib.hid (And.intro hl hm)
    have HLen := Lib.hid hlen
    obtain ⟨n, hn⟩ : ∃ n, n = l.length := ⟨_, rfl⟩
    rw [← hlen, ← hn]
    rw [← hn] at hN
    clear hT hl hm hlen
    have HN := Lib.hid hn
    clear hn
    go_enter Try.func19, Try.ntmps19
    go_wp2
    go_loopw [13] (fun i wr => ∃ j : Nat, j ≤ n ∧ i = .int .i64 (j : Nat) ∧ (∀ t (h1 : t < l.length) (h2 : t < m.length), t < j → l[t] = m[t]) ∧ Below w.heap.size w wr) (fun i _ => n - (intOf i).toNat)
    case atStart => exact ⟨0, Nat.zero_le _, rfl, fun t _ _ h => absurd h (Nat.not_lt_zero _), Below.refl _ _⟩
    case round =>
      obtain ⟨j, hj, rfl, hall, hbb⟩ := hrel
      have HB := Lib.hid hbb
      by_cases hlt : j < n
      · have p2 : (j : Int) < (n : Int) := by omega
        have h1 : j < l.length := by have := HN.out; omega
        have h2 : j < m.length := by have := HN.out; have := HLen.out; omega
        obtain ⟨g1, rfl, _, c1⟩ := (HL.out.1.below hbb) (by omega)
        obtain ⟨g2, rfl, _, c2⟩ := (HL.out.2.below hbb) (by omega)
        have a0 := (c1 j h1).1
        have a1 := (c1 j h1).2
        have b0 := (c2 j h2).1
        have b1 := (c2 j h2).2
        obtain ⟨p, ep⟩ : ∃ y, y = l[j] := ⟨_, rfl⟩
        obtain ⟨p', ep'⟩ : ∃ y, y = m[j] := ⟨_, rfl⟩
        rw [← ep] at a0 a1
        rw [← ep'] at b0 b1
        obtain ⟨k, v⟩ := p
        obtain ⟨k', v'⟩ := p'
        simp only at a0 a1 b0 b1
        have HE := Lib.hid (And.intro hall (And.intro ep ep'))
        clear hall c1 c2 ep ep' hbb
        have q9 := pair_ne k v k' v'
        have q8 := pair_guard
        go_upto_region 6 with fail
        have hne : ¬ ((k, v) = (k', v')) → T = false := fun hne => by
          cases hTv : T with
          | false => rfl
          | true =>
            have e := HT.out.1 hTv
            subst e
            exact absurd (HE.out.2.1.trans HE.out.2.2.symm) hne
        have HNE := Lib.hid hne
        clear hne
        by_cases hk : k = k'
        · have r1 : (k.toList == k'.toList) = true := by rw [hk]; exact beq_self_eq_true _
          have HK := Lib.hid hk
          clear hk
          by_cases hv : v = v'
          · have r2 : (v.toList == v'.toList) = true := by rw [hv]; exact beq_self_eq_true _
            have HV := Lib.hid hv
            clear hv
            go_quiet (fail)
            go_wp2
            refine ⟨⟨j + 1, by omega, by go_num, fun t t1 t2 ht => ?_, ?_⟩, by simp [intOf]; omega⟩
            · rcases (by omega : t < j ∨ t = j) with h | rfl
              · exact HE.out.1 t t1 t2 h
              · rw [← HE.out.2.1, ← HE.out.2.2, HK.out, HV.out]
            · exact below_drewN HB.out _
          · have r2 := str_ne2 hv
            obtain rfl : T = false := HNE.out fun e => hv (Prod.mk.inj e).2
            go_quiet (fail)
            go_wp2
            go_ret
            exact ⟨rfl, below_drewN HB.out _⟩
        · have r1 := str_ne2 hk
          obtain rfl : T = false := HNE.out fun e => hk (Prod.mk.inj e).1
          go_quiet (fail)
          go_wp2
          go_ret
          exact ⟨rfl, below_drewN HB.out _⟩
      · obtain rfl : j = n := by omega
        have p2 : ¬ (j : Int) < (j : Int) := by omega
        obtain rfl : T = true := HT.out.2 (List.ext_getElem HLen.out fun t t1 t2 => hall t t1 t2 (by have := HN.out; omega))
        clear hall hbb
        go_wp2
        go_ret
        exact ⟨rfl, HB.out⟩
  · obtain rfl : T = false := by
      cases hTv : T with
      | false => rfl
      | true => exact absurd (congrArg List.length (hT.1 hTv)) hlen
    obtain ⟨a, ha⟩ : ∃ a, a = l.length := ⟨_, rfl⟩
    obtain ⟨b, hb⟩ : ∃ b, b = m.length := ⟨_, rfl⟩
    rw [← ha, ← hb]
    have p1 : ((a : Int) == (b : Int)) = false := beq_eq_false_iff_ne.2 (by omega)
    have p2 : ¬ (a : Int) = (b : Int) := by omega
    have p3 : ¬ a = b := by omega
    clear hT hlen hl hm hN ha hb
    go_enter Try.func19, Try.ntmps19
    go_wp2
    go_ret
    exact ⟨rfl, Below.refl _ _⟩
end Go.Proofs.Ytbfmhafmncnhfaa

namespace Go.Proofs.Ytbfmhafmncnhfaa
open Go.RowKit Go.Maps Go.Sort

set_option maxRecDepth 100000 in
set_option maxHeartbeats 4000000 in
theorem cmove_less {w W : World} {b : Nat} {F : List Nat} {L : SL} {q : Nat} {qs : List Value} (h : SNew w W b F L q qs) (k1 k2 : ByteArray) (x a : Nat) (hk1 : k1.size ≤ maxLen) (he1 : amtAt L k1 x) (hx : x < 2 ^ 256) (ha : a < 2 ^ 256) (hlt : x < a) :
    Calls Try.prog 30 #[.pointer (some ⟨b, 0, none⟩), .string k1, .string k2, U a] W fun e W' => e = .returned (.int .i64 13) ∧ Below W.heap.size W W' := by
  have hb0 := (Below.refl W.heap.size W).alloc (Nat.le_refl _) (.cells #[.int .u64 (limb a 0 : Nat), .int .u64 (limb a 1 : Nat), .int .u64 (limb a 2 : Nat), .int .u64 (limb a 3 : Nat)] 55)
  have r0 := heap_alloc_new W (.cells #[.int .u64 (limb a 0 : Nat), .int .u64 (limb a 1 : Nat), .int .u64 (limb a 2 : Nat), .int .u64 (limb a 3 : Nat)] 55)
  have hL := fun W1 => less_walk a W1
  have hA := fun (W1 : World) (hb : Below W.heap.size W W1) => camount_at (h.below hb) k1 x hk1 he1 hx
  have hT := fun (W1 : World) (g : Nat) (hg : W1.heap[g]? = some (.cells #[.int .u64 (limb a 0 : Nat), .int .u64 (limb a 1 : Nat), .int .u64 (limb a 2 : Nat), .int .u64 (limb a 3 : Nat)] 55 (0, 0))) => lessc_no x a g hx ha hlt W1 hg
  rw [U_zero] at hT
  unfold U at hL hA hT
  have HL := Lib.hid hL
  have HA := Lib.hid hA
  have HT := Lib.hid hT
  have H0 := Lib.hid (And.intro hb0 r0)
  clear h hk1 he1 hx ha hlt hb0 r0 hL hA hT
  unfold U
  go_enter Try.func30, Try.ntmps30
  go_wp2_with (first
    | (go_at_call 77; refine (HT.out _ _ H2.out.2).mono ?_; rintro e w3 ⟨rfl, hb3⟩; have H3 := Lib.hid (And.intro (H2.out.1.trans (hb3.mono H2.out.1.size)) ((hb3.block _ (hp_lt H2.out.2)).trans H2.out.2)); clear hb3)
    | (go_at_call 31; refine (HA.out _ H1.out.1).mono ?_; rintro e w2 ⟨rfl, hb2⟩; have H2 := Lib.hid (And.intro (H1.out.1.trans (hb2.mono H1.out.1.size)) ((hb2.block _ (hp_lt H1.out.2)).trans H1.out.2)); clear hb2)
    | (go_at_call 57; refine (HL.out _).mono ?_; rintro e w1 ⟨rfl, hg1, hb1⟩; rw [World.size_alloc] at hg1; have H1 := Lib.hid (And.intro (H0.out.1.trans (hb1.mono H0.out.1.size)) hg1); clear hg1 hb1))
  go_ret
  exact ⟨rfl, H3.out.1.alloc H3.out.1.size _⟩
set_option maxRecDepth 100000 in
set_option maxHeartbeats 4000000 in
theorem cmove_same {w W : World} {b : Nat} {F : List Nat} {L : SL} {q : Nat} {qs : List Value} (h : SNew w W b F L q qs) (k1 k2 : ByteArray) (x a : Nat) (hk1 : k1.size ≤ maxLen) (he1 : amtAt L k1 x) (hx : x < 2 ^ 256) (ha : a < 2 ^ 256) (hle : a ≤ x) (hs : k1 = k2) :
    Calls Try.prog 30 #[.pointer (some ⟨b, 0, none⟩), .string k1, .string k2, U a] W fun e W' => e = .returned (.int .i64 0) ∧ Below W.heap.size W W' := by
  have hb0 := (Below.refl W.heap.size W).alloc (Nat.le_refl _) (.cells #[.int .u64 (limb a 0 : Nat), .int .u64 (limb a 1 : Nat), .int .u64 (limb a 2 : Nat), .int .u64 (limb a 3 : Nat)] 55)
  have r0 := heap_alloc_new W (.cells #[.int .u64 (limb a 0 : Nat), .int .u64 (limb a 1 : Nat), .int .u64 (limb a 2 : Nat), .int .u64 (limb a 3 : Nat)] 55)
  have hL := fun W1 => less_walk a W1
  have hA := fun (W1 : World) (hb : Below W.heap.size W W1) => camount_at (h.below hb) k1 x hk1 he1 hx
  have hT := fun (W1 : World) (g : Nat) (hg : W1.heap[g]? = some (.cells #[.int .u64 (limb a 0 : Nat), .int .u64 (limb a 1 : Nat), .int .u64 (limb a 2 : Nat), .int .u64 (limb a 3 : Nat)] 55 (0, 0))) => lessc_ok x a (x - a) g hx ha hle rfl W1 hg
  have q1 : (k1.toList == k2.toList) = true := by rw [hs]; exact beq_self_eq_true _
  unfold U at hL hA hT
  have HL := Lib.hid hL
  have HA := Lib.hid hA
  have HT := Lib.hid hT
  have H0 := Lib.hid (And.intro hb0 r0)
  clear h hk1 he1 hx ha hle hs hb0 r0 hL hA hT
  unfold U
  go_enter Try.func30, Try.ntmps30
  go_wp2_with (first
    | (go_at_call 77; refine (HT.out _ _ H2.out.2).mono ?_; rintro e w3 ⟨rfl, hb3⟩; have H3 := Lib.hid (And.intro (H2.out.1.trans (hb3.mono H2.out.1.size)) ((hb3.block _ (hp_lt H2.out.2)).trans H2.out.2)); clear hb3)
    | (go_at_call 31; refine (HA.out _ H1.out.1).mono ?_; rintro e w2 ⟨rfl, hb2⟩; have H2 := Lib.hid (And.intro (H1.out.1.trans (hb2.mono H1.out.1.size)) ((hb2.block _ (hp_lt H1.out.2)).trans H1.out.2)); clear hb2)
    | (go_at_call 57; refine (HL.out _).mono ?_; rintro e w1 ⟨rfl, hg1, hb1⟩; rw [World.size_alloc] at hg1; have H1 := Lib.hid (And.intro (H0.out.1.trans (hb1.mono H0.out.1.size)) hg1); clear hg1 hb1))
  go_ret
  exact ⟨rfl, H3.out.1.alloc H3.out.1.size _⟩
set_option maxRecDepth 100000 in
set_option maxHeartbeats 4000000 in
theorem cmove_over {w W : World} {b : Nat} {F : List Nat} {L : SL} {q : Nat} {qs : List Value} (h : SNew w W b F L q qs) (k1 k2 : ByteArray) (x a : Nat) (hk1 : k1.size ≤ maxLen) (he1 : amtAt L k1 x) (hx : x < 2 ^ 256) (ha : a < 2 ^ 256) (y : Nat) (hk2 : k2.size ≤ maxLen) (hne : k1 ≠ k2) (he2 : amtAt L k2 y) (hy : y < 2 ^ 256) (hle : a ≤ x) (hov : MOST < y + a) :
    Calls Try.prog 30 #[.pointer (some ⟨b, 0, none⟩), .string k1, .string k2, U a] W fun e W' => e = .returned (.int .i64 6) ∧ Below W.heap.size W W' := by
  have hb0 := (Below.refl W.heap.size W).alloc (Nat.le_refl _) (.cells #[.int .u64 (limb a 0 : Nat), .int .u64 (limb a 1 : Nat), .int .u64 (limb a 2 : Nat), .int .u64 (limb a 3 : Nat)] 55)
  have r0 := heap_alloc_new W (.cells #[.int .u64 (limb a 0 : Nat), .int .u64 (limb a 1 : Nat), .int .u64 (limb a 2 : Nat), .int .u64 (limb a 3 : Nat)] 55)
  have hL := fun W1 => less_walk a W1
  have hA := fun (W1 : World) (hb : Below W.heap.size W W1) => camount_at (h.below hb) k1 x hk1 he1 hx
  have hT := fun (W1 : World) (g : Nat) (hg : W1.heap[g]? = some (.cells #[.int .u64 (limb a 0 : Nat), .int .u64 (limb a 1 : Nat), .int .u64 (limb a 2 : Nat), .int .u64 (limb a 3 : Nat)] 55 (0, 0))) => lessc_ok x a (x - a) g hx ha hle rfl W1 hg
  have hAd := fun (W1 : World) (hb : Below W.heap.size W W1) => cadd_no (some ⟨b, 0, none⟩) k2 y a hy ha hov W1 (fun W2 hb2 => camount_at ((h.below hb).below hb2) k2 y hk2 he2 hy)
  have q1 := str_ne2 hne
  unfold U at hL hA hT hAd
  have HL := Lib.hid hL
  have HA := Lib.hid hA
  have HT := Lib.hid hT
  have H0 := Lib.hid (And.intro hb0 r0)
  have HAd := Lib.hid hAd
  clear h hk1 he1 hx ha hle hov hy he2 hne hk2 hAd hb0 r0 hL hA hT
  unfold U
  go_enter Try.func30, Try.ntmps30
  go_upto_region 2 with (first
    | (go_at_call 77; refine (HT.out _ _ H2.out.2).mono ?_; rintro e w3 ⟨rfl, hb3⟩; have H3 := Lib.hid (H2.out.1.trans (hb3.mono H2.out.1.size)); have B3 := Lib.hid (B2.out.trans (hb3.mono B2.out.size)); have HX := Lib.hid (fun (W4 : World) (hW4 : W4 = w3.alloc (.cells #[.int .u64 (limb (x - a) 0 : Nat), .int .u64 (limb (x - a) 1 : Nat), .int .u64 (limb (x - a) 2 : Nat), .int .u64 (limb (x - a) 3 : Nat)] 55)) => show Below (W.alloc (.cells #[.int .u64 (limb a 0 : Nat), .int .u64 (limb a 1 : Nat), .int .u64 (limb a 2 : Nat), .int .u64 (limb a 3 : Nat)] 55)).heap.size (W.alloc (.cells #[.int .u64 (limb a 0 : Nat), .int .u64 (limb a 1 : Nat), .int .u64 (limb a 2 : Nat), .int .u64 (limb a 3 : Nat)] 55)) W4 from by rw [hW4]; exact B3.out.alloc B3.out.size _); clear hb3)
    | (go_at_call 31; refine (HA.out _ H1.out.1).mono ?_; rintro e w2 ⟨rfl, hb2⟩; have H2 := Lib.hid (And.intro (H1.out.1.trans (hb2.mono H1.out.1.size)) ((hb2.block _ (hp_lt H1.out.2)).trans H1.out.2)); have B2 := Lib.hid (B1.out.trans (hb2.mono B1.out.size)); clear hb2)
    | (go_at_call 57; refine (HL.out _).mono ?_; rintro e w1 ⟨rfl, hg1, hb1⟩; rw [World.size_alloc] at hg1; have H1 := Lib.hid (And.intro (H0.out.1.trans (hb1.mono H0.out.1.size)) hg1); have B1 := Lib.hid hb1; clear hg1 hb1))
  have hbx := H3.out.alloc H3.out.size (.cells #[.int .u64 (limb (x - a) 0 : Nat), .int .u64 (limb (x - a) 1 : Nat), .int .u64 (limb (x - a) 2 : Nat), .int .u64 (limb (x - a) 3 : Nat)] 55)
  obtain ⟨W4, hW4⟩ : ∃ W4, W4 = w3.alloc (.cells #[.int .u64 (limb (x - a) 0 : Nat), .int .u64 (limb (x - a) 1 : Nat), .int .u64 (limb (x - a) 2 : Nat), .int .u64 (limb (x - a) 3 : Nat)] 55) := ⟨_, rfl⟩
  rw [← hW4] at hbx ⊢
  have r4 : W4.heap[W.heap.size]? = some (.cells #[.int .u64 (limb a 0 : Nat), .int .u64 (limb a 1 : Nat), .int .u64 (limb a 2 : Nat), .int .u64 (limb a 3 : Nat)] 55 (0, 0)) := by
    have h03 : Below (W.alloc (.cells #[.int .u64 (limb a 0 : Nat), .int .u64 (limb a 1 : Nat), .int .u64 (limb a 2 : Nat), .int .u64 (limb a 3 : Nat)] 55)).heap.size (W.alloc (.cells #[.int .u64 (limb a 0 : Nat), .int .u64 (limb a 1 : Nat), .int .u64 (limb a 2 : Nat), .int .u64 (limb a 3 : Nat)] 55)) W4 := HX.out W4 hW4
    exact (h03.block _ (hp_lt H0.out.2)).trans H0.out.2
  have H4 := Lib.hid (And.intro hbx r4)
  clear hbx hW4
  have c0 := (hp_cell (i := 0) r4).trans rfl
  have c1 := (hp_cell (i := 1) r4).trans rfl
  have c2 := (hp_cell (i := 2) r4).trans rfl
  have c3 := (hp_cell (i := 3) r4).trans rfl
  clear r4
  go_wp2_with (go_at_call 37; refine (HAd.out _ H4.out.1).mono ?_; rintro e w5 ⟨rfl, hb5⟩; have H5 := Lib.hid (H4.out.1.trans (hb5.mono H4.out.1.size)); clear hb5)
  go_ret
  exact ⟨rfl, H5.out⟩
end Go.Proofs.Ytbfmhafmncnhfaa

namespace Go.Proofs.Ytbfmhafmncnhfaa
open Go.RowKit Go.Maps Go.Sort

/-- the keys of the laws of layer 10 -/
def kN (i : Nat) : ByteArray := keyStr 200 (fun _ => (i : Int)) 1
theorem kN_ok : ∀ i, i < 10 → (kN i).size ≤ 9 ∧ kN i ≠ ⟨#[]⟩ := by decide +kernel
theorem kN_ne : ∀ i, i < 10 → ∀ j, j < 10 → i ≠ j → kN i ≠ kN j := by decide +kernel
set_option maxRecDepth 100000 in
set_option maxHeartbeats 400000 in
theorem key10_walk (i : Nat) (hi : i < 10) (w : World) : Calls Try.prog 28 #[.int .i64 (i : Nat)] w fun e w' => e = .returned (.string (kN i)) ∧ Below w.heap.size w w' := by
  have p1 : ¬ (i : Int) < 0 := by omega
  have p2 : ¬ (9 : Int) < (i : Int) := by omega
  have hb := (Below.refl w.heap.size w).alloc (Nat.le_refl _) (.cells #[.int .i64 (i : Nat)] 3)
  have hx := heap_alloc_new w (.cells #[.int .i64 (i : Nat)] 3)
  have hil : Il (w.alloc (.cells #[.int .i64 (i : Nat)] 3)) (some ⟨w.heap.size, 0, none⟩) 1 (fun _ => (i : Int)) := ⟨fun _ => by omega, fun _ => ⟨w.heap.size, 0, rfl, hp_lt hx, fun j hj => by obtain rfl : j = 0 := (by omega); exact (hp_cell (i := 0) hx).trans rfl⟩⟩
  have HK := Lib.hid ((key_walk 200 (some ⟨w.heap.size, 0, none⟩) 1 1 (fun _ => (i : Int)) _ hil (by omega)).mono fun e w' h => (⟨h.1, hb.trans (h.2.mono hb.size)⟩ : e = .returned (.string (kN i)) ∧ Below w.heap.size w w'))
  clear hb hx hil hi
  go_enter Try.func28, Try.ntmps28
  go_wp2_with (go_at_call 53; refine HK.out.mono ?_; rintro e w1 ⟨rfl, hb1⟩; have H1 := Lib.hid hb1; clear hb1)
  go_ret
  exact ⟨rfl, H1.out⟩
set_option maxRecDepth 100000 in
set_option maxHeartbeats 1000000 in
/-- two rows of the same ints -/
theorem ints_same (A B : Option Addr) (n C D : Nat) (f g : Nat → Int) (w : World) (ha : Il w A n f) (hb : Il w B n g) (hN : n < 1000000) (he : ∀ i, i < n → f i = g i) :
    Calls Try.prog 36 #[.slice A n C, .slice B n D] w fun e w' => e = .returned (.bool true) ∧ Below w.heap.size w w' := by
  have HA := Lib.hid (And.intro ha (And.intro hb he))
  have hNI : (n : Int) ≤ 1000000 := by omega
  have q0 : ((n : Int) == (n : Int)) = true := beq_self_eq_true _
  clear ha hb he hN
  go_enter Try.func36, Try.ntmps36
  go_wp2
  go_loopw [13] (fun i wr => ∃ j : Nat, j ≤ n ∧ i = .int .i64 (j : Nat) ∧ Below w.heap.size w wr) (fun i _ => n - (intOf i).toNat)
  case atStart => exact ⟨0, by omega, rfl, Below.refl _ _⟩
  case round =>
    obtain ⟨j, hj, rfl, hbb⟩ := hrel
    have HB := Lib.hid hbb
    by_cases hlt : j < n
    · have p1 : (j : Int) < (n : Int) := by omega
      obtain ⟨g1, o1, rfl, _, hc1⟩ := (HA.out.1.below hbb).2 (by omega)
      obtain ⟨g2, o2, rfl, _, hc2⟩ := (HA.out.2.1.below hbb).2 (by omega)
      have c1 := hc1 j hlt
      have c2 := hc2 j hlt
      rw [← HA.out.2.2 j hlt] at c2
      obtain ⟨x, ex⟩ : ∃ y, y = f j := ⟨_, rfl⟩
      rw [← ex] at c1 c2
      have q1 : (x == x) = true := beq_self_eq_true _
      clear hc1 hc2 ex hbb
      go_upto_region 6 with fail
      go_quiet (fail)
      go_wp2
      exact ⟨⟨j + 1, by omega, by go_num, below_drewN HB.out _⟩, by simp [intOf]; omega⟩
    · obtain rfl : j = n := by omega
      have p1 : ¬ (j : Int) < (j : Int) := by omega
      clear hbb
      go_wp2
      go_ret
      exact ⟨rfl, HB.out⟩
end Go.Proofs.Ytbfmhafmncnhfaa
