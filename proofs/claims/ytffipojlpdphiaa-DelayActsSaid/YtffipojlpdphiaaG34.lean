/- The law DelayWaits: light, and the plain steps. -/
import Derived.Test.YtffipojlpdphiaaG31
import Derived.Test.YtffipojlpdphiaaG18
import Derived.Test.YtffipojlpdphiaaG33
import Derived.Test.YtffipojlpdphiaaG32
import Derived.Test.YtffipojlpdphiaaG16
namespace Go.Proofs.Ytffipojlpdphiaa
open Go.RowKit Go.Maps

/-- behind its wait what was set counts -/
theorem stepD_later {v : DV} {x blk wait b : Int} (hw : 0 ≤ wait) (hb : blk + wait ≤ b) : (settleD (stepD v x blk wait) b).h = true ∧ (settleD (stepD v x blk wait) b).n = x := by
  unfold stepD
  by_cases h : blk < blk + wait
  · have e : settleD (putD v x blk wait) blk = putD v x blk wait := by
      unfold settleD; rw [if_neg]; exact fun hh => hh.2 h
    rw [e]
    unfold settleD
    rw [if_pos ⟨rfl, by show ¬ b < blk + wait; omega⟩]
    exact ⟨rfl, rfl⟩
  · have e : settleD (putD v x blk wait) blk = ⟨true, x, 0, 0, false⟩ := by
      unfold settleD; rw [if_pos ⟨rfl, h⟩]; rfl
    rw [e]
    unfold settleD
    rw [if_neg (by simp)]
    exact ⟨rfl, rfl⟩
/-- until then what counted counts -/
theorem stepD_until {v : DV} {x blk wait b : Int} (hw : 0 < wait) (hb : b < blk + wait) : (settleD (stepD v x blk wait) b).h = (settleD v blk).h ∧ (settleD (stepD v x blk wait) b).n = (settleD v blk).n := by
  have e : stepD v x blk wait = putD v x blk wait := by
    unfold stepD settleD; rw [if_neg]; exact fun hh => hh.2 (by show blk < blk + wait; omega)
  rw [e]
  have e2 : settleD (putD v x blk wait) b = putD v x blk wait := by
    unfold settleD; rw [if_neg]; exact fun hh => hh.2 (by show b < blk + wait; omega)
  rw [e2]
  exact ⟨rfl, rfl⟩
/-- the store's entries: nothing, or the value's row -/
def DLw (K : ByteArray) (L : SL) (v : DV) : Prop := (L = [] ∧ v = DV.none) ∨ L = [(K, v.row)]
theorem DLw.at_ {K : ByteArray} {L : SL} {v : DV} (h : DLw K L v) : DAt L K v := by
  rcases h with ⟨rfl, h⟩ | rfl
  · exact .inl ⟨rfl, h⟩
  · exact .inr (by simp [sget, keq_self])
theorem DLw.len {K : ByteArray} {L : SL} {v : DV} (h : DLw K L v) : L.length ≤ 1 := by
  rcases h with ⟨rfl, _⟩ | rfl <;> simp
theorem DLw.set {K : ByteArray} {L : SL} {v : DV} (h : DLw K L v) (u : DV) : DLw K (setL L K u.row) u := by
  refine .inr ?_
  rcases h with ⟨rfl, _⟩ | rfl
  · exact setL_nil _ _
  · unfold setL
    split
    · rename_i hh
      have : v.row = u.row := by simpa [sget, keq_self] using hh
      rw [this]
    · unfold sset
      rw [if_pos (by simp [sget, keq_self])]
      simp [keq_self]
/-- the law's store: behind at most c changes it holds v -/
structure DWs (w0 w : World) (b : Nat) (K : ByteArray) (c : Nat) (v : DV) : Prop where
  s : ∃ F L q qs, SNew w0 w b F L q qs ∧ q ≤ c ∧ DLw K L v
  ok : v.ok
theorem DWs.below {w0 w w' : World} {b : Nat} {K : ByteArray} {c : Nat} {v : DV} (h : DWs w0 w b K c v) (hb : Below w.heap.size w w') : DWs w0 w' b K c v := by
  obtain ⟨F, L, q, qs, hs, hq, hd⟩ := h.s
  exact ⟨⟨F, L, q, qs, hs.below hb, hq, hd⟩, h.ok⟩
theorem DWs.l {w0 w : World} {b : Nat} {K : ByteArray} {c : Nat} {v : DV} (h : DWs w0 w b K c v) : Below w0.heap.size w0 w := by
  obtain ⟨F, L, q, qs, hs, hq, hd⟩ := h.s
  exact hs.l
theorem DWs.of_live {w0 W W' : World} {b : Nat} {F : List Nat} {L : SL} {K : ByteArray} {q c : Nat} {v : DV} (h : LiveTo w0 W W' b F L q) (hq : q ≤ c) (hd : DLw K L v) (hv : v.ok) : DWs w0 W' b K c v := by
  obtain ⟨F', q', qs', hs, hq', _⟩ := h
  exact ⟨⟨F', L, q', qs', hs, by omega, hd⟩, hv⟩
theorem dget_law {w0 W : World} {b c : Nat} {v : DV} (h : DWs w0 W b (keyStr 25 (fun _ => 1) 1) c v) (A : Option Addr) (cp : Nat) (hl : Il W A 1 (fun _ => 1)) :
    Calls Try.prog 55 #[.pointer (some ⟨b, 0, none⟩), .int .i64 25, .slice A 1 cp] W fun e W' => e = .returned v.val ∧ Below W.heap.size W W' := by
  obtain ⟨F, L, q, qs, hs, hq, hd⟩ := h.s
  exact dget_at hs 25 A 1 cp (fun _ => 1) _ rfl (by omega) (by have := keyStr_size 25 (fun _ => 1) 1; unfold maxLen; omega) v h.ok hd.at_ hl
theorem key251_ne : keyStr 25 (fun _ => 1) 1 ≠ ⟨#[]⟩ := by decide +kernel
theorem dset_law {w0 W : World} {b c : Nat} {v : DV} (h : DWs w0 W b (keyStr 25 (fun _ => 1) 1) c v) (hc : c < 1000000) (A : Option Addr) (cp : Nat) (hl : Il W A 1 (fun _ => 1)) (x blk wait : Int)
    (hx : 0 ≤ x ∧ x ≤ 1099511627776) (hb : 0 ≤ blk ∧ blk ≤ 1099511627776) (hw : 0 ≤ wait ∧ wait ≤ 1099511627776) :
    Calls Try.prog 53 #[.pointer (some ⟨b, 0, none⟩), .int .i64 25, .slice A 1 cp, .int .i64 x, .int .i64 blk, .int .i64 wait] W fun e W' => e = .returned (.int .i64 0) ∧ DWs w0 W' b (keyStr 25 (fun _ => 1) 1) (c + 1) (stepD v x blk wait) := by
  obtain ⟨F, L, q, qs, hs, hq, hd⟩ := h.s
  refine (dset_go hs 25 A 1 cp (fun _ => 1) _ rfl (by omega) (by have := keyStr_size 25 (fun _ => 1) 1; unfold maxLen; omega) hl key251_ne x blk wait hx hb hw (by have := hd.len; omega) (by omega) v h.ok hd.at_).mono ?_
  rintro e W' ⟨he, hL⟩
  refine ⟨he, ?_⟩
  cases hE : (stepD v x blk wait).eqb v with
  | true =>
    rw [hE, if_pos rfl] at hL
    rw [DV.of_eqb hE]
    exact DWs.of_live hL (by omega) hd h.ok
  | false =>
    rw [hE, if_neg (by decide)] at hL
    exact DWs.of_live hL (by omega) (hd.set _) (stepD_ok h.ok hx hb hw)
theorem dset_law_any {w0 W : World} {b c : Nat} {v : DV} (h : DWs w0 W b (keyStr 25 (fun _ => 1) 1) c v) (hc : c < 1000000) (A : Option Addr) (cp : Nat) (hl : Il W A 1 (fun _ => 1)) (x blk wait : Int) :
    Calls Try.prog 53 #[.pointer (some ⟨b, 0, none⟩), .int .i64 25, .slice A 1 cp, .int .i64 x, .int .i64 blk, .int .i64 wait] W fun e W' => (∃ r, e = .returned (.int .i64 r)) ∧ ∃ v', DWs w0 W' b (keyStr 25 (fun _ => 1) 1) (c + 1) v' := by
  have bad : (dIn x = false ∨ dIn x = true ∧ dIn blk = false ∨ dIn x = true ∧ dIn blk = true ∧ dIn wait = false) → Calls Try.prog 53 #[.pointer (some ⟨b, 0, none⟩), .int .i64 25, .slice A 1 cp, .int .i64 x, .int .i64 blk, .int .i64 wait] W fun e W' => (∃ r, e = .returned (.int .i64 r)) ∧ ∃ v', DWs w0 W' b (keyStr 25 (fun _ => 1) 1) (c + 1) v' := fun hbad => by
    obtain ⟨F, L, q, qs, hs, hq, hd⟩ := h.s
    refine (dset_bad hs 25 A 1 cp (fun _ => 1) _ rfl (by omega) hl key251_ne x blk wait hbad).mono ?_
    rintro e W' ⟨he, hL⟩
    exact ⟨⟨_, he⟩, v, DWs.of_live hL (by omega) hd h.ok⟩
  cases h1 : dIn x with
  | false => exact bad (.inl h1)
  | true =>
    cases h2 : dIn blk with
    | false => exact bad (.inr (.inl ⟨h1, h2⟩))
    | true =>
      cases h3 : dIn wait with
      | false => exact bad (.inr (.inr ⟨h1, h2, h3⟩))
      | true =>
        refine (dset_law h hc A cp hl x blk wait (of_decide_eq_true h1) (of_decide_eq_true h2) (of_decide_eq_true h3)).mono ?_
        rintro e W' ⟨he, hd⟩
        exact ⟨⟨_, he⟩, _, hd⟩
set_option maxRecDepth 100000 in
set_option maxHeartbeats 1000000 in
/-- light of any row of acts -/
theorem light28_rows (A : Option Addr) (N C : Nat) (A0 : Nat → Option Addr) (k0 c0 : Nat → Nat) (x1 x2 x3 : Nat → Int) (w : World) (hr : RowsV w A N 4 (fun i => [.slice (A0 i) (k0 i) (c0 i), .int .i64 (x1 i), .int .i64 (x2 i), .int .i64 (x3 i)])) (hN : (N : Int) ≤ 9223372036854775807) (hk : ∀ i, i < N → (k0 i : Int) ≤ 9223372036854775807)
    (B : Bool) (hB : B = true ↔ N ≤ 100 ∧ ∀ i, i < N → k0 i ≤ 5) :
    Calls Try.prog 51 #[.slice A N C] w fun e w' => e = .returned (.bool B) ∧ Below w.heap.size w w' := by
  have HB := Lib.hid hB
  have HR := Lib.hid hr
  have HK := Lib.hid hk
  clear hB hr hk
  by_cases h1 : N ≤ 100
  · have p1 : ¬ (100 : Int) < (N : Int) := by omega
    have h1' : (N : Int) ≤ 100 := by omega
    go_enter Try.func51, Try.ntmps51
    go_wp2
    go_loopw [10] (fun i wr => ∃ j : Nat, j ≤ N ∧ i = .int .i64 (j : Nat) ∧ Below w.heap.size w wr ∧ ∀ t, t < j → k0 t ≤ 5) (fun i _ => N - (intOf i).toNat)
    case atStart => exact ⟨0, by omega, rfl, Below.refl _ _, fun t h => absurd h (by omega)⟩
    case round =>
      obtain ⟨j, hj, rfl, hb, h5⟩ := hrel
      have HBl := Lib.hid hb
      have H5 := Lib.hid h5
      by_cases hlt : j < N
      · have p2 : (j : Int) < (N : Int) := by omega
        obtain ⟨g, o, rfl, hg, hc⟩ := (HR.out.below hb) (by omega)
        have d0 := hc j hlt 0 _ rfl
        have d1 := hc j hlt 1 _ rfl
        have d2 := hc j hlt 2 _ rfl
        have d3 := hc j hlt 3 _ rfl
        simp only [Nat.add_zero] at d0
        have hkj := HK.out j hlt
        obtain ⟨kj, ekj⟩ : ∃ z, z = k0 j := ⟨_, rfl⟩
        rw [← ekj] at d0 hkj
        have HE := Lib.hid ekj
        clear hb h5 hc ekj
        by_cases hn5 : kj ≤ 5
        · have p3 : ¬ (5 : Int) < (kj : Int) := by omega
          go_wp2
          exact ⟨⟨j + 1, by omega, by go_num, HBl.out.alloc HBl.out.size _, fun t ht => by
            rcases (by omega : t < j ∨ t = j) with h | rfl
            · exact H5.out t h
            · rw [← HE.out]; exact hn5⟩, by simp [intOf]; omega⟩
        · have p3 : (5 : Int) < (kj : Int) := by omega
          have e0 : B = false := by
            cases hBv : B with
            | false => rfl
            | true => exact absurd ((HB.out.1 hBv).2 j hlt) (by rw [← HE.out]; exact hn5)
          subst e0
          go_wp2
          go_ret
          exact ⟨rfl, HBl.out.alloc HBl.out.size _⟩
      · obtain rfl : j = N := by omega
        have e0 : B = true := HB.out.2 ⟨h1, H5.out⟩
        subst e0
        clear hb h5
        go_wp2
        go_ret
        exact ⟨rfl, HBl.out⟩
  · have p1 : (100 : Int) < (N : Int) := by omega
    have e0 : B = false := by
      cases hBv : B with
      | false => rfl
      | true => exact absurd (HB.out.1 hBv).1 h1
    subst e0
    go_enter Try.func51, Try.ntmps51
    go_wp2
    go_ret
    exact ⟨rfl, Below.refl _ _⟩
end Go.Proofs.Ytffipojlpdphiaa

namespace Go.Proofs.Ytffipojlpdphiaa
open Go.RowKit Go.Maps Go.Sort

theorem fAct28 : Foreign 97 := ⟨by decide, by decide, by decide, by decide⟩
theorem nAct28 : 97 ≠ 31 ∧ 97 ≠ 189 := ⟨by decide, by decide⟩
theorem set5_other {w : World} {g k : Nat} (v0 v1 v2 v3 v4 : Value) (h : k ≠ g) : (((((w.setCell ⟨g, 0, none⟩ v0).setCell ⟨g, 1, none⟩ v1).setCell ⟨g, 2, none⟩ v2).setCell ⟨g, 3, none⟩ v3).setCell ⟨g, 4, none⟩ v4).heap[k]? = w.heap[k]? := by
  rw [heap_setCell_other _ _ _ _ h, heap_setCell_other _ _ _ _ h, heap_setCell_other _ _ _ _ h, heap_setCell_other _ _ _ _ h, heap_setCell_other _ _ _ _ h]
set_option maxRecDepth 100000 in
set_option maxHeartbeats 16000000 in
theorem delayActs_go (t blk : Int) (A : Option Addr) (N C : Nat) (A0 : Nat → Option Addr) (k0 c0 : Nat → Nat) (f : Nat → Nat → Int) (x1 x2 x3 : Nat → Int) (w : World) (hr : act28sAt w A N A0 k0 c0 f x1 x2 x3) (hN : N ≤ 100) (hk : ∀ i, i < N → k0 i ≤ 5) :
    Calls Try.prog 8 #[.int .i64 t, .slice A N C, .int .i64 blk] w fun e w' => e = .returned (.bool true) ∧ Below w.heap.size w w' := by
  have HL1 := Lib.hid (light28_rows A N C A0 k0 c0 x1 x2 x3 _ hr.rows (by omega) (fun i hi => by have := hk i hi; omega) true ⟨fun _ => ⟨hN, hk⟩, fun _ => rfl⟩)
  have HR := Lib.hid hr
  have HK := Lib.hid hk
  have HLv := Lib.hid (fun w => lives28_walk w)
  have hNI : (N : Int) ≤ 100 := by omega
  clear hr hk hN
  go_enter Try.func8, Try.ntmps8
  go_upto_region 4 with (first
    | (go_at_call 11; with_reducible refine (SNew.new w _ H1.out).mono ?_; rintro e w3 ⟨b, F1, rfl, hs1, _, _⟩; have H3 := Lib.hid hs1; clear hs1)
    | (go_at_call 51; with_reducible refine HL1.out.mono ?_; rintro e w1 ⟨rfl, hb1⟩; have H1 := Lib.hid hb1; clear hb1))
  obtain ⟨m, hm⟩ : ∃ m, m = w3.heap.size := ⟨_, rfl⟩
  have hd4 := DS.new w w3 H3.out.l (.bool true) (.bool true) _ rfl
  have hb4 := (Below.refl w3.heap.size w3).alloc (Nat.le_refl _) (.cells #[.slice none 0 0, .slice none 0 0] 31)
  rw [← hm] at hd4
  rw [← hm]
  have H4 := Lib.hid (And.intro (H3.out.below hb4) hd4)
  clear hd4 hb4 hm
  generalize w3.alloc (.cells #[.slice none 0 0, .slice none 0 0] 31) = w4 at H4 ⊢
  go_wp2
  go_loopw [26] (fun i wr => ∃ (j : Nat) (F : List Nat) (q : Nat) (qs : List Value) (R : List Ch) (L : SL), j ≤ N ∧ i = .int .i64 (j : Nat) ∧ SNew w wr b F L q qs ∧ q ≤ j ∧ DS w wr m L R ∧ R.length ≤ j ∧ DM L ∧ L.length ≤ j) (fun i _ => N - (intOf i).toNat)
  case atStart => exact ⟨0, F1, 0, [], [], [], by omega, rfl, H4.out.1, by omega, H4.out.2, by simp, DM.nil, by simp⟩
  case round =>
    obtain ⟨j, F, q, qs, R, L, hj, rfl, hs, hq, hd, hR, hM, hL⟩ := hrel
    by_cases hlt : j < N
    · have p2 : (j : Int) < (N : Int) := by omega
      obtain ⟨g, o, rfl, hg, hc⟩ := (HR.out.rows.below hs.l) (by omega)
      have d0 := hc j hlt 0 _ rfl
      have d1 := hc j hlt 1 _ rfl
      have d2 := hc j hlt 2 _ rfl
      have d3 := hc j hlt 3 _ rfl
      simp only [Nat.add_zero] at d0
      have hil := HR.out.f1 j hlt
      have hkj := HK.out j hlt
      obtain ⟨er, L2, v2, hv2, hat2, hM2, hL2, hO, hD⟩ := delay_both w b m L hM (by omega) t (k0 j) (c0 j) (f j) (by omega) (x1 j) (x2 j) (x3 j)
      obtain ⟨a0, ea0⟩ : ∃ y, y = A0 j := ⟨_, rfl⟩
      obtain ⟨kj, ekj⟩ : ∃ y, y = k0 j := ⟨_, rfl⟩
      obtain ⟨cj, ecj⟩ : ∃ y, y = c0 j := ⟨_, rfl⟩
      obtain ⟨fj, efj⟩ : ∃ y, y = f j := ⟨_, rfl⟩
      obtain ⟨y1, ey1⟩ : ∃ y, y = x1 j := ⟨_, rfl⟩
      obtain ⟨y2, ey2⟩ : ∃ y, y = x2 j := ⟨_, rfl⟩
      obtain ⟨y3, ey3⟩ : ∃ y, y = x3 j := ⟨_, rfl⟩
      rw [← ea0, ← ekj, ← ecj] at d0
      rw [← ey1] at d1
      rw [← ey2] at d2
      rw [← ey3] at d3
      rw [← ea0, ← ekj, ← efj] at hil
      rw [← ekj] at hkj
      rw [← ekj, ← ecj, ← efj, ← ey1, ← ey2, ← ey3] at hO hD
      rw [← ekj, ← efj] at hat2
      have HIl := Lib.hid (fun (W1 : World) (hb : Below w.heap.size w W1) => hil.below hb)
      have HHs := Lib.hid hs
      have HHd := Lib.hid hd
      have HO := Lib.hid hO
      have HD := Lib.hid hD
      have HM2 := Lib.hid (And.intro hM2 (And.intro hL2 hL))
      have HQ := Lib.hid (And.intro hq (And.intro hR hj))
      have hbx := (Below.refl wr.heap.size wr).alloc (Nat.le_refl _) (.cells #[.slice a0 kj cj, .int .i64 y1, .int .i64 y2, .int .i64 y3] 97)
      have hx0 := heap_alloc_new wr (.cells #[.slice a0 kj cj, .int .i64 y1, .int .i64 y2, .int .i64 y3] 97)
      have HBx := Lib.hid hbx
      have HX0 := Lib.hid hx0
      have HKs := Lib.hid (show (keyStr t fj kj).size ≤ maxLen from by have := keyStr_size t fj kj; unfold maxLen; omega)
      have HMr := Lib.hid (show Rising (skeys L2) ∧ L2.length ≤ 1000000 ∧ kj ≤ 100 from ⟨hM2.r, by omega, by omega⟩)
      have q1 : (er == er) = true := beq_self_eq_true _
      obtain ⟨s2, hs2⟩ : ∃ y, y = settleD v2 blk := ⟨_, rfl⟩
      have HOf := Lib.hid (fun w => of_any v2 blk w)
      have HRof := Lib.hid (fun w => rof_any v2 blk w)
      have HSe := Lib.hid (fun w => settle_any v2 blk w)
      have HRse := Lib.hid (fun w => rsettle_any v2 blk w)
      rw [← hs2] at HOf HRof HSe HRse
      have HGe := Lib.hid (fun (W1 : World) (F : List Nat) (q : Nat) (qs : List Value) (hs : SNew w W1 b F L2 q qs) => dget_at hs t a0 kj cj fj _ rfl HMr.out.2.2 HKs.out v2 hv2 hat2 (HIl.out W1 hs.l))
      have HRge := Lib.hid (fun (W1 : World) (R : List Ch) (hd : DS w W1 m L2 R) => rdget_at w W1 m L2 R t a0 kj cj fj _ rfl hd (HIl.out W1 hd.l) HMr.out.2.2 HMr.out.1 HMr.out.2.1 v2 hv2 hat2)
      clear hc hs hd hM hL hil hkj hO hD hv2 hat2 hM2 hL2 hq hR hj hbx hx0 ea0 ekj ecj efj ey1 ey2 ey3 hs2
      obtain ⟨vh, vn, vx, va, vm⟩ := v2
      obtain ⟨sh, sn, sx, sa, sm⟩ := s2
      unfold DV.val dval at HOf HRof HSe HRse HGe HRge
      simp only at HOf HRof HSe HRse HGe HRge
      have e1 : ∀ w, (Op.equalIn 10000 103 (.agg #[.bool vh, .int .i64 vn, .int .i64 vx, .int .i64 va, .bool vm]) (.agg #[.bool vh, .int .i64 vn, .int .i64 vx, .int .i64 va, .bool vm])).run Try.prog w = .ok true w := fun w => by rw [deqR]; simp
      have e2 : ∀ w, (Op.equalIn 10000 103 (.agg #[.bool sh, .int .i64 sn, .int .i64 sx, .int .i64 sa, .bool sm]) (.agg #[.bool sh, .int .i64 sn, .int .i64 sx, .int .i64 sa, .bool sm])).run Try.prog w = .ok true w := fun w => by rw [deqR]; simp
      have q2 : (sn == sn) = true := beq_self_eq_true _
      have q3 : (sh == sh) = true := beq_self_eq_true _
      go_upto_region 7 with fail
      obtain ⟨X, hX⟩ : ∃ X, X = wr.heap.size := ⟨_, rfl⟩
      rw [← hX] at HX0 ⊢
      have H7 := Lib.hid (And.intro (HHs.out.below HBx.out) (And.intro (HHd.out.below HBx.out) HX0.out))
      clear hX HHs HHd HX0 HBx d0 d1 d2 d3
      generalize wr.alloc (.cells #[.slice a0 kj cj, .int .i64 y1, .int .i64 y2, .int .i64 y3] 97) = Z7 at H7 ⊢
      refine wp_region_held_drew (S := fun w' => w'.heap[X]? = some (.cells #[.slice a0 kj cj, .int .i64 y1, .int .i64 y2, .int .i64 y3] 97 (0, 0))) (by kernel_rfl) ?_ (fun hHeld => ?_)
      · exact H7.out.2.2
      have H7d := Lib.hid (And.intro (H7.out.1.below (Below.refl _ Z7).drew) (And.intro (H7.out.2.1.below (Below.refl _ Z7).drew) (show Z7.drew.heap[X]? = _ from H7.out.2.2)))
      clear H7
      generalize Z7.drew = Z7d at H7d hHeld ⊢
      refine wpAnyH_take (i := 0) (v := ?_) rfl (by kernel_rfl) (by kernel_rfl) (by kernel_rfl) (fun _ _ _ h => h) (Or.inl ⟨by kernel_rfl, ?_⟩) (by with_reducible assumption) ?_
      rotate_left
      · intro wz hSw
        (try dsimp only at hSw)
        go_simp
        (try with_reducible rfl)
      show wpAnyH _ _ _ _ _ _ _ (Act.put _ (some 30) _) _
      (try simp only [Act.put, List.setIfInBounds_toArray, List.set_cons_zero, List.set_cons_succ])
      refine wpAnyH_take (i := 1) (v := ?_) rfl (by kernel_rfl) (by kernel_rfl) (by kernel_rfl) (fun _ _ _ h => h) (Or.inl ⟨by kernel_rfl, ?_⟩) (by with_reducible assumption) ?_
      rotate_left
      · intro wz hSw
        (try dsimp only at hSw)
        go_simp
        (try with_reducible rfl)
      show wpAnyH _ _ _ _ _ _ _ (Act.put _ (some 31) _) _
      (try simp only [Act.put, List.setIfInBounds_toArray, List.set_cons_zero, List.set_cons_succ])
      refine wpAnyH_take (i := 2) (v := ?_) rfl (by kernel_rfl) (by kernel_rfl) (by kernel_rfl) (fun _ _ _ h => h) (Or.inl ⟨by kernel_rfl, ?_⟩) (by with_reducible assumption) ?_
      rotate_left
      · intro wz hSw
        (try dsimp only at hSw)
        go_simp
        (try with_reducible rfl)
      show wpAnyH _ _ _ _ _ _ _ (Act.put _ (some 32) _) _
      (try simp only [Act.put, List.setIfInBounds_toArray, List.set_cons_zero, List.set_cons_succ])
      refine wpAnyH_take (i := 3) (v := .slice a0 kj cj) rfl (by kernel_rfl) (by kernel_rfl) (by kernel_rfl) (fun _ _ _ h => h) (Or.inl ⟨by kernel_rfl, ?_⟩) (by with_reducible assumption) ?_
      · intro wz hSw
        (try dsimp only at hSw)
        have y0 := (hp_cell (i := 0) hSw).trans rfl
        go_simp
        (try with_reducible rfl)
      show wpAnyH _ _ _ _ _ _ _ (Act.put _ (some 33) _) _
      (try simp only [Act.put, List.setIfInBounds_toArray, List.set_cons_zero, List.set_cons_succ])
      refine wpAnyH_take (i := 4) (v := ?_) rfl (by kernel_rfl) (by kernel_rfl) (by kernel_rfl) (fun _ _ _ h => h) (Or.inl ⟨by kernel_rfl, ?_⟩) (by with_reducible assumption) ?_
      rotate_left
      · intro wz hSw
        (try dsimp only at hSw)
        go_simp
        (try with_reducible rfl)
      show wpAnyH _ _ _ _ _ _ _ (Act.put _ (some 34) _) _
      (try simp only [Act.put, List.setIfInBounds_toArray, List.set_cons_zero, List.set_cons_succ])
      refine wpAnyH_take (i := 5) (v := .int .i64 y1) rfl (by kernel_rfl) (by kernel_rfl) (by kernel_rfl) (fun _ _ _ h => h) (Or.inl ⟨by kernel_rfl, ?_⟩) (by with_reducible assumption) ?_
      · intro wz hSw
        (try dsimp only at hSw)
        have y0 := (hp_cell (i := 1) hSw).trans rfl
        go_simp
        (try with_reducible rfl)
      show wpAnyH _ _ _ _ _ _ _ (Act.put _ (some 35) _) _
      (try simp only [Act.put, List.setIfInBounds_toArray, List.set_cons_zero, List.set_cons_succ])
      refine wpAnyH_take (i := 6) (v := ?_) rfl (by kernel_rfl) (by kernel_rfl) (by kernel_rfl) (fun _ _ _ h => h) (Or.inl ⟨by kernel_rfl, ?_⟩) (by with_reducible assumption) ?_
      rotate_left
      · intro wz hSw
        (try dsimp only at hSw)
        go_simp
        (try with_reducible rfl)
      show wpAnyH _ _ _ _ _ _ _ (Act.put _ (some 36) _) _
      (try simp only [Act.put, List.setIfInBounds_toArray, List.set_cons_zero, List.set_cons_succ])
      refine wpAnyH_take (i := 7) (v := .int .i64 y2) rfl (by kernel_rfl) (by kernel_rfl) (by kernel_rfl) (fun _ _ _ h => h) (Or.inl ⟨by kernel_rfl, ?_⟩) (by with_reducible assumption) ?_
      · intro wz hSw
        (try dsimp only at hSw)
        have y0 := (hp_cell (i := 2) hSw).trans rfl
        go_simp
        (try with_reducible rfl)
      show wpAnyH _ _ _ _ _ _ _ (Act.put _ (some 37) _) _
      (try simp only [Act.put, List.setIfInBounds_toArray, List.set_cons_zero, List.set_cons_succ])
      refine wpAnyH_take (i := 8) (v := ?_) rfl (by kernel_rfl) (by kernel_rfl) (by kernel_rfl) (fun _ _ _ h => h) (Or.inl ⟨by kernel_rfl, ?_⟩) (by with_reducible assumption) ?_
      rotate_left
      · intro wz hSw
        (try dsimp only at hSw)
        go_simp
        (try with_reducible rfl)
      show wpAnyH _ _ _ _ _ _ _ (Act.put _ (some 38) _) _
      (try simp only [Act.put, List.setIfInBounds_toArray, List.set_cons_zero, List.set_cons_succ])
      refine wpAnyH_take (i := 9) (v := .int .i64 y3) rfl (by kernel_rfl) (by kernel_rfl) (by kernel_rfl) (fun _ _ _ h => h) (Or.inl ⟨by kernel_rfl, ?_⟩) (by with_reducible assumption) ?_
      · intro wz hSw
        (try dsimp only at hSw)
        have y0 := (hp_cell (i := 3) hSw).trans rfl
        go_simp
        (try with_reducible rfl)
      show wpAnyH _ _ _ _ _ _ _ (Act.put _ (some 39) _) _
      (try simp only [Act.put, List.setIfInBounds_toArray, List.set_cons_zero, List.set_cons_succ])
      refine wpAnyH_take (i := 11) (v := ?_) rfl (by kernel_rfl) (by kernel_rfl) (by kernel_rfl) (fun _ _ _ h => h) (Or.inl ⟨by kernel_rfl, ?_⟩) (by with_reducible assumption) ?_
      rotate_left
      · intro wz hSw
        (try dsimp only at hSw)
        go_simp
        (try with_reducible rfl)
      show wpAnyH _ _ _ _ _ _ _ (Act.put _ (some 41) _) _
      (try simp only [Act.put, List.setIfInBounds_toArray, List.set_cons_zero, List.set_cons_succ])
      refine wpAnyH_take (i := 12) (v := ?_) rfl (by kernel_rfl) (by kernel_rfl) (by kernel_rfl) (fun _ _ _ h => h) (Or.inl ⟨by kernel_rfl, ?_⟩) (by with_reducible assumption) ?_
      rotate_left
      · intro wz hSw
        (try dsimp only at hSw)
        go_simp
        (try with_reducible rfl)
      show wpAnyH _ _ _ _ _ _ _ (Act.put _ (some 42) _) _
      (try simp only [Act.put, List.setIfInBounds_toArray, List.set_cons_zero, List.set_cons_succ])
      refine wpAnyH_take (i := 13) (v := ?_) rfl (by kernel_rfl) (by kernel_rfl) (by kernel_rfl) (fun _ _ _ h => h) (Or.inl ⟨by kernel_rfl, ?_⟩) (by with_reducible assumption) ?_
      rotate_left
      · intro wz hSw
        (try dsimp only at hSw)
        go_simp
        (try with_reducible rfl)
      show wpAnyH _ _ _ _ _ _ _ (Act.put _ (some 43) _) _
      (try simp only [Act.put, List.setIfInBounds_toArray, List.set_cons_zero, List.set_cons_succ])
      refine wpAnyH_take (i := 14) (v := .slice a0 kj cj) rfl (by kernel_rfl) (by kernel_rfl) (by kernel_rfl) (fun _ _ _ h => h) (Or.inl ⟨by kernel_rfl, ?_⟩) (by with_reducible assumption) ?_
      · intro wz hSw
        (try dsimp only at hSw)
        have y0 := (hp_cell (i := 0) hSw).trans rfl
        go_simp
        (try with_reducible rfl)
      show wpAnyH _ _ _ _ _ _ _ (Act.put _ (some 44) _) _
      (try simp only [Act.put, List.setIfInBounds_toArray, List.set_cons_zero, List.set_cons_succ])
      refine wpAnyH_take (i := 15) (v := ?_) rfl (by kernel_rfl) (by kernel_rfl) (by kernel_rfl) (fun _ _ _ h => h) (Or.inl ⟨by kernel_rfl, ?_⟩) (by with_reducible assumption) ?_
      rotate_left
      · intro wz hSw
        (try dsimp only at hSw)
        go_simp
        (try with_reducible rfl)
      show wpAnyH _ _ _ _ _ _ _ (Act.put _ (some 45) _) _
      (try simp only [Act.put, List.setIfInBounds_toArray, List.set_cons_zero, List.set_cons_succ])
      refine wpAnyH_take (i := 16) (v := .int .i64 y1) rfl (by kernel_rfl) (by kernel_rfl) (by kernel_rfl) (fun _ _ _ h => h) (Or.inl ⟨by kernel_rfl, ?_⟩) (by with_reducible assumption) ?_
      · intro wz hSw
        (try dsimp only at hSw)
        have y0 := (hp_cell (i := 1) hSw).trans rfl
        go_simp
        (try with_reducible rfl)
      show wpAnyH _ _ _ _ _ _ _ (Act.put _ (some 46) _) _
      (try simp only [Act.put, List.setIfInBounds_toArray, List.set_cons_zero, List.set_cons_succ])
      refine wpAnyH_take (i := 17) (v := ?_) rfl (by kernel_rfl) (by kernel_rfl) (by kernel_rfl) (fun _ _ _ h => h) (Or.inl ⟨by kernel_rfl, ?_⟩) (by with_reducible assumption) ?_
      rotate_left
      · intro wz hSw
        (try dsimp only at hSw)
        go_simp
        (try with_reducible rfl)
      show wpAnyH _ _ _ _ _ _ _ (Act.put _ (some 47) _) _
      (try simp only [Act.put, List.setIfInBounds_toArray, List.set_cons_zero, List.set_cons_succ])
      refine wpAnyH_take (i := 18) (v := .int .i64 y2) rfl (by kernel_rfl) (by kernel_rfl) (by kernel_rfl) (fun _ _ _ h => h) (Or.inl ⟨by kernel_rfl, ?_⟩) (by with_reducible assumption) ?_
      · intro wz hSw
        (try dsimp only at hSw)
        have y0 := (hp_cell (i := 2) hSw).trans rfl
        go_simp
        (try with_reducible rfl)
      show wpAnyH _ _ _ _ _ _ _ (Act.put _ (some 48) _) _
      (try simp only [Act.put, List.setIfInBounds_toArray, List.set_cons_zero, List.set_cons_succ])
      refine wpAnyH_take (i := 19) (v := ?_) rfl (by kernel_rfl) (by kernel_rfl) (by kernel_rfl) (fun _ _ _ h => h) (Or.inl ⟨by kernel_rfl, ?_⟩) (by with_reducible assumption) ?_
      rotate_left
      · intro wz hSw
        (try dsimp only at hSw)
        go_simp
        (try with_reducible rfl)
      show wpAnyH _ _ _ _ _ _ _ (Act.put _ (some 49) _) _
      (try simp only [Act.put, List.setIfInBounds_toArray, List.set_cons_zero, List.set_cons_succ])
      refine wpAnyH_take (i := 20) (v := .int .i64 y3) rfl (by kernel_rfl) (by kernel_rfl) (by kernel_rfl) (fun _ _ _ h => h) (Or.inl ⟨by kernel_rfl, ?_⟩) (by with_reducible assumption) ?_
      · intro wz hSw
        (try dsimp only at hSw)
        have y0 := (hp_cell (i := 3) hSw).trans rfl
        go_simp
        (try with_reducible rfl)
      show wpAnyH _ _ _ _ _ _ _ (Act.put _ (some 50) _) _
      (try simp only [Act.put, List.setIfInBounds_toArray, List.set_cons_zero, List.set_cons_succ])
      refine wpAnyH_ready (rs := [10]) (by kernel_rfl) (by simp) ?_
      refine AllReadyH.cons rfl (fun K hK => ?_) AllReadyH.nil
      clear hHeld
      go_simp
      go_at_call 53
      refine (HO.out _ F q qs _ H7d.out.1 (HIl.out _ H7d.out.1.l) (by have := HQ.out.1; have := HQ.out.2.2; omega)).mono ?_
      rintro e Z8 ⟨rfl, h2⟩
      have r8 := (LiveTo.keepT H7d.out.1 h2 fAct28).2 _ _ _ H7d.out.2.2
      have hd8 := ds_live H7d.out.2.1 H7d.out.1 h2
      obtain ⟨F8, q8, qs8, hs8, hq8, _⟩ := h2
      have H8 := Lib.hid (And.intro hs8 (And.intro hd8 r8))
      have HQ8 := Lib.hid hq8
      clear hs8 hd8 r8 hq8
      go_wp2_with fail
      refine hK.out _ _ ?_ (fun hHeld => ?_)
      · exact H8.out.2.2
      clear hK K
      (try simp only [Act.put, List.setIfInBounds_toArray, List.set_cons_zero, List.set_cons_succ])
      refine wpAnyH_ready (rs := [21]) (by kernel_rfl) (by simp) ?_
      refine AllReadyH.cons rfl (fun K hK => ?_) AllReadyH.nil
      clear hHeld
      go_simp
      go_at_call 54
      refine (HD.out _ R _ H8.out.2.1 (HIl.out _ H8.out.1.l) (by have := HQ.out.2.1; have := HQ.out.2.2; omega)).mono ?_
      rintro e Z9 ⟨rfl, R9, hR9, h3⟩
      have r9 := (h3.keepT nAct28).2 _ _ _ H8.out.2.2
      have hs9 := snew_other H8.out.1 h3
      have H9 := Lib.hid (And.intro hs9 (And.intro h3.s r9))
      have HR9 := Lib.hid hR9
      clear hs9 r9 h3 hR9
      go_wp2_with fail
      refine hK.out _ _ ?_ (fun hHeld => ?_)
      · exact H9.out.2.2
      clear hK K
      (try simp only [Act.put, List.setIfInBounds_toArray, List.set_cons_zero, List.set_cons_succ])
      refine wpAnyH_take (i := 22) (v := ?_) rfl (by kernel_rfl) (by kernel_rfl) (by kernel_rfl) (fun _ _ _ h => h) (Or.inl ⟨by kernel_rfl, ?_⟩) (by with_reducible assumption) ?_
      rotate_left
      · intro wz hSw
        (try dsimp only at hSw)
        go_simp
        (try with_reducible rfl)
      show wpAnyH _ _ _ _ _ _ _ (Act.put _ (some 52) _) _
      (try simp only [Act.put, List.setIfInBounds_toArray, List.set_cons_zero, List.set_cons_succ])
      refine wpAnyH_done (by kernel_rfl) ?_ _
      go_upto_region 9 with fail
      clear H7d H8 HO HD q1
      have lx := hp_lt H9.out.2.2
      go_cut [11, 12] (fun p k wx => ∃ B1 B2, p = .pointer (some ⟨B1, 0, none⟩) ∧ k = .pointer (some ⟨B2, 0, none⟩) ∧ wx.heap[B1]? = some (.cells #[.bool vh, .int .i64 vn, .int .i64 vx, .int .i64 va, .bool vm] 101 (0, 0)) ∧ wx.heap[B2]? = some (.cells #[.bool vh, .int .i64 vn, .int .i64 vx, .int .i64 va, .bool vm] 103 (0, 0)) ∧ Below Z9.heap.size Z9 wx)
      case first =>
        refine wp_region_held_drew (S := fun w' => Below Z9.heap.size Z9 w') (by kernel_rfl) ?_ (fun hHeld => ?_)
        · exact (Below.refl _ _).drew
        have HB0 := Lib.hid (show Below Z9.heap.size Z9 Z9.drew from (Below.refl _ _).drew)
        generalize Z9.drew = Y0 at HB0 hHeld ⊢
        refine wpAnyH_take (i := 0) (v := ?_) rfl (by kernel_rfl) (by kernel_rfl) (by kernel_rfl) (fun _ _ _ h => h) (Or.inl ⟨by kernel_rfl, ?_⟩) (by with_reducible assumption) ?_
        rotate_left
        · intro wz hSw
          (try dsimp only at hSw)
          go_simp
          (try with_reducible rfl)
        show wpAnyH _ _ _ _ _ _ _ (Act.put _ (some 53) _) _
        (try simp only [Act.put, List.setIfInBounds_toArray, List.set_cons_zero, List.set_cons_succ])
        refine wpAnyH_take (i := 1) (v := ?_) rfl (by kernel_rfl) (by kernel_rfl) (by kernel_rfl) (fun _ _ _ h => h) (Or.inl ⟨by kernel_rfl, ?_⟩) (by with_reducible assumption) ?_
        rotate_left
        · intro wz hSw
          (try dsimp only at hSw)
          go_simp
          (try with_reducible rfl)
        show wpAnyH _ _ _ _ _ _ _ (Act.put _ (some 54) _) _
        (try simp only [Act.put, List.setIfInBounds_toArray, List.set_cons_zero, List.set_cons_succ])
        refine wpAnyH_take (i := 2) (v := ?_) rfl (by kernel_rfl) (by kernel_rfl) (by kernel_rfl) (fun _ _ _ h => h) (Or.inl ⟨by kernel_rfl, ?_⟩) (by with_reducible assumption) ?_
        rotate_left
        · intro wz hSw
          (try dsimp only at hSw)
          go_simp
          (try with_reducible rfl)
        show wpAnyH _ _ _ _ _ _ _ (Act.put _ (some 55) _) _
        (try simp only [Act.put, List.setIfInBounds_toArray, List.set_cons_zero, List.set_cons_succ])
        refine wpAnyH_take (i := 3) (v := .slice a0 kj cj) rfl (by kernel_rfl) (by kernel_rfl) (by kernel_rfl) (fun _ _ _ h => h) (Or.inl ⟨by kernel_rfl, ?_⟩) (by with_reducible assumption) ?_
        · intro wz hSw
          (try dsimp only at hSw)
          have y0 := (hSw.cell (p := ⟨X, 0, none⟩) lx).trans ((hp_cell (i := 0) H9.out.2.2).trans rfl)
          go_simp
          (try with_reducible rfl)
        show wpAnyH _ _ _ _ _ _ _ (Act.put _ (some 56) _) _
        (try simp only [Act.put, List.setIfInBounds_toArray, List.set_cons_zero, List.set_cons_succ])
        refine wpAnyH_take (i := 5) (v := ?_) rfl (by kernel_rfl) (by kernel_rfl) (by kernel_rfl) (fun _ _ _ h => h) (Or.inl ⟨by kernel_rfl, ?_⟩) (by with_reducible assumption) ?_
        rotate_left
        · intro wz hSw
          (try dsimp only at hSw)
          go_simp
          (try with_reducible rfl)
        show wpAnyH _ _ _ _ _ _ _ (Act.put _ (some 58) _) _
        (try simp only [Act.put, List.setIfInBounds_toArray, List.set_cons_zero, List.set_cons_succ])
        refine wpAnyH_take (i := 6) (v := ?_) rfl (by kernel_rfl) (by kernel_rfl) (by kernel_rfl) (fun _ _ _ h => h) (Or.inl ⟨by kernel_rfl, ?_⟩) (by with_reducible assumption) ?_
        rotate_left
        · intro wz hSw
          (try dsimp only at hSw)
          go_simp
          (try with_reducible rfl)
        show wpAnyH _ _ _ _ _ _ _ (Act.put _ (some 59) _) _
        (try simp only [Act.put, List.setIfInBounds_toArray, List.set_cons_zero, List.set_cons_succ])
        refine wpAnyH_take (i := 7) (v := ?_) rfl (by kernel_rfl) (by kernel_rfl) (by kernel_rfl) (fun _ _ _ h => h) (Or.inl ⟨by kernel_rfl, ?_⟩) (by with_reducible assumption) ?_
        rotate_left
        · intro wz hSw
          (try dsimp only at hSw)
          go_simp
          (try with_reducible rfl)
        show wpAnyH _ _ _ _ _ _ _ (Act.put _ (some 60) _) _
        (try simp only [Act.put, List.setIfInBounds_toArray, List.set_cons_zero, List.set_cons_succ])
        refine wpAnyH_take (i := 8) (v := .slice a0 kj cj) rfl (by kernel_rfl) (by kernel_rfl) (by kernel_rfl) (fun _ _ _ h => h) (Or.inl ⟨by kernel_rfl, ?_⟩) (by with_reducible assumption) ?_
        · intro wz hSw
          (try dsimp only at hSw)
          have y0 := (hSw.cell (p := ⟨X, 0, none⟩) lx).trans ((hp_cell (i := 0) H9.out.2.2).trans rfl)
          go_simp
          (try with_reducible rfl)
        show wpAnyH _ _ _ _ _ _ _ (Act.put _ (some 61) _) _
        (try simp only [Act.put, List.setIfInBounds_toArray, List.set_cons_zero, List.set_cons_succ])
        refine wpAnyH_ready (rs := [4, 10, 11]) (by kernel_rfl) (by simp) ?_
        refine AllReadyH.cons rfl (fun K hK => ?_) (AllReadyH.cons rfl (fun K hK => ?_) (AllReadyH.cons rfl (fun K hK => ?_) AllReadyH.nil))
        · clear hHeld
          go_simp
          go_at_call 55
          refine (HGe.out _ F8 q8 qs8 (H9.out.1.below HB0.out)).mono ?_
          rintro e Y4 ⟨rfl, hb⟩
          have HB4 := Lib.hid (HB0.out.trans (hb.mono HB0.out.size))
          clear hb
          go_wp2_with fail
          refine hK.out _ _ ?_ (fun hHeld => ?_)
          · exact HB4.out
          clear hK K
          (try simp only [Act.put, List.setIfInBounds_toArray, List.set_cons_zero, List.set_cons_succ])
          refine wpAnyH_ready (rs := [9, 10, 11]) (by kernel_rfl) (by simp) ?_
          refine AllReadyH.cons rfl (fun K hK => ?_) (AllReadyH.cons rfl (fun K hK => ?_) (AllReadyH.cons rfl (fun K hK => ?_) AllReadyH.nil))
          · clear hHeld
            go_simp
            go_at_call 56
            refine (HRge.out _ R9 (H9.out.2.1.below HB4.out)).mono ?_
            rintro e Y9 ⟨rfl, hb⟩
            have HB9 := Lib.hid (HB4.out.trans (hb.mono HB4.out.size))
            clear hb
            go_wp2_with fail
            refine hK.out _ _ ?_ (fun hHeld => ?_)
            · exact HB9.out
            clear hK K
            (try simp only [Act.put, List.setIfInBounds_toArray, List.set_cons_zero, List.set_cons_succ])
            refine wpAnyH_ready (rs := [10, 11]) (by kernel_rfl) (by simp) ?_
            refine AllReadyH.cons rfl (fun K hK => ?_) (AllReadyH.cons rfl (fun K hK => ?_) AllReadyH.nil)
            · clear hHeld
              go_simp
              have HB10 := Lib.hid (HB9.out.alloc HB9.out.size (.cells #[.bool false, .int .i64 0, .int .i64 0, .int .i64 0, .bool false] 101))
              have F10_n := Lib.hid (heap_alloc_new Y9 (.cells #[.bool false, .int .i64 0, .int .i64 0, .int .i64 0, .bool false] 101))
              obtain ⟨X10, eX10⟩ : ∃ y, y = Y9.heap.size := ⟨_, rfl⟩
              go_wp2_with fail
              refine hK.out _ _ ?_ (fun hHeld => ?_)
              · exact HB10.out
              clear hK K
              (try simp only [Act.put, List.setIfInBounds_toArray, List.set_cons_zero, List.set_cons_succ])
              rw [← eX10] at F10_n ⊢
              have L10 := Lib.hid (show Z9.heap.size ≤ X10 from by rw [eX10]; exact HB9.out.size)
              clear eX10
              generalize Y9.alloc (.cells #[.bool false, .int .i64 0, .int .i64 0, .int .i64 0, .bool false] 101) = Y10 at HB10 F10_n hHeld ⊢
              refine wpAnyH_ready (rs := [11]) (by kernel_rfl) (by simp) ?_
              refine AllReadyH.cons rfl (fun K hK => ?_) AllReadyH.nil
              clear hHeld
              go_simp
              have HB11 := Lib.hid (HB10.out.alloc HB10.out.size (.cells #[.bool false, .int .i64 0, .int .i64 0, .int .i64 0, .bool false] 103))
              have F10_11 := Lib.hid ((heap_alloc_old _ (.cells #[.bool false, .int .i64 0, .int .i64 0, .int .i64 0, .bool false] 103) (hp_lt F10_n.out)).trans F10_n.out)
              have F11_n := Lib.hid (heap_alloc_new Y10 (.cells #[.bool false, .int .i64 0, .int .i64 0, .int .i64 0, .bool false] 103))
              obtain ⟨X11, eX11⟩ : ∃ y, y = Y10.heap.size := ⟨_, rfl⟩
              go_wp2_with fail
              refine hK.out _ _ ?_ (fun hHeld => ?_)
              · exact HB11.out
              clear hK K
              (try simp only [Act.put, List.setIfInBounds_toArray, List.set_cons_zero, List.set_cons_succ])
              rw [← eX11] at F11_n ⊢
              have L11 := Lib.hid (show Z9.heap.size ≤ X11 from by rw [eX11]; exact HB10.out.size)
              have NE := Lib.hid (show X11 ≠ X10 from by rw [eX11]; exact fun e => Nat.lt_irrefl _ (e ▸ hp_lt F10_n.out))
              clear eX11
              generalize Y10.alloc (.cells #[.bool false, .int .i64 0, .int .i64 0, .int .i64 0, .bool false] 103) = Y11 at HB11 F10_11 F11_n hHeld ⊢
              refine wpAnyH_ready (rs := [12]) (by kernel_rfl) (by simp) ?_
              refine AllReadyH.cons rfl (fun K hK => ?_) AllReadyH.nil
              clear hHeld
              have c0 := (hp_cell (i := 0) F10_11.out).trans rfl
              have g0 := hp_free (i := 0) F10_11.out
              have c1 := (hp_cell (i := 1) F10_11.out).trans rfl
              have g1 := hp_free (i := 1) F10_11.out
              have c2 := (hp_cell (i := 2) F10_11.out).trans rfl
              have g2 := hp_free (i := 2) F10_11.out
              have c3 := (hp_cell (i := 3) F10_11.out).trans rfl
              have g3 := hp_free (i := 3) F10_11.out
              have c4 := (hp_cell (i := 4) F10_11.out).trans rfl
              have g4 := hp_free (i := 4) F10_11.out
              go_simp
              clear c0 c1 c2 c3 c4 g0 g1 g2 g3 g4
              have HB12 := Lib.hid (show Below Z9.heap.size Z9 (((((Y11.setCell ⟨X10, 0, none⟩ (.bool vh)).setCell ⟨X10, 1, none⟩ (.int .i64 vn)).setCell ⟨X10, 2, none⟩ (.int .i64 vx)).setCell ⟨X10, 3, none⟩ (.int .i64 va)).setCell ⟨X10, 4, none⟩ (.bool vm)) from (((((HB11.out.setCell L10.out _).setCell L10.out _).setCell L10.out _).setCell L10.out _).setCell L10.out _))
              have S10 := Lib.hid (set5 (.bool vh) (.int .i64 vn) (.int .i64 vx) (.int .i64 va) (.bool vm) F10_11.out (rfl : (((((Y11.setCell ⟨X10, 0, none⟩ (.bool vh)).setCell ⟨X10, 1, none⟩ (.int .i64 vn)).setCell ⟨X10, 2, none⟩ (.int .i64 vx)).setCell ⟨X10, 3, none⟩ (.int .i64 va)).setCell ⟨X10, 4, none⟩ (.bool vm)) = _))
              have O11_12 := Lib.hid ((set5_other (w := Y11) (g := X10) (k := X11) (.bool vh) (.int .i64 vn) (.int .i64 vx) (.int .i64 va) (.bool vm) (by have := NE.out; first | exact this | exact Ne.symm this)).trans F11_n.out)
              go_wp2_with fail
              refine hK.out _ _ ?_ (fun hHeld => ?_)
              · exact HB12.out
              clear hK K
              (try simp only [Act.put, List.setIfInBounds_toArray, List.set_cons_zero, List.set_cons_succ])
              generalize ((((Y11.setCell ⟨X10, 0, none⟩ (.bool vh)).setCell ⟨X10, 1, none⟩ (.int .i64 vn)).setCell ⟨X10, 2, none⟩ (.int .i64 vx)).setCell ⟨X10, 3, none⟩ (.int .i64 va)).setCell ⟨X10, 4, none⟩ (.bool vm) = Y12 at HB12 S10 O11_12 hHeld ⊢
              refine wpAnyH_ready (rs := [13]) (by kernel_rfl) (by simp) ?_
              refine AllReadyH.cons rfl (fun K hK => ?_) AllReadyH.nil
              clear hHeld
              have c0 := (hp_cell (i := 0) O11_12.out).trans rfl
              have g0 := hp_free (i := 0) O11_12.out
              have c1 := (hp_cell (i := 1) O11_12.out).trans rfl
              have g1 := hp_free (i := 1) O11_12.out
              have c2 := (hp_cell (i := 2) O11_12.out).trans rfl
              have g2 := hp_free (i := 2) O11_12.out
              have c3 := (hp_cell (i := 3) O11_12.out).trans rfl
              have g3 := hp_free (i := 3) O11_12.out
              have c4 := (hp_cell (i := 4) O11_12.out).trans rfl
              have g4 := hp_free (i := 4) O11_12.out
              go_simp
              clear c0 c1 c2 c3 c4 g0 g1 g2 g3 g4
              have HB13 := Lib.hid (show Below Z9.heap.size Z9 (((((Y12.setCell ⟨X11, 0, none⟩ (.bool vh)).setCell ⟨X11, 1, none⟩ (.int .i64 vn)).setCell ⟨X11, 2, none⟩ (.int .i64 vx)).setCell ⟨X11, 3, none⟩ (.int .i64 va)).setCell ⟨X11, 4, none⟩ (.bool vm)) from (((((HB12.out.setCell L11.out _).setCell L11.out _).setCell L11.out _).setCell L11.out _).setCell L11.out _))
              have S11 := Lib.hid (set5 (.bool vh) (.int .i64 vn) (.int .i64 vx) (.int .i64 va) (.bool vm) O11_12.out (rfl : (((((Y12.setCell ⟨X11, 0, none⟩ (.bool vh)).setCell ⟨X11, 1, none⟩ (.int .i64 vn)).setCell ⟨X11, 2, none⟩ (.int .i64 vx)).setCell ⟨X11, 3, none⟩ (.int .i64 va)).setCell ⟨X11, 4, none⟩ (.bool vm)) = _))
              have O10_13 := Lib.hid ((set5_other (w := Y12) (g := X11) (k := X10) (.bool vh) (.int .i64 vn) (.int .i64 vx) (.int .i64 va) (.bool vm) (by have := NE.out; first | exact this | exact Ne.symm this)).trans S10.out)
              go_wp2_with fail
              refine hK.out _ _ ?_ (fun hHeld => ?_)
              · exact HB13.out
              clear hK K
              (try simp only [Act.put, List.setIfInBounds_toArray, List.set_cons_zero, List.set_cons_succ])
              generalize ((((Y12.setCell ⟨X11, 0, none⟩ (.bool vh)).setCell ⟨X11, 1, none⟩ (.int .i64 vn)).setCell ⟨X11, 2, none⟩ (.int .i64 vx)).setCell ⟨X11, 3, none⟩ (.int .i64 va)).setCell ⟨X11, 4, none⟩ (.bool vm) = Y13 at HB13 O10_13 S11 hHeld ⊢
              refine wpAnyH_done (by kernel_rfl) ?_ _
              go_wp2_with fail
              go_meet
              case rel => exact ⟨X10, X11, rfl, rfl, O10_13.out, S11.out, HB13.out⟩
            · clear hHeld
              go_simp
              have HB11 := Lib.hid (HB9.out.alloc HB9.out.size (.cells #[.bool false, .int .i64 0, .int .i64 0, .int .i64 0, .bool false] 103))
              have F11_n := Lib.hid (heap_alloc_new Y9 (.cells #[.bool false, .int .i64 0, .int .i64 0, .int .i64 0, .bool false] 103))
              obtain ⟨X11, eX11⟩ : ∃ y, y = Y9.heap.size := ⟨_, rfl⟩
              go_wp2_with fail
              refine hK.out _ _ ?_ (fun hHeld => ?_)
              · exact HB11.out
              clear hK K
              (try simp only [Act.put, List.setIfInBounds_toArray, List.set_cons_zero, List.set_cons_succ])
              rw [← eX11] at F11_n ⊢
              have L11 := Lib.hid (show Z9.heap.size ≤ X11 from by rw [eX11]; exact HB9.out.size)
              clear eX11
              generalize Y9.alloc (.cells #[.bool false, .int .i64 0, .int .i64 0, .int .i64 0, .bool false] 103) = Y11 at HB11 F11_n hHeld ⊢
              refine wpAnyH_ready (rs := [10]) (by kernel_rfl) (by simp) ?_
              refine AllReadyH.cons rfl (fun K hK => ?_) AllReadyH.nil
              clear hHeld
              go_simp
              have HB10 := Lib.hid (HB11.out.alloc HB11.out.size (.cells #[.bool false, .int .i64 0, .int .i64 0, .int .i64 0, .bool false] 101))
              have F11_10 := Lib.hid ((heap_alloc_old _ (.cells #[.bool false, .int .i64 0, .int .i64 0, .int .i64 0, .bool false] 101) (hp_lt F11_n.out)).trans F11_n.out)
              have F10_n := Lib.hid (heap_alloc_new Y11 (.cells #[.bool false, .int .i64 0, .int .i64 0, .int .i64 0, .bool false] 101))
              obtain ⟨X10, eX10⟩ : ∃ y, y = Y11.heap.size := ⟨_, rfl⟩
              go_wp2_with fail
              refine hK.out _ _ ?_ (fun hHeld => ?_)
              · exact HB10.out
              clear hK K
              (try simp only [Act.put, List.setIfInBounds_toArray, List.set_cons_zero, List.set_cons_succ])
              rw [← eX10] at F10_n ⊢
              have L10 := Lib.hid (show Z9.heap.size ≤ X10 from by rw [eX10]; exact HB11.out.size)
              have NE := Lib.hid (show X10 ≠ X11 from by rw [eX10]; exact fun e => Nat.lt_irrefl _ (e ▸ hp_lt F11_n.out))
              clear eX10
              generalize Y11.alloc (.cells #[.bool false, .int .i64 0, .int .i64 0, .int .i64 0, .bool false] 101) = Y10 at HB10 F10_n F11_10 hHeld ⊢
              refine wpAnyH_ready (rs := [12]) (by kernel_rfl) (by simp) ?_
              refine AllReadyH.cons rfl (fun K hK => ?_) AllReadyH.nil
              clear hHeld
              have c0 := (hp_cell (i := 0) F10_n.out).trans rfl
              have g0 := hp_free (i := 0) F10_n.out
              have c1 := (hp_cell (i := 1) F10_n.out).trans rfl
              have g1 := hp_free (i := 1) F10_n.out
              have c2 := (hp_cell (i := 2) F10_n.out).trans rfl
              have g2 := hp_free (i := 2) F10_n.out
              have c3 := (hp_cell (i := 3) F10_n.out).trans rfl
              have g3 := hp_free (i := 3) F10_n.out
              have c4 := (hp_cell (i := 4) F10_n.out).trans rfl
              have g4 := hp_free (i := 4) F10_n.out
              go_simp
              clear c0 c1 c2 c3 c4 g0 g1 g2 g3 g4
              have HB12 := Lib.hid (show Below Z9.heap.size Z9 (((((Y10.setCell ⟨X10, 0, none⟩ (.bool vh)).setCell ⟨X10, 1, none⟩ (.int .i64 vn)).setCell ⟨X10, 2, none⟩ (.int .i64 vx)).setCell ⟨X10, 3, none⟩ (.int .i64 va)).setCell ⟨X10, 4, none⟩ (.bool vm)) from (((((HB10.out.setCell L10.out _).setCell L10.out _).setCell L10.out _).setCell L10.out _).setCell L10.out _))
              have S10 := Lib.hid (set5 (.bool vh) (.int .i64 vn) (.int .i64 vx) (.int .i64 va) (.bool vm) F10_n.out (rfl : (((((Y10.setCell ⟨X10, 0, none⟩ (.bool vh)).setCell ⟨X10, 1, none⟩ (.int .i64 vn)).setCell ⟨X10, 2, none⟩ (.int .i64 vx)).setCell ⟨X10, 3, none⟩ (.int .i64 va)).setCell ⟨X10, 4, none⟩ (.bool vm)) = _))
              have O11_12 := Lib.hid ((set5_other (w := Y10) (g := X10) (k := X11) (.bool vh) (.int .i64 vn) (.int .i64 vx) (.int .i64 va) (.bool vm) (by have := NE.out; first | exact this | exact Ne.symm this)).trans F11_10.out)
              go_wp2_with fail
              refine hK.out _ _ ?_ (fun hHeld => ?_)
              · exact HB12.out
              clear hK K
              (try simp only [Act.put, List.setIfInBounds_toArray, List.set_cons_zero, List.set_cons_succ])
              generalize ((((Y10.setCell ⟨X10, 0, none⟩ (.bool vh)).setCell ⟨X10, 1, none⟩ (.int .i64 vn)).setCell ⟨X10, 2, none⟩ (.int .i64 vx)).setCell ⟨X10, 3, none⟩ (.int .i64 va)).setCell ⟨X10, 4, none⟩ (.bool vm) = Y12 at HB12 S10 O11_12 hHeld ⊢
              refine wpAnyH_ready (rs := [13]) (by kernel_rfl) (by simp) ?_
              refine AllReadyH.cons rfl (fun K hK => ?_) AllReadyH.nil
              clear hHeld
              have c0 := (hp_cell (i := 0) O11_12.out).trans rfl
              have g0 := hp_free (i := 0) O11_12.out
              have c1 := (hp_cell (i := 1) O11_12.out).trans rfl
              have g1 := hp_free (i := 1) O11_12.out
              have c2 := (hp_cell (i := 2) O11_12.out).trans rfl
              have g2 := hp_free (i := 2) O11_12.out
              have c3 := (hp_cell (i := 3) O11_12.out).trans rfl
              have g3 := hp_free (i := 3) O11_12.out
              have c4 := (hp_cell (i := 4) O11_12.out).trans rfl
              have g4 := hp_free (i := 4) O11_12.out
              go_simp
              clear c0 c1 c2 c3 c4 g0 g1 g2 g3 g4
              have HB13 := Lib.hid (show Below Z9.heap.size Z9 (((((Y12.setCell ⟨X11, 0, none⟩ (.bool vh)).setCell ⟨X11, 1, none⟩ (.int .i64 vn)).setCell ⟨X11, 2, none⟩ (.int .i64 vx)).setCell ⟨X11, 3, none⟩ (.int .i64 va)).setCell ⟨X11, 4, none⟩ (.bool vm)) from (((((HB12.out.setCell L11.out _).setCell L11.out _).setCell L11.out _).setCell L11.out _).setCell L11.out _))
              have S11 := Lib.hid (set5 (.bool vh) (.int .i64 vn) (.int .i64 vx) (.int .i64 va) (.bool vm) O11_12.out (rfl : (((((Y12.setCell ⟨X11, 0, none⟩ (.bool vh)).setCell ⟨X11, 1, none⟩ (.int .i64 vn)).setCell ⟨X11, 2, none⟩ (.int .i64 vx)).setCell ⟨X11, 3, none⟩ (.int .i64 va)).setCell ⟨X11, 4, none⟩ (.bool vm)) = _))
              have O10_13 := Lib.hid ((set5_other (w := Y12) (g := X11) (k := X10) (.bool vh) (.int .i64 vn) (.int .i64 vx) (.int .i64 va) (.bool vm) (by have := NE.out; first | exact this | exact Ne.symm this)).trans S10.out)
              go_wp2_with fail
              refine hK.out _ _ ?_ (fun hHeld => ?_)
              · exact HB13.out
              clear hK K
              (try simp only [Act.put, List.setIfInBounds_toArray, List.set_cons_zero, List.set_cons_succ])
              generalize ((((Y12.setCell ⟨X11, 0, none⟩ (.bool vh)).setCell ⟨X11, 1, none⟩ (.int .i64 vn)).setCell ⟨X11, 2, none⟩ (.int .i64 vx)).setCell ⟨X11, 3, none⟩ (.int .i64 va)).setCell ⟨X11, 4, none⟩ (.bool vm) = Y13 at HB13 O10_13 S11 hHeld ⊢
              refine wpAnyH_done (by kernel_rfl) ?_ _
              go_wp2_with fail
              go_meet
              case rel => exact ⟨X10, X11, rfl, rfl, O10_13.out, S11.out, HB13.out⟩
          · clear hHeld
            go_simp
            have HB10 := Lib.hid (HB4.out.alloc HB4.out.size (.cells #[.bool false, .int .i64 0, .int .i64 0, .int .i64 0, .bool false] 101))
            have F10_n := Lib.hid (heap_alloc_new Y4 (.cells #[.bool false, .int .i64 0, .int .i64 0, .int .i64 0, .bool false] 101))
            obtain ⟨X10, eX10⟩ : ∃ y, y = Y4.heap.size := ⟨_, rfl⟩
            go_wp2_with fail
            refine hK.out _ _ ?_ (fun hHeld => ?_)
            · exact HB10.out
            clear hK K
            (try simp only [Act.put, List.setIfInBounds_toArray, List.set_cons_zero, List.set_cons_succ])
            rw [← eX10] at F10_n ⊢
            have L10 := Lib.hid (show Z9.heap.size ≤ X10 from by rw [eX10]; exact HB4.out.size)
            clear eX10
            generalize Y4.alloc (.cells #[.bool false, .int .i64 0, .int .i64 0, .int .i64 0, .bool false] 101) = Y10 at HB10 F10_n hHeld ⊢
            refine wpAnyH_ready (rs := [9, 11]) (by kernel_rfl) (by simp) ?_
            refine AllReadyH.cons rfl (fun K hK => ?_) (AllReadyH.cons rfl (fun K hK => ?_) AllReadyH.nil)
            · clear hHeld
              go_simp
              go_at_call 56
              refine (HRge.out _ R9 (H9.out.2.1.below HB10.out)).mono ?_
              rintro e Y9 ⟨rfl, hb⟩
              have HB9 := Lib.hid (HB10.out.trans (hb.mono HB10.out.size))
              have F10_9 := Lib.hid ((hb.block _ (hp_lt F10_n.out)).trans F10_n.out)
              clear hb
              go_wp2_with fail
              refine hK.out _ _ ?_ (fun hHeld => ?_)
              · exact HB9.out
              clear hK K
              (try simp only [Act.put, List.setIfInBounds_toArray, List.set_cons_zero, List.set_cons_succ])
              refine wpAnyH_ready (rs := [11]) (by kernel_rfl) (by simp) ?_
              refine AllReadyH.cons rfl (fun K hK => ?_) AllReadyH.nil
              clear hHeld
              go_simp
              have HB11 := Lib.hid (HB9.out.alloc HB9.out.size (.cells #[.bool false, .int .i64 0, .int .i64 0, .int .i64 0, .bool false] 103))
              have F10_11 := Lib.hid ((heap_alloc_old _ (.cells #[.bool false, .int .i64 0, .int .i64 0, .int .i64 0, .bool false] 103) (hp_lt F10_9.out)).trans F10_9.out)
              have F11_n := Lib.hid (heap_alloc_new Y9 (.cells #[.bool false, .int .i64 0, .int .i64 0, .int .i64 0, .bool false] 103))
              obtain ⟨X11, eX11⟩ : ∃ y, y = Y9.heap.size := ⟨_, rfl⟩
              go_wp2_with fail
              refine hK.out _ _ ?_ (fun hHeld => ?_)
              · exact HB11.out
              clear hK K
              (try simp only [Act.put, List.setIfInBounds_toArray, List.set_cons_zero, List.set_cons_succ])
              rw [← eX11] at F11_n ⊢
              have L11 := Lib.hid (show Z9.heap.size ≤ X11 from by rw [eX11]; exact HB9.out.size)
              have NE := Lib.hid (show X11 ≠ X10 from by rw [eX11]; exact fun e => Nat.lt_irrefl _ (e ▸ hp_lt F10_9.out))
              clear eX11
              generalize Y9.alloc (.cells #[.bool false, .int .i64 0, .int .i64 0, .int .i64 0, .bool false] 103) = Y11 at HB11 F10_11 F11_n hHeld ⊢
              refine wpAnyH_ready (rs := [12]) (by kernel_rfl) (by simp) ?_
              refine AllReadyH.cons rfl (fun K hK => ?_) AllReadyH.nil
              clear hHeld
              have c0 := (hp_cell (i := 0) F10_11.out).trans rfl
              have g0 := hp_free (i := 0) F10_11.out
              have c1 := (hp_cell (i := 1) F10_11.out).trans rfl
              have g1 := hp_free (i := 1) F10_11.out
              have c2 := (hp_cell (i := 2) F10_11.out).trans rfl
              have g2 := hp_free (i := 2) F10_11.out
              have c3 := (hp_cell (i := 3) F10_11.out).trans rfl
              have g3 := hp_free (i := 3) F10_11.out
              have c4 := (hp_cell (i := 4) F10_11.out).trans rfl
              have g4 := hp_free (i := 4) F10_11.out
              go_simp
              clear c0 c1 c2 c3 c4 g0 g1 g2 g3 g4
              have HB12 := Lib.hid (show Below Z9.heap.size Z9 (((((Y11.setCell ⟨X10, 0, none⟩ (.bool vh)).setCell ⟨X10, 1, none⟩ (.int .i64 vn)).setCell ⟨X10, 2, none⟩ (.int .i64 vx)).setCell ⟨X10, 3, none⟩ (.int .i64 va)).setCell ⟨X10, 4, none⟩ (.bool vm)) from (((((HB11.out.setCell L10.out _).setCell L10.out _).setCell L10.out _).setCell L10.out _).setCell L10.out _))
              have S10 := Lib.hid (set5 (.bool vh) (.int .i64 vn) (.int .i64 vx) (.int .i64 va) (.bool vm) F10_11.out (rfl : (((((Y11.setCell ⟨X10, 0, none⟩ (.bool vh)).setCell ⟨X10, 1, none⟩ (.int .i64 vn)).setCell ⟨X10, 2, none⟩ (.int .i64 vx)).setCell ⟨X10, 3, none⟩ (.int .i64 va)).setCell ⟨X10, 4, none⟩ (.bool vm)) = _))
              have O11_12 := Lib.hid ((set5_other (w := Y11) (g := X10) (k := X11) (.bool vh) (.int .i64 vn) (.int .i64 vx) (.int .i64 va) (.bool vm) (by have := NE.out; first | exact this | exact Ne.symm this)).trans F11_n.out)
              go_wp2_with fail
              refine hK.out _ _ ?_ (fun hHeld => ?_)
              · exact HB12.out
              clear hK K
              (try simp only [Act.put, List.setIfInBounds_toArray, List.set_cons_zero, List.set_cons_succ])
              generalize ((((Y11.setCell ⟨X10, 0, none⟩ (.bool vh)).setCell ⟨X10, 1, none⟩ (.int .i64 vn)).setCell ⟨X10, 2, none⟩ (.int .i64 vx)).setCell ⟨X10, 3, none⟩ (.int .i64 va)).setCell ⟨X10, 4, none⟩ (.bool vm) = Y12 at HB12 S10 O11_12 hHeld ⊢
              refine wpAnyH_ready (rs := [13]) (by kernel_rfl) (by simp) ?_
              refine AllReadyH.cons rfl (fun K hK => ?_) AllReadyH.nil
              clear hHeld
              have c0 := (hp_cell (i := 0) O11_12.out).trans rfl
              have g0 := hp_free (i := 0) O11_12.out
              have c1 := (hp_cell (i := 1) O11_12.out).trans rfl
              have g1 := hp_free (i := 1) O11_12.out
              have c2 := (hp_cell (i := 2) O11_12.out).trans rfl
              have g2 := hp_free (i := 2) O11_12.out
              have c3 := (hp_cell (i := 3) O11_12.out).trans rfl
              have g3 := hp_free (i := 3) O11_12.out
              have c4 := (hp_cell (i := 4) O11_12.out).trans rfl
              have g4 := hp_free (i := 4) O11_12.out
              go_simp
              clear c0 c1 c2 c3 c4 g0 g1 g2 g3 g4
              have HB13 := Lib.hid (show Below Z9.heap.size Z9 (((((Y12.setCell ⟨X11, 0, none⟩ (.bool vh)).setCell ⟨X11, 1, none⟩ (.int .i64 vn)).setCell ⟨X11, 2, none⟩ (.int .i64 vx)).setCell ⟨X11, 3, none⟩ (.int .i64 va)).setCell ⟨X11, 4, none⟩ (.bool vm)) from (((((HB12.out.setCell L11.out _).setCell L11.out _).setCell L11.out _).setCell L11.out _).setCell L11.out _))
              have S11 := Lib.hid (set5 (.bool vh) (.int .i64 vn) (.int .i64 vx) (.int .i64 va) (.bool vm) O11_12.out (rfl : (((((Y12.setCell ⟨X11, 0, none⟩ (.bool vh)).setCell ⟨X11, 1, none⟩ (.int .i64 vn)).setCell ⟨X11, 2, none⟩ (.int .i64 vx)).setCell ⟨X11, 3, none⟩ (.int .i64 va)).setCell ⟨X11, 4, none⟩ (.bool vm)) = _))
              have O10_13 := Lib.hid ((set5_other (w := Y12) (g := X11) (k := X10) (.bool vh) (.int .i64 vn) (.int .i64 vx) (.int .i64 va) (.bool vm) (by have := NE.out; first | exact this | exact Ne.symm this)).trans S10.out)
              go_wp2_with fail
              refine hK.out _ _ ?_ (fun hHeld => ?_)
              · exact HB13.out
              clear hK K
              (try simp only [Act.put, List.setIfInBounds_toArray, List.set_cons_zero, List.set_cons_succ])
              generalize ((((Y12.setCell ⟨X11, 0, none⟩ (.bool vh)).setCell ⟨X11, 1, none⟩ (.int .i64 vn)).setCell ⟨X11, 2, none⟩ (.int .i64 vx)).setCell ⟨X11, 3, none⟩ (.int .i64 va)).setCell ⟨X11, 4, none⟩ (.bool vm) = Y13 at HB13 O10_13 S11 hHeld ⊢
              refine wpAnyH_done (by kernel_rfl) ?_ _
              go_wp2_with fail
              go_meet
              case rel => exact ⟨X10, X11, rfl, rfl, O10_13.out, S11.out, HB13.out⟩
            · clear hHeld
              go_simp
              have HB11 := Lib.hid (HB10.out.alloc HB10.out.size (.cells #[.bool false, .int .i64 0, .int .i64 0, .int .i64 0, .bool false] 103))
              have F10_11 := Lib.hid ((heap_alloc_old _ (.cells #[.bool false, .int .i64 0, .int .i64 0, .int .i64 0, .bool false] 103) (hp_lt F10_n.out)).trans F10_n.out)
              have F11_n := Lib.hid (heap_alloc_new Y10 (.cells #[.bool false, .int .i64 0, .int .i64 0, .int .i64 0, .bool false] 103))
              obtain ⟨X11, eX11⟩ : ∃ y, y = Y10.heap.size := ⟨_, rfl⟩
              go_wp2_with fail
              refine hK.out _ _ ?_ (fun hHeld => ?_)
              · exact HB11.out
              clear hK K
              (try simp only [Act.put, List.setIfInBounds_toArray, List.set_cons_zero, List.set_cons_succ])
              rw [← eX11] at F11_n ⊢
              have L11 := Lib.hid (show Z9.heap.size ≤ X11 from by rw [eX11]; exact HB10.out.size)
              have NE := Lib.hid (show X11 ≠ X10 from by rw [eX11]; exact fun e => Nat.lt_irrefl _ (e ▸ hp_lt F10_n.out))
              clear eX11
              generalize Y10.alloc (.cells #[.bool false, .int .i64 0, .int .i64 0, .int .i64 0, .bool false] 103) = Y11 at HB11 F10_11 F11_n hHeld ⊢
              refine wpAnyH_ready (rs := [9]) (by kernel_rfl) (by simp) ?_
              refine AllReadyH.cons rfl (fun K hK => ?_) AllReadyH.nil
              clear hHeld
              go_simp
              go_at_call 56
              refine (HRge.out _ R9 (H9.out.2.1.below HB11.out)).mono ?_
              rintro e Y9 ⟨rfl, hb⟩
              have HB9 := Lib.hid (HB11.out.trans (hb.mono HB11.out.size))
              have F10_9 := Lib.hid ((hb.block _ (hp_lt F10_11.out)).trans F10_11.out)
              have F11_9 := Lib.hid ((hb.block _ (hp_lt F11_n.out)).trans F11_n.out)
              clear hb
              go_wp2_with fail
              refine hK.out _ _ ?_ (fun hHeld => ?_)
              · exact HB9.out
              clear hK K
              (try simp only [Act.put, List.setIfInBounds_toArray, List.set_cons_zero, List.set_cons_succ])
              refine wpAnyH_ready (rs := [12]) (by kernel_rfl) (by simp) ?_
              refine AllReadyH.cons rfl (fun K hK => ?_) AllReadyH.nil
              clear hHeld
              have c0 := (hp_cell (i := 0) F10_9.out).trans rfl
              have g0 := hp_free (i := 0) F10_9.out
              have c1 := (hp_cell (i := 1) F10_9.out).trans rfl
              have g1 := hp_free (i := 1) F10_9.out
              have c2 := (hp_cell (i := 2) F10_9.out).trans rfl
              have g2 := hp_free (i := 2) F10_9.out
              have c3 := (hp_cell (i := 3) F10_9.out).trans rfl
              have g3 := hp_free (i := 3) F10_9.out
              have c4 := (hp_cell (i := 4) F10_9.out).trans rfl
              have g4 := hp_free (i := 4) F10_9.out
              go_simp
              clear c0 c1 c2 c3 c4 g0 g1 g2 g3 g4
              have HB12 := Lib.hid (show Below Z9.heap.size Z9 (((((Y9.setCell ⟨X10, 0, none⟩ (.bool vh)).setCell ⟨X10, 1, none⟩ (.int .i64 vn)).setCell ⟨X10, 2, none⟩ (.int .i64 vx)).setCell ⟨X10, 3, none⟩ (.int .i64 va)).setCell ⟨X10, 4, none⟩ (.bool vm)) from (((((HB9.out.setCell L10.out _).setCell L10.out _).setCell L10.out _).setCell L10.out _).setCell L10.out _))
              have S10 := Lib.hid (set5 (.bool vh) (.int .i64 vn) (.int .i64 vx) (.int .i64 va) (.bool vm) F10_9.out (rfl : (((((Y9.setCell ⟨X10, 0, none⟩ (.bool vh)).setCell ⟨X10, 1, none⟩ (.int .i64 vn)).setCell ⟨X10, 2, none⟩ (.int .i64 vx)).setCell ⟨X10, 3, none⟩ (.int .i64 va)).setCell ⟨X10, 4, none⟩ (.bool vm)) = _))
              have O11_12 := Lib.hid ((set5_other (w := Y9) (g := X10) (k := X11) (.bool vh) (.int .i64 vn) (.int .i64 vx) (.int .i64 va) (.bool vm) (by have := NE.out; first | exact this | exact Ne.symm this)).trans F11_9.out)
              go_wp2_with fail
              refine hK.out _ _ ?_ (fun hHeld => ?_)
              · exact HB12.out
              clear hK K
              (try simp only [Act.put, List.setIfInBounds_toArray, List.set_cons_zero, List.set_cons_succ])
              generalize ((((Y9.setCell ⟨X10, 0, none⟩ (.bool vh)).setCell ⟨X10, 1, none⟩ (.int .i64 vn)).setCell ⟨X10, 2, none⟩ (.int .i64 vx)).setCell ⟨X10, 3, none⟩ (.int .i64 va)).setCell ⟨X10, 4, none⟩ (.bool vm) = Y12 at HB12 S10 O11_12 hHeld ⊢
              refine wpAnyH_ready (rs := [13]) (by kernel_rfl) (by simp) ?_
              refine AllReadyH.cons rfl (fun K hK => ?_) AllReadyH.nil
              clear hHeld
              have c0 := (hp_cell (i := 0) O11_12.out).trans rfl
              have g0 := hp_free (i := 0) O11_12.out
              have c1 := (hp_cell (i := 1) O11_12.out).trans rfl
              have g1 := hp_free (i := 1) O11_12.out
              have c2 := (hp_cell (i := 2) O11_12.out).trans rfl
              have g2 := hp_free (i := 2) O11_12.out
              have c3 := (hp_cell (i := 3) O11_12.out).trans rfl
              have g3 := hp_free (i := 3) O11_12.out
              have c4 := (hp_cell (i := 4) O11_12.out).trans rfl
              have g4 := hp_free (i := 4) O11_12.out
              go_simp
              clear c0 c1 c2 c3 c4 g0 g1 g2 g3 g4
              have HB13 := Lib.hid (show Below Z9.heap.size Z9 (((((Y12.setCell ⟨X11, 0, none⟩ (.bool vh)).setCell ⟨X11, 1, none⟩ (.int .i64 vn)).setCell ⟨X11, 2, none⟩ (.int .i64 vx)).setCell ⟨X11, 3, none⟩ (.int .i64 va)).setCell ⟨X11, 4, none⟩ (.bool vm)) from (((((HB12.out.setCell L11.out _).setCell L11.out _).setCell L11.out _).setCell L11.out _).setCell L11.out _))
              have S11 := Lib.hid (set5 (.bool vh) (.int .i64 vn) (.int .i64 vx) (.int .i64 va) (.bool vm) O11_12.out (rfl : (((((Y12.setCell ⟨X11, 0, none⟩ (.bool vh)).setCell ⟨X11, 1, none⟩ (.int .i64 vn)).setCell ⟨X11, 2, none⟩ (.int .i64 vx)).setCell ⟨X11, 3, none⟩ (.int .i64 va)).setCell ⟨X11, 4, none⟩ (.bool vm)) = _))
              have O10_13 := Lib.hid ((set5_other (w := Y12) (g := X11) (k := X10) (.bool vh) (.int .i64 vn) (.int .i64 vx) (.int .i64 va) (.bool vm) (by have := NE.out; first | exact this | exact Ne.symm this)).trans S10.out)
              go_wp2_with fail
              refine hK.out _ _ ?_ (fun hHeld => ?_)
              · exact HB13.out
              clear hK K
              (try simp only [Act.put, List.setIfInBounds_toArray, List.set_cons_zero, List.set_cons_succ])
              generalize ((((Y12.setCell ⟨X11, 0, none⟩ (.bool vh)).setCell ⟨X11, 1, none⟩ (.int .i64 vn)).setCell ⟨X11, 2, none⟩ (.int .i64 vx)).setCell ⟨X11, 3, none⟩ (.int .i64 va)).setCell ⟨X11, 4, none⟩ (.bool vm) = Y13 at HB13 O10_13 S11 hHeld ⊢
              refine wpAnyH_done (by kernel_rfl) ?_ _
              go_wp2_with fail
              go_meet
              case rel => exact ⟨X10, X11, rfl, rfl, O10_13.out, S11.out, HB13.out⟩
          · clear hHeld
            go_simp
            have HB11 := Lib.hid (HB4.out.alloc HB4.out.size (.cells #[.bool false, .int .i64 0, .int .i64 0, .int .i64 0, .bool false] 103))
            have F11_n := Lib.hid (heap_alloc_new Y4 (.cells #[.bool false, .int .i64 0, .int .i64 0, .int .i64 0, .bool false] 103))
            obtain ⟨X11, eX11⟩ : ∃ y, y = Y4.heap.size := ⟨_, rfl⟩
            go_wp2_with fail
            refine hK.out _ _ ?_ (fun hHeld => ?_)
            · exact HB11.out
            clear hK K
            (try simp only [Act.put, List.setIfInBounds_toArray, List.set_cons_zero, List.set_cons_succ])
            rw [← eX11] at F11_n ⊢
            have L11 := Lib.hid (show Z9.heap.size ≤ X11 from by rw [eX11]; exact HB4.out.size)
            clear eX11
            generalize Y4.alloc (.cells #[.bool false, .int .i64 0, .int .i64 0, .int .i64 0, .bool false] 103) = Y11 at HB11 F11_n hHeld ⊢
            refine wpAnyH_ready (rs := [9, 10]) (by kernel_rfl) (by simp) ?_
            refine AllReadyH.cons rfl (fun K hK => ?_) (AllReadyH.cons rfl (fun K hK => ?_) AllReadyH.nil)
            · clear hHeld
              go_simp
              go_at_call 56
              refine (HRge.out _ R9 (H9.out.2.1.below HB11.out)).mono ?_
              rintro e Y9 ⟨rfl, hb⟩
              have HB9 := Lib.hid (HB11.out.trans (hb.mono HB11.out.size))
              have F11_9 := Lib.hid ((hb.block _ (hp_lt F11_n.out)).trans F11_n.out)
              clear hb
              go_wp2_with fail
              refine hK.out _ _ ?_ (fun hHeld => ?_)
              · exact HB9.out
              clear hK K
              (try simp only [Act.put, List.setIfInBounds_toArray, List.set_cons_zero, List.set_cons_succ])
              refine wpAnyH_ready (rs := [10]) (by kernel_rfl) (by simp) ?_
              refine AllReadyH.cons rfl (fun K hK => ?_) AllReadyH.nil
              clear hHeld
              go_simp
              have HB10 := Lib.hid (HB9.out.alloc HB9.out.size (.cells #[.bool false, .int .i64 0, .int .i64 0, .int .i64 0, .bool false] 101))
              have F11_10 := Lib.hid ((heap_alloc_old _ (.cells #[.bool false, .int .i64 0, .int .i64 0, .int .i64 0, .bool false] 101) (hp_lt F11_9.out)).trans F11_9.out)
              have F10_n := Lib.hid (heap_alloc_new Y9 (.cells #[.bool false, .int .i64 0, .int .i64 0, .int .i64 0, .bool false] 101))
              obtain ⟨X10, eX10⟩ : ∃ y, y = Y9.heap.size := ⟨_, rfl⟩
              go_wp2_with fail
              refine hK.out _ _ ?_ (fun hHeld => ?_)
              · exact HB10.out
              clear hK K
              (try simp only [Act.put, List.setIfInBounds_toArray, List.set_cons_zero, List.set_cons_succ])
              rw [← eX10] at F10_n ⊢
              have L10 := Lib.hid (show Z9.heap.size ≤ X10 from by rw [eX10]; exact HB9.out.size)
              have NE := Lib.hid (show X10 ≠ X11 from by rw [eX10]; exact fun e => Nat.lt_irrefl _ (e ▸ hp_lt F11_9.out))
              clear eX10
              generalize Y9.alloc (.cells #[.bool false, .int .i64 0, .int .i64 0, .int .i64 0, .bool false] 101) = Y10 at HB10 F10_n F11_10 hHeld ⊢
              refine wpAnyH_ready (rs := [12]) (by kernel_rfl) (by simp) ?_
              refine AllReadyH.cons rfl (fun K hK => ?_) AllReadyH.nil
              clear hHeld
              have c0 := (hp_cell (i := 0) F10_n.out).trans rfl
              have g0 := hp_free (i := 0) F10_n.out
              have c1 := (hp_cell (i := 1) F10_n.out).trans rfl
              have g1 := hp_free (i := 1) F10_n.out
              have c2 := (hp_cell (i := 2) F10_n.out).trans rfl
              have g2 := hp_free (i := 2) F10_n.out
              have c3 := (hp_cell (i := 3) F10_n.out).trans rfl
              have g3 := hp_free (i := 3) F10_n.out
              have c4 := (hp_cell (i := 4) F10_n.out).trans rfl
              have g4 := hp_free (i := 4) F10_n.out
              go_simp
              clear c0 c1 c2 c3 c4 g0 g1 g2 g3 g4
              have HB12 := Lib.hid (show Below Z9.heap.size Z9 (((((Y10.setCell ⟨X10, 0, none⟩ (.bool vh)).setCell ⟨X10, 1, none⟩ (.int .i64 vn)).setCell ⟨X10, 2, none⟩ (.int .i64 vx)).setCell ⟨X10, 3, none⟩ (.int .i64 va)).setCell ⟨X10, 4, none⟩ (.bool vm)) from (((((HB10.out.setCell L10.out _).setCell L10.out _).setCell L10.out _).setCell L10.out _).setCell L10.out _))
              have S10 := Lib.hid (set5 (.bool vh) (.int .i64 vn) (.int .i64 vx) (.int .i64 va) (.bool vm) F10_n.out (rfl : (((((Y10.setCell ⟨X10, 0, none⟩ (.bool vh)).setCell ⟨X10, 1, none⟩ (.int .i64 vn)).setCell ⟨X10, 2, none⟩ (.int .i64 vx)).setCell ⟨X10, 3, none⟩ (.int .i64 va)).setCell ⟨X10, 4, none⟩ (.bool vm)) = _))
              have O11_12 := Lib.hid ((set5_other (w := Y10) (g := X10) (k := X11) (.bool vh) (.int .i64 vn) (.int .i64 vx) (.int .i64 va) (.bool vm) (by have := NE.out; first | exact this | exact Ne.symm this)).trans F11_10.out)
              go_wp2_with fail
              refine hK.out _ _ ?_ (fun hHeld => ?_)
              · exact HB12.out
              clear hK K
              (try simp only [Act.put, List.setIfInBounds_toArray, List.set_cons_zero, List.set_cons_succ])
              generalize ((((Y10.setCell ⟨X10, 0, none⟩ (.bool vh)).setCell ⟨X10, 1, none⟩ (.int .i64 vn)).setCell ⟨X10, 2, none⟩ (.int .i64 vx)).setCell ⟨X10, 3, none⟩ (.int .i64 va)).setCell ⟨X10, 4, none⟩ (.bool vm) = Y12 at HB12 S10 O11_12 hHeld ⊢
              refine wpAnyH_ready (rs := [13]) (by kernel_rfl) (by simp) ?_
              refine AllReadyH.cons rfl (fun K hK => ?_) AllReadyH.nil
              clear hHeld
              have c0 := (hp_cell (i := 0) O11_12.out).trans rfl
              have g0 := hp_free (i := 0) O11_12.out
              have c1 := (hp_cell (i := 1) O11_12.out).trans rfl
              have g1 := hp_free (i := 1) O11_12.out
              have c2 := (hp_cell (i := 2) O11_12.out).trans rfl
              have g2 := hp_free (i := 2) O11_12.out
              have c3 := (hp_cell (i := 3) O11_12.out).trans rfl
              have g3 := hp_free (i := 3) O11_12.out
              have c4 := (hp_cell (i := 4) O11_12.out).trans rfl
              have g4 := hp_free (i := 4) O11_12.out
              go_simp
              clear c0 c1 c2 c3 c4 g0 g1 g2 g3 g4
              have HB13 := Lib.hid (show Below Z9.heap.size Z9 (((((Y12.setCell ⟨X11, 0, none⟩ (.bool vh)).setCell ⟨X11, 1, none⟩ (.int .i64 vn)).setCell ⟨X11, 2, none⟩ (.int .i64 vx)).setCell ⟨X11, 3, none⟩ (.int .i64 va)).setCell ⟨X11, 4, none⟩ (.bool vm)) from (((((HB12.out.setCell L11.out _).setCell L11.out _).setCell L11.out _).setCell L11.out _).setCell L11.out _))
              have S11 := Lib.hid (set5 (.bool vh) (.int .i64 vn) (.int .i64 vx) (.int .i64 va) (.bool vm) O11_12.out (rfl : (((((Y12.setCell ⟨X11, 0, none⟩ (.bool vh)).setCell ⟨X11, 1, none⟩ (.int .i64 vn)).setCell ⟨X11, 2, none⟩ (.int .i64 vx)).setCell ⟨X11, 3, none⟩ (.int .i64 va)).setCell ⟨X11, 4, none⟩ (.bool vm)) = _))
              have O10_13 := Lib.hid ((set5_other (w := Y12) (g := X11) (k := X10) (.bool vh) (.int .i64 vn) (.int .i64 vx) (.int .i64 va) (.bool vm) (by have := NE.out; first | exact this | exact Ne.symm this)).trans S10.out)
              go_wp2_with fail
              refine hK.out _ _ ?_ (fun hHeld => ?_)
              · exact HB13.out
              clear hK K
              (try simp only [Act.put, List.setIfInBounds_toArray, List.set_cons_zero, List.set_cons_succ])
              generalize ((((Y12.setCell ⟨X11, 0, none⟩ (.bool vh)).setCell ⟨X11, 1, none⟩ (.int .i64 vn)).setCell ⟨X11, 2, none⟩ (.int .i64 vx)).setCell ⟨X11, 3, none⟩ (.int .i64 va)).setCell ⟨X11, 4, none⟩ (.bool vm) = Y13 at HB13 O10_13 S11 hHeld ⊢
              refine wpAnyH_done (by kernel_rfl) ?_ _
              go_wp2_with fail
              go_meet
              case rel => exact ⟨X10, X11, rfl, rfl, O10_13.out, S11.out, HB13.out⟩
            · clear hHeld
              go_simp
              have HB10 := Lib.hid (HB11.out.alloc HB11.out.size (.cells #[.bool false, .int .i64 0, .int .i64 0, .int .i64 0, .bool false] 101))
              have F11_10 := Lib.hid ((heap_alloc_old _ (.cells #[.bool false, .int .i64 0, .int .i64 0, .int .i64 0, .bool false] 101) (hp_lt F11_n.out)).trans F11_n.out)
              have F10_n := Lib.hid (heap_alloc_new Y11 (.cells #[.bool false, .int .i64 0, .int .i64 0, .int .i64 0, .bool false] 101))
              obtain ⟨X10, eX10⟩ : ∃ y, y = Y11.heap.size := ⟨_, rfl⟩
              go_wp2_with fail
              refine hK.out _ _ ?_ (fun hHeld => ?_)
              · exact HB10.out
              clear hK K
              (try simp only [Act.put, List.setIfInBounds_toArray, List.set_cons_zero, List.set_cons_succ])
              rw [← eX10] at F10_n ⊢
              have L10 := Lib.hid (show Z9.heap.size ≤ X10 from by rw [eX10]; exact HB11.out.size)
              have NE := Lib.hid (show X10 ≠ X11 from by rw [eX10]; exact fun e => Nat.lt_irrefl _ (e ▸ hp_lt F11_n.out))
              clear eX10
              generalize Y11.alloc (.cells #[.bool false, .int .i64 0, .int .i64 0, .int .i64 0, .bool false] 101) = Y10 at HB10 F10_n F11_10 hHeld ⊢
              refine wpAnyH_ready (rs := [9]) (by kernel_rfl) (by simp) ?_
              refine AllReadyH.cons rfl (fun K hK => ?_) AllReadyH.nil
              clear hHeld
              go_simp
              go_at_call 56
              refine (HRge.out _ R9 (H9.out.2.1.below HB10.out)).mono ?_
              rintro e Y9 ⟨rfl, hb⟩
              have HB9 := Lib.hid (HB10.out.trans (hb.mono HB10.out.size))
              have F10_9 := Lib.hid ((hb.block _ (hp_lt F10_n.out)).trans F10_n.out)
              have F11_9 := Lib.hid ((hb.block _ (hp_lt F11_10.out)).trans F11_10.out)
              clear hb
              go_wp2_with fail
              refine hK.out _ _ ?_ (fun hHeld => ?_)
              · exact HB9.out
              clear hK K
              (try simp only [Act.put, List.setIfInBounds_toArray, List.set_cons_zero, List.set_cons_succ])
              refine wpAnyH_ready (rs := [12]) (by kernel_rfl) (by simp) ?_
              refine AllReadyH.cons rfl (fun K hK => ?_) AllReadyH.nil
              clear hHeld
              have c0 := (hp_cell (i := 0) F10_9.out).trans rfl
              have g0 := hp_free (i := 0) F10_9.out
              have c1 := (hp_cell (i := 1) F10_9.out).trans rfl
              have g1 := hp_free (i := 1) F10_9.out
              have c2 := (hp_cell (i := 2) F10_9.out).trans rfl
              have g2 := hp_free (i := 2) F10_9.out
              have c3 := (hp_cell (i := 3) F10_9.out).trans rfl
              have g3 := hp_free (i := 3) F10_9.out
              have c4 := (hp_cell (i := 4) F10_9.out).trans rfl
              have g4 := hp_free (i := 4) F10_9.out
              go_simp
              clear c0 c1 c2 c3 c4 g0 g1 g2 g3 g4
              have HB12 := Lib.hid (show Below Z9.heap.size Z9 (((((Y9.setCell ⟨X10, 0, none⟩ (.bool vh)).setCell ⟨X10, 1, none⟩ (.int .i64 vn)).setCell ⟨X10, 2, none⟩ (.int .i64 vx)).setCell ⟨X10, 3, none⟩ (.int .i64 va)).setCell ⟨X10, 4, none⟩ (.bool vm)) from (((((HB9.out.setCell L10.out _).setCell L10.out _).setCell L10.out _).setCell L10.out _).setCell L10.out _))
              have S10 := Lib.hid (set5 (.bool vh) (.int .i64 vn) (.int .i64 vx) (.int .i64 va) (.bool vm) F10_9.out (rfl : (((((Y9.setCell ⟨X10, 0, none⟩ (.bool vh)).setCell ⟨X10, 1, none⟩ (.int .i64 vn)).setCell ⟨X10, 2, none⟩ (.int .i64 vx)).setCell ⟨X10, 3, none⟩ (.int .i64 va)).setCell ⟨X10, 4, none⟩ (.bool vm)) = _))
              have O11_12 := Lib.hid ((set5_other (w := Y9) (g := X10) (k := X11) (.bool vh) (.int .i64 vn) (.int .i64 vx) (.int .i64 va) (.bool vm) (by have := NE.out; first | exact this | exact Ne.symm this)).trans F11_9.out)
              go_wp2_with fail
              refine hK.out _ _ ?_ (fun hHeld => ?_)
              · exact HB12.out
              clear hK K
              (try simp only [Act.put, List.setIfInBounds_toArray, List.set_cons_zero, List.set_cons_succ])
              generalize ((((Y9.setCell ⟨X10, 0, none⟩ (.bool vh)).setCell ⟨X10, 1, none⟩ (.int .i64 vn)).setCell ⟨X10, 2, none⟩ (.int .i64 vx)).setCell ⟨X10, 3, none⟩ (.int .i64 va)).setCell ⟨X10, 4, none⟩ (.bool vm) = Y12 at HB12 S10 O11_12 hHeld ⊢
              refine wpAnyH_ready (rs := [13]) (by kernel_rfl) (by simp) ?_
              refine AllReadyH.cons rfl (fun K hK => ?_) AllReadyH.nil
              clear hHeld
              have c0 := (hp_cell (i := 0) O11_12.out).trans rfl
              have g0 := hp_free (i := 0) O11_12.out
              have c1 := (hp_cell (i := 1) O11_12.out).trans rfl
              have g1 := hp_free (i := 1) O11_12.out
              have c2 := (hp_cell (i := 2) O11_12.out).trans rfl
              have g2 := hp_free (i := 2) O11_12.out
              have c3 := (hp_cell (i := 3) O11_12.out).trans rfl
              have g3 := hp_free (i := 3) O11_12.out
              have c4 := (hp_cell (i := 4) O11_12.out).trans rfl
              have g4 := hp_free (i := 4) O11_12.out
              go_simp
              clear c0 c1 c2 c3 c4 g0 g1 g2 g3 g4
              have HB13 := Lib.hid (show Below Z9.heap.size Z9 (((((Y12.setCell ⟨X11, 0, none⟩ (.bool vh)).setCell ⟨X11, 1, none⟩ (.int .i64 vn)).setCell ⟨X11, 2, none⟩ (.int .i64 vx)).setCell ⟨X11, 3, none⟩ (.int .i64 va)).setCell ⟨X11, 4, none⟩ (.bool vm)) from (((((HB12.out.setCell L11.out _).setCell L11.out _).setCell L11.out _).setCell L11.out _).setCell L11.out _))
              have S11 := Lib.hid (set5 (.bool vh) (.int .i64 vn) (.int .i64 vx) (.int .i64 va) (.bool vm) O11_12.out (rfl : (((((Y12.setCell ⟨X11, 0, none⟩ (.bool vh)).setCell ⟨X11, 1, none⟩ (.int .i64 vn)).setCell ⟨X11, 2, none⟩ (.int .i64 vx)).setCell ⟨X11, 3, none⟩ (.int .i64 va)).setCell ⟨X11, 4, none⟩ (.bool vm)) = _))
              have O10_13 := Lib.hid ((set5_other (w := Y12) (g := X11) (k := X10) (.bool vh) (.int .i64 vn) (.int .i64 vx) (.int .i64 va) (.bool vm) (by have := NE.out; first | exact this | exact Ne.symm this)).trans S10.out)
              go_wp2_with fail
              refine hK.out _ _ ?_ (fun hHeld => ?_)
              · exact HB13.out
              clear hK K
              (try simp only [Act.put, List.setIfInBounds_toArray, List.set_cons_zero, List.set_cons_succ])
              generalize ((((Y12.setCell ⟨X11, 0, none⟩ (.bool vh)).setCell ⟨X11, 1, none⟩ (.int .i64 vn)).setCell ⟨X11, 2, none⟩ (.int .i64 vx)).setCell ⟨X11, 3, none⟩ (.int .i64 va)).setCell ⟨X11, 4, none⟩ (.bool vm) = Y13 at HB13 O10_13 S11 hHeld ⊢
              refine wpAnyH_done (by kernel_rfl) ?_ _
              go_wp2_with fail
              go_meet
              case rel => exact ⟨X10, X11, rfl, rfl, O10_13.out, S11.out, HB13.out⟩
        · clear hHeld
          go_simp
          have HB10 := Lib.hid (HB0.out.alloc HB0.out.size (.cells #[.bool false, .int .i64 0, .int .i64 0, .int .i64 0, .bool false] 101))
          have F10_n := Lib.hid (heap_alloc_new Y0 (.cells #[.bool false, .int .i64 0, .int .i64 0, .int .i64 0, .bool false] 101))
          obtain ⟨X10, eX10⟩ : ∃ y, y = Y0.heap.size := ⟨_, rfl⟩
          go_wp2_with fail
          refine hK.out _ _ ?_ (fun hHeld => ?_)
          · exact HB10.out
          clear hK K
          (try simp only [Act.put, List.setIfInBounds_toArray, List.set_cons_zero, List.set_cons_succ])
          rw [← eX10] at F10_n ⊢
          have L10 := Lib.hid (show Z9.heap.size ≤ X10 from by rw [eX10]; exact HB0.out.size)
          clear eX10
          generalize Y0.alloc (.cells #[.bool false, .int .i64 0, .int .i64 0, .int .i64 0, .bool false] 101) = Y10 at HB10 F10_n hHeld ⊢
          refine wpAnyH_ready (rs := [4, 11]) (by kernel_rfl) (by simp) ?_
          refine AllReadyH.cons rfl (fun K hK => ?_) (AllReadyH.cons rfl (fun K hK => ?_) AllReadyH.nil)
          · clear hHeld
            go_simp
            go_at_call 55
            refine (HGe.out _ F8 q8 qs8 (H9.out.1.below HB10.out)).mono ?_
            rintro e Y4 ⟨rfl, hb⟩
            have HB4 := Lib.hid (HB10.out.trans (hb.mono HB10.out.size))
            have F10_4 := Lib.hid ((hb.block _ (hp_lt F10_n.out)).trans F10_n.out)
            clear hb
            go_wp2_with fail
            refine hK.out _ _ ?_ (fun hHeld => ?_)
            · exact HB4.out
            clear hK K
            (try simp only [Act.put, List.setIfInBounds_toArray, List.set_cons_zero, List.set_cons_succ])
            refine wpAnyH_ready (rs := [9, 11]) (by kernel_rfl) (by simp) ?_
            refine AllReadyH.cons rfl (fun K hK => ?_) (AllReadyH.cons rfl (fun K hK => ?_) AllReadyH.nil)
            · clear hHeld
              go_simp
              go_at_call 56
              refine (HRge.out _ R9 (H9.out.2.1.below HB4.out)).mono ?_
              rintro e Y9 ⟨rfl, hb⟩
              have HB9 := Lib.hid (HB4.out.trans (hb.mono HB4.out.size))
              have F10_9 := Lib.hid ((hb.block _ (hp_lt F10_4.out)).trans F10_4.out)
              clear hb
              go_wp2_with fail
              refine hK.out _ _ ?_ (fun hHeld => ?_)
              · exact HB9.out
              clear hK K
              (try simp only [Act.put, List.setIfInBounds_toArray, List.set_cons_zero, List.set_cons_succ])
              refine wpAnyH_ready (rs := [11]) (by kernel_rfl) (by simp) ?_
              refine AllReadyH.cons rfl (fun K hK => ?_) AllReadyH.nil
              clear hHeld
              go_simp
              have HB11 := Lib.hid (HB9.out.alloc HB9.out.size (.cells #[.bool false, .int .i64 0, .int .i64 0, .int .i64 0, .bool false] 103))
              have F10_11 := Lib.hid ((heap_alloc_old _ (.cells #[.bool false, .int .i64 0, .int .i64 0, .int .i64 0, .bool false] 103) (hp_lt F10_9.out)).trans F10_9.out)
              have F11_n := Lib.hid (heap_alloc_new Y9 (.cells #[.bool false, .int .i64 0, .int .i64 0, .int .i64 0, .bool false] 103))
              obtain ⟨X11, eX11⟩ : ∃ y, y = Y9.heap.size := ⟨_, rfl⟩
              go_wp2_with fail
              refine hK.out _ _ ?_ (fun hHeld => ?_)
              · exact HB11.out
              clear hK K
              (try simp only [Act.put, List.setIfInBounds_toArray, List.set_cons_zero, List.set_cons_succ])
              rw [← eX11] at F11_n ⊢
              have L11 := Lib.hid (show Z9.heap.size ≤ X11 from by rw [eX11]; exact HB9.out.size)
              have NE := Lib.hid (show X11 ≠ X10 from by rw [eX11]; exact fun e => Nat.lt_irrefl _ (e ▸ hp_lt F10_9.out))
              clear eX11
              generalize Y9.alloc (.cells #[.bool false, .int .i64 0, .int .i64 0, .int .i64 0, .bool false] 103) = Y11 at HB11 F10_11 F11_n hHeld ⊢
              refine wpAnyH_ready (rs := [12]) (by kernel_rfl) (by simp) ?_
              refine AllReadyH.cons rfl (fun K hK => ?_) AllReadyH.nil
              clear hHeld
              have c0 := (hp_cell (i := 0) F10_11.out).trans rfl
              have g0 := hp_free (i := 0) F10_11.out
              have c1 := (hp_cell (i := 1) F10_11.out).trans rfl
              have g1 := hp_free (i := 1) F10_11.out
              have c2 := (hp_cell (i := 2) F10_11.out).trans rfl
              have g2 := hp_free (i := 2) F10_11.out
              have c3 := (hp_cell (i := 3) F10_11.out).trans rfl
              have g3 := hp_free (i := 3) F10_11.out
              have c4 := (hp_cell (i := 4) F10_11.out).trans rfl
              have g4 := hp_free (i := 4) F10_11.out
              go_simp
              clear c0 c1 c2 c3 c4 g0 g1 g2 g3 g4
              have HB12 := Lib.hid (show Below Z9.heap.size Z9 (((((Y11.setCell ⟨X10, 0, none⟩ (.bool vh)).setCell ⟨X10, 1, none⟩ (.int .i64 vn)).setCell ⟨X10, 2, none⟩ (.int .i64 vx)).setCell ⟨X10, 3, none⟩ (.int .i64 va)).setCell ⟨X10, 4, none⟩ (.bool vm)) from (((((HB11.out.setCell L10.out _).setCell L10.out _).setCell L10.out _).setCell L10.out _).setCell L10.out _))
              have S10 := Lib.hid (set5 (.bool vh) (.int .i64 vn) (.int .i64 vx) (.int .i64 va) (.bool vm) F10_11.out (rfl : (((((Y11.setCell ⟨X10, 0, none⟩ (.bool vh)).setCell ⟨X10, 1, none⟩ (.int .i64 vn)).setCell ⟨X10, 2, none⟩ (.int .i64 vx)).setCell ⟨X10, 3, none⟩ (.int .i64 va)).setCell ⟨X10, 4, none⟩ (.bool vm)) = _))
              have O11_12 := Lib.hid ((set5_other (w := Y11) (g := X10) (k := X11) (.bool vh) (.int .i64 vn) (.int .i64 vx) (.int .i64 va) (.bool vm) (by have := NE.out; first | exact this | exact Ne.symm this)).trans F11_n.out)
              go_wp2_with fail
              refine hK.out _ _ ?_ (fun hHeld => ?_)
              · exact HB12.out
              clear hK K
              (try simp only [Act.put, List.setIfInBounds_toArray, List.set_cons_zero, List.set_cons_succ])
              generalize ((((Y11.setCell ⟨X10, 0, none⟩ (.bool vh)).setCell ⟨X10, 1, none⟩ (.int .i64 vn)).setCell ⟨X10, 2, none⟩ (.int .i64 vx)).setCell ⟨X10, 3, none⟩ (.int .i64 va)).setCell ⟨X10, 4, none⟩ (.bool vm) = Y12 at HB12 S10 O11_12 hHeld ⊢
              refine wpAnyH_ready (rs := [13]) (by kernel_rfl) (by simp) ?_
              refine AllReadyH.cons rfl (fun K hK => ?_) AllReadyH.nil
              clear hHeld
              have c0 := (hp_cell (i := 0) O11_12.out).trans rfl
              have g0 := hp_free (i := 0) O11_12.out
              have c1 := (hp_cell (i := 1) O11_12.out).trans rfl
              have g1 := hp_free (i := 1) O11_12.out
              have c2 := (hp_cell (i := 2) O11_12.out).trans rfl
              have g2 := hp_free (i := 2) O11_12.out
              have c3 := (hp_cell (i := 3) O11_12.out).trans rfl
              have g3 := hp_free (i := 3) O11_12.out
              have c4 := (hp_cell (i := 4) O11_12.out).trans rfl
              have g4 := hp_free (i := 4) O11_12.out
              go_simp
              clear c0 c1 c2 c3 c4 g0 g1 g2 g3 g4
              have HB13 := Lib.hid (show Below Z9.heap.size Z9 (((((Y12.setCell ⟨X11, 0, none⟩ (.bool vh)).setCell ⟨X11, 1, none⟩ (.int .i64 vn)).setCell ⟨X11, 2, none⟩ (.int .i64 vx)).setCell ⟨X11, 3, none⟩ (.int .i64 va)).setCell ⟨X11, 4, none⟩ (.bool vm)) from (((((HB12.out.setCell L11.out _).setCell L11.out _).setCell L11.out _).setCell L11.out _).setCell L11.out _))
              have S11 := Lib.hid (set5 (.bool vh) (.int .i64 vn) (.int .i64 vx) (.int .i64 va) (.bool vm) O11_12.out (rfl : (((((Y12.setCell ⟨X11, 0, none⟩ (.bool vh)).setCell ⟨X11, 1, none⟩ (.int .i64 vn)).setCell ⟨X11, 2, none⟩ (.int .i64 vx)).setCell ⟨X11, 3, none⟩ (.int .i64 va)).setCell ⟨X11, 4, none⟩ (.bool vm)) = _))
              have O10_13 := Lib.hid ((set5_other (w := Y12) (g := X11) (k := X10) (.bool vh) (.int .i64 vn) (.int .i64 vx) (.int .i64 va) (.bool vm) (by have := NE.out; first | exact this | exact Ne.symm this)).trans S10.out)
              go_wp2_with fail
              refine hK.out _ _ ?_ (fun hHeld => ?_)
              · exact HB13.out
              clear hK K
              (try simp only [Act.put, List.setIfInBounds_toArray, List.set_cons_zero, List.set_cons_succ])
              generalize ((((Y12.setCell ⟨X11, 0, none⟩ (.bool vh)).setCell ⟨X11, 1, none⟩ (.int .i64 vn)).setCell ⟨X11, 2, none⟩ (.int .i64 vx)).setCell ⟨X11, 3, none⟩ (.int .i64 va)).setCell ⟨X11, 4, none⟩ (.bool vm) = Y13 at HB13 O10_13 S11 hHeld ⊢
              refine wpAnyH_done (by kernel_rfl) ?_ _
              go_wp2_with fail
              go_meet
              case rel => exact ⟨X10, X11, rfl, rfl, O10_13.out, S11.out, HB13.out⟩
            · clear hHeld
              go_simp
              have HB11 := Lib.hid (HB4.out.alloc HB4.out.size (.cells #[.bool false, .int .i64 0, .int .i64 0, .int .i64 0, .bool false] 103))
              have F10_11 := Lib.hid ((heap_alloc_old _ (.cells #[.bool false, .int .i64 0, .int .i64 0, .int .i64 0, .bool false] 103) (hp_lt F10_4.out)).trans F10_4.out)
              have F11_n := Lib.hid (heap_alloc_new Y4 (.cells #[.bool false, .int .i64 0, .int .i64 0, .int .i64 0, .bool false] 103))
              obtain ⟨X11, eX11⟩ : ∃ y, y = Y4.heap.size := ⟨_, rfl⟩
              go_wp2_with fail
              refine hK.out _ _ ?_ (fun hHeld => ?_)
              · exact HB11.out
              clear hK K
              (try simp only [Act.put, List.setIfInBounds_toArray, List.set_cons_zero, List.set_cons_succ])
              rw [← eX11] at F11_n ⊢
              have L11 := Lib.hid (show Z9.heap.size ≤ X11 from by rw [eX11]; exact HB4.out.size)
              have NE := Lib.hid (show X11 ≠ X10 from by rw [eX11]; exact fun e => Nat.lt_irrefl _ (e ▸ hp_lt F10_4.out))
              clear eX11
              generalize Y4.alloc (.cells #[.bool false, .int .i64 0, .int .i64 0, .int .i64 0, .bool false] 103) = Y11 at HB11 F10_11 F11_n hHeld ⊢
              refine wpAnyH_ready (rs := [9]) (by kernel_rfl) (by simp) ?_
              refine AllReadyH.cons rfl (fun K hK => ?_) AllReadyH.nil
              clear hHeld
              go_simp
              go_at_call 56
              refine (HRge.out _ R9 (H9.out.2.1.below HB11.out)).mono ?_
              rintro e Y9 ⟨rfl, hb⟩
              have HB9 := Lib.hid (HB11.out.trans (hb.mono HB11.out.size))
              have F10_9 := Lib.hid ((hb.block _ (hp_lt F10_11.out)).trans F10_11.out)
              have F11_9 := Lib.hid ((hb.block _ (hp_lt F11_n.out)).trans F11_n.out)
              clear hb
              go_wp2_with fail
              refine hK.out _ _ ?_ (fun hHeld => ?_)
              · exact HB9.out
              clear hK K
              (try simp only [Act.put, List.setIfInBounds_toArray, List.set_cons_zero, List.set_cons_succ])
              refine wpAnyH_ready (rs := [12]) (by kernel_rfl) (by simp) ?_
              refine AllReadyH.cons rfl (fun K hK => ?_) AllReadyH.nil
              clear hHeld
              have c0 := (hp_cell (i := 0) F10_9.out).trans rfl
              have g0 := hp_free (i := 0) F10_9.out
              have c1 := (hp_cell (i := 1) F10_9.out).trans rfl
              have g1 := hp_free (i := 1) F10_9.out
              have c2 := (hp_cell (i := 2) F10_9.out).trans rfl
              have g2 := hp_free (i := 2) F10_9.out
              have c3 := (hp_cell (i := 3) F10_9.out).trans rfl
              have g3 := hp_free (i := 3) F10_9.out
              have c4 := (hp_cell (i := 4) F10_9.out).trans rfl
              have g4 := hp_free (i := 4) F10_9.out
              go_simp
              clear c0 c1 c2 c3 c4 g0 g1 g2 g3 g4
              have HB12 := Lib.hid (show Below Z9.heap.size Z9 (((((Y9.setCell ⟨X10, 0, none⟩ (.bool vh)).setCell ⟨X10, 1, none⟩ (.int .i64 vn)).setCell ⟨X10, 2, none⟩ (.int .i64 vx)).setCell ⟨X10, 3, none⟩ (.int .i64 va)).setCell ⟨X10, 4, none⟩ (.bool vm)) from (((((HB9.out.setCell L10.out _).setCell L10.out _).setCell L10.out _).setCell L10.out _).setCell L10.out _))
              have S10 := Lib.hid (set5 (.bool vh) (.int .i64 vn) (.int .i64 vx) (.int .i64 va) (.bool vm) F10_9.out (rfl : (((((Y9.setCell ⟨X10, 0, none⟩ (.bool vh)).setCell ⟨X10, 1, none⟩ (.int .i64 vn)).setCell ⟨X10, 2, none⟩ (.int .i64 vx)).setCell ⟨X10, 3, none⟩ (.int .i64 va)).setCell ⟨X10, 4, none⟩ (.bool vm)) = _))
              have O11_12 := Lib.hid ((set5_other (w := Y9) (g := X10) (k := X11) (.bool vh) (.int .i64 vn) (.int .i64 vx) (.int .i64 va) (.bool vm) (by have := NE.out; first | exact this | exact Ne.symm this)).trans F11_9.out)
              go_wp2_with fail
              refine hK.out _ _ ?_ (fun hHeld => ?_)
              · exact HB12.out
              clear hK K
              (try simp only [Act.put, List.setIfInBounds_toArray, List.set_cons_zero, List.set_cons_succ])
              generalize ((((Y9.setCell ⟨X10, 0, none⟩ (.bool vh)).setCell ⟨X10, 1, none⟩ (.int .i64 vn)).setCell ⟨X10, 2, none⟩ (.int .i64 vx)).setCell ⟨X10, 3, none⟩ (.int .i64 va)).setCell ⟨X10, 4, none⟩ (.bool vm) = Y12 at HB12 S10 O11_12 hHeld ⊢
              refine wpAnyH_ready (rs := [13]) (by kernel_rfl) (by simp) ?_
              refine AllReadyH.cons rfl (fun K hK => ?_) AllReadyH.nil
              clear hHeld
              have c0 := (hp_cell (i := 0) O11_12.out).trans rfl
              have g0 := hp_free (i := 0) O11_12.out
              have c1 := (hp_cell (i := 1) O11_12.out).trans rfl
              have g1 := hp_free (i := 1) O11_12.out
              have c2 := (hp_cell (i := 2) O11_12.out).trans rfl
              have g2 := hp_free (i := 2) O11_12.out
              have c3 := (hp_cell (i := 3) O11_12.out).trans rfl
              have g3 := hp_free (i := 3) O11_12.out
              have c4 := (hp_cell (i := 4) O11_12.out).trans rfl
              have g4 := hp_free (i := 4) O11_12.out
              go_simp
              clear c0 c1 c2 c3 c4 g0 g1 g2 g3 g4
              have HB13 := Lib.hid (show Below Z9.heap.size Z9 (((((Y12.setCell ⟨X11, 0, none⟩ (.bool vh)).setCell ⟨X11, 1, none⟩ (.int .i64 vn)).setCell ⟨X11, 2, none⟩ (.int .i64 vx)).setCell ⟨X11, 3, none⟩ (.int .i64 va)).setCell ⟨X11, 4, none⟩ (.bool vm)) from (((((HB12.out.setCell L11.out _).setCell L11.out _).setCell L11.out _).setCell L11.out _).setCell L11.out _))
              have S11 := Lib.hid (set5 (.bool vh) (.int .i64 vn) (.int .i64 vx) (.int .i64 va) (.bool vm) O11_12.out (rfl : (((((Y12.setCell ⟨X11, 0, none⟩ (.bool vh)).setCell ⟨X11, 1, none⟩ (.int .i64 vn)).setCell ⟨X11, 2, none⟩ (.int .i64 vx)).setCell ⟨X11, 3, none⟩ (.int .i64 va)).setCell ⟨X11, 4, none⟩ (.bool vm)) = _))
              have O10_13 := Lib.hid ((set5_other (w := Y12) (g := X11) (k := X10) (.bool vh) (.int .i64 vn) (.int .i64 vx) (.int .i64 va) (.bool vm) (by have := NE.out; first | exact this | exact Ne.symm this)).trans S10.out)
              go_wp2_with fail
              refine hK.out _ _ ?_ (fun hHeld => ?_)
              · exact HB13.out
              clear hK K
              (try simp only [Act.put, List.setIfInBounds_toArray, List.set_cons_zero, List.set_cons_succ])
              generalize ((((Y12.setCell ⟨X11, 0, none⟩ (.bool vh)).setCell ⟨X11, 1, none⟩ (.int .i64 vn)).setCell ⟨X11, 2, none⟩ (.int .i64 vx)).setCell ⟨X11, 3, none⟩ (.int .i64 va)).setCell ⟨X11, 4, none⟩ (.bool vm) = Y13 at HB13 O10_13 S11 hHeld ⊢
              refine wpAnyH_done (by kernel_rfl) ?_ _
              go_wp2_with fail
              go_meet
              case rel => exact ⟨X10, X11, rfl, rfl, O10_13.out, S11.out, HB13.out⟩
          · clear hHeld
            go_simp
            have HB11 := Lib.hid (HB10.out.alloc HB10.out.size (.cells #[.bool false, .int .i64 0, .int .i64 0, .int .i64 0, .bool false] 103))
            have F10_11 := Lib.hid ((heap_alloc_old _ (.cells #[.bool false, .int .i64 0, .int .i64 0, .int .i64 0, .bool false] 103) (hp_lt F10_n.out)).trans F10_n.out)
            have F11_n := Lib.hid (heap_alloc_new Y10 (.cells #[.bool false, .int .i64 0, .int .i64 0, .int .i64 0, .bool false] 103))
            obtain ⟨X11, eX11⟩ : ∃ y, y = Y10.heap.size := ⟨_, rfl⟩
            go_wp2_with fail
            refine hK.out _ _ ?_ (fun hHeld => ?_)
            · exact HB11.out
            clear hK K
            (try simp only [Act.put, List.setIfInBounds_toArray, List.set_cons_zero, List.set_cons_succ])
            rw [← eX11] at F11_n ⊢
            have L11 := Lib.hid (show Z9.heap.size ≤ X11 from by rw [eX11]; exact HB10.out.size)
            have NE := Lib.hid (show X11 ≠ X10 from by rw [eX11]; exact fun e => Nat.lt_irrefl _ (e ▸ hp_lt F10_n.out))
            clear eX11
            generalize Y10.alloc (.cells #[.bool false, .int .i64 0, .int .i64 0, .int .i64 0, .bool false] 103) = Y11 at HB11 F10_11 F11_n hHeld ⊢
            refine wpAnyH_ready (rs := [4]) (by kernel_rfl) (by simp) ?_
            refine AllReadyH.cons rfl (fun K hK => ?_) AllReadyH.nil
            clear hHeld
            go_simp
            go_at_call 55
            refine (HGe.out _ F8 q8 qs8 (H9.out.1.below HB11.out)).mono ?_
            rintro e Y4 ⟨rfl, hb⟩
            have HB4 := Lib.hid (HB11.out.trans (hb.mono HB11.out.size))
            have F10_4 := Lib.hid ((hb.block _ (hp_lt F10_11.out)).trans F10_11.out)
            have F11_4 := Lib.hid ((hb.block _ (hp_lt F11_n.out)).trans F11_n.out)
            clear hb
            go_wp2_with fail
            refine hK.out _ _ ?_ (fun hHeld => ?_)
            · exact HB4.out
            clear hK K
            (try simp only [Act.put, List.setIfInBounds_toArray, List.set_cons_zero, List.set_cons_succ])
            refine wpAnyH_ready (rs := [9]) (by kernel_rfl) (by simp) ?_
            refine AllReadyH.cons rfl (fun K hK => ?_) AllReadyH.nil
            clear hHeld
            go_simp
            go_at_call 56
            refine (HRge.out _ R9 (H9.out.2.1.below HB4.out)).mono ?_
            rintro e Y9 ⟨rfl, hb⟩
            have HB9 := Lib.hid (HB4.out.trans (hb.mono HB4.out.size))
            have F10_9 := Lib.hid ((hb.block _ (hp_lt F10_4.out)).trans F10_4.out)
            have F11_9 := Lib.hid ((hb.block _ (hp_lt F11_4.out)).trans F11_4.out)
            clear hb
            go_wp2_with fail
            refine hK.out _ _ ?_ (fun hHeld => ?_)
            · exact HB9.out
            clear hK K
            (try simp only [Act.put, List.setIfInBounds_toArray, List.set_cons_zero, List.set_cons_succ])
            refine wpAnyH_ready (rs := [12]) (by kernel_rfl) (by simp) ?_
            refine AllReadyH.cons rfl (fun K hK => ?_) AllReadyH.nil
            clear hHeld
            have c0 := (hp_cell (i := 0) F10_9.out).trans rfl
            have g0 := hp_free (i := 0) F10_9.out
            have c1 := (hp_cell (i := 1) F10_9.out).trans rfl
            have g1 := hp_free (i := 1) F10_9.out
            have c2 := (hp_cell (i := 2) F10_9.out).trans rfl
            have g2 := hp_free (i := 2) F10_9.out
            have c3 := (hp_cell (i := 3) F10_9.out).trans rfl
            have g3 := hp_free (i := 3) F10_9.out
            have c4 := (hp_cell (i := 4) F10_9.out).trans rfl
            have g4 := hp_free (i := 4) F10_9.out
            go_simp
            clear c0 c1 c2 c3 c4 g0 g1 g2 g3 g4
            have HB12 := Lib.hid (show Below Z9.heap.size Z9 (((((Y9.setCell ⟨X10, 0, none⟩ (.bool vh)).setCell ⟨X10, 1, none⟩ (.int .i64 vn)).setCell ⟨X10, 2, none⟩ (.int .i64 vx)).setCell ⟨X10, 3, none⟩ (.int .i64 va)).setCell ⟨X10, 4, none⟩ (.bool vm)) from (((((HB9.out.setCell L10.out _).setCell L10.out _).setCell L10.out _).setCell L10.out _).setCell L10.out _))
            have S10 := Lib.hid (set5 (.bool vh) (.int .i64 vn) (.int .i64 vx) (.int .i64 va) (.bool vm) F10_9.out (rfl : (((((Y9.setCell ⟨X10, 0, none⟩ (.bool vh)).setCell ⟨X10, 1, none⟩ (.int .i64 vn)).setCell ⟨X10, 2, none⟩ (.int .i64 vx)).setCell ⟨X10, 3, none⟩ (.int .i64 va)).setCell ⟨X10, 4, none⟩ (.bool vm)) = _))
            have O11_12 := Lib.hid ((set5_other (w := Y9) (g := X10) (k := X11) (.bool vh) (.int .i64 vn) (.int .i64 vx) (.int .i64 va) (.bool vm) (by have := NE.out; first | exact this | exact Ne.symm this)).trans F11_9.out)
            go_wp2_with fail
            refine hK.out _ _ ?_ (fun hHeld => ?_)
            · exact HB12.out
            clear hK K
            (try simp only [Act.put, List.setIfInBounds_toArray, List.set_cons_zero, List.set_cons_succ])
            generalize ((((Y9.setCell ⟨X10, 0, none⟩ (.bool vh)).setCell ⟨X10, 1, none⟩ (.int .i64 vn)).setCell ⟨X10, 2, none⟩ (.int .i64 vx)).setCell ⟨X10, 3, none⟩ (.int .i64 va)).setCell ⟨X10, 4, none⟩ (.bool vm) = Y12 at HB12 S10 O11_12 hHeld ⊢
            refine wpAnyH_ready (rs := [13]) (by kernel_rfl) (by simp) ?_
            refine AllReadyH.cons rfl (fun K hK => ?_) AllReadyH.nil
            clear hHeld
            have c0 := (hp_cell (i := 0) O11_12.out).trans rfl
            have g0 := hp_free (i := 0) O11_12.out
            have c1 := (hp_cell (i := 1) O11_12.out).trans rfl
            have g1 := hp_free (i := 1) O11_12.out
            have c2 := (hp_cell (i := 2) O11_12.out).trans rfl
            have g2 := hp_free (i := 2) O11_12.out
            have c3 := (hp_cell (i := 3) O11_12.out).trans rfl
            have g3 := hp_free (i := 3) O11_12.out
            have c4 := (hp_cell (i := 4) O11_12.out).trans rfl
            have g4 := hp_free (i := 4) O11_12.out
            go_simp
            clear c0 c1 c2 c3 c4 g0 g1 g2 g3 g4
            have HB13 := Lib.hid (show Below Z9.heap.size Z9 (((((Y12.setCell ⟨X11, 0, none⟩ (.bool vh)).setCell ⟨X11, 1, none⟩ (.int .i64 vn)).setCell ⟨X11, 2, none⟩ (.int .i64 vx)).setCell ⟨X11, 3, none⟩ (.int .i64 va)).setCell ⟨X11, 4, none⟩ (.bool vm)) from (((((HB12.out.setCell L11.out _).setCell L11.out _).setCell L11.out _).setCell L11.out _).setCell L11.out _))
            have S11 := Lib.hid (set5 (.bool vh) (.int .i64 vn) (.int .i64 vx) (.int .i64 va) (.bool vm) O11_12.out (rfl : (((((Y12.setCell ⟨X11, 0, none⟩ (.bool vh)).setCell ⟨X11, 1, none⟩ (.int .i64 vn)).setCell ⟨X11, 2, none⟩ (.int .i64 vx)).setCell ⟨X11, 3, none⟩ (.int .i64 va)).setCell ⟨X11, 4, none⟩ (.bool vm)) = _))
            have O10_13 := Lib.hid ((set5_other (w := Y12) (g := X11) (k := X10) (.bool vh) (.int .i64 vn) (.int .i64 vx) (.int .i64 va) (.bool vm) (by have := NE.out; first | exact this | exact Ne.symm this)).trans S10.out)
            go_wp2_with fail
            refine hK.out _ _ ?_ (fun hHeld => ?_)
            · exact HB13.out
            clear hK K
            (try simp only [Act.put, List.setIfInBounds_toArray, List.set_cons_zero, List.set_cons_succ])
            generalize ((((Y12.setCell ⟨X11, 0, none⟩ (.bool vh)).setCell ⟨X11, 1, none⟩ (.int .i64 vn)).setCell ⟨X11, 2, none⟩ (.int .i64 vx)).setCell ⟨X11, 3, none⟩ (.int .i64 va)).setCell ⟨X11, 4, none⟩ (.bool vm) = Y13 at HB13 O10_13 S11 hHeld ⊢
            refine wpAnyH_done (by kernel_rfl) ?_ _
            go_wp2_with fail
            go_meet
            case rel => exact ⟨X10, X11, rfl, rfl, O10_13.out, S11.out, HB13.out⟩
        · clear hHeld
          go_simp
          have HB11 := Lib.hid (HB0.out.alloc HB0.out.size (.cells #[.bool false, .int .i64 0, .int .i64 0, .int .i64 0, .bool false] 103))
          have F11_n := Lib.hid (heap_alloc_new Y0 (.cells #[.bool false, .int .i64 0, .int .i64 0, .int .i64 0, .bool false] 103))
          obtain ⟨X11, eX11⟩ : ∃ y, y = Y0.heap.size := ⟨_, rfl⟩
          go_wp2_with fail
          refine hK.out _ _ ?_ (fun hHeld => ?_)
          · exact HB11.out
          clear hK K
          (try simp only [Act.put, List.setIfInBounds_toArray, List.set_cons_zero, List.set_cons_succ])
          rw [← eX11] at F11_n ⊢
          have L11 := Lib.hid (show Z9.heap.size ≤ X11 from by rw [eX11]; exact HB0.out.size)
          clear eX11
          generalize Y0.alloc (.cells #[.bool false, .int .i64 0, .int .i64 0, .int .i64 0, .bool false] 103) = Y11 at HB11 F11_n hHeld ⊢
          refine wpAnyH_ready (rs := [4, 10]) (by kernel_rfl) (by simp) ?_
          refine AllReadyH.cons rfl (fun K hK => ?_) (AllReadyH.cons rfl (fun K hK => ?_) AllReadyH.nil)
          · clear hHeld
            go_simp
            go_at_call 55
            refine (HGe.out _ F8 q8 qs8 (H9.out.1.below HB11.out)).mono ?_
            rintro e Y4 ⟨rfl, hb⟩
            have HB4 := Lib.hid (HB11.out.trans (hb.mono HB11.out.size))
            have F11_4 := Lib.hid ((hb.block _ (hp_lt F11_n.out)).trans F11_n.out)
            clear hb
            go_wp2_with fail
            refine hK.out _ _ ?_ (fun hHeld => ?_)
            · exact HB4.out
            clear hK K
            (try simp only [Act.put, List.setIfInBounds_toArray, List.set_cons_zero, List.set_cons_succ])
            refine wpAnyH_ready (rs := [9, 10]) (by kernel_rfl) (by simp) ?_
            refine AllReadyH.cons rfl (fun K hK => ?_) (AllReadyH.cons rfl (fun K hK => ?_) AllReadyH.nil)
            · clear hHeld
              go_simp
              go_at_call 56
              refine (HRge.out _ R9 (H9.out.2.1.below HB4.out)).mono ?_
              rintro e Y9 ⟨rfl, hb⟩
              have HB9 := Lib.hid (HB4.out.trans (hb.mono HB4.out.size))
              have F11_9 := Lib.hid ((hb.block _ (hp_lt F11_4.out)).trans F11_4.out)
              clear hb
              go_wp2_with fail
              refine hK.out _ _ ?_ (fun hHeld => ?_)
              · exact HB9.out
              clear hK K
              (try simp only [Act.put, List.setIfInBounds_toArray, List.set_cons_zero, List.set_cons_succ])
              refine wpAnyH_ready (rs := [10]) (by kernel_rfl) (by simp) ?_
              refine AllReadyH.cons rfl (fun K hK => ?_) AllReadyH.nil
              clear hHeld
              go_simp
              have HB10 := Lib.hid (HB9.out.alloc HB9.out.size (.cells #[.bool false, .int .i64 0, .int .i64 0, .int .i64 0, .bool false] 101))
              have F11_10 := Lib.hid ((heap_alloc_old _ (.cells #[.bool false, .int .i64 0, .int .i64 0, .int .i64 0, .bool false] 101) (hp_lt F11_9.out)).trans F11_9.out)
              have F10_n := Lib.hid (heap_alloc_new Y9 (.cells #[.bool false, .int .i64 0, .int .i64 0, .int .i64 0, .bool false] 101))
              obtain ⟨X10, eX10⟩ : ∃ y, y = Y9.heap.size := ⟨_, rfl⟩
              go_wp2_with fail
              refine hK.out _ _ ?_ (fun hHeld => ?_)
              · exact HB10.out
              clear hK K
              (try simp only [Act.put, List.setIfInBounds_toArray, List.set_cons_zero, List.set_cons_succ])
              rw [← eX10] at F10_n ⊢
              have L10 := Lib.hid (show Z9.heap.size ≤ X10 from by rw [eX10]; exact HB9.out.size)
              have NE := Lib.hid (show X10 ≠ X11 from by rw [eX10]; exact fun e => Nat.lt_irrefl _ (e ▸ hp_lt F11_9.out))
              clear eX10
              generalize Y9.alloc (.cells #[.bool false, .int .i64 0, .int .i64 0, .int .i64 0, .bool false] 101) = Y10 at HB10 F10_n F11_10 hHeld ⊢
              refine wpAnyH_ready (rs := [12]) (by kernel_rfl) (by simp) ?_
              refine AllReadyH.cons rfl (fun K hK => ?_) AllReadyH.nil
              clear hHeld
              have c0 := (hp_cell (i := 0) F10_n.out).trans rfl
              have g0 := hp_free (i := 0) F10_n.out
              have c1 := (hp_cell (i := 1) F10_n.out).trans rfl
              have g1 := hp_free (i := 1) F10_n.out
              have c2 := (hp_cell (i := 2) F10_n.out).trans rfl
              have g2 := hp_free (i := 2) F10_n.out
              have c3 := (hp_cell (i := 3) F10_n.out).trans rfl
              have g3 := hp_free (i := 3) F10_n.out
              have c4 := (hp_cell (i := 4) F10_n.out).trans rfl
              have g4 := hp_free (i := 4) F10_n.out
              go_simp
              clear c0 c1 c2 c3 c4 g0 g1 g2 g3 g4
              have HB12 := Lib.hid (show Below Z9.heap.size Z9 (((((Y10.setCell ⟨X10, 0, none⟩ (.bool vh)).setCell ⟨X10, 1, none⟩ (.int .i64 vn)).setCell ⟨X10, 2, none⟩ (.int .i64 vx)).setCell ⟨X10, 3, none⟩ (.int .i64 va)).setCell ⟨X10, 4, none⟩ (.bool vm)) from (((((HB10.out.setCell L10.out _).setCell L10.out _).setCell L10.out _).setCell L10.out _).setCell L10.out _))
              have S10 := Lib.hid (set5 (.bool vh) (.int .i64 vn) (.int .i64 vx) (.int .i64 va) (.bool vm) F10_n.out (rfl : (((((Y10.setCell ⟨X10, 0, none⟩ (.bool vh)).setCell ⟨X10, 1, none⟩ (.int .i64 vn)).setCell ⟨X10, 2, none⟩ (.int .i64 vx)).setCell ⟨X10, 3, none⟩ (.int .i64 va)).setCell ⟨X10, 4, none⟩ (.bool vm)) = _))
              have O11_12 := Lib.hid ((set5_other (w := Y10) (g := X10) (k := X11) (.bool vh) (.int .i64 vn) (.int .i64 vx) (.int .i64 va) (.bool vm) (by have := NE.out; first | exact this | exact Ne.symm this)).trans F11_10.out)
              go_wp2_with fail
              refine hK.out _ _ ?_ (fun hHeld => ?_)
              · exact HB12.out
              clear hK K
              (try simp only [Act.put, List.setIfInBounds_toArray, List.set_cons_zero, List.set_cons_succ])
              generalize ((((Y10.setCell ⟨X10, 0, none⟩ (.bool vh)).setCell ⟨X10, 1, none⟩ (.int .i64 vn)).setCell ⟨X10, 2, none⟩ (.int .i64 vx)).setCell ⟨X10, 3, none⟩ (.int .i64 va)).setCell ⟨X10, 4, none⟩ (.bool vm) = Y12 at HB12 S10 O11_12 hHeld ⊢
              refine wpAnyH_ready (rs := [13]) (by kernel_rfl) (by simp) ?_
              refine AllReadyH.cons rfl (fun K hK => ?_) AllReadyH.nil
              clear hHeld
              have c0 := (hp_cell (i := 0) O11_12.out).trans rfl
              have g0 := hp_free (i := 0) O11_12.out
              have c1 := (hp_cell (i := 1) O11_12.out).trans rfl
              have g1 := hp_free (i := 1) O11_12.out
              have c2 := (hp_cell (i := 2) O11_12.out).trans rfl
              have g2 := hp_free (i := 2) O11_12.out
              have c3 := (hp_cell (i := 3) O11_12.out).trans rfl
              have g3 := hp_free (i := 3) O11_12.out
              have c4 := (hp_cell (i := 4) O11_12.out).trans rfl
              have g4 := hp_free (i := 4) O11_12.out
              go_simp
              clear c0 c1 c2 c3 c4 g0 g1 g2 g3 g4
              have HB13 := Lib.hid (show Below Z9.heap.size Z9 (((((Y12.setCell ⟨X11, 0, none⟩ (.bool vh)).setCell ⟨X11, 1, none⟩ (.int .i64 vn)).setCell ⟨X11, 2, none⟩ (.int .i64 vx)).setCell ⟨X11, 3, none⟩ (.int .i64 va)).setCell ⟨X11, 4, none⟩ (.bool vm)) from (((((HB12.out.setCell L11.out _).setCell L11.out _).setCell L11.out _).setCell L11.out _).setCell L11.out _))
              have S11 := Lib.hid (set5 (.bool vh) (.int .i64 vn) (.int .i64 vx) (.int .i64 va) (.bool vm) O11_12.out (rfl : (((((Y12.setCell ⟨X11, 0, none⟩ (.bool vh)).setCell ⟨X11, 1, none⟩ (.int .i64 vn)).setCell ⟨X11, 2, none⟩ (.int .i64 vx)).setCell ⟨X11, 3, none⟩ (.int .i64 va)).setCell ⟨X11, 4, none⟩ (.bool vm)) = _))
              have O10_13 := Lib.hid ((set5_other (w := Y12) (g := X11) (k := X10) (.bool vh) (.int .i64 vn) (.int .i64 vx) (.int .i64 va) (.bool vm) (by have := NE.out; first | exact this | exact Ne.symm this)).trans S10.out)
              go_wp2_with fail
              refine hK.out _ _ ?_ (fun hHeld => ?_)
              · exact HB13.out
              clear hK K
              (try simp only [Act.put, List.setIfInBounds_toArray, List.set_cons_zero, List.set_cons_succ])
              generalize ((((Y12.setCell ⟨X11, 0, none⟩ (.bool vh)).setCell ⟨X11, 1, none⟩ (.int .i64 vn)).setCell ⟨X11, 2, none⟩ (.int .i64 vx)).setCell ⟨X11, 3, none⟩ (.int .i64 va)).setCell ⟨X11, 4, none⟩ (.bool vm) = Y13 at HB13 O10_13 S11 hHeld ⊢
              refine wpAnyH_done (by kernel_rfl) ?_ _
              go_wp2_with fail
              go_meet
              case rel => exact ⟨X10, X11, rfl, rfl, O10_13.out, S11.out, HB13.out⟩
            · clear hHeld
              go_simp
              have HB10 := Lib.hid (HB4.out.alloc HB4.out.size (.cells #[.bool false, .int .i64 0, .int .i64 0, .int .i64 0, .bool false] 101))
              have F11_10 := Lib.hid ((heap_alloc_old _ (.cells #[.bool false, .int .i64 0, .int .i64 0, .int .i64 0, .bool false] 101) (hp_lt F11_4.out)).trans F11_4.out)
              have F10_n := Lib.hid (heap_alloc_new Y4 (.cells #[.bool false, .int .i64 0, .int .i64 0, .int .i64 0, .bool false] 101))
              obtain ⟨X10, eX10⟩ : ∃ y, y = Y4.heap.size := ⟨_, rfl⟩
              go_wp2_with fail
              refine hK.out _ _ ?_ (fun hHeld => ?_)
              · exact HB10.out
              clear hK K
              (try simp only [Act.put, List.setIfInBounds_toArray, List.set_cons_zero, List.set_cons_succ])
              rw [← eX10] at F10_n ⊢
              have L10 := Lib.hid (show Z9.heap.size ≤ X10 from by rw [eX10]; exact HB4.out.size)
              have NE := Lib.hid (show X10 ≠ X11 from by rw [eX10]; exact fun e => Nat.lt_irrefl _ (e ▸ hp_lt F11_4.out))
              clear eX10
              generalize Y4.alloc (.cells #[.bool false, .int .i64 0, .int .i64 0, .int .i64 0, .bool false] 101) = Y10 at HB10 F10_n F11_10 hHeld ⊢
              refine wpAnyH_ready (rs := [9]) (by kernel_rfl) (by simp) ?_
              refine AllReadyH.cons rfl (fun K hK => ?_) AllReadyH.nil
              clear hHeld
              go_simp
              go_at_call 56
              refine (HRge.out _ R9 (H9.out.2.1.below HB10.out)).mono ?_
              rintro e Y9 ⟨rfl, hb⟩
              have HB9 := Lib.hid (HB10.out.trans (hb.mono HB10.out.size))
              have F10_9 := Lib.hid ((hb.block _ (hp_lt F10_n.out)).trans F10_n.out)
              have F11_9 := Lib.hid ((hb.block _ (hp_lt F11_10.out)).trans F11_10.out)
              clear hb
              go_wp2_with fail
              refine hK.out _ _ ?_ (fun hHeld => ?_)
              · exact HB9.out
              clear hK K
              (try simp only [Act.put, List.setIfInBounds_toArray, List.set_cons_zero, List.set_cons_succ])
              refine wpAnyH_ready (rs := [12]) (by kernel_rfl) (by simp) ?_
              refine AllReadyH.cons rfl (fun K hK => ?_) AllReadyH.nil
              clear hHeld
              have c0 := (hp_cell (i := 0) F10_9.out).trans rfl
              have g0 := hp_free (i := 0) F10_9.out
              have c1 := (hp_cell (i := 1) F10_9.out).trans rfl
              have g1 := hp_free (i := 1) F10_9.out
              have c2 := (hp_cell (i := 2) F10_9.out).trans rfl
              have g2 := hp_free (i := 2) F10_9.out
              have c3 := (hp_cell (i := 3) F10_9.out).trans rfl
              have g3 := hp_free (i := 3) F10_9.out
              have c4 := (hp_cell (i := 4) F10_9.out).trans rfl
              have g4 := hp_free (i := 4) F10_9.out
              go_simp
              clear c0 c1 c2 c3 c4 g0 g1 g2 g3 g4
              have HB12 := Lib.hid (show Below Z9.heap.size Z9 (((((Y9.setCell ⟨X10, 0, none⟩ (.bool vh)).setCell ⟨X10, 1, none⟩ (.int .i64 vn)).setCell ⟨X10, 2, none⟩ (.int .i64 vx)).setCell ⟨X10, 3, none⟩ (.int .i64 va)).setCell ⟨X10, 4, none⟩ (.bool vm)) from (((((HB9.out.setCell L10.out _).setCell L10.out _).setCell L10.out _).setCell L10.out _).setCell L10.out _))
              have S10 := Lib.hid (set5 (.bool vh) (.int .i64 vn) (.int .i64 vx) (.int .i64 va) (.bool vm) F10_9.out (rfl : (((((Y9.setCell ⟨X10, 0, none⟩ (.bool vh)).setCell ⟨X10, 1, none⟩ (.int .i64 vn)).setCell ⟨X10, 2, none⟩ (.int .i64 vx)).setCell ⟨X10, 3, none⟩ (.int .i64 va)).setCell ⟨X10, 4, none⟩ (.bool vm)) = _))
              have O11_12 := Lib.hid ((set5_other (w := Y9) (g := X10) (k := X11) (.bool vh) (.int .i64 vn) (.int .i64 vx) (.int .i64 va) (.bool vm) (by have := NE.out; first | exact this | exact Ne.symm this)).trans F11_9.out)
              go_wp2_with fail
              refine hK.out _ _ ?_ (fun hHeld => ?_)
              · exact HB12.out
              clear hK K
              (try simp only [Act.put, List.setIfInBounds_toArray, List.set_cons_zero, List.set_cons_succ])
              generalize ((((Y9.setCell ⟨X10, 0, none⟩ (.bool vh)).setCell ⟨X10, 1, none⟩ (.int .i64 vn)).setCell ⟨X10, 2, none⟩ (.int .i64 vx)).setCell ⟨X10, 3, none⟩ (.int .i64 va)).setCell ⟨X10, 4, none⟩ (.bool vm) = Y12 at HB12 S10 O11_12 hHeld ⊢
              refine wpAnyH_ready (rs := [13]) (by kernel_rfl) (by simp) ?_
              refine AllReadyH.cons rfl (fun K hK => ?_) AllReadyH.nil
              clear hHeld
              have c0 := (hp_cell (i := 0) O11_12.out).trans rfl
              have g0 := hp_free (i := 0) O11_12.out
              have c1 := (hp_cell (i := 1) O11_12.out).trans rfl
              have g1 := hp_free (i := 1) O11_12.out
              have c2 := (hp_cell (i := 2) O11_12.out).trans rfl
              have g2 := hp_free (i := 2) O11_12.out
              have c3 := (hp_cell (i := 3) O11_12.out).trans rfl
              have g3 := hp_free (i := 3) O11_12.out
              have c4 := (hp_cell (i := 4) O11_12.out).trans rfl
              have g4 := hp_free (i := 4) O11_12.out
              go_simp
              clear c0 c1 c2 c3 c4 g0 g1 g2 g3 g4
              have HB13 := Lib.hid (show Below Z9.heap.size Z9 (((((Y12.setCell ⟨X11, 0, none⟩ (.bool vh)).setCell ⟨X11, 1, none⟩ (.int .i64 vn)).setCell ⟨X11, 2, none⟩ (.int .i64 vx)).setCell ⟨X11, 3, none⟩ (.int .i64 va)).setCell ⟨X11, 4, none⟩ (.bool vm)) from (((((HB12.out.setCell L11.out _).setCell L11.out _).setCell L11.out _).setCell L11.out _).setCell L11.out _))
              have S11 := Lib.hid (set5 (.bool vh) (.int .i64 vn) (.int .i64 vx) (.int .i64 va) (.bool vm) O11_12.out (rfl : (((((Y12.setCell ⟨X11, 0, none⟩ (.bool vh)).setCell ⟨X11, 1, none⟩ (.int .i64 vn)).setCell ⟨X11, 2, none⟩ (.int .i64 vx)).setCell ⟨X11, 3, none⟩ (.int .i64 va)).setCell ⟨X11, 4, none⟩ (.bool vm)) = _))
              have O10_13 := Lib.hid ((set5_other (w := Y12) (g := X11) (k := X10) (.bool vh) (.int .i64 vn) (.int .i64 vx) (.int .i64 va) (.bool vm) (by have := NE.out; first | exact this | exact Ne.symm this)).trans S10.out)
              go_wp2_with fail
              refine hK.out _ _ ?_ (fun hHeld => ?_)
              · exact HB13.out
              clear hK K
              (try simp only [Act.put, List.setIfInBounds_toArray, List.set_cons_zero, List.set_cons_succ])
              generalize ((((Y12.setCell ⟨X11, 0, none⟩ (.bool vh)).setCell ⟨X11, 1, none⟩ (.int .i64 vn)).setCell ⟨X11, 2, none⟩ (.int .i64 vx)).setCell ⟨X11, 3, none⟩ (.int .i64 va)).setCell ⟨X11, 4, none⟩ (.bool vm) = Y13 at HB13 O10_13 S11 hHeld ⊢
              refine wpAnyH_done (by kernel_rfl) ?_ _
              go_wp2_with fail
              go_meet
              case rel => exact ⟨X10, X11, rfl, rfl, O10_13.out, S11.out, HB13.out⟩
          · clear hHeld
            go_simp
            have HB10 := Lib.hid (HB11.out.alloc HB11.out.size (.cells #[.bool false, .int .i64 0, .int .i64 0, .int .i64 0, .bool false] 101))
            have F11_10 := Lib.hid ((heap_alloc_old _ (.cells #[.bool false, .int .i64 0, .int .i64 0, .int .i64 0, .bool false] 101) (hp_lt F11_n.out)).trans F11_n.out)
            have F10_n := Lib.hid (heap_alloc_new Y11 (.cells #[.bool false, .int .i64 0, .int .i64 0, .int .i64 0, .bool false] 101))
            obtain ⟨X10, eX10⟩ : ∃ y, y = Y11.heap.size := ⟨_, rfl⟩
            go_wp2_with fail
            refine hK.out _ _ ?_ (fun hHeld => ?_)
            · exact HB10.out
            clear hK K
            (try simp only [Act.put, List.setIfInBounds_toArray, List.set_cons_zero, List.set_cons_succ])
            rw [← eX10] at F10_n ⊢
            have L10 := Lib.hid (show Z9.heap.size ≤ X10 from by rw [eX10]; exact HB11.out.size)
            have NE := Lib.hid (show X10 ≠ X11 from by rw [eX10]; exact fun e => Nat.lt_irrefl _ (e ▸ hp_lt F11_n.out))
            clear eX10
            generalize Y11.alloc (.cells #[.bool false, .int .i64 0, .int .i64 0, .int .i64 0, .bool false] 101) = Y10 at HB10 F10_n F11_10 hHeld ⊢
            refine wpAnyH_ready (rs := [4]) (by kernel_rfl) (by simp) ?_
            refine AllReadyH.cons rfl (fun K hK => ?_) AllReadyH.nil
            clear hHeld
            go_simp
            go_at_call 55
            refine (HGe.out _ F8 q8 qs8 (H9.out.1.below HB10.out)).mono ?_
            rintro e Y4 ⟨rfl, hb⟩
            have HB4 := Lib.hid (HB10.out.trans (hb.mono HB10.out.size))
            have F10_4 := Lib.hid ((hb.block _ (hp_lt F10_n.out)).trans F10_n.out)
            have F11_4 := Lib.hid ((hb.block _ (hp_lt F11_10.out)).trans F11_10.out)
            clear hb
            go_wp2_with fail
            refine hK.out _ _ ?_ (fun hHeld => ?_)
            · exact HB4.out
            clear hK K
            (try simp only [Act.put, List.setIfInBounds_toArray, List.set_cons_zero, List.set_cons_succ])
            refine wpAnyH_ready (rs := [9]) (by kernel_rfl) (by simp) ?_
            refine AllReadyH.cons rfl (fun K hK => ?_) AllReadyH.nil
            clear hHeld
            go_simp
            go_at_call 56
            refine (HRge.out _ R9 (H9.out.2.1.below HB4.out)).mono ?_
            rintro e Y9 ⟨rfl, hb⟩
            have HB9 := Lib.hid (HB4.out.trans (hb.mono HB4.out.size))
            have F10_9 := Lib.hid ((hb.block _ (hp_lt F10_4.out)).trans F10_4.out)
            have F11_9 := Lib.hid ((hb.block _ (hp_lt F11_4.out)).trans F11_4.out)
            clear hb
            go_wp2_with fail
            refine hK.out _ _ ?_ (fun hHeld => ?_)
            · exact HB9.out
            clear hK K
            (try simp only [Act.put, List.setIfInBounds_toArray, List.set_cons_zero, List.set_cons_succ])
            refine wpAnyH_ready (rs := [12]) (by kernel_rfl) (by simp) ?_
            refine AllReadyH.cons rfl (fun K hK => ?_) AllReadyH.nil
            clear hHeld
            have c0 := (hp_cell (i := 0) F10_9.out).trans rfl
            have g0 := hp_free (i := 0) F10_9.out
            have c1 := (hp_cell (i := 1) F10_9.out).trans rfl
            have g1 := hp_free (i := 1) F10_9.out
            have c2 := (hp_cell (i := 2) F10_9.out).trans rfl
            have g2 := hp_free (i := 2) F10_9.out
            have c3 := (hp_cell (i := 3) F10_9.out).trans rfl
            have g3 := hp_free (i := 3) F10_9.out
            have c4 := (hp_cell (i := 4) F10_9.out).trans rfl
            have g4 := hp_free (i := 4) F10_9.out
            go_simp
            clear c0 c1 c2 c3 c4 g0 g1 g2 g3 g4
            have HB12 := Lib.hid (show Below Z9.heap.size Z9 (((((Y9.setCell ⟨X10, 0, none⟩ (.bool vh)).setCell ⟨X10, 1, none⟩ (.int .i64 vn)).setCell ⟨X10, 2, none⟩ (.int .i64 vx)).setCell ⟨X10, 3, none⟩ (.int .i64 va)).setCell ⟨X10, 4, none⟩ (.bool vm)) from (((((HB9.out.setCell L10.out _).setCell L10.out _).setCell L10.out _).setCell L10.out _).setCell L10.out _))
            have S10 := Lib.hid (set5 (.bool vh) (.int .i64 vn) (.int .i64 vx) (.int .i64 va) (.bool vm) F10_9.out (rfl : (((((Y9.setCell ⟨X10, 0, none⟩ (.bool vh)).setCell ⟨X10, 1, none⟩ (.int .i64 vn)).setCell ⟨X10, 2, none⟩ (.int .i64 vx)).setCell ⟨X10, 3, none⟩ (.int .i64 va)).setCell ⟨X10, 4, none⟩ (.bool vm)) = _))
            have O11_12 := Lib.hid ((set5_other (w := Y9) (g := X10) (k := X11) (.bool vh) (.int .i64 vn) (.int .i64 vx) (.int .i64 va) (.bool vm) (by have := NE.out; first | exact this | exact Ne.symm this)).trans F11_9.out)
            go_wp2_with fail
            refine hK.out _ _ ?_ (fun hHeld => ?_)
            · exact HB12.out
            clear hK K
            (try simp only [Act.put, List.setIfInBounds_toArray, List.set_cons_zero, List.set_cons_succ])
            generalize ((((Y9.setCell ⟨X10, 0, none⟩ (.bool vh)).setCell ⟨X10, 1, none⟩ (.int .i64 vn)).setCell ⟨X10, 2, none⟩ (.int .i64 vx)).setCell ⟨X10, 3, none⟩ (.int .i64 va)).setCell ⟨X10, 4, none⟩ (.bool vm) = Y12 at HB12 S10 O11_12 hHeld ⊢
            refine wpAnyH_ready (rs := [13]) (by kernel_rfl) (by simp) ?_
            refine AllReadyH.cons rfl (fun K hK => ?_) AllReadyH.nil
            clear hHeld
            have c0 := (hp_cell (i := 0) O11_12.out).trans rfl
            have g0 := hp_free (i := 0) O11_12.out
            have c1 := (hp_cell (i := 1) O11_12.out).trans rfl
            have g1 := hp_free (i := 1) O11_12.out
            have c2 := (hp_cell (i := 2) O11_12.out).trans rfl
            have g2 := hp_free (i := 2) O11_12.out
            have c3 := (hp_cell (i := 3) O11_12.out).trans rfl
            have g3 := hp_free (i := 3) O11_12.out
            have c4 := (hp_cell (i := 4) O11_12.out).trans rfl
            have g4 := hp_free (i := 4) O11_12.out
            go_simp
            clear c0 c1 c2 c3 c4 g0 g1 g2 g3 g4
            have HB13 := Lib.hid (show Below Z9.heap.size Z9 (((((Y12.setCell ⟨X11, 0, none⟩ (.bool vh)).setCell ⟨X11, 1, none⟩ (.int .i64 vn)).setCell ⟨X11, 2, none⟩ (.int .i64 vx)).setCell ⟨X11, 3, none⟩ (.int .i64 va)).setCell ⟨X11, 4, none⟩ (.bool vm)) from (((((HB12.out.setCell L11.out _).setCell L11.out _).setCell L11.out _).setCell L11.out _).setCell L11.out _))
            have S11 := Lib.hid (set5 (.bool vh) (.int .i64 vn) (.int .i64 vx) (.int .i64 va) (.bool vm) O11_12.out (rfl : (((((Y12.setCell ⟨X11, 0, none⟩ (.bool vh)).setCell ⟨X11, 1, none⟩ (.int .i64 vn)).setCell ⟨X11, 2, none⟩ (.int .i64 vx)).setCell ⟨X11, 3, none⟩ (.int .i64 va)).setCell ⟨X11, 4, none⟩ (.bool vm)) = _))
            have O10_13 := Lib.hid ((set5_other (w := Y12) (g := X11) (k := X10) (.bool vh) (.int .i64 vn) (.int .i64 vx) (.int .i64 va) (.bool vm) (by have := NE.out; first | exact this | exact Ne.symm this)).trans S10.out)
            go_wp2_with fail
            refine hK.out _ _ ?_ (fun hHeld => ?_)
            · exact HB13.out
            clear hK K
            (try simp only [Act.put, List.setIfInBounds_toArray, List.set_cons_zero, List.set_cons_succ])
            generalize ((((Y12.setCell ⟨X11, 0, none⟩ (.bool vh)).setCell ⟨X11, 1, none⟩ (.int .i64 vn)).setCell ⟨X11, 2, none⟩ (.int .i64 vx)).setCell ⟨X11, 3, none⟩ (.int .i64 va)).setCell ⟨X11, 4, none⟩ (.bool vm) = Y13 at HB13 O10_13 S11 hHeld ⊢
            refine wpAnyH_done (by kernel_rfl) ?_ _
            go_wp2_with fail
            go_meet
            case rel => exact ⟨X10, X11, rfl, rfl, O10_13.out, S11.out, HB13.out⟩
      case rest =>
        obtain ⟨B1, B2, rfl, rfl, hB1, hB2, hbc⟩ := hcut
        have HC := Lib.hid (And.intro (H9.out.1.below hbc) (And.intro (H9.out.2.1.below hbc) (And.intro hB1 hB2)))
        have c0 := (hp_cell (i := 0) hB1).trans rfl
        have c1 := (hp_cell (i := 1) hB1).trans rfl
        have c2 := (hp_cell (i := 2) hB1).trans rfl
        have c3 := (hp_cell (i := 3) hB1).trans rfl
        have c4 := (hp_cell (i := 4) hB1).trans rfl
        clear hB1 hB2 hbc H9 lx
        go_upto_region 12 with (first
          | (go_at_call 58; with_reducible refine (HRof.out _).mono ?_; rintro e w11 ⟨rfl, hb11⟩; have H12 := Lib.hid (And.intro (H11.out.1.below hb11) (And.intro (H11.out.2.1.below hb11) (And.intro ((hb11.block _ (hp_lt H11.out.2.2.1)).trans H11.out.2.2.1) ((hb11.block _ (hp_lt H11.out.2.2.2)).trans H11.out.2.2.2)))); clear hb11)
          | (go_at_call 57; with_reducible refine (HOf.out _).mono ?_; rintro e w10 ⟨rfl, hb10⟩; have H11 := Lib.hid (And.intro (HC.out.1.below hb10) (And.intro (HC.out.2.1.below hb10) (And.intro ((hb10.block _ (hp_lt HC.out.2.2.1)).trans HC.out.2.2.1) ((hb10.block _ (hp_lt HC.out.2.2.2)).trans HC.out.2.2.2)))); have y0 := (hp_cell (i := 0) H11.out.2.2.2).trans rfl; have y1 := (hp_cell (i := 1) H11.out.2.2.2).trans rfl; have y2 := (hp_cell (i := 2) H11.out.2.2.2).trans rfl; have y3 := (hp_cell (i := 3) H11.out.2.2.2).trans rfl; have y4 := (hp_cell (i := 4) H11.out.2.2.2).trans rfl; clear hb10))
        clear c0 c1 c2 c3 c4
        have HB1 := Lib.hid (hp_lt H12.out.2.2.1)
        have HB2 := Lib.hid (hp_lt H12.out.2.2.2)
        refine wp_region_held_drew (S := fun w' => Below w11.heap.size w11 w') (by kernel_rfl) ?_ (fun hHeld => ?_)
        · exact (Below.refl _ _).drew
        have HB0 := Lib.hid (show Below w11.heap.size w11 w11.drew from (Below.refl _ _).drew)
        generalize w11.drew = Y0 at HB0 hHeld ⊢
        refine wpAnyH_take (i := 0) (v := .agg #[.bool vh, .int .i64 vn, .int .i64 vx, .int .i64 va, .bool vm]) rfl (by kernel_rfl) (by kernel_rfl) (by kernel_rfl) (fun _ _ _ h => h) (Or.inl ⟨by kernel_rfl, ?_⟩) (by with_reducible assumption) ?_
        · intro wz hSw
          (try dsimp only at hSw)
          have z0 := (hSw.cell (p := ⟨B1, 0, none⟩) HB1.out).trans ((hp_cell (i := 0) H12.out.2.2.1).trans rfl)
          have z1 := (hSw.cell (p := ⟨B1, 1, none⟩) HB1.out).trans ((hp_cell (i := 1) H12.out.2.2.1).trans rfl)
          have z2 := (hSw.cell (p := ⟨B1, 2, none⟩) HB1.out).trans ((hp_cell (i := 2) H12.out.2.2.1).trans rfl)
          have z3 := (hSw.cell (p := ⟨B1, 3, none⟩) HB1.out).trans ((hp_cell (i := 3) H12.out.2.2.1).trans rfl)
          have z4 := (hSw.cell (p := ⟨B1, 4, none⟩) HB1.out).trans ((hp_cell (i := 4) H12.out.2.2.1).trans rfl)
          go_simp
          (try with_reducible rfl)
        show wpAnyH _ _ _ _ _ _ _ (Act.put _ (some 75) _) _
        (try simp only [Act.put, List.setIfInBounds_toArray, List.set_cons_zero, List.set_cons_succ])
        refine wpAnyH_take (i := 1) (v := .agg #[.bool vh, .int .i64 vn, .int .i64 vx, .int .i64 va, .bool vm]) rfl (by kernel_rfl) (by kernel_rfl) (by kernel_rfl) (fun _ _ _ h => h) (Or.inl ⟨by kernel_rfl, ?_⟩) (by with_reducible assumption) ?_
        · intro wz hSw
          (try dsimp only at hSw)
          have z0 := (hSw.cell (p := ⟨B2, 0, none⟩) HB2.out).trans ((hp_cell (i := 0) H12.out.2.2.2).trans rfl)
          have z1 := (hSw.cell (p := ⟨B2, 1, none⟩) HB2.out).trans ((hp_cell (i := 1) H12.out.2.2.2).trans rfl)
          have z2 := (hSw.cell (p := ⟨B2, 2, none⟩) HB2.out).trans ((hp_cell (i := 2) H12.out.2.2.2).trans rfl)
          have z3 := (hSw.cell (p := ⟨B2, 3, none⟩) HB2.out).trans ((hp_cell (i := 3) H12.out.2.2.2).trans rfl)
          have z4 := (hSw.cell (p := ⟨B2, 4, none⟩) HB2.out).trans ((hp_cell (i := 4) H12.out.2.2.2).trans rfl)
          go_simp
          (try with_reducible rfl)
        show wpAnyH _ _ _ _ _ _ _ (Act.put _ (some 76) _) _
        (try simp only [Act.put, List.setIfInBounds_toArray, List.set_cons_zero, List.set_cons_succ])
        refine wpAnyH_take (i := 2) (v := ?_) rfl (by kernel_rfl) (by kernel_rfl) (by kernel_rfl) (fun _ _ _ h => h) (Or.inl ⟨by kernel_rfl, ?_⟩) (by with_reducible assumption) ?_
        rotate_left
        · intro wz hSw
          (try dsimp only at hSw)
          go_simp
          (try with_reducible rfl)
        show wpAnyH _ _ _ _ _ _ _ (Act.put _ (some 77) _) _
        (try simp only [Act.put, List.setIfInBounds_toArray, List.set_cons_zero, List.set_cons_succ])
        refine wpAnyH_take (i := 3) (v := ?_) rfl (by kernel_rfl) (by kernel_rfl) (by kernel_rfl) (fun _ _ _ h => h) (Or.inl ⟨by kernel_rfl, ?_⟩) (by with_reducible assumption) ?_
        rotate_left
        · intro wz hSw
          (try dsimp only at hSw)
          go_simp
          (try with_reducible rfl)
        show wpAnyH _ _ _ _ _ _ _ (Act.put _ (some 78) _) _
        (try simp only [Act.put, List.setIfInBounds_toArray, List.set_cons_zero, List.set_cons_succ])
        refine wpAnyH_take (i := 4) (v := ?_) rfl (by kernel_rfl) (by kernel_rfl) (by kernel_rfl) (fun _ _ _ h => h) (Or.inl ⟨by kernel_rfl, ?_⟩) (by with_reducible assumption) ?_
        rotate_left
        · intro wz hSw
          (try dsimp only at hSw)
          go_simp
          (try with_reducible rfl)
        show wpAnyH _ _ _ _ _ _ _ (Act.put _ (some 79) _) _
        (try simp only [Act.put, List.setIfInBounds_toArray, List.set_cons_zero, List.set_cons_succ])
        refine wpAnyH_take (i := 5) (v := ?_) rfl (by kernel_rfl) (by kernel_rfl) (by kernel_rfl) (fun _ _ _ h => h) (Or.inl ⟨by kernel_rfl, ?_⟩) (by with_reducible assumption) ?_
        rotate_left
        · intro wz hSw
          (try dsimp only at hSw)
          go_simp
          (try with_reducible rfl)
        show wpAnyH _ _ _ _ _ _ _ (Act.put _ (some 80) _) _
        (try simp only [Act.put, List.setIfInBounds_toArray, List.set_cons_zero, List.set_cons_succ])
        refine wpAnyH_take (i := 6) (v := ?_) rfl (by kernel_rfl) (by kernel_rfl) (by kernel_rfl) (fun _ _ _ h => h) (Or.inl ⟨by kernel_rfl, ?_⟩) (by with_reducible assumption) ?_
        rotate_left
        · intro wz hSw
          (try dsimp only at hSw)
          go_simp
          (try with_reducible rfl)
        show wpAnyH _ _ _ _ _ _ _ (Act.put _ (some 81) _) _
        (try simp only [Act.put, List.setIfInBounds_toArray, List.set_cons_zero, List.set_cons_succ])
        refine wpAnyH_take (i := 7) (v := ?_) rfl (by kernel_rfl) (by kernel_rfl) (by kernel_rfl) (fun _ _ _ h => h) (Or.inl ⟨by kernel_rfl, ?_⟩) (by with_reducible assumption) ?_
        rotate_left
        · intro wz hSw
          (try dsimp only at hSw)
          go_simp
          (try with_reducible rfl)
        show wpAnyH _ _ _ _ _ _ _ (Act.put _ (some 82) _) _
        (try simp only [Act.put, List.setIfInBounds_toArray, List.set_cons_zero, List.set_cons_succ])
        refine wpAnyH_take (i := 8) (v := ?_) rfl (by kernel_rfl) (by kernel_rfl) (by kernel_rfl) (fun _ _ _ h => h) (Or.inl ⟨by kernel_rfl, ?_⟩) (by with_reducible assumption) ?_
        rotate_left
        · intro wz hSw
          (try dsimp only at hSw)
          go_simp
          (try with_reducible rfl)
        show wpAnyH _ _ _ _ _ _ _ (Act.put _ (some 83) _) _
        (try simp only [Act.put, List.setIfInBounds_toArray, List.set_cons_zero, List.set_cons_succ])
        refine wpAnyH_take (i := 9) (v := ?_) rfl (by kernel_rfl) (by kernel_rfl) (by kernel_rfl) (fun _ _ _ h => h) (Or.inl ⟨by kernel_rfl, ?_⟩) (by with_reducible assumption) ?_
        rotate_left
        · intro wz hSw
          (try dsimp only at hSw)
          go_simp
          (try with_reducible rfl)
        show wpAnyH _ _ _ _ _ _ _ (Act.put _ (some 84) _) _
        (try simp only [Act.put, List.setIfInBounds_toArray, List.set_cons_zero, List.set_cons_succ])
        refine wpAnyH_take (i := 10) (v := ?_) rfl (by kernel_rfl) (by kernel_rfl) (by kernel_rfl) (fun _ _ _ h => h) (Or.inl ⟨by kernel_rfl, ?_⟩) (by with_reducible assumption) ?_
        rotate_left
        · intro wz hSw
          (try dsimp only at hSw)
          go_simp
          (try with_reducible rfl)
        show wpAnyH _ _ _ _ _ _ _ (Act.put _ (some 85) _) _
        (try simp only [Act.put, List.setIfInBounds_toArray, List.set_cons_zero, List.set_cons_succ])
        refine wpAnyH_take (i := 11) (v := ?_) rfl (by kernel_rfl) (by kernel_rfl) (by kernel_rfl) (fun _ _ _ h => h) (Or.inl ⟨by kernel_rfl, ?_⟩) (by with_reducible assumption) ?_
        rotate_left
        · intro wz hSw
          (try dsimp only at hSw)
          go_simp
          (try with_reducible rfl)
        show wpAnyH _ _ _ _ _ _ _ (Act.put _ (some 86) _) _
        (try simp only [Act.put, List.setIfInBounds_toArray, List.set_cons_zero, List.set_cons_succ])
        refine wpAnyH_take (i := 12) (v := ?_) rfl (by kernel_rfl) (by kernel_rfl) (by kernel_rfl) (fun _ _ _ h => h) (Or.inl ⟨by kernel_rfl, ?_⟩) (by with_reducible assumption) ?_
        rotate_left
        · intro wz hSw
          (try dsimp only at hSw)
          go_simp
          (try with_reducible rfl)
        show wpAnyH _ _ _ _ _ _ _ (Act.put _ (some 87) _) _
        (try simp only [Act.put, List.setIfInBounds_toArray, List.set_cons_zero, List.set_cons_succ])
        refine wpAnyH_take (i := 13) (v := ?_) rfl (by kernel_rfl) (by kernel_rfl) (by kernel_rfl) (fun _ _ _ h => h) (Or.inl ⟨by kernel_rfl, ?_⟩) (by with_reducible assumption) ?_
        rotate_left
        · intro wz hSw
          (try dsimp only at hSw)
          go_simp
          (try with_reducible rfl)
        show wpAnyH _ _ _ _ _ _ _ (Act.put _ (some 88) _) _
        (try simp only [Act.put, List.setIfInBounds_toArray, List.set_cons_zero, List.set_cons_succ])
        refine wpAnyH_take (i := 14) (v := .agg #[.bool vh, .int .i64 vn, .int .i64 vx, .int .i64 va, .bool vm]) rfl (by kernel_rfl) (by kernel_rfl) (by kernel_rfl) (fun _ _ _ h => h) (Or.inl ⟨by kernel_rfl, ?_⟩) (by with_reducible assumption) ?_
        · intro wz hSw
          (try dsimp only at hSw)
          have z0 := (hSw.cell (p := ⟨B1, 0, none⟩) HB1.out).trans ((hp_cell (i := 0) H12.out.2.2.1).trans rfl)
          have z1 := (hSw.cell (p := ⟨B1, 1, none⟩) HB1.out).trans ((hp_cell (i := 1) H12.out.2.2.1).trans rfl)
          have z2 := (hSw.cell (p := ⟨B1, 2, none⟩) HB1.out).trans ((hp_cell (i := 2) H12.out.2.2.1).trans rfl)
          have z3 := (hSw.cell (p := ⟨B1, 3, none⟩) HB1.out).trans ((hp_cell (i := 3) H12.out.2.2.1).trans rfl)
          have z4 := (hSw.cell (p := ⟨B1, 4, none⟩) HB1.out).trans ((hp_cell (i := 4) H12.out.2.2.1).trans rfl)
          go_simp
          (try with_reducible rfl)
        show wpAnyH _ _ _ _ _ _ _ (Act.put _ (some 89) _) _
        (try simp only [Act.put, List.setIfInBounds_toArray, List.set_cons_zero, List.set_cons_succ])
        refine wpAnyH_take (i := 15) (v := ?_) rfl (by kernel_rfl) (by kernel_rfl) (by kernel_rfl) (fun _ _ _ h => h) (Or.inl ⟨by kernel_rfl, ?_⟩) (by with_reducible assumption) ?_
        rotate_left
        · intro wz hSw
          (try dsimp only at hSw)
          go_simp
          (try with_reducible rfl)
        show wpAnyH _ _ _ _ _ _ _ (Act.put _ (some 90) _) _
        (try simp only [Act.put, List.setIfInBounds_toArray, List.set_cons_zero, List.set_cons_succ])
        refine wpAnyH_take (i := 17) (v := .agg #[.bool vh, .int .i64 vn, .int .i64 vx, .int .i64 va, .bool vm]) rfl (by kernel_rfl) (by kernel_rfl) (by kernel_rfl) (fun _ _ _ h => h) (Or.inl ⟨by kernel_rfl, ?_⟩) (by with_reducible assumption) ?_
        · intro wz hSw
          (try dsimp only at hSw)
          have z0 := (hSw.cell (p := ⟨B2, 0, none⟩) HB2.out).trans ((hp_cell (i := 0) H12.out.2.2.2).trans rfl)
          have z1 := (hSw.cell (p := ⟨B2, 1, none⟩) HB2.out).trans ((hp_cell (i := 1) H12.out.2.2.2).trans rfl)
          have z2 := (hSw.cell (p := ⟨B2, 2, none⟩) HB2.out).trans ((hp_cell (i := 2) H12.out.2.2.2).trans rfl)
          have z3 := (hSw.cell (p := ⟨B2, 3, none⟩) HB2.out).trans ((hp_cell (i := 3) H12.out.2.2.2).trans rfl)
          have z4 := (hSw.cell (p := ⟨B2, 4, none⟩) HB2.out).trans ((hp_cell (i := 4) H12.out.2.2.2).trans rfl)
          go_simp
          (try with_reducible rfl)
        show wpAnyH _ _ _ _ _ _ _ (Act.put _ (some 92) _) _
        (try simp only [Act.put, List.setIfInBounds_toArray, List.set_cons_zero, List.set_cons_succ])
        refine wpAnyH_take (i := 18) (v := ?_) rfl (by kernel_rfl) (by kernel_rfl) (by kernel_rfl) (fun _ _ _ h => h) (Or.inl ⟨by kernel_rfl, ?_⟩) (by with_reducible assumption) ?_
        rotate_left
        · intro wz hSw
          (try dsimp only at hSw)
          go_simp
          (try with_reducible rfl)
        show wpAnyH _ _ _ _ _ _ _ (Act.put _ (some 93) _) _
        (try simp only [Act.put, List.setIfInBounds_toArray, List.set_cons_zero, List.set_cons_succ])
        refine wpAnyH_ready (rs := [16]) (by kernel_rfl) (by simp) ?_
        refine AllReadyH.cons rfl (fun K hK => ?_) AllReadyH.nil
        clear hHeld
        go_simp
        go_at_call 59
        with_reducible refine (HSe.out _).mono ?_
        rintro e Y16 ⟨rfl, hb⟩
        have HB16_ := Lib.hid (HB0.out.trans (hb.mono HB0.out.size))
        clear hb
        go_wp2_with fail
        refine hK.out _ _ ?_ (fun hHeld => ?_)
        · exact HB16_.out
        clear hK K
        (try simp only [Act.put, List.setIfInBounds_toArray, List.set_cons_zero, List.set_cons_succ])
        refine wpAnyH_ready (rs := [19]) (by kernel_rfl) (by simp) ?_
        refine AllReadyH.cons rfl (fun K hK => ?_) AllReadyH.nil
        clear hHeld
        go_simp
        go_at_call 60
        with_reducible refine (HRse.out _).mono ?_
        rintro e Y19 ⟨rfl, hb⟩
        have HB19_ := Lib.hid (HB16_.out.trans (hb.mono HB16_.out.size))
        clear hb
        go_wp2_with fail
        refine hK.out _ _ ?_ (fun hHeld => ?_)
        · exact HB19_.out
        clear hK K
        (try simp only [Act.put, List.setIfInBounds_toArray, List.set_cons_zero, List.set_cons_succ])
        refine wpAnyH_take (i := 20) (v := ?_) rfl (by kernel_rfl) (by kernel_rfl) (by kernel_rfl) (fun _ _ _ h => h) (Or.inl ⟨by kernel_rfl, ?_⟩) (by with_reducible assumption) ?_
        rotate_left
        · intro wz hSw
          (try dsimp only at hSw)
          go_simp
          (try with_reducible rfl)
        show wpAnyH _ _ _ _ _ _ _ (Act.put _ (some 95) _) _
        (try simp only [Act.put, List.setIfInBounds_toArray, List.set_cons_zero, List.set_cons_succ])
        refine wpAnyH_take (i := 21) (v := ?_) rfl (by kernel_rfl) (by kernel_rfl) (by kernel_rfl) (fun _ _ _ h => h) (Or.inl ⟨by kernel_rfl, ?_⟩) (by with_reducible assumption) ?_
        rotate_left
        · intro wz hSw
          (try dsimp only at hSw)
          go_simp
          (try with_reducible rfl)
        show wpAnyH _ _ _ _ _ _ _ (Act.put _ (some 96) _) _
        (try simp only [Act.put, List.setIfInBounds_toArray, List.set_cons_zero, List.set_cons_succ])
        refine wpAnyH_done (by kernel_rfl) ?_ _
        go_wp2_with fail
        exact ⟨⟨j + 1, F8, q8, qs8, R9, L2, by have := HQ.out.2.2; omega, by go_num, H12.out.1.below HB19_.out, by have := HQ8.out; have := HQ.out.1; omega, H12.out.2.1.below HB19_.out, by have := HR9.out; have := HQ.out.2.1; omega, HM2.out.1, by have := HM2.out.2.1; have := HM2.out.2.2; omega⟩, by simp [intOf]; omega⟩
    · obtain rfl : j = N := by omega
      have p2 : ¬ (j : Int) < (j : Int) := by omega
      obtain ⟨Z, hZ⟩ : ∃ Z, Z = wr := ⟨wr, rfl⟩
      subst hZ
      obtain ⟨vL, vP, h1, h2, h3⟩ := hd.ex
      obtain ⟨Am, Cm, rfl, hpm⟩ := Pr.of h2
      have m0 := (hp_cell (i := 0) h1).trans rfl
      have hmw := hp_lt h1
      have HSs := Lib.hid hs
      have HMm := Lib.hid (And.intro hpm hmw)
      have HKs := Lib.hid (fun p hp => (hM.z p hp).1)
      have HLn := Lib.hid (show L.length < 1000000 by omega)
      clear hs hd h1 h2 h3 hpm hq hR hM hL
      go_upto_region 15 with fail
      refine wp_region_held_drew (S := fun w' => Below Z.heap.size Z w') (by kernel_rfl) ?_ (fun hHeld => ?_)
      · exact (Below.refl _ _).drew
      generalize Z.drew = Z0 at hHeld ⊢
      have HB0 := Lib.hid hHeld
      refine wpAnyH_take (i := 0) (v := ?_) rfl (by kernel_rfl) (by kernel_rfl) (by kernel_rfl) (fun _ _ _ h => h) (Or.inl ⟨by kernel_rfl, ?_⟩) (by with_reducible assumption) ?_
      rotate_left
      · intro wz hSw
        (try dsimp only at hSw)
        go_simp
        (try with_reducible rfl)
      show wpAnyH _ _ _ _ _ _ _ (Act.put _ (some 98) _) _
      (try simp only [Act.put, List.setIfInBounds_toArray, List.set_cons_zero, List.set_cons_succ])
      refine wpAnyH_take (i := 2) (v := ?_) rfl (by kernel_rfl) (by kernel_rfl) (by kernel_rfl) (fun _ _ _ h => h) (Or.inl ⟨by kernel_rfl, ?_⟩) (by with_reducible assumption) ?_
      rotate_left
      · intro wz hSw
        (try dsimp only at hSw)
        go_simp
        (try with_reducible rfl)
      show wpAnyH _ _ _ _ _ _ _ (Act.put _ (some 100) _) _
      (try simp only [Act.put, List.setIfInBounds_toArray, List.set_cons_zero, List.set_cons_succ])
      refine wpAnyH_take (i := 3) (v := ?_) rfl (by kernel_rfl) (by kernel_rfl) (by kernel_rfl) (fun _ _ _ h => h) (Or.inl ⟨by kernel_rfl, ?_⟩) (by with_reducible assumption) ?_
      rotate_left
      · intro wz hSw
        (try dsimp only at hSw)
        go_simp
        (try with_reducible rfl)
      show wpAnyH _ _ _ _ _ _ _ (Act.put _ (some 101) _) _
      (try simp only [Act.put, List.setIfInBounds_toArray, List.set_cons_zero, List.set_cons_succ])
      refine wpAnyH_take (i := 4) (v := ?_) rfl (by kernel_rfl) (by kernel_rfl) (by kernel_rfl) (fun _ _ _ h => h) (Or.inl ⟨by kernel_rfl, ?_⟩) (by with_reducible assumption) ?_
      rotate_left
      · intro wz hSw
        (try dsimp only at hSw)
        go_simp
        (try with_reducible rfl)
      show wpAnyH _ _ _ _ _ _ _ (Act.put _ (some 102) _) _
      (try simp only [Act.put, List.setIfInBounds_toArray, List.set_cons_zero, List.set_cons_succ])
      refine wpAnyH_take (i := 5) (v := .slice Am L.length Cm) rfl (by kernel_rfl) (by kernel_rfl) (by kernel_rfl) (fun _ _ _ h => h) (Or.inl ⟨by kernel_rfl, ?_⟩) (by with_reducible assumption) ?_
      · intro wz hSw
        (try dsimp only at hSw)
        have y0 := (hSw.cell (p := ⟨m, 0, none⟩) HMm.out.2).trans m0
        go_simp
        (try with_reducible rfl)
      show wpAnyH _ _ _ _ _ _ _ (Act.put _ (some 103) _) _
      (try simp only [Act.put, List.setIfInBounds_toArray, List.set_cons_zero, List.set_cons_succ])
      refine wpAnyH_ready (rs := [1]) (by kernel_rfl) (by simp) ?_
      refine AllReadyH.cons rfl (fun K hK => ?_) AllReadyH.nil
      clear hHeld
      go_simp
      go_at_call 22
      refine (all_live _ _ _ _ _ _ (HSs.out.below HB0.out).s HKs.out HLn.out).mono ?_
      rintro e Z1 ⟨⟨v4, rfl, ho4⟩, hb4⟩
      obtain ⟨A4, C4, rfl, hp4⟩ := Pr.of ho4
      have HB4 := Lib.hid (HB0.out.trans (hb4.mono HB0.out.size))
      have HP4 := Lib.hid hp4
      clear ho4 hp4 hb4
      go_wp2_with fail
      refine hK.out _ _ ?_ (fun hHeld => ?_)
      · exact HB4.out
      clear hK K
      (try simp only [Act.put, List.setIfInBounds_toArray, List.set_cons_zero, List.set_cons_succ])
      refine wpAnyH_ready (rs := [6]) (by kernel_rfl) (by simp) ?_
      refine AllReadyH.cons rfl (fun K hK => ?_) AllReadyH.nil
      clear hHeld
      go_simp
      go_at_call 21
      refine (same_walk A4 Am C4 Cm L L _ HP4.out (HMm.out.1.below HB4.out) HLn.out true ⟨fun _ => rfl, fun _ => rfl⟩).mono ?_
      rintro e Z6 ⟨rfl, hb9⟩
      have HB9 := Lib.hid (HB4.out.trans (hb9.mono HB4.out.size))
      clear hb9
      go_wp2_with fail
      refine hK.out _ _ ?_ (fun hHeld => ?_)
      · exact HB9.out
      clear hK K
      (try simp only [Act.put, List.setIfInBounds_toArray, List.set_cons_zero, List.set_cons_succ])
      refine wpAnyH_take (i := 7) (v := ?_) rfl (by kernel_rfl) (by kernel_rfl) (by kernel_rfl) (fun _ _ _ h => h) (Or.inl ⟨by kernel_rfl, ?_⟩) (by with_reducible assumption) ?_
      rotate_left
      · intro wz hSw
        (try dsimp only at hSw)
        go_simp
        (try with_reducible rfl)
      show wpAnyH _ _ _ _ _ _ _ (Act.put _ (some 105) _) _
      (try simp only [Act.put, List.setIfInBounds_toArray, List.set_cons_zero, List.set_cons_succ])
      refine wpAnyH_ready (rs := [8]) (by kernel_rfl) (by simp) ?_
      refine AllReadyH.cons rfl (fun K hK => ?_) AllReadyH.nil
      clear hHeld
      go_simp
      go_at_call 52
      refine (HLv.out _).mono ?_
      rintro e Z8 ⟨rfl, hb31⟩
      have HB31 := Lib.hid (HB9.out.trans (hb31.mono HB9.out.size))
      clear hb31
      go_wp2_with fail
      refine hK.out _ _ ?_ (fun hHeld => ?_)
      · exact HB31.out
      clear hK K
      (try simp only [Act.put, List.setIfInBounds_toArray, List.set_cons_zero, List.set_cons_succ])
      refine wpAnyH_take (i := 9) (v := ?_) rfl (by kernel_rfl) (by kernel_rfl) (by kernel_rfl) (fun _ _ _ h => h) (Or.inl ⟨by kernel_rfl, ?_⟩) (by with_reducible assumption) ?_
      rotate_left
      · intro wz hSw
        (try dsimp only at hSw)
        go_simp
        (try with_reducible rfl)
      show wpAnyH _ _ _ _ _ _ _ (Act.put _ (some 107) _) _
      (try simp only [Act.put, List.setIfInBounds_toArray, List.set_cons_zero, List.set_cons_succ])
      refine wpAnyH_take (i := 10) (v := ?_) rfl (by kernel_rfl) (by kernel_rfl) (by kernel_rfl) (fun _ _ _ h => h) (Or.inl ⟨by kernel_rfl, ?_⟩) (by with_reducible assumption) ?_
      rotate_left
      · intro wz hSw
        (try dsimp only at hSw)
        go_simp
        (try with_reducible rfl)
      show wpAnyH _ _ _ _ _ _ _ (Act.put _ (some 6) _) _
      (try simp only [Act.put, List.setIfInBounds_toArray, List.set_cons_zero, List.set_cons_succ])
      refine wpAnyH_done (by kernel_rfl) ?_ _
      go_wp2_with fail
      go_ret
      exact ⟨rfl, HSs.out.l.trans (HB31.out.mono HSs.out.l.size)⟩
  all_goals done
end Go.Proofs.Ytffipojlpdphiaa
