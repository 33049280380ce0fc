/- The law DelayWaits: light, and the plain steps. -/
import Derived.Test.YtedkhpnlhkjjgaaDB
import Derived.Test.YtedkhpnlhkjjgaaOS
import Derived.Test.YtedkhpnlhkjjgaaDelayNone
namespace Go.Proofs.Ytedkhpnlhkjjgaa
open Go.RowKit Go.Maps

/-- behind its wait what was set counts -/
theorem stepD_later {v : DV} {x blk wait b : Int} (hw : 0 ≤ wait) (hb : blk + wait ≤ b) : (settleD (stepD v x blk wait) b).h = true ∧ (settleD (stepD v x blk wait) b).n = x := by
  unfold stepD
  by_cases h : blk < blk + wait
  · have e : settleD (putD v x blk wait) blk = putD v x blk wait := by
      unfold settleD; rw [if_neg]; exact fun hh => hh.2 h
    rw [e]
    unfold settleD
    rw [if_pos ⟨rfl, by show ¬ b < blk + wait; omega⟩]
    exact ⟨rfl, rfl⟩
  · have e : settleD (putD v x blk wait) blk = ⟨true, x, 0, 0, false⟩ := by
      unfold settleD; rw [if_pos ⟨rfl, h⟩]; rfl
    rw [e]
    unfold settleD
    rw [if_neg (by simp)]
    exact ⟨rfl, rfl⟩
/-- until then what counted counts -/
theorem stepD_until {v : DV} {x blk wait b : Int} (hw : 0 < wait) (hb : b < blk + wait) : (settleD (stepD v x blk wait) b).h = (settleD v blk).h ∧ (settleD (stepD v x blk wait) b).n = (settleD v blk).n := by
  have e : stepD v x blk wait = putD v x blk wait := by
    unfold stepD settleD; rw [if_neg]; exact fun hh => hh.2 (by show blk < blk + wait; omega)
  rw [e]
  have e2 : settleD (putD v x blk wait) b = putD v x blk wait := by
    unfold settleD; rw [if_neg]; exact fun hh => hh.2 (by show b < blk + wait; omega)
  rw [e2]
  exact ⟨rfl, rfl⟩
/-- the store's entries: nothing, or the value's row -/
def DL (K : ByteArray) (L : SL) (v : DV) : Prop := (L = [] ∧ v = DV.none) ∨ L = [(K, v.row)]
theorem DL.at_ {K : ByteArray} {L : SL} {v : DV} (h : DL K L v) : DAt L K v := by
  rcases h with ⟨rfl, h⟩ | rfl
  · exact .inl ⟨rfl, h⟩
  · exact .inr (by simp [sget, keq_self])
theorem DL.len {K : ByteArray} {L : SL} {v : DV} (h : DL K L v) : L.length ≤ 1 := by
  rcases h with ⟨rfl, _⟩ | rfl <;> simp
theorem DL.set {K : ByteArray} {L : SL} {v : DV} (h : DL K L v) (u : DV) : DL K (setL L K u.row) u := by
  refine .inr ?_
  rcases h with ⟨rfl, _⟩ | rfl
  · exact setL_nil _ _
  · unfold setL
    split
    · rename_i hh
      have : v.row = u.row := by simpa [sget, keq_self] using hh
      rw [this]
    · unfold sset
      rw [if_pos (by simp [sget, keq_self])]
      simp [keq_self]
/-- the law's store: behind at most c changes it holds v -/
structure DWs (w0 w : World) (b : Nat) (K : ByteArray) (c : Nat) (v : DV) : Prop where
  s : ∃ F L q qs, SNew w0 w b F L q qs ∧ q ≤ c ∧ DL K L v
  ok : v.ok
theorem DWs.below {w0 w w' : World} {b : Nat} {K : ByteArray} {c : Nat} {v : DV} (h : DWs w0 w b K c v) (hb : Below w.heap.size w w') : DWs w0 w' b K c v := by
  obtain ⟨F, L, q, qs, hs, hq, hd⟩ := h.s
  exact ⟨⟨F, L, q, qs, hs.below hb, hq, hd⟩, h.ok⟩
theorem DWs.l {w0 w : World} {b : Nat} {K : ByteArray} {c : Nat} {v : DV} (h : DWs w0 w b K c v) : Below w0.heap.size w0 w := by
  obtain ⟨F, L, q, qs, hs, hq, hd⟩ := h.s
  exact hs.l
theorem DWs.of_live {w0 W W' : World} {b : Nat} {F : List Nat} {L : SL} {K : ByteArray} {q c : Nat} {v : DV} (h : LiveTo w0 W W' b F L q) (hq : q ≤ c) (hd : DL K L v) (hv : v.ok) : DWs w0 W' b K c v := by
  obtain ⟨F', q', qs', hs, hq', _⟩ := h
  exact ⟨⟨F', L, q', qs', hs, by omega, hd⟩, hv⟩
theorem dget_law {w0 W : World} {b c : Nat} {v : DV} (h : DWs w0 W b (keyStr 25 (fun _ => 1) 1) c v) (A : Option Addr) (cp : Nat) (hl : Il W A 1 (fun _ => 1)) :
    Calls Try.prog 59 #[.pointer (some ⟨b, 0, none⟩), .int .i64 25, .slice A 1 cp] W fun e W' => e = .returned v.val ∧ Below W.heap.size W W' := by
  obtain ⟨F, L, q, qs, hs, hq, hd⟩ := h.s
  exact dget_at hs 25 A 1 cp (fun _ => 1) _ rfl (by omega) (by have := keyStr_size 25 (fun _ => 1) 1; unfold maxLen; omega) v h.ok hd.at_ hl
theorem key251_ne : keyStr 25 (fun _ => 1) 1 ≠ ⟨#[]⟩ := by decide +kernel
theorem dset_law {w0 W : World} {b c : Nat} {v : DV} (h : DWs w0 W b (keyStr 25 (fun _ => 1) 1) c v) (hc : c < 1000000) (A : Option Addr) (cp : Nat) (hl : Il W A 1 (fun _ => 1)) (x blk wait : Int)
    (hx : 0 ≤ x ∧ x ≤ 1099511627776) (hb : 0 ≤ blk ∧ blk ≤ 1099511627776) (hw : 0 ≤ wait ∧ wait ≤ 1099511627776) :
    Calls Try.prog 57 #[.pointer (some ⟨b, 0, none⟩), .int .i64 25, .slice A 1 cp, .int .i64 x, .int .i64 blk, .int .i64 wait] W fun e W' => e = .returned (.int .i64 0) ∧ DWs w0 W' b (keyStr 25 (fun _ => 1) 1) (c + 1) (stepD v x blk wait) := by
  obtain ⟨F, L, q, qs, hs, hq, hd⟩ := h.s
  refine (dset_go hs 25 A 1 cp (fun _ => 1) _ rfl (by omega) (by have := keyStr_size 25 (fun _ => 1) 1; unfold maxLen; omega) hl key251_ne x blk wait hx hb hw (by have := hd.len; omega) (by omega) v h.ok hd.at_).mono ?_
  rintro e W' ⟨he, hL⟩
  refine ⟨he, ?_⟩
  cases hE : (stepD v x blk wait).eqb v with
  | true =>
    rw [hE, if_pos rfl] at hL
    rw [DV.of_eqb hE]
    exact DWs.of_live hL (by omega) hd h.ok
  | false =>
    rw [hE, if_neg (by decide)] at hL
    exact DWs.of_live hL (by omega) (hd.set _) (stepD_ok h.ok hx hb hw)
theorem dset_law_any {w0 W : World} {b c : Nat} {v : DV} (h : DWs w0 W b (keyStr 25 (fun _ => 1) 1) c v) (hc : c < 1000000) (A : Option Addr) (cp : Nat) (hl : Il W A 1 (fun _ => 1)) (x blk wait : Int) :
    Calls Try.prog 57 #[.pointer (some ⟨b, 0, none⟩), .int .i64 25, .slice A 1 cp, .int .i64 x, .int .i64 blk, .int .i64 wait] W fun e W' => (∃ r, e = .returned (.int .i64 r)) ∧ ∃ v', DWs w0 W' b (keyStr 25 (fun _ => 1) 1) (c + 1) v' := by
  have bad : (dIn x = false ∨ dIn x = true ∧ dIn blk = false ∨ dIn x = true ∧ dIn blk = true ∧ dIn wait = false) → Calls Try.prog 57 #[.pointer (some ⟨b, 0, none⟩), .int .i64 25, .slice A 1 cp, .int .i64 x, .int .i64 blk, .int .i64 wait] W fun e W' => (∃ r, e = .returned (.int .i64 r)) ∧ ∃ v', DWs w0 W' b (keyStr 25 (fun _ => 1) 1) (c + 1) v' := fun hbad => by
    obtain ⟨F, L, q, qs, hs, hq, hd⟩ := h.s
    refine (dset_bad hs 25 A 1 cp (fun _ => 1) _ rfl (by omega) hl key251_ne x blk wait hbad).mono ?_
    rintro e W' ⟨he, hL⟩
    exact ⟨⟨_, he⟩, v, DWs.of_live hL (by omega) hd h.ok⟩
  cases h1 : dIn x with
  | false => exact bad (.inl h1)
  | true =>
    cases h2 : dIn blk with
    | false => exact bad (.inr (.inl ⟨h1, h2⟩))
    | true =>
      cases h3 : dIn wait with
      | false => exact bad (.inr (.inr ⟨h1, h2, h3⟩))
      | true =>
        refine (dset_law h hc A cp hl x blk wait (of_decide_eq_true h1) (of_decide_eq_true h2) (of_decide_eq_true h3)).mono ?_
        rintro e W' ⟨he, hd⟩
        exact ⟨⟨_, he⟩, _, hd⟩
set_option maxRecDepth 100000 in
set_option maxHeartbeats 1000000 in
/-- light of any row of acts -/
theorem light28_rows (A : Option Addr) (N C : Nat) (A0 : Nat → Option Addr) (k0 c0 : Nat → Nat) (x1 x2 x3 : Nat → Int) (w : World) (hr : RowsV w A N 4 (fun i => [.slice (A0 i) (k0 i) (c0 i), .int .i64 (x1 i), .int .i64 (x2 i), .int .i64 (x3 i)])) (hN : (N : Int) ≤ 9223372036854775807) (hk : ∀ i, i < N → (k0 i : Int) ≤ 9223372036854775807)
    (B : Bool) (hB : B = true ↔ N ≤ 100 ∧ ∀ i, i < N → k0 i ≤ 5) :
    Calls Try.prog 55 #[.slice A N C] w fun e w' => e = .returned (.bool B) ∧ Below w.heap.size w w' := by
  have HB := Lib.hid hB
  have HR := Lib.hid hr
  have HK := Lib.hid hk
  clear hB hr hk
  by_cases h1 : N ≤ 100
  · have p1 : ¬ (100 : Int) < (N : Int) := by omega
    have h1' : (N : Int) ≤ 100 := by omega
    go_enter Try.func55, Try.ntmps55
    go_wp2
    go_loopw [10] (fun i wr => ∃ j : Nat, j ≤ N ∧ i = .int .i64 (j : Nat) ∧ Below w.heap.size w wr ∧ ∀ t, t < j → k0 t ≤ 5) (fun i _ => N - (intOf i).toNat)
    case atStart => exact ⟨0, by omega, rfl, Below.refl _ _, fun t h => absurd h (by omega)⟩
    case round =>
      obtain ⟨j, hj, rfl, hb, h5⟩ := hrel
      have HBl := Lib.hid hb
      have H5 := Lib.hid h5
      by_cases hlt : j < N
      · have p2 : (j : Int) < (N : Int) := by omega
        obtain ⟨g, o, rfl, hg, hc⟩ := (HR.out.below hb) (by omega)
        have d0 := hc j hlt 0 _ rfl
        have d1 := hc j hlt 1 _ rfl
        have d2 := hc j hlt 2 _ rfl
        have d3 := hc j hlt 3 _ rfl
        simp only [Nat.add_zero] at d0
        have hkj := HK.out j hlt
        obtain ⟨kj, ekj⟩ : ∃ z, z = k0 j := ⟨_, rfl⟩
        rw [← ekj] at d0 hkj
        have HE := Lib.hid ekj
        clear hb h5 hc ekj
        by_cases hn5 : kj ≤ 5
        · have p3 : ¬ (5 : Int) < (kj : Int) := by omega
          go_wp2
          exact ⟨⟨j + 1, by omega, by go_num, HBl.out.alloc HBl.out.size _, fun t ht => by
            rcases (by omega : t < j ∨ t = j) with h | rfl
            · exact H5.out t h
            · rw [← HE.out]; exact hn5⟩, by simp [intOf]; omega⟩
        · have p3 : (5 : Int) < (kj : Int) := by omega
          have e0 : B = false := by
            cases hBv : B with
            | false => rfl
            | true => exact absurd ((HB.out.1 hBv).2 j hlt) (by rw [← HE.out]; exact hn5)
          subst e0
          go_wp2
          go_ret
          exact ⟨rfl, HBl.out.alloc HBl.out.size _⟩
      · obtain rfl : j = N := by omega
        have e0 : B = true := HB.out.2 ⟨h1, H5.out⟩
        subst e0
        clear hb h5
        go_wp2
        go_ret
        exact ⟨rfl, HBl.out⟩
  · have p1 : (100 : Int) < (N : Int) := by omega
    have e0 : B = false := by
      cases hBv : B with
      | false => rfl
      | true => exact absurd (HB.out.1 hBv).1 h1
    subst e0
    go_enter Try.func55, Try.ntmps55
    go_wp2
    go_ret
    exact ⟨rfl, Below.refl _ _⟩
end Go.Proofs.Ytedkhpnlhkjjgaa
