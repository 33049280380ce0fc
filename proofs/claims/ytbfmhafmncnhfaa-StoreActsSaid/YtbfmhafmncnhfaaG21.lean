/- The document's store: Copy. -/
import Derived.Test.YtbfmhafmncnhfaaG20
import Derived.Test.YtbfmhafmncnhfaaG19
import Derived.Test.YtbfmhafmncnhfaaG00
import Derived.ChangeSlices
import Derived.Carry
namespace Go.Proofs.Ytbfmhafmncnhfaa
open Go.RowKit Go.Maps Go.Sort

/-- what an append reads: nothing, or m elements of k cells -/
def SrcOk (w : World) (A : Option Addr) (m c k : Nat) (news : List Value) : Prop := (A = none ∧ m = 0 ∧ c = 0 ∧ news = []) ∨ ∃ g, A = some ⟨g, 0, none⟩ ∧ g < w.heap.size ∧ news.length = m * k ∧ ∀ j u, news[j]? = some u → w.cell? ⟨g, j, none⟩ = some u
theorem SrcOk.below {w w' : World} {A : Option Addr} {m c k : Nat} {news : List Value} (h : SrcOk w A m c k news) (hb : Below w.heap.size w w') : SrcOk w' A m c k news := by
  rcases h with h | ⟨g, h1, h2, h3, h4⟩
  · exact .inl h
  · exact .inr ⟨g, h1, Nat.lt_of_lt_of_le h2 hb.size, h3, fun j u hu => (hb.cell (p := ⟨g, j, none⟩) h2).trans (h4 j u hu)⟩
theorem SrcOk.of {w : World} {B k n : Nat} {T : TypeId} {A : Option Addr} {C : Nat} {xs : List Value} (h : w.ownsRow B T k (.slice A n C) n xs) : SrcOk w A n C k xs := by
  rcases h.2 with ⟨h1, h2⟩ | ⟨g, cap, cur, h1, _, hg, _⟩
  · cases h1
    exact .inl ⟨rfl, h2, rfl, List.eq_nil_of_length_eq_zero (by rw [h.1, h2, Nat.zero_mul])⟩
  · cases h1
    exact .inr ⟨g, rfl, hp_lt hg, h.1, fun j u hu => ownsRow_cell h rfl hu⟩
theorem step_append_src {ops : Array Oper} {o : Oper} {a : Act} {w : World} {K : Act → World → Prop} {Q : Exit → Act → World → Prop} {E : Prop} (hgd : o.guard = none) (s x : Operand) (t : TypeId)
    (ho : o.op = .call { callee := .builtin .append, args := #[s, x], argTypes := #[t, t] })
    (base : Nat) (e : TypeId) (i : TypeInfo) (z : Value) (size bytes : Nat) (ht : Try.prog.underlying t = some (.slice e)) (hi : Try.prog.info? e = some i) (hz : i.zero = some z)
    (hsize : i.size = size) (hby : i.bytes = bytes) (hzs : z.cells.size = size) (hsz : 0 < size)
    (v : Value) (n : Nat) (xs : List Value) (hs : a.eval s = v) (hown : w.ownsRow base e size v n xs)
    (A : Option Addr) (m c : Nat) (news : List Value) (hx : a.eval x = .slice A m c) (hsrc : SrcOk w A m c size news) (h1 : ∀ u ∈ news, u.oneCell' = true)
    (h63 : n + m ≤ maxLen) (hbytes : (n + m) * bytes ≤ 140737488355328) (hbase : base ≤ w.heap.size)
    (h : ∀ v' w', w'.ownsRow base e size v' (n + m) (xs ++ news) → w.grownBy w' v.ownBlock → K (a.put o.dst v') w') :
    if Region.wanted o (yielded ops a.tmps) = true then Oper.wp Try.prog o a w K Q else E := by
  have hw : Region.wanted o (yielded ops a.tmps) = true := by simp [Region.wanted, hgd]
  rcases hsrc with ⟨rfl, rfl, rfl, rfl⟩ | ⟨g, rfl, hg, hl, hc⟩
  · rw [if_pos hw]
    have hrun := run_append_owned_none (P := Try.prog) (w := w) base t o.type e i size ht hi v n xs hown
    have hk := h v w (by simpa using hown) ⟨rfl, rfl, rfl, Nat.le_refl _, fun _ _ _ => rfl⟩
    unfold Oper.wp
    simp [execOp, ho, resolve, invoke, builtin, hs, hx, hrun, Result.andThen]
    exact hk
  · exact step_append_own hgd s x t ho base e i z size bytes ht hi hz hsize hby hzs hsz v n xs hs hown ⟨g, 0, none⟩ m c news hx hl (fun j u hu => by rw [Addr.add_lit, Nat.zero_add]; exact hc j u hu) h1 h63 hbytes hbase h
theorem whs_one (R : List Ch) : ∀ u ∈ whs R, u.oneCell' = true := by
  intro u hu
  unfold whs at hu
  obtain ⟨c, _, h⟩ := List.mem_flatMap.1 hu
  unfold wch at h
  simp only [List.mem_cons, List.not_mem_nil, or_false] at h
  rcases h with rfl | rfl | rfl <;> rfl
theorem DS.base {w w1 W : World} {m : Nat} {L : SL} {R : List Ch} (h : DS w1 W m L R) (hb : Below w.heap.size w w1) : DS w W m L R := by
  obtain ⟨vL, vP, h1, h2, h3⟩ := h.ex
  exact ⟨Nat.le_trans hb.size h.lt, hb.trans (h.l.mono hb.size), vL, vP, h1, iown_base' h2 hb.size, iown_base' h3 hb.size⟩
set_option maxRecDepth 100000 in
set_option maxHeartbeats 8000000 in
theorem rcopy_walk (w W : World) (m : Nat) (L : SL) (R : List Ch) (h : DS w W m L R) (hN : L.length < 1000000) (hR : R.length < 1000000) :
    Calls Try.prog 17 #[.pointer (some ⟨m, 0, none⟩)] W fun e W' => ∃ m', e = .returned (.pointer (some ⟨m', 0, none⟩)) ∧ DS W W' m' L R := by
  obtain ⟨vL, vP, h1, h2, h3⟩ := h.ex
  obtain ⟨A, C, rfl⟩ := row_any h2
  obtain ⟨A', C', rfl⟩ := row_any h3
  have c0 := (hp_cell (i := 0) h1).trans rfl
  have c1 := (hp_cell (i := 1) h1).trans rfl
  have hmw := hp_lt h1
  have HL := Lib.hid (SrcOk.of h2)
  have HR := Lib.hid (SrcOk.of h3)
  obtain ⟨i0, hi, hz0, hz1, hz2⟩ := info_parts infoPair
  obtain ⟨k0, hk, hy0, hy1, hy2⟩ := info_parts dinfoWas
  clear h h1 h2 h3
  go_enter Try.func17, Try.ntmps17
  go_upto_region 1 with fail
  refine wp_region_held_drew (S := fun w' => Below W.heap.size W w') (by kernel_rfl) ?_ (fun hHeld => ?_)
  · exact (Below.refl _ _).drew
  generalize W.drew = V at hHeld ⊢
  have HB := Lib.hid hHeld
  refine wpAnyH_take (i := 1) (v := ?_) rfl (by kernel_rfl) (by kernel_rfl) (by kernel_rfl) (fun _ _ _ h => h) (Or.inl ⟨by kernel_rfl, ?_⟩) (by with_reducible assumption) ?_
  rotate_left
  · intro wz hSw
    (try dsimp only at hSw)
    go_simp
    (try with_reducible rfl)
  show wpAnyH _ _ _ _ _ _ _ (Act.put _ (some 4) _) _
  (try simp only [Act.put, List.setIfInBounds_toArray, List.set_cons_zero, List.set_cons_succ])
  refine wpAnyH_take (i := 2) (v := ?_) rfl (by kernel_rfl) (by kernel_rfl) (by kernel_rfl) (fun _ _ _ h => h) (Or.inl ⟨by kernel_rfl, ?_⟩) (by with_reducible assumption) ?_
  rotate_left
  · intro wz hSw
    (try dsimp only at hSw)
    go_simp
    (try with_reducible rfl)
  show wpAnyH _ _ _ _ _ _ _ (Act.put _ (some 5) _) _
  (try simp only [Act.put, List.setIfInBounds_toArray, List.set_cons_zero, List.set_cons_succ])
  refine wpAnyH_take (i := 3) (v := ?_) rfl (by kernel_rfl) (by kernel_rfl) (by kernel_rfl) (fun _ _ _ h => h) (Or.inl ⟨by kernel_rfl, ?_⟩) (by with_reducible assumption) ?_
  rotate_left
  · intro wz hSw
    (try dsimp only at hSw)
    go_simp
    (try with_reducible rfl)
  show wpAnyH _ _ _ _ _ _ _ (Act.put _ (some 6) _) _
  (try simp only [Act.put, List.setIfInBounds_toArray, List.set_cons_zero, List.set_cons_succ])
  refine wpAnyH_take (i := 4) (v := .slice A L.length C) rfl (by kernel_rfl) (by kernel_rfl) (by kernel_rfl) (fun _ _ _ h => h) (Or.inl ⟨by kernel_rfl, ?_⟩) (by with_reducible assumption) ?_
  · intro wz hSw
    (try dsimp only at hSw)
    have y0 := (hSw.cell (p := ⟨m, 0, none⟩) hmw).trans c0
    go_simp
    (try with_reducible rfl)
  show wpAnyH _ _ _ _ _ _ _ (Act.put _ (some 7) _) _
  (try simp only [Act.put, List.setIfInBounds_toArray, List.set_cons_zero, List.set_cons_succ])
  refine wpAnyH_take (i := 7) (v := ?_) rfl (by kernel_rfl) (by kernel_rfl) (by kernel_rfl) (fun _ _ _ h => h) (Or.inl ⟨by kernel_rfl, ?_⟩) (by with_reducible assumption) ?_
  rotate_left
  · intro wz hSw
    (try dsimp only at hSw)
    go_simp
    (try with_reducible rfl)
  show wpAnyH _ _ _ _ _ _ _ (Act.put _ (some 10) _) _
  (try simp only [Act.put, List.setIfInBounds_toArray, List.set_cons_zero, List.set_cons_succ])
  refine wpAnyH_take (i := 8) (v := ?_) rfl (by kernel_rfl) (by kernel_rfl) (by kernel_rfl) (fun _ _ _ h => h) (Or.inl ⟨by kernel_rfl, ?_⟩) (by with_reducible assumption) ?_
  rotate_left
  · intro wz hSw
    (try dsimp only at hSw)
    go_simp
    (try with_reducible rfl)
  show wpAnyH _ _ _ _ _ _ _ (Act.put _ (some 11) _) _
  (try simp only [Act.put, List.setIfInBounds_toArray, List.set_cons_zero, List.set_cons_succ])
  refine wpAnyH_take (i := 9) (v := ?_) rfl (by kernel_rfl) (by kernel_rfl) (by kernel_rfl) (fun _ _ _ h => h) (Or.inl ⟨by kernel_rfl, ?_⟩) (by with_reducible assumption) ?_
  rotate_left
  · intro wz hSw
    (try dsimp only at hSw)
    go_simp
    (try with_reducible rfl)
  show wpAnyH _ _ _ _ _ _ _ (Act.put _ (some 12) _) _
  (try simp only [Act.put, List.setIfInBounds_toArray, List.set_cons_zero, List.set_cons_succ])
  refine wpAnyH_take (i := 10) (v := .slice A' R.length C') rfl (by kernel_rfl) (by kernel_rfl) (by kernel_rfl) (fun _ _ _ h => h) (Or.inl ⟨by kernel_rfl, ?_⟩) (by with_reducible assumption) ?_
  · intro wz hSw
    (try dsimp only at hSw)
    have y0 := (hSw.cell (p := ⟨m, 1, none⟩) hmw).trans c1
    go_simp
    (try with_reducible rfl)
  show wpAnyH _ _ _ _ _ _ _ (Act.put _ (some 13) _) _
  (try simp only [Act.put, List.setIfInBounds_toArray, List.set_cons_zero, List.set_cons_succ])
  refine wpAnyH_ready (rs := [0, 6]) (by kernel_rfl) (by simp) ?_
  refine AllReadyH.cons rfl (fun K hK => ?_) (AllReadyH.cons rfl (fun K hK => ?_) AllReadyH.nil)
  · clear hHeld
    go_simp
    refine hK.out _ _ ?_ (fun hHeld => ?_)
    · exact (HB.out.alloc HB.out.size _)
    clear hK K
    (try simp only [Act.put, List.setIfInBounds_toArray, List.set_cons_zero, List.set_cons_succ])
    obtain ⟨V1, hV1⟩ : ∃ y, y = V.alloc (.cells #[] 43) := ⟨_, rfl⟩
    have HB1 : Hid (Below W.heap.size W V1) := Lib.hid (by rw [hV1]; exact HB.out.alloc HB.out.size _)
    have E0_1 : Hid (V1.ownsRow W.heap.size 43 2 (.slice (some ⟨V.heap.size, 0, none⟩) 0 0) 0 []) := Lib.hid (by rw [hV1]; exact World.ownsRow_made V #[] 0 HB.out.size (Nat.zero_le _) rfl)
    rw [← hV1] at hHeld ⊢
    clear hV1
    refine wpAnyH_ready (rs := [5, 6]) (by kernel_rfl) (by simp) ?_
    refine AllReadyH.cons rfl (fun K hK => ?_) (AllReadyH.cons rfl (fun K hK => ?_) AllReadyH.nil)
    · clear hHeld
      refine step_append_src rfl (.tmp 3) (.tmp 7) 28 rfl W.heap.size 43 i0 _ 2 32 Try.underlying28 hi hz0 hz1 hz2 rfl (by omega) _ 0 [] rfl E0_1.out A L.length C (pcs L) rfl (HL.out.below HB1.out) (pcs_one _) (by unfold maxLen; omega) (by omega) HB1.out.size ?_
      intro v2 V2 hown hg
      rw [Nat.zero_add, List.nil_append] at hown
      obtain ⟨A2, C2, rfl⟩ := row_any hown
      have HB2 := Lib.hid (HB1.out.grown hg HB1.out.size (fun q hq => (E0_1.out.lt q hq).1))
      have O2 := Lib.hid hown
      clear hown hg
      refine hK.out _ _ ?_ (fun hHeld => ?_)
      · exact HB2.out
      clear hK K
      (try simp only [Act.put, List.setIfInBounds_toArray, List.set_cons_zero, List.set_cons_succ])
      refine wpAnyH_ready (rs := [6]) (by kernel_rfl) (by simp) ?_
      refine AllReadyH.cons rfl (fun K hK => ?_) AllReadyH.nil
      clear hHeld
      go_simp
      refine hK.out _ _ ?_ (fun hHeld => ?_)
      · exact (HB2.out.alloc HB2.out.size _)
      clear hK K
      (try simp only [Act.put, List.setIfInBounds_toArray, List.set_cons_zero, List.set_cons_succ])
      obtain ⟨V3, hV3⟩ : ∃ y, y = V2.alloc (.cells #[] 117) := ⟨_, rfl⟩
      have HB3 : Hid (Below W.heap.size W V3) := Lib.hid (by rw [hV3]; exact HB2.out.alloc HB2.out.size _)
      have E6_3 : Hid (V3.ownsRow W.heap.size 117 3 (.slice (some ⟨V2.heap.size, 0, none⟩) 0 0) 0 []) := Lib.hid (by rw [hV3]; exact World.ownsRow_made V2 #[] 0 HB2.out.size (Nat.zero_le _) rfl)
      have Nr5_3 := Lib.hid (show V3.ownsRow _ _ _ _ _ _ from (by rw [hV3]; exact O2.out.alloc _))
      rw [← hV3] at hHeld ⊢
      clear hV3
      refine wpAnyH_ready (rs := [11]) (by kernel_rfl) (by simp) ?_
      refine AllReadyH.cons rfl (fun K hK => ?_) AllReadyH.nil
      clear hHeld
      refine step_append_src rfl (.tmp 9) (.tmp 13) 29 rfl W.heap.size 117 k0 _ 3 40 Try.underlying29 hk hy0 hy1 hy2 rfl (by omega) _ 0 [] rfl E6_3.out A' R.length C' (whs R) rfl (HR.out.below HB3.out) (whs_one _) (by unfold maxLen; omega) (by omega) HB3.out.size ?_
      intro v4 V4 hown hg
      rw [Nat.zero_add, List.nil_append] at hown
      obtain ⟨A4, C4, rfl⟩ := row_any hown
      have HB4 := Lib.hid (HB3.out.grown hg HB3.out.size (fun q hq => (E6_3.out.lt q hq).1))
      have O4 := Lib.hid hown
      have Nr5_4 := Lib.hid (ownsRow_keepT Nr5_3.out (KeepT.grown hg (fun g hgg => by obtain ⟨cs, hc⟩ := ownsRow_typ E6_3.out hgg; exact ⟨cs, _, hc⟩) (by decide)))
      clear hown hg
      refine hK.out _ _ ?_ (fun hHeld => ?_)
      · exact HB4.out
      clear hK K
      (try simp only [Act.put, List.setIfInBounds_toArray, List.set_cons_zero, List.set_cons_succ])
      refine wpAnyH_take (i := 12) (v := ?_) rfl (by kernel_rfl) (by kernel_rfl) (by kernel_rfl) (fun _ _ _ h => h) (Or.inl ⟨by kernel_rfl, ?_⟩) (by with_reducible assumption) ?_
      rotate_left
      · intro wz hSw
        (try dsimp only at hSw)
        go_simp
        (try with_reducible rfl)
      show wpAnyH _ _ _ _ _ _ _ (Act.put _ (some 15) _) _
      (try simp only [Act.put, List.setIfInBounds_toArray, List.set_cons_zero, List.set_cons_succ])
      refine wpAnyH_ready (rs := [13]) (by kernel_rfl) (by simp) ?_
      refine AllReadyH.cons rfl (fun K hK => ?_) AllReadyH.nil
      clear hHeld
      go_simp
      refine hK.out _ _ ?_ (fun hHeld => ?_)
      · exact (HB4.out.alloc HB4.out.size _)
      clear hK K
      (try simp only [Act.put, List.setIfInBounds_toArray, List.set_cons_zero, List.set_cons_succ])
      refine wpAnyH_take (i := 14) (v := ?_) rfl (by kernel_rfl) (by kernel_rfl) (by kernel_rfl) (fun _ _ _ h => h) (Or.inl ⟨by kernel_rfl, ?_⟩) (by with_reducible assumption) ?_
      rotate_left
      · intro wz hSw
        (try dsimp only at hSw)
        go_simp
        (try with_reducible rfl)
      show wpAnyH _ _ _ _ _ _ _ (Act.put _ (some 2) _) _
      (try simp only [Act.put, List.setIfInBounds_toArray, List.set_cons_zero, List.set_cons_succ])
      refine wpAnyH_done (by kernel_rfl) ?_ _
      go_wp2_with fail
      go_ret
      exact ⟨_, rfl, ⟨HB4.out.size, HB4.out.alloc HB4.out.size _, _, _, heap_alloc_new _ _, Nr5_4.out.alloc _, O4.out.alloc _⟩⟩
    · clear hHeld
      go_simp
      refine hK.out _ _ ?_ (fun hHeld => ?_)
      · exact (HB1.out.alloc HB1.out.size _)
      clear hK K
      (try simp only [Act.put, List.setIfInBounds_toArray, List.set_cons_zero, List.set_cons_succ])
      obtain ⟨V6, hV6⟩ : ∃ y, y = V1.alloc (.cells #[] 117) := ⟨_, rfl⟩
      have HB6 : Hid (Below W.heap.size W V6) := Lib.hid (by rw [hV6]; exact HB1.out.alloc HB1.out.size _)
      have E6_6 : Hid (V6.ownsRow W.heap.size 117 3 (.slice (some ⟨V1.heap.size, 0, none⟩) 0 0) 0 []) := Lib.hid (by rw [hV6]; exact World.ownsRow_made V1 #[] 0 HB1.out.size (Nat.zero_le _) rfl)
      have Ne0_6 := Lib.hid (show V6.ownsRow _ _ _ _ _ _ from (by rw [hV6]; exact E0_1.out.alloc _))
      rw [← hV6] at hHeld ⊢
      clear hV6
      refine wpAnyH_ready (rs := [5]) (by kernel_rfl) (by simp) ?_
      refine AllReadyH.cons rfl (fun K hK => ?_) AllReadyH.nil
      clear hHeld
      refine step_append_src rfl (.tmp 3) (.tmp 7) 28 rfl W.heap.size 43 i0 _ 2 32 Try.underlying28 hi hz0 hz1 hz2 rfl (by omega) _ 0 [] rfl Ne0_6.out A L.length C (pcs L) rfl (HL.out.below HB6.out) (pcs_one _) (by unfold maxLen; omega) (by omega) HB6.out.size ?_
      intro v7 V7 hown hg
      rw [Nat.zero_add, List.nil_append] at hown
      obtain ⟨A7, C7, rfl⟩ := row_any hown
      have HB7 := Lib.hid (HB6.out.grown hg HB6.out.size (fun q hq => (Ne0_6.out.lt q hq).1))
      have O7 := Lib.hid hown
      have Ne6_7 := Lib.hid (ownsRow_keepT E6_6.out (KeepT.grown hg (fun g hgg => by obtain ⟨cs, hc⟩ := ownsRow_typ Ne0_6.out hgg; exact ⟨cs, _, hc⟩) (by decide)))
      clear hown hg
      refine hK.out _ _ ?_ (fun hHeld => ?_)
      · exact HB7.out
      clear hK K
      (try simp only [Act.put, List.setIfInBounds_toArray, List.set_cons_zero, List.set_cons_succ])
      refine wpAnyH_ready (rs := [11]) (by kernel_rfl) (by simp) ?_
      refine AllReadyH.cons rfl (fun K hK => ?_) AllReadyH.nil
      clear hHeld
      refine step_append_src rfl (.tmp 9) (.tmp 13) 29 rfl W.heap.size 117 k0 _ 3 40 Try.underlying29 hk hy0 hy1 hy2 rfl (by omega) _ 0 [] rfl Ne6_7.out A' R.length C' (whs R) rfl (HR.out.below HB7.out) (whs_one _) (by unfold maxLen; omega) (by omega) HB7.out.size ?_
      intro v8 V8 hown hg
      rw [Nat.zero_add, List.nil_append] at hown
      obtain ⟨A8, C8, rfl⟩ := row_any hown
      have HB8 := Lib.hid (HB7.out.grown hg HB7.out.size (fun q hq => (Ne6_7.out.lt q hq).1))
      have O8 := Lib.hid hown
      have Nr5_8 := Lib.hid (ownsRow_keepT O7.out (KeepT.grown hg (fun g hgg => by obtain ⟨cs, hc⟩ := ownsRow_typ Ne6_7.out hgg; exact ⟨cs, _, hc⟩) (by decide)))
      clear hown hg
      refine hK.out _ _ ?_ (fun hHeld => ?_)
      · exact HB8.out
      clear hK K
      (try simp only [Act.put, List.setIfInBounds_toArray, List.set_cons_zero, List.set_cons_succ])
      refine wpAnyH_take (i := 12) (v := ?_) rfl (by kernel_rfl) (by kernel_rfl) (by kernel_rfl) (fun _ _ _ h => h) (Or.inl ⟨by kernel_rfl, ?_⟩) (by with_reducible assumption) ?_
      rotate_left
      · intro wz hSw
        (try dsimp only at hSw)
        go_simp
        (try with_reducible rfl)
      show wpAnyH _ _ _ _ _ _ _ (Act.put _ (some 15) _) _
      (try simp only [Act.put, List.setIfInBounds_toArray, List.set_cons_zero, List.set_cons_succ])
      refine wpAnyH_ready (rs := [13]) (by kernel_rfl) (by simp) ?_
      refine AllReadyH.cons rfl (fun K hK => ?_) AllReadyH.nil
      clear hHeld
      go_simp
      refine hK.out _ _ ?_ (fun hHeld => ?_)
      · exact (HB8.out.alloc HB8.out.size _)
      clear hK K
      (try simp only [Act.put, List.setIfInBounds_toArray, List.set_cons_zero, List.set_cons_succ])
      refine wpAnyH_take (i := 14) (v := ?_) rfl (by kernel_rfl) (by kernel_rfl) (by kernel_rfl) (fun _ _ _ h => h) (Or.inl ⟨by kernel_rfl, ?_⟩) (by with_reducible assumption) ?_
      rotate_left
      · intro wz hSw
        (try dsimp only at hSw)
        go_simp
        (try with_reducible rfl)
      show wpAnyH _ _ _ _ _ _ _ (Act.put _ (some 2) _) _
      (try simp only [Act.put, List.setIfInBounds_toArray, List.set_cons_zero, List.set_cons_succ])
      refine wpAnyH_done (by kernel_rfl) ?_ _
      go_wp2_with fail
      go_ret
      exact ⟨_, rfl, ⟨HB8.out.size, HB8.out.alloc HB8.out.size _, _, _, heap_alloc_new _ _, Nr5_8.out.alloc _, O8.out.alloc _⟩⟩
  · clear hHeld
    go_simp
    refine hK.out _ _ ?_ (fun hHeld => ?_)
    · exact (HB.out.alloc HB.out.size _)
    clear hK K
    (try simp only [Act.put, List.setIfInBounds_toArray, List.set_cons_zero, List.set_cons_succ])
    obtain ⟨V10, hV10⟩ : ∃ y, y = V.alloc (.cells #[] 117) := ⟨_, rfl⟩
    have HB10 : Hid (Below W.heap.size W V10) := Lib.hid (by rw [hV10]; exact HB.out.alloc HB.out.size _)
    have E6_10 : Hid (V10.ownsRow W.heap.size 117 3 (.slice (some ⟨V.heap.size, 0, none⟩) 0 0) 0 []) := Lib.hid (by rw [hV10]; exact World.ownsRow_made V #[] 0 HB.out.size (Nat.zero_le _) rfl)
    rw [← hV10] at hHeld ⊢
    clear hV10
    refine wpAnyH_ready (rs := [0]) (by kernel_rfl) (by simp) ?_
    refine AllReadyH.cons rfl (fun K hK => ?_) AllReadyH.nil
    clear hHeld
    go_simp
    refine hK.out _ _ ?_ (fun hHeld => ?_)
    · exact (HB10.out.alloc HB10.out.size _)
    clear hK K
    (try simp only [Act.put, List.setIfInBounds_toArray, List.set_cons_zero, List.set_cons_succ])
    obtain ⟨V11, hV11⟩ : ∃ y, y = V10.alloc (.cells #[] 43) := ⟨_, rfl⟩
    have HB11 : Hid (Below W.heap.size W V11) := Lib.hid (by rw [hV11]; exact HB10.out.alloc HB10.out.size _)
    have E0_11 : Hid (V11.ownsRow W.heap.size 43 2 (.slice (some ⟨V10.heap.size, 0, none⟩) 0 0) 0 []) := Lib.hid (by rw [hV11]; exact World.ownsRow_made V10 #[] 0 HB10.out.size (Nat.zero_le _) rfl)
    have Ne6_11 := Lib.hid (show V11.ownsRow _ _ _ _ _ _ from (by rw [hV11]; exact E6_10.out.alloc _))
    rw [← hV11] at hHeld ⊢
    clear hV11
    refine wpAnyH_ready (rs := [5]) (by kernel_rfl) (by simp) ?_
    refine AllReadyH.cons rfl (fun K hK => ?_) AllReadyH.nil
    clear hHeld
    refine step_append_src rfl (.tmp 3) (.tmp 7) 28 rfl W.heap.size 43 i0 _ 2 32 Try.underlying28 hi hz0 hz1 hz2 rfl (by omega) _ 0 [] rfl E0_11.out A L.length C (pcs L) rfl (HL.out.below HB11.out) (pcs_one _) (by unfold maxLen; omega) (by omega) HB11.out.size ?_
    intro v12 V12 hown hg
    rw [Nat.zero_add, List.nil_append] at hown
    obtain ⟨A12, C12, rfl⟩ := row_any hown
    have HB12 := Lib.hid (HB11.out.grown hg HB11.out.size (fun q hq => (E0_11.out.lt q hq).1))
    have O12 := Lib.hid hown
    have Ne6_12 := Lib.hid (ownsRow_keepT Ne6_11.out (KeepT.grown hg (fun g hgg => by obtain ⟨cs, hc⟩ := ownsRow_typ E0_11.out hgg; exact ⟨cs, _, hc⟩) (by decide)))
    clear hown hg
    refine hK.out _ _ ?_ (fun hHeld => ?_)
    · exact HB12.out
    clear hK K
    (try simp only [Act.put, List.setIfInBounds_toArray, List.set_cons_zero, List.set_cons_succ])
    refine wpAnyH_ready (rs := [11]) (by kernel_rfl) (by simp) ?_
    refine AllReadyH.cons rfl (fun K hK => ?_) AllReadyH.nil
    clear hHeld
    refine step_append_src rfl (.tmp 9) (.tmp 13) 29 rfl W.heap.size 117 k0 _ 3 40 Try.underlying29 hk hy0 hy1 hy2 rfl (by omega) _ 0 [] rfl Ne6_12.out A' R.length C' (whs R) rfl (HR.out.below HB12.out) (whs_one _) (by unfold maxLen; omega) (by omega) HB12.out.size ?_
    intro v13 V13 hown hg
    rw [Nat.zero_add, List.nil_append] at hown
    obtain ⟨A13, C13, rfl⟩ := row_any hown
    have HB13 := Lib.hid (HB12.out.grown hg HB12.out.size (fun q hq => (Ne6_12.out.lt q hq).1))
    have O13 := Lib.hid hown
    have Nr5_13 := Lib.hid (ownsRow_keepT O12.out (KeepT.grown hg (fun g hgg => by obtain ⟨cs, hc⟩ := ownsRow_typ Ne6_12.out hgg; exact ⟨cs, _, hc⟩) (by decide)))
    clear hown hg
    refine hK.out _ _ ?_ (fun hHeld => ?_)
    · exact HB13.out
    clear hK K
    (try simp only [Act.put, List.setIfInBounds_toArray, List.set_cons_zero, List.set_cons_succ])
    refine wpAnyH_take (i := 12) (v := ?_) rfl (by kernel_rfl) (by kernel_rfl) (by kernel_rfl) (fun _ _ _ h => h) (Or.inl ⟨by kernel_rfl, ?_⟩) (by with_reducible assumption) ?_
    rotate_left
    · intro wz hSw
      (try dsimp only at hSw)
      go_simp
      (try with_reducible rfl)
    show wpAnyH _ _ _ _ _ _ _ (Act.put _ (some 15) _) _
    (try simp only [Act.put, List.setIfInBounds_toArray, List.set_cons_zero, List.set_cons_succ])
    refine wpAnyH_ready (rs := [13]) (by kernel_rfl) (by simp) ?_
    refine AllReadyH.cons rfl (fun K hK => ?_) AllReadyH.nil
    clear hHeld
    go_simp
    refine hK.out _ _ ?_ (fun hHeld => ?_)
    · exact (HB13.out.alloc HB13.out.size _)
    clear hK K
    (try simp only [Act.put, List.setIfInBounds_toArray, List.set_cons_zero, List.set_cons_succ])
    refine wpAnyH_take (i := 14) (v := ?_) rfl (by kernel_rfl) (by kernel_rfl) (by kernel_rfl) (fun _ _ _ h => h) (Or.inl ⟨by kernel_rfl, ?_⟩) (by with_reducible assumption) ?_
    rotate_left
    · intro wz hSw
      (try dsimp only at hSw)
      go_simp
      (try with_reducible rfl)
    show wpAnyH _ _ _ _ _ _ _ (Act.put _ (some 2) _) _
    (try simp only [Act.put, List.setIfInBounds_toArray, List.set_cons_zero, List.set_cons_succ])
    refine wpAnyH_done (by kernel_rfl) ?_ _
    go_wp2_with fail
    go_ret
    exact ⟨_, rfl, ⟨HB13.out.size, HB13.out.alloc HB13.out.size _, _, _, heap_alloc_new _ _, Nr5_13.out.alloc _, O13.out.alloc _⟩⟩
end Go.Proofs.Ytbfmhafmncnhfaa

namespace Go.Proofs.Ytbfmhafmncnhfaa
open Go.RowKit Go.Maps Go.Sort

theorem str_ne {a b : ByteArray} (h : a ≠ b) : (a.toList == b.toList) = false := by
  rw [beq_eq_false_iff_ne, Lib.toList_data, Lib.toList_data]
  exact fun e => h (lit_inj (congrArg Lit.string e))
set_option maxRecDepth 100000 in
set_option maxHeartbeats 16000000 in
theorem storeLast_go (A : Option Addr) (N C : Nat) (x0 : Nat → Int) (x1 x2 : Nat → ByteArray) (x3 : Nat → Int) (key beg : ByteArray) (w : World) (hr : RowsV w A N 4 (fun i => [.int .i64 (x0 i), .string (x1 i), .string (x2 i), .int .i64 (x3 i)]))
    (hN : N ≤ 300) (hacc : ∀ j, j < N → lacc x1 x2 (j + 1) ≤ 20000) (hk1 : ∀ i, i < N → (x1 i).size ≤ maxLen) (hk2 : ∀ i, i < N → (x2 i).size ≤ maxLen) (hk : key.size ≤ maxLen) (hbg : beg.size ≤ maxLen) :
    Calls Try.prog 5 #[.slice A N C, .string key, .string beg] w fun e w' => e = .returned (.bool true) ∧ Below w.heap.size w w' := by
  have HL1 := Lib.hid (light08_rows A N C x0 x1 x2 x3 w hr (by omega) true ⟨fun _ => ⟨hN, hacc⟩, fun _ => rfl⟩)
  have HR := Lib.hid hr
  have HS := Lib.hid (And.intro hk1 (And.intro hk2 (And.intro hk hbg)))
  have hN' : (N : Int) ≤ 300 := by omega
  clear hr hN hk1 hk2 hk hbg hacc
  go_enter Try.func5, Try.ntmps5
  go_wp2_with (first
    | (go_at_call 10; with_reducible refine (SNew.new w _ H1.out).mono ?_; rintro e w3 ⟨b, F1, rfl, hs1, _, _⟩; have H3 := Lib.hid hs1; clear hs1)
    | (go_at_call 8; with_reducible refine HL1.out.mono ?_; rintro e w1 ⟨rfl, hb1⟩; have H1 := Lib.hid hb1; clear hb1))
  go_loopw [8, 9, 24] (fun v8 v9 i wr => ∃ (j : Nat) (want : ByteArray) (th : Bool) (L : SL), j ≤ N ∧ i = .int .i64 (j : Nat) ∧ v8 = .string want ∧ v9 = .bool th ∧ SlW w wr b key want th j L) (fun _ _ i _ => N - (intOf i).toNat)
  case atStart => exact ⟨0, ⟨#[]⟩, false, [], by omega, rfl, rfl, rfl, ⟨⟨F1, 0, [], H3.out, Nat.le_refl _⟩, Nat.le_refl _, fun p hp => (by cases hp), .inr ⟨rfl, rfl, rfl⟩⟩⟩
  case round =>
    obtain ⟨j, want, th, L, hj, rfl, rfl, rfl, hw⟩ := hrel
    have HW := Lib.hid hw
    by_cases hlt : j < N
    · have p2 : (j : Int) < (N : Int) := by omega
      obtain ⟨g, o, rfl, hg, hc⟩ := (HR.out.below hw.l) (by omega)
      have d0 := hc j hlt 0 _ rfl
      have d1 := hc j hlt 1 _ rfl
      have d2 := hc j hlt 2 _ rfl
      have d3 := hc j hlt 3 _ rfl
      simp only [Nat.add_zero] at d0
      have hks := HS.out.1 j hlt
      have hvs := HS.out.2.1 j hlt
      obtain ⟨k, ek⟩ : ∃ y, y = x1 j := ⟨_, rfl⟩
      obtain ⟨v, ev⟩ : ∃ y, y = x2 j := ⟨_, rfl⟩
      obtain ⟨kd, ekd⟩ : ∃ y, y = x0 j := ⟨_, rfl⟩
      rw [← ek] at d1 hks
      rw [← ev] at d2 hvs
      rw [← ekd] at d0
      have hj6 : j < 100000 := by omega
      clear hc ek ev ekd
      by_cases hk0 : kd = 0
      · subst hk0
        have hbx := (Below.refl wr.heap.size wr).alloc (Nat.le_refl _) (.cells #[.int .i64 0, .string k, .string v, .int .i64 (x3 j)] 33)
        have hpx := heap_alloc_new wr (.cells #[.int .i64 0, .string k, .string v, .int .i64 (x3 j)] 33)
        have hw2 := hw.below hbx
        have HW2 := Lib.hid hw2
        have Hpx := Lib.hid hpx
        have hSt := hw2.set hj6 k v hks hvs
        have HSt := Lib.hid hSt
        clear hw hbx hpx hw2 hSt hks hvs hj6
        by_cases hkk : k = key
        · subst hkk
          have q1 : (k.toList == k.toList) = true := beq_self_eq_true _
          by_cases hke : k = ⟨#[]⟩
          · have q2 : k.toList.isEmpty = true := by rw [hke, Lib.toList_data]; rfl
            have HKE := Lib.hid hke
            clear hke
            go_upto_region 11 with (go_at_call 22; refine HSt.out.mono ?_; rintro e w5 ⟨⟨r, rfl⟩, hs5, hk5⟩; have H5 := Lib.hid hs5; have r5 := (hk5 _ fAct08).2 _ _ _ Hpx.out; have y0 := (hp_cell (i := 0) r5).trans rfl; have y1 := (hp_cell (i := 1) r5).trans rfl; have y2 := (hp_cell (i := 2) r5).trans rfl; clear hs5 hk5 r5)
            go_wp2
            exact ⟨⟨j + 1, want, th, setE L k v, by omega, by go_num, rfl, rfl, H5.out _ _ (HW2.out.k.other (.inr HKE.out))⟩, by simp [intOf]; omega⟩
          · have q2 : k.toList.isEmpty = false := ba_nil hke
            have HKE := Lib.hid hke
            clear hke
            go_upto_region 11 with (go_at_call 22; refine HSt.out.mono ?_; rintro e w5 ⟨⟨r, rfl⟩, hs5, hk5⟩; have H5 := Lib.hid hs5; have r5 := (hk5 _ fAct08).2 _ _ _ Hpx.out; have y0 := (hp_cell (i := 0) r5).trans rfl; have y1 := (hp_cell (i := 1) r5).trans rfl; have y2 := (hp_cell (i := 2) r5).trans rfl; clear hs5 hk5 r5)
            go_wp2
            exact ⟨⟨j + 1, v, true, setE L k v, by omega, by go_num, rfl, rfl, H5.out _ _ (KeepS.set HKE.out)⟩, by simp [intOf]; omega⟩
        · have q1 := str_ne hkk
          have HKK := Lib.hid hkk
          clear hkk
          go_upto_region 11 with (go_at_call 22; refine HSt.out.mono ?_; rintro e w5 ⟨⟨r, rfl⟩, hs5, hk5⟩; have H5 := Lib.hid hs5; have r5 := (hk5 _ fAct08).2 _ _ _ Hpx.out; have y0 := (hp_cell (i := 0) r5).trans rfl; have y1 := (hp_cell (i := 1) r5).trans rfl; have y2 := (hp_cell (i := 2) r5).trans rfl; clear hs5 hk5 r5)
          go_wp2
          exact ⟨⟨j + 1, want, th, setE L k v, by omega, by go_num, rfl, rfl, H5.out _ _ (HW2.out.k.other (.inl HKK.out))⟩, by simp [intOf]; omega⟩
      · have z0 : (kd == 0) = false := beq_eq_false_iff_ne.2 hk0
        by_cases hk1 : kd = 1
        · subst hk1
          have hbx := (Below.refl wr.heap.size wr).alloc (Nat.le_refl _) (.cells #[.int .i64 1, .string k, .string v, .int .i64 (x3 j)] 33)
          have hpx := heap_alloc_new wr (.cells #[.int .i64 1, .string k, .string v, .int .i64 (x3 j)] 33)
          have hw2 := hw.below hbx
          have HW2 := Lib.hid hw2
          have Hpx := Lib.hid hpx
          have hSt := hw2.del hj6 k hks
          have HSt := Lib.hid hSt
          clear hw hbx hpx hw2 hSt hks hvs hj6 hk0 z0
          by_cases hkk : k = key
          · subst hkk
            have q1 : (k.toList == k.toList) = true := beq_self_eq_true _
            go_upto_region 15 with (go_at_call 23; refine HSt.out.mono ?_; rintro e w5 ⟨⟨r, rfl⟩, hs5, hk5⟩; have H5 := Lib.hid hs5; have r5 := (hk5 _ fAct08).2 _ _ _ Hpx.out; have y0 := (hp_cell (i := 0) r5).trans rfl; have y1 := (hp_cell (i := 1) r5).trans rfl; have y2 := (hp_cell (i := 2) r5).trans rfl; clear hs5 hk5 r5)
            go_wp2
            exact ⟨⟨j + 1, ⟨#[]⟩, false, sdel L k, by omega, by go_num, rfl, rfl, H5.out _ _ KeepS.del⟩, by simp [intOf]; omega⟩
          · have q1 := str_ne hkk
            have HKK := Lib.hid hkk
            clear hkk
            go_upto_region 15 with (go_at_call 23; refine HSt.out.mono ?_; rintro e w5 ⟨⟨r, rfl⟩, hs5, hk5⟩; have H5 := Lib.hid hs5; have r5 := (hk5 _ fAct08).2 _ _ _ Hpx.out; have y0 := (hp_cell (i := 0) r5).trans rfl; have y1 := (hp_cell (i := 1) r5).trans rfl; have y2 := (hp_cell (i := 2) r5).trans rfl; clear hs5 hk5 r5)
            go_wp2
            exact ⟨⟨j + 1, want, th, sdel L k, by omega, by go_num, rfl, rfl, H5.out _ _ (HW2.out.k.delOther HKK.out)⟩, by simp [intOf]; omega⟩
        · have z1 : (kd == 1) = false := beq_eq_false_iff_ne.2 hk1
          have hbx := (Below.refl wr.heap.size wr).alloc (Nat.le_refl _) (.cells #[.int .i64 kd, .string k, .string v, .int .i64 (x3 j)] 33)
          have hw2 := (hw.below hbx).next
          have HW2 := Lib.hid hw2
          clear hw hbx hw2 hks hvs hj6 hk0 hk1
          go_wp2
          exact ⟨⟨j + 1, want, th, L, by omega, by go_num, rfl, rfl, HW2.out⟩, by simp [intOf]; omega⟩
    · obtain rfl : j = N := by omega
      have p2 : ¬ (j : Int) < (j : Int) := by omega
      have hGt := hw.get HS.out.2.2.1
      have HGt := Lib.hid hGt
      clear hw hGt
      go_upto_region 19 with (go_at_call 12; refine HGt.out.mono ?_; rintro e w6 ⟨rfl, hb6⟩; have hw6 := HW.out.below hb6; have HW6 := Lib.hid hw6; have hAl := hw6.all (by omega); have HAl := Lib.hid hAl; clear hb6 hw6 hAl)
      go_upto_region 21 with (go_at_call 20; refine HAl.out.mono ?_; rintro e w7 ⟨⟨v7, rfl, ho7⟩, hb7⟩; obtain ⟨A7, C7, rfl, hrow⟩ := row_pairs ho7; have HRW := Lib.hid hrow; have HW7 := Lib.hid (HW6.out.below hb7); have HB7 := Lib.hid hb7; clear ho7 hrow hb7)
      have hLl := HW.out.len
      go_loopw [14, 68] (fun v14 i wr => ∃ (m n : Nat), m ≤ L.length ∧ n ≤ m ∧ n = (L.take m).countP (hpre beg) ∧ i = .int .i64 (m : Nat) ∧ v14 = .int .i64 (n : Nat) ∧ Below w7.heap.size w7 wr) (fun _ i _ => L.length - (intOf i).toNat)
      case atStart => exact ⟨0, 0, by omega, by omega, rfl, rfl, rfl, Below.refl _ _⟩
      case round =>
        obtain ⟨m, n, hm, hnm, hn, rfl, rfl, hbb⟩ := hrel
        have HBB := Lib.hid hbb
        have HNN := Lib.hid hn
        by_cases hlt2 : m < L.length
        · have p3 : (m : Int) < (L.length : Int) := by omega
          obtain ⟨g7, rfl, _, hg7, hcc⟩ := HRW.out (by omega)
          have c0 := (hbb.cell (p := ⟨g7, m * 2, none⟩) hg7).trans (hcc m hlt2).1
          have c1 := (hbb.cell (p := ⟨g7, m * 2 + 1, none⟩) hg7).trans (hcc m hlt2).2
          have hcp := cp_take (hpre beg) hlt2
          obtain ⟨pp, epp⟩ : ∃ y, y = L[m] := ⟨_, rfl⟩
          rw [← epp] at c0 c1 hcp
          obtain ⟨pk, pv⟩ := pp
          simp only at c0 c1
          rw [← hn] at hcp
          have HCP := Lib.hid hcp
          have hx := HBB.out.alloc HBB.out.size (.cells #[.string pk, .string pv] 43)
          have HX := Lib.hid hx
          clear hbb hn hcc epp hcp hx
          by_cases hsz : beg.size ≤ pk.size
          · have p4 : (beg.size : Int) ≤ (pk.size : Int) := by omega
            have hq := pre_ext (v := pv) hsz
            cases hpb : hpre beg (pk, pv) with
            | true =>
              rw [hpb] at hq
              have hcn := HCP.out
              rw [hpb, if_pos rfl] at hcn
              have HCN := Lib.hid hcn
              clear hcn hpb
              go_wp2
              exact ⟨⟨m + 1, n + 1, by omega, by omega, HCN.out.symm, by go_num, by go_num, HX.out⟩, by simp [intOf]; omega⟩
            | false =>
              rw [hpb] at hq
              have hcn := HCP.out
              rw [hpb, if_neg (by decide), Nat.add_zero] at hcn
              have HCN := Lib.hid hcn
              clear hcn hpb
              go_wp2
              exact ⟨⟨m + 1, n, by omega, by omega, HCN.out.symm, by go_num, rfl, HX.out⟩, by simp [intOf]; omega⟩
          · have p4 : ¬ (beg.size : Int) ≤ (pk.size : Int) := by omega
            have hcn := HCP.out
            rw [pre_short (by omega), if_neg (by decide), Nat.add_zero] at hcn
            have HCN := Lib.hid hcn
            clear hcn
            go_wp2
            exact ⟨⟨m + 1, n, by omega, by omega, HCN.out.symm, by go_num, rfl, HX.out⟩, by simp [intOf]; omega⟩
        · obtain rfl : m = L.length := by omega
          have p3 : ¬ (L.length : Int) < (L.length : Int) := by omega
          rw [List.take_length] at hn
          have hw8 := HW7.out.below hbb
          have HW8 := Lib.hid hw8
          have hUn := hw8.under (by omega) beg
          rw [← hn] at hUn
          have HUn := Lib.hid hUn
          have q1 : (want.toList == want.toList) = true := beq_self_eq_true _
          have q2 : (th == th) = true := beq_self_eq_true _
          have q3 : ((n : Int) == (n : Int)) = true := beq_self_eq_true _
          clear hbb hw8 hUn hn
          go_wp2_with (first
            | (go_at_call 9; refine (lives08_walk _).mono ?_; rintro e w9 ⟨rfl, hb9⟩; have H9 := Lib.hid hb9; clear hb9)
            | (go_at_call 24; refine HUn.out.mono ?_; rintro e w8 ⟨⟨A8, C8, rfl⟩, hb8⟩; have H8 := Lib.hid (HW8.out.below hb8); clear hb8))
          go_ret
          exact ⟨rfl, H8.out.l.trans (H9.out.mono H8.out.l.size)⟩
  all_goals done
end Go.Proofs.Ytbfmhafmncnhfaa

namespace Go.Proofs.Ytbfmhafmncnhfaa
open Go.ChangeShapes Go.WideShapes Go.ChangeAt Go.RowKit

theorem cellsU8 : Try.prog.cellsOf 5 = 1 := by kernel_rfl
section
variable {H : Type} {enc : TypeId × Value → H} {W : World} {base : Nat}
set_option maxRecDepth 100000 in
theorem open_bl {v : Value} {d : DataW H} {p : List MemPlace} (hv : Value.okWide Try.prog W .any base 106 v) (h : DataW.Trod enc Try.prog W 0 (fun _ => true) true 106 v d p) :
    ∃ A n c f, v = .slice A n c ∧ Sl W A n f := by
  obtain ⟨a0, n, c, rfl⟩ := okWide_slice Try.underlying106 hv
  obtain ⟨fuel, hf⟩ := h
  rcases open_ints Try.underlying106 Try.underlying5 cellsU8 hf with ⟨hcs, hx⟩ | ⟨a, len', cap', zs, hcs, _, hl, hm, hz, hx, hcell, hwz⟩
  · simp [Value.cells] at hcs
    obtain ⟨rfl, rfl, rfl⟩ := hcs
    exact ⟨none, 0, 0, fun _ => 0, rfl, fun _ => by decide, fun h => absurd h (by omega)⟩
  · simp only [Value.cells, List.cons.injEq, Value.slice.injEq, and_true] at hcs
    obtain ⟨rfl, rfl, rfl⟩ := hcs
    simp only [if_true] at hz
    have hb : ∀ i, 0 ≤ zs.getD i 0 ∧ zs.getD i 0 < 256 := fun i => by
      rcases Nat.lt_or_ge i zs.length with hi | hi
      · have h1 := hwz (zs.getD i 0) (by simp [List.getD, List.getElem?_eq_getElem hi])
        have h2 := bounds_u8 h1
        omega
      · simp only [List.getD, List.getElem?_eq_none hi, Option.getD_none]; decide
    refine ⟨some a, n, c, fun i => (zs.getD i 0).toNat, rfl, fun i => by have := hb i; omega, fun hn => ?_⟩
    have hc0 := hcell 0 (by omega)
    have hlt := World.block_lt_of_cell? W _ hc0
    obtain ⟨g, o, sp⟩ := a
    have hspot : sp = none := by simpa [Addr.add] using World.cell?_spot hc0
    subst hspot
    exact ⟨g, o, rfl, hlt, fun i hi => by
      have h1 := hcell i (by omega)
      have h2 := (hb i).1
      rw [add_plain] at h1
      rw [h1, Int.toNat_of_nonneg h2]⟩
set_option maxRecDepth 100000 in
theorem open_bl2 {v : Value} {d : DataW H} {p : List MemPlace} (hv : Value.okWide Try.prog W .any base 106 v) (h : DataW.Trod enc Try.prog W 0 (fun _ => true) true 106 v d p) :
    ∃ A n c f, v = .slice A n c ∧ Sl W A n f ∧ (A = none → n = 0 ∧ c = 0) := by
  obtain ⟨a0, n, c, rfl⟩ := okWide_slice Try.underlying106 hv
  obtain ⟨fuel, hf⟩ := h
  rcases open_ints Try.underlying106 Try.underlying5 cellsU8 hf with ⟨hcs, hx⟩ | ⟨a, len', cap', zs, hcs, _, hl, hm, hz, hx, hcell, hwz⟩
  · simp [Value.cells] at hcs
    obtain ⟨rfl, rfl, rfl⟩ := hcs
    exact ⟨none, 0, 0, fun _ => 0, rfl, ⟨fun _ => by decide, fun h => absurd h (by omega)⟩, fun _ => ⟨rfl, rfl⟩⟩
  · simp only [Value.cells, List.cons.injEq, Value.slice.injEq, and_true] at hcs
    obtain ⟨rfl, rfl, rfl⟩ := hcs
    simp only [if_true] at hz
    have hb : ∀ i, 0 ≤ zs.getD i 0 ∧ zs.getD i 0 < 256 := fun i => by
      rcases Nat.lt_or_ge i zs.length with hi | hi
      · have h1 := hwz (zs.getD i 0) (by simp [List.getD, List.getElem?_eq_getElem hi])
        have h2 := bounds_u8 h1
        omega
      · simp only [List.getD, List.getElem?_eq_none hi, Option.getD_none]; decide
    refine ⟨some a, n, c, fun i => (zs.getD i 0).toNat, rfl, ⟨fun i => by have := hb i; omega, fun hn => ?_⟩, fun h => by cases h⟩
    have hc0 := hcell 0 (by omega)
    have hlt := World.block_lt_of_cell? W _ hc0
    obtain ⟨g, o, sp⟩ := a
    have hspot : sp = none := by simpa [Addr.add] using World.cell?_spot hc0
    subst hspot
    exact ⟨g, o, rfl, hlt, fun i hi => by
      have h1 := hcell i (by omega)
      have h2 := (hb i).1
      rw [add_plain] at h1
      rw [h1, Int.toNat_of_nonneg h2]⟩
end
end Go.Proofs.Ytbfmhafmncnhfaa
