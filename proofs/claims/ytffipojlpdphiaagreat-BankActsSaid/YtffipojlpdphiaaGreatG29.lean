/- The document's store: Set and Delete. -/
import Derived.Test.YtffipojlpdphiaaGreatG28
import Derived.Test.YtffipojlpdphiaaGreatG24
import Derived.Test.YtffipojlpdphiaaGreatG20
namespace Go.Proofs.YtffipojlpdphiaaGreat
open Go.RowKit Go.Maps Go.Sort

theorem lay_walk (w W : World) (m : Nat) (L : SL) (R : List Ch) (k v : ByteArray) (th : Bool) (h : DS w W m L R) (hr : Rising (skeys L)) (hN : L.length < 1000000) :
    Calls Tryz.prog 71 #[.pointer (some ⟨m, 0, none⟩), .string k, .string v, .bool th] W fun e W' => e = .returned (.tuple #[]) ∧ DSTo w W W' m (if th = true then sset L k v else sdel L k) R := by
  obtain ⟨vL, vP, h1, h2, h3⟩ := h.ex
  rcases h2.2 with ⟨rfl, h0⟩ | ⟨g, cap, cur, rfl, _⟩
  · have e : L = [] := List.length_eq_zero_iff.1 h0
    subst e
    refine (lay_nil w W m R k v th h vP h1).mono ?_
    rintro e W' ⟨he, hd⟩
    refine ⟨he, ?_⟩
    cases th <;> exact hd
  · exact lay_some w W m L R k v th h hr hN vP g cap h1 h2
theorem DSTo.trans {w W W1 W2 : World} {m : Nat} {L L' : SL} {R R' : List Ch} (h : DSTo w W W1 m L R) (h' : DSTo w W1 W2 m L' R') : DSTo w W W2 m L' R' := by
  obtain ⟨G, t, hG⟩ := h.ex
  obtain ⟨G', t', hG'⟩ := h'.ex
  refine ⟨h'.s, G ++ G'.filter (fun k => decide (k < W.heap.size ∧ k ∉ G)), ?_, ?_⟩
  · refine (t.mono (fun k hk => List.mem_append_left _ hk)).trans (F' := G') (fun k hk => ?_) t'
    by_cases h1 : k < W.heap.size
    · by_cases h2 : k ∈ G
      · exact .inl (List.mem_append_left _ h2)
      · exact .inl (List.mem_append_right _ (List.mem_filter.2 ⟨hk, decide_eq_true ⟨h1, h2⟩⟩))
    · exact .inr (by omega)
  · intro g hg
    rcases List.mem_append.1 hg with h1 | h1
    · exact hG g h1
    · obtain ⟨h2, h3⟩ := List.mem_filter.1 h1
      obtain ⟨h4, h5⟩ := of_decide_eq_true h3
      obtain ⟨h6, cs, T, fr, h7, h8⟩ := hG' g h2
      rw [t.block g h4 h5] at h7
      exact ⟨h6, cs, T, fr, h7, h8⟩
theorem row_any {w : World} {B k n : Nat} {T : TypeId} {v : Value} {xs : List Value} (h : w.ownsRow B T k v n xs) : ∃ A C, v = .slice A n C := by
  rcases h.2 with ⟨rfl, rfl⟩ | ⟨g, cap, cur, rfl, _⟩
  · exact ⟨_, _, rfl⟩
  · exact ⟨_, _, rfl⟩
/-- the changes are stored -/
theorem past_done {w W W0 W5 : World} {m : Nat} {L : SL} {R R' : List Ch} (h : DS w W m L R) {vL vP v5 : Value} (h1 : W.heap[m]? = some (Obj.cells #[vL, vP] 30 (0, 0))) (h0 : Below W.heap.size W W0) (hg : W0.grownBy W5 vP.ownBlock) (ho : W5.ownsRow w.heap.size 109 3 v5 R'.length (whs R')) :
    DSTo w W (W5.setCell ⟨m, 1, none⟩ v5) m L R' := by
  obtain ⟨vL', vP', h1', h2, h3⟩ := h.ex
  rw [h1] at h1'
  obtain ⟨rfl, rfl⟩ : vL = vL' ∧ vP = vP' := by
    injection h1' with h1'
    injection h1' with e1 e2 e3
    have := congrArg Array.toList e1
    simp only [List.cons.injEq, and_true] at this
    exact this
  have hm := hp_lt h1
  have hPm : vP.ownBlock ≠ some m := fun e => by
    obtain ⟨cs, hc⟩ := ownsRow_typ h3 e
    rw [h1] at hc; cases hc
  have hm0 := (h0.block m hm).trans h1
  have hm5 : W5.heap[m]? = some (Obj.cells #[vL, vP] 30 (0, 0)) := (hg.block m (hp_lt hm0) (fun e => hPm e.symm)).trans hm0
  have hfar : ∀ k, k ≠ m → (W5.setCell ⟨m, 1, none⟩ v5).heap[k]? = W5.heap[k]? := fun k hk => Below.heap_setCell _ _ _ _ hk
  have t0 : Touch (m :: vP.ownBlock.toList) W W0 := Touch.of_below h0
  have t1 : Touch (m :: vP.ownBlock.toList) W0 W5 := Touch.grown hg fun k hk => List.mem_cons_of_mem _ (by rw [hk]; simp)
  have t2 : Touch (m :: vP.ownBlock.toList) W (W5.setCell ⟨m, 1, none⟩ v5) := (t0.trans (fun _ hk => .inl hk) t1).trans (fun _ hk => .inl hk) (Touch.setCell W5 ⟨m, 1, none⟩ v5 (by simp))
  have hty : ∀ g ∈ m :: vP.ownBlock.toList, w.heap.size ≤ g ∧ ∃ cs T fr, W.heap[g]? = some (Obj.cells cs T fr) ∧ DocT T ∧ T ≠ 70 := fun g hg => by
    rcases List.mem_cons.1 hg with rfl | hg
    · exact ⟨h.lt, _, _, _, h1, .inl rfl, by decide⟩
    · have e : vP.ownBlock = some g := by simpa using hg
      obtain ⟨cs, hc⟩ := ownsRow_typ h3 e
      exact ⟨(h3.lt g e).1, _, _, _, hc, .inr (.inr rfl), by decide⟩
  refine ⟨⟨h.lt, h.l.trans (t2.below (fun k hk => (hty k hk).1) h.l.size), vL, v5, ?_, ?_, ?_⟩, _, t2, hty⟩
  · rw [heap_setCell_row hm5]; rfl
  · refine ownsRow_same h2 fun g hg2 => ?_
    obtain ⟨cs, hc⟩ := ownsRow_typ h2 hg2
    rw [hfar g (fun e => by rw [e, h1] at hc; cases hc)]
    have hc0 := (h0.block g (hp_lt hc)).trans hc
    refine (hg.block g (hp_lt hc0) (fun e => ?_)).trans (h0.block g (hp_lt hc))
    obtain ⟨cs', hc'⟩ := ownsRow_typ h3 e.symm
    rw [hc] at hc'; cases hc'
  · refine ownsRow_same ho fun g hg2 => hfar g fun e => ?_
    subst e
    obtain ⟨cs, hc⟩ := ownsRow_typ ho hg2
    rw [hm5] at hc; cases hc
set_option maxRecDepth 100000 in
set_option maxHeartbeats 4000000 in
theorem rset_walk (w W : World) (m : Nat) (L : SL) (R : List Ch) (k v : ByteArray) (h : DS w W m L R) (hr : Rising (skeys L)) (hN : L.length < 1000000) (hR : R.length < 1000000) :
    Calls Tryz.prog 90 #[.pointer (some ⟨m, 0, none⟩), .string k, .string v] W fun e W' => e = .returned (.int .i64 (if k = ⟨#[]⟩ then 2 else 0)) ∧ DSTo w W W' m (setE L k v) (setR L R k v) := by
  unfold setE setR
  by_cases hk0 : k = ⟨#[]⟩
  · simp only [if_pos hk0]
    have q1 : k.toList.isEmpty = true := by rw [hk0, Lib.toList_data]; rfl
    have HE := Lib.hid (DSTo.refl h)
    clear hk0 h
    go_enter Tryz.func90, Tryz.ntmps90
    go_wp2
    go_ret
    exact ⟨rfl, HE.out⟩
  · simp only [if_neg hk0]
    have q1 : k.toList.isEmpty = false := ba_nil hk0
    have HG := Lib.hid (rget_walk m L k W h.dl hr (by omega))
    obtain ⟨S, hS⟩ : ∃ S, S = sget L k := ⟨_, rfl⟩
    rw [← hS] at HG ⊢
    by_cases hs : S = some v
    · rw [if_pos hs]
      have e0 : setL L k v = L := by unfold setL; rw [if_pos (hS.symm.trans hs)]
      rw [e0]
      subst hs
      have q2 : (v.toList == v.toList) = true := beq_self_eq_true _
      have HE := Lib.hid (DSTo.refl h)
      clear hk0 h e0 hS
      go_enter Tryz.func90, Tryz.ntmps90
      go_wp2_with (go_at_call 49; refine HG.out.mono ?_; rintro e w1 ⟨he, rfl⟩; obtain rfl : e = .returned (.tuple #[.string v, .bool true]) := he)
      go_ret
      exact ⟨rfl, HE.out⟩
    · rw [if_neg hs]
      have e0 : setL L k v = sset L k v := by unfold setL; rw [if_neg (fun e => hs (hS.trans e))]
      rw [e0]
      clear e0 hS hk0
      cases S with
      | none =>
        obtain ⟨i0, hi, hz0, hz1, hz2⟩ := info_parts dinfoWas
        obtain ⟨vL, vP, h1, h2, h3⟩ := h.ex
        obtain ⟨A, C, rfl⟩ := row_any h3
        have HD : Hid (∀ W5 v5, (W.alloc (.cells #[.string k, .string ⟨#[]⟩, .bool false] 109)).grownBy W5 (Value.slice A R.length C).ownBlock → W5.ownsRow w.heap.size 109 3 v5 (R.length + 1) (whs R ++ wch (k, false, ⟨#[]⟩)) → DSTo w W (W5.setCell ⟨m, 1, none⟩ v5) m L ((k, false, ⟨#[]⟩) :: R)) := Lib.hid fun W5 v5 hg ho => past_done h h1 ((Below.refl _ _).alloc (Nat.le_refl _) _) hg (by rw [whs_cons]; exact ho)
        have HL : Hid (∀ W6, DSTo w W W6 m L ((k, false, ⟨#[]⟩) :: R) → Calls Tryz.prog 71 #[.pointer (some ⟨m, 0, none⟩), .string k, .string v, .bool true] W6 fun e W' => e = .returned (.tuple #[]) ∧ DSTo w W W' m (sset L k v) ((k, false, ⟨#[]⟩) :: R)) := Lib.hid fun W6 hd => (lay_walk w W6 m L _ k v true hd.s hr hN).mono fun e W' ⟨he, hd2⟩ => ⟨he, hd.trans hd2⟩
        have c1 := (hp_cell (i := 1) h1).trans rfl
        have f1 := hp_free (i := 1) h1
        have HM := Lib.hid (And.intro h1 h3)
        have HW : Hid (∀ W5, (W.alloc (.cells #[.string k, .string ⟨#[]⟩, .bool false] 109)).grownBy W5 (Value.slice A R.length C).ownBlock → W5.heap[m]? = some (Obj.cells #[vL, .slice A R.length C] 30 (0, 0))) := Lib.hid fun W5 hg => by
          have hm0 := (((Below.refl W.heap.size W).alloc (Nat.le_refl _) (.cells #[.string k, .string ⟨#[]⟩, .bool false] 109)).block m (hp_lt h1)).trans h1
          refine (hg.block m (hp_lt hm0) (fun e => ?_)).trans hm0
          obtain ⟨cs, hc⟩ := ownsRow_typ h3 e.symm
          rw [h1] at hc; cases hc
        have hbw := h.l.size
        clear h h1 h2 h3 hr hN hs
        go_enter Tryz.func90, Tryz.ntmps90
        go_wp2_with (first
          | (go_at_call 71; refine (HL.out _ HD5.out).mono ?_; rintro e w7 ⟨rfl, hd7⟩; have H7 := Lib.hid hd7; clear hd7)
          | (at_builtin; refine wpList_append_own _ rfl _ _ _ rfl w.heap.size 109 i0 _ 3 40 Tryz.underlying28 hi hz0 hz1 hz2 rfl (by omega) _ R.length (whs R) rfl (HM.out.2.alloc _) ⟨W.heap.size, 0, none⟩ 1 1 [Value.string k, Value.string ⟨#[]⟩, Value.bool false] rfl rfl (World.news_of_block (cs := #[.string k, .string ⟨#[]⟩, .bool false]) (t := 109) (fr := (0, 0)) (heap_alloc_new W _)) (by simp [Value.oneCell']) (by unfold maxLen; omega) (by omega) (Nat.le_trans hbw (by simp)) ?_; intro v5 W5 hown hgrow _; have hm5 := HW.out W5 hgrow; have c5 := (hp_cell (i := 1) hm5).trans rfl; have f5 := hp_free (i := 1) hm5; obtain ⟨A5, C5, rfl⟩ := row_any hown; have HD5 := Lib.hid (HD.out W5 _ hgrow hown); clear hown hgrow hm5)
          | (go_at_call 49; refine HG.out.mono ?_; rintro e w1 ⟨he, rfl⟩; obtain rfl : e = .returned (.tuple #[.string ⟨#[]⟩, .bool false]) := he))
        go_ret
        exact ⟨rfl, H7.out⟩
      | some y =>
        have q2 : (y.toList == v.toList) = false := str_ne2 fun e => hs (by rw [e])
        obtain ⟨i0, hi, hz0, hz1, hz2⟩ := info_parts dinfoWas
        obtain ⟨vL, vP, h1, h2, h3⟩ := h.ex
        obtain ⟨A, C, rfl⟩ := row_any h3
        have HD : Hid (∀ W5 v5, (W.alloc (.cells #[.string k, .string y, .bool true] 109)).grownBy W5 (Value.slice A R.length C).ownBlock → W5.ownsRow w.heap.size 109 3 v5 (R.length + 1) (whs R ++ wch (k, true, y)) → DSTo w W (W5.setCell ⟨m, 1, none⟩ v5) m L ((k, true, y) :: R)) := Lib.hid fun W5 v5 hg ho => past_done h h1 ((Below.refl _ _).alloc (Nat.le_refl _) _) hg (by rw [whs_cons]; exact ho)
        have HL : Hid (∀ W6, DSTo w W W6 m L ((k, true, y) :: R) → Calls Tryz.prog 71 #[.pointer (some ⟨m, 0, none⟩), .string k, .string v, .bool true] W6 fun e W' => e = .returned (.tuple #[]) ∧ DSTo w W W' m (sset L k v) ((k, true, y) :: R)) := Lib.hid fun W6 hd => (lay_walk w W6 m L _ k v true hd.s hr hN).mono fun e W' ⟨he, hd2⟩ => ⟨he, hd.trans hd2⟩
        have c1 := (hp_cell (i := 1) h1).trans rfl
        have f1 := hp_free (i := 1) h1
        have HM := Lib.hid (And.intro h1 h3)
        have HW : Hid (∀ W5, (W.alloc (.cells #[.string k, .string y, .bool true] 109)).grownBy W5 (Value.slice A R.length C).ownBlock → W5.heap[m]? = some (Obj.cells #[vL, .slice A R.length C] 30 (0, 0))) := Lib.hid fun W5 hg => by
          have hm0 := (((Below.refl W.heap.size W).alloc (Nat.le_refl _) (.cells #[.string k, .string y, .bool true] 109)).block m (hp_lt h1)).trans h1
          refine (hg.block m (hp_lt hm0) (fun e => ?_)).trans hm0
          obtain ⟨cs, hc⟩ := ownsRow_typ h3 e.symm
          rw [h1] at hc; cases hc
        have hbw := h.l.size
        clear h h1 h2 h3 hr hN hs
        go_enter Tryz.func90, Tryz.ntmps90
        go_wp2_with (first
          | (go_at_call 71; refine (HL.out _ HD5.out).mono ?_; rintro e w7 ⟨rfl, hd7⟩; have H7 := Lib.hid hd7; clear hd7)
          | (at_builtin; refine wpList_append_own _ rfl _ _ _ rfl w.heap.size 109 i0 _ 3 40 Tryz.underlying28 hi hz0 hz1 hz2 rfl (by omega) _ R.length (whs R) rfl (HM.out.2.alloc _) ⟨W.heap.size, 0, none⟩ 1 1 [Value.string k, Value.string y, Value.bool true] rfl rfl (World.news_of_block (cs := #[.string k, .string y, .bool true]) (t := 109) (fr := (0, 0)) (heap_alloc_new W _)) (by simp [Value.oneCell']) (by unfold maxLen; omega) (by omega) (Nat.le_trans hbw (by simp)) ?_; intro v5 W5 hown hgrow _; have hm5 := HW.out W5 hgrow; have c5 := (hp_cell (i := 1) hm5).trans rfl; have f5 := hp_free (i := 1) hm5; obtain ⟨A5, C5, rfl⟩ := row_any hown; have HD5 := Lib.hid (HD.out W5 _ hgrow hown); clear hown hgrow hm5)
          | (go_at_call 49; refine HG.out.mono ?_; rintro e w1 ⟨he, rfl⟩; obtain rfl : e = .returned (.tuple #[.string y, .bool true]) := he))
        go_ret
        exact ⟨rfl, H7.out⟩
set_option maxRecDepth 100000 in
set_option maxHeartbeats 4000000 in
theorem rdel_walk (w W : World) (m : Nat) (L : SL) (R : List Ch) (k : ByteArray) (h : DS w W m L R) (hr : Rising (skeys L)) (hN : L.length < 1000000) (hR : R.length < 1000000) :
    Calls Tryz.prog 89 #[.pointer (some ⟨m, 0, none⟩), .string k] W fun e W' => e = .returned (.bool (sget L k).isSome) ∧ DSTo w W W' m (sdel L k) (delR L R k) := by
  unfold delR
  have HG := Lib.hid (rget_walk m L k W h.dl hr (by omega))
  obtain ⟨S, hS⟩ : ∃ S, S = sget L k := ⟨_, rfl⟩
  rw [← hS] at HG ⊢
  cases S with
  | none =>
    have e0 : sdel L k = L := by
      unfold sdel
      rw [List.filter_eq_self]
      intro p hp
      simp [sget_none (by rw [← hS]; rfl) p hp]
    rw [e0]
    have HE := Lib.hid (DSTo.refl h)
    clear h e0 hS
    go_enter Tryz.func89, Tryz.ntmps89
    go_wp2_with (go_at_call 49; refine HG.out.mono ?_; rintro e w1 ⟨he, rfl⟩; obtain rfl : e = .returned (.tuple #[.string ⟨#[]⟩, .bool false]) := he)
    go_ret
    exact ⟨rfl, HE.out⟩
  | some y =>
    obtain ⟨i0, hi, hz0, hz1, hz2⟩ := info_parts dinfoWas
    obtain ⟨vL, vP, h1, h2, h3⟩ := h.ex
    obtain ⟨A, C, rfl⟩ := row_any h3
    have HD : Hid (∀ W5 v5, (W.alloc (.cells #[.string k, .string y, .bool true] 109)).grownBy W5 (Value.slice A R.length C).ownBlock → W5.ownsRow w.heap.size 109 3 v5 (R.length + 1) (whs R ++ wch (k, true, y)) → DSTo w W (W5.setCell ⟨m, 1, none⟩ v5) m L ((k, true, y) :: R)) := Lib.hid fun W5 v5 hg ho => past_done h h1 ((Below.refl _ _).alloc (Nat.le_refl _) _) hg (by rw [whs_cons]; exact ho)
    have HL : Hid (∀ W6, DSTo w W W6 m L ((k, true, y) :: R) → Calls Tryz.prog 71 #[.pointer (some ⟨m, 0, none⟩), .string k, .string ⟨#[]⟩, .bool false] W6 fun e W' => e = .returned (.tuple #[]) ∧ DSTo w W W' m (sdel L k) ((k, true, y) :: R)) := Lib.hid fun W6 hd => (lay_walk w W6 m L _ k ⟨#[]⟩ false hd.s hr hN).mono fun e W' ⟨he, hd2⟩ => ⟨he, hd.trans hd2⟩
    have c1 := (hp_cell (i := 1) h1).trans rfl
    have f1 := hp_free (i := 1) h1
    have HM := Lib.hid (And.intro h1 h3)
    have HW : Hid (∀ W5, (W.alloc (.cells #[.string k, .string y, .bool true] 109)).grownBy W5 (Value.slice A R.length C).ownBlock → W5.heap[m]? = some (Obj.cells #[vL, .slice A R.length C] 30 (0, 0))) := Lib.hid fun W5 hg => by
      have hm0 := (((Below.refl W.heap.size W).alloc (Nat.le_refl _) (.cells #[.string k, .string y, .bool true] 109)).block m (hp_lt h1)).trans h1
      refine (hg.block m (hp_lt hm0) (fun e => ?_)).trans hm0
      obtain ⟨cs, hc⟩ := ownsRow_typ h3 e.symm
      rw [h1] at hc; cases hc
    have hbw := h.l.size
    clear h h1 h2 h3 hr hN hS
    go_enter Tryz.func89, Tryz.ntmps89
    go_wp2_with (first
      | (go_at_call 71; refine (HL.out _ HD5.out).mono ?_; rintro e w7 ⟨rfl, hd7⟩; have H7 := Lib.hid hd7; clear hd7)
      | (at_builtin; refine wpList_append_own _ rfl _ _ _ rfl w.heap.size 109 i0 _ 3 40 Tryz.underlying28 hi hz0 hz1 hz2 rfl (by omega) _ R.length (whs R) rfl (HM.out.2.alloc _) ⟨W.heap.size, 0, none⟩ 1 1 [Value.string k, Value.string y, Value.bool true] rfl rfl (World.news_of_block (cs := #[.string k, .string y, .bool true]) (t := 109) (fr := (0, 0)) (heap_alloc_new W _)) (by simp [Value.oneCell']) (by unfold maxLen; omega) (by omega) (Nat.le_trans hbw (by simp)) ?_; intro v5 W5 hown hgrow _; have hm5 := HW.out W5 hgrow; have c5 := (hp_cell (i := 1) hm5).trans rfl; have f5 := hp_free (i := 1) hm5; obtain ⟨A5, C5, rfl⟩ := row_any hown; have HD5 := Lib.hid (HD.out W5 _ hgrow hown); clear hown hgrow hm5)
      | (go_at_call 49; refine HG.out.mono ?_; rintro e w1 ⟨he, rfl⟩; obtain rfl : e = .returned (.tuple #[.string y, .bool true]) := he))
    go_ret
    exact ⟨rfl, H7.out⟩
end Go.Proofs.YtffipojlpdphiaaGreat

namespace Go.Proofs.YtffipojlpdphiaaGreat
open Go.RowKit Go.Maps Go.Sort

theorem own_cut {w : World} {B k g n m cap : Nat} {T : TypeId} {xs ys : List Value} (h : w.ownsRow B T k (.slice (some ⟨g, 0, none⟩) n cap) n (xs ++ ys)) (hx : xs.length = m * k) (hm : m ≤ n) : w.ownsRow B T k (.slice (some ⟨g, 0, none⟩) m cap) m xs := by
  rcases h.2 with ⟨h1, _⟩ | ⟨g', cap', cur, h1, hb, hg, hn, hc, hs, ht⟩
  · cases h1
  · cases h1
    refine ⟨hx, .inr ⟨g, cap, cur, rfl, hb, hg, by omega, hc, hs, ?_⟩⟩
    have := congrArg (List.take (m * k)) ht
    rw [List.take_take, Nat.min_eq_left (Nat.mul_le_mul_right k hm), List.take_left' hx] at this
    exact this
/-- the newest change is taken off -/
theorem past_cut {w W W0 : World} {m g cap : Nat} {L : SL} {c : Ch} {R : List Ch} (h : DS w W m L (c :: R)) {vL : Value} (h1 : W.heap[m]? = some (Obj.cells #[vL, .slice (some ⟨g, 0, none⟩) (R.length + 1) cap] 30 (0, 0))) (h0 : Below W.heap.size W W0) :
    DSTo w W (W0.setCell ⟨m, 1, none⟩ (.slice (some ⟨g, 0, none⟩) R.length cap)) m L R := by
  obtain ⟨vL', vP', h1', h2, h3⟩ := h.ex
  rw [h1] at h1'
  obtain ⟨rfl, rfl⟩ : vL = vL' ∧ Value.slice (some ⟨g, 0, none⟩) (R.length + 1) cap = vP' := by
    injection h1' with h1'
    injection h1' with e1 e2 e3
    have := congrArg Array.toList e1
    simp only [List.cons.injEq, and_true] at this
    exact this
  refine past_done h h1 h0 (W5 := W0) ⟨rfl, rfl, rfl, Nat.le_refl _, fun _ _ _ => rfl⟩ ?_
  rw [whs_cons] at h3
  have h4 : W0.ownsRow w.heap.size 109 3 (.slice (some ⟨g, 0, none⟩) (R.length + 1) cap) (R.length + 1) (whs R ++ wch c) := ownsRow_same h3 fun g' hg' => h0.block g' (ownsRow_blk h3 g' hg')
  exact own_cut h4 (whs_len R) (Nat.le_succ _)
/-- the row of changes, where there is one -/
theorem past_cells {w W : World} {m : Nat} {L : SL} {c : Ch} {R : List Ch} (h : DS w W m L (c :: R)) : ∃ vL g cap, W.heap[m]? = some (Obj.cells #[vL, .slice (some ⟨g, 0, none⟩) (R.length + 1) cap] 30 (0, 0)) ∧
    W.cell? ⟨g, R.length * 3, none⟩ = some (.string c.1) ∧ W.cell? ⟨g, R.length * 3 + 1, none⟩ = some (.string c.2.2) ∧ W.cell? ⟨g, R.length * 3 + 2, none⟩ = some (.bool c.2.1) ∧ R.length + 1 ≤ cap := by
  obtain ⟨vL, vP, h1, h2, h3⟩ := h.ex
  have h3' := h3
  rcases h3.2 with ⟨rfl, h0⟩ | ⟨g, cap, cur, rfl, hb, hg, hn, _⟩
  · cases h0
  · rw [whs_cons] at h3'
    have hl := whs_len R
    refine ⟨vL, g, cap, h1, ownsRow_cell h3' rfl ?_, ownsRow_cell h3' rfl ?_, ownsRow_cell h3' rfl ?_, hn⟩
    · rw [List.getElem?_append_right (by omega), hl, Nat.sub_self]; rfl
    · rw [List.getElem?_append_right (by omega), hl, Nat.add_sub_cancel_left]; rfl
    · rw [List.getElem?_append_right (by omega), hl, Nat.add_sub_cancel_left]; rfl
theorem cell_lt {w : World} {g i : Nat} {v : Value} (h : w.cell? ⟨g, i, none⟩ = some v) : g < w.heap.size := by
  by_cases hl : g < w.heap.size
  · exact hl
  · unfold World.cell? at h
    simp only at h
    rw [Array.getElem?_eq_none (by omega)] at h
    cases h
/-- how many changes there are -/
def plen (w : World) (m : Nat) : Nat := match w.cell? ⟨m, 1, none⟩ with | some (.slice _ n _) => n | _ => 0
theorem DS.plen {w W : World} {m : Nat} {L : SL} {R : List Ch} (h : DS w W m L R) : plen W m = R.length ∧ ∃ A C, W.cell? ⟨m, 1, none⟩ = some (.slice A R.length C) := by
  obtain ⟨vL, vP, h1, h2, h3⟩ := h.ex
  obtain ⟨A, C, rfl⟩ := row_any h3
  have := (hp_cell (i := 1) h1).trans rfl
  exact ⟨by unfold Go.Proofs.YtffipojlpdphiaaGreat.plen; rw [this]; rfl, A, C, this⟩
theorem undo1_len (L : SL) (c : Ch) : (undo1 L c).length ≤ L.length + 1 := by
  unfold undo1
  split
  · unfold sset
    split
    · rw [List.length_map]; omega
    · simp only [List.length_append, List.length_take, List.length_drop, List.length_cons, List.length_nil]; omega
  · have : (sdel L c.1).length ≤ L.length := List.length_filter_le _ _
    omega
theorem undo1_rise {L : SL} (h : Rising (skeys L)) (c : Ch) : Rising (skeys (undo1 L c)) := by
  unfold undo1
  split
  · exact rising_sset h _ _
  · exact rising_sdel h
set_option maxRecDepth 100000 in
set_option maxHeartbeats 4000000 in
theorem rundo_walk (w W : World) (m : Nat) (L : SL) (R : List Ch) (mark : Int) (h : DS w W m L R) (hr : Rising (skeys L)) (hN : L.length + R.length < 1000000) :
    Calls Tryz.prog 45 #[.pointer (some ⟨m, 0, none⟩), .int .i64 mark] W fun e W' => e = .returned (.bool (decide (0 ≤ mark ∧ mark ≤ (R.length : Int)))) ∧ DSTo w W W' m (und L R (undD R mark)) (R.drop (undD R mark)) := by
  by_cases hok : 0 ≤ mark ∧ mark ≤ (R.length : Int)
  · obtain ⟨M, rfl⟩ : ∃ M : Nat, mark = (M : Int) := ⟨mark.toNat, by omega⟩
    have hM : M ≤ R.length := by omega
    have e0 : undD R (M : Int) = R.length - M := by unfold undD; rw [if_pos hok]; rfl
    rw [e0, decide_eq_true hok]
    obtain ⟨D, hD⟩ : ∃ D, D = R.length - M := ⟨_, rfl⟩
    rw [← hD]
    obtain ⟨_, A, C, c1⟩ := h.plen
    have HS := Lib.hid (And.intro h (And.intro hr hN))
    obtain ⟨q, hq⟩ : ∃ q, q = R.length := ⟨_, rfl⟩
    rw [← hq] at c1 hM
    have HQ := Lib.hid hq
    have HDD := Lib.hid hD
    clear hD
    have p1 : ¬ (M : Int) < 0 := by omega
    have p2 : ¬ (q : Int) < (M : Int) := by omega
    clear h hr hN hok e0 hq
    go_enter Tryz.func45, Tryz.ntmps45
    go_wp2
    go_loopw [17] (fun _ wr => ∃ j : Nat, j + M ≤ R.length ∧ DSTo w W wr m (und L R j) (R.drop j) ∧ Rising (skeys (und L R j)) ∧ (und L R j).length ≤ L.length + j) (fun _ wr => plen wr m)
    case atStart => exact ⟨0, by have := HQ.out; omega, DSTo.refl HS.out.1, HS.out.2.1, Nat.le_refl _⟩
    case round =>
      obtain ⟨j, hj, hd, hrj, hlj⟩ := hrel
      obtain ⟨_, Ar, Cr, cr⟩ := hd.s.plen
      have hpl := hd.s.plen.1
      rw [List.length_drop] at cr hpl
      have HPL := Lib.hid hpl
      by_cases hlt : j + M < R.length
      · have hjR : j < R.length := by omega
        have hu := und_succ L hjR
        have hnext := undo1_rise hrj R[j]
        have hlen := undo1_len (und L R j) R[j]
        rw [← hu] at hnext hlen
        rw [List.drop_eq_getElem_cons hjR] at hd
        have hl1 : (R.drop (j + 1)).length = R.length - (j + 1) := List.length_drop
        obtain ⟨c, hc⟩ : ∃ c, c = R[j] := ⟨_, rfl⟩
        obtain ⟨r, hrr⟩ : ∃ r, r = R.drop (j + 1) := ⟨_, rfl⟩
        rw [← hc] at hd hu
        rw [← hrr] at hd hl1
        obtain ⟨vL, g, cap, hm, k0, k1, k2, hcap⟩ := past_cells hd.s
        obtain ⟨n, hn⟩ : ∃ n, n = r.length := ⟨_, rfl⟩
        rw [← hn] at hm k0 k1 k2 hcap hl1
        have z1 := (hp_cell (i := 1) hm).trans rfl
        have f1 := hp_free (i := 1) hm
        obtain ⟨k, had, old⟩ := c
        simp only at k0 k1 k2
        have p3 : (M : Int) < (n : Int) + 1 := by omega
        have p4 : n < n + 1 := by omega
        have p5 : (n : Int) ≤ 1000000 := by have := HS.out.2.2; omega
        have pw : wrap64 (n : Int) = (n : Int) := by unfold wrap64; omega
        have hlay : ∀ W0, Below wr.heap.size wr W0 → Calls Tryz.prog 71 #[.pointer (some ⟨m, 0, none⟩), .string k, .string old, .bool had] (W0.setCell ⟨m, 1, none⟩ (.slice (some ⟨g, 0, none⟩) n cap)) fun e W' => e = .returned (.tuple #[]) ∧ DSTo w W W' m (und L R (j + 1)) r := fun W0 hb => by
          have h1 := past_cut hd.s (by rw [hn] at hm; exact hm) hb
          rw [← hn] at h1
          refine (lay_walk w _ m _ r k old had h1.s hrj (by have := HS.out.2.2; omega)).mono fun e W' ⟨he, h2⟩ => ⟨he, ?_⟩
          rw [hu]
          exact (hd.trans h1).trans h2
        have HL := Lib.hid hlay
        have HX := Lib.hid (And.intro hrr (And.intro hnext (And.intro hlen hlj)))
        have HN := Lib.hid (And.intro hl1 hn)
        have hmw := hp_lt hm
        have hgw : g < wr.heap.size := cell_lt k0
        have za : ∀ o, (wr.alloc o).cell? ⟨m, 1, none⟩ = some (.slice (some ⟨g, 0, none⟩) (n + 1) cap) := fun o => (((Below.refl wr.heap.size wr).alloc (Nat.le_refl _) o).cell (p := ⟨m, 1, none⟩) hmw).trans z1
        have ka : ∀ o, (wr.alloc o).cell? ⟨g, n * 3, none⟩ = some (.string k) := fun o => (((Below.refl wr.heap.size wr).alloc (Nat.le_refl _) o).cell (p := ⟨g, n * 3, none⟩) hgw).trans k0
        have kb : ∀ o, (wr.alloc o).cell? ⟨g, n * 3 + 1, none⟩ = some (.string old) := fun o => (((Below.refl wr.heap.size wr).alloc (Nat.le_refl _) o).cell (p := ⟨g, n * 3 + 1, none⟩) hgw).trans k1
        have kc : ∀ o, (wr.alloc o).cell? ⟨g, n * 3 + 2, none⟩ = some (.bool had) := fun o => (((Below.refl wr.heap.size wr).alloc (Nat.le_refl _) o).cell (p := ⟨g, n * 3 + 2, none⟩) hgw).trans k2
        have HM := Lib.hid hm
        clear hlay hd hrj hlj hu hnext hlen hrr hc hm hl1 hn hpl cr
        go_wp2
        go_region
        generalize hW4 : (wr.alloc (.cells #[.string k, .string old, .bool had] 109)).drew = W4
        have hb4 : Below wr.heap.size wr W4 := by rw [← hW4]; exact ((Below.refl wr.heap.size wr).alloc (Nat.le_refl _) _).drew
        have hx4 : W4.heap[wr.heap.size]? = some (.cells #[.string k, .string old, .bool had] 109 (0, 0)) := by rw [← hW4]; exact heap_alloc_new wr _
        have hm4 : W4.heap[m]? = some (Obj.cells #[vL, .slice (some ⟨g, 0, none⟩) (n + 1) cap] 30 (0, 0)) := (hb4.block m hmw).trans HM.out
        have d1 := (hp_cell (i := 1) hm4).trans rfl
        have df := hp_free (i := 1) hm4
        have HB4 := Lib.hid (And.intro hb4 (And.intro hx4 hm4))
        clear hW4 hb4 hx4 hm4 za ka kb kc k0 k1 k2 z1 f1
        go_wp2
        go_region
        generalize hW5 : (W4.setCell ⟨m, 1, none⟩ (.slice (some ⟨g, 0, none⟩) n cap)).drew = W5
        have e5 : W5 = W4.drew.setCell ⟨m, 1, none⟩ (.slice (some ⟨g, 0, none⟩) n cap) := hW5.symm
        have hx5 : W5.heap[wr.heap.size]? = some (.cells #[.string k, .string old, .bool had] 109 (0, 0)) := by rw [e5, Below.heap_setCell _ _ _ _ (show wr.heap.size ≠ m by omega)]; exact HB4.out.2.1
        have y0 := (hp_cell (i := 0) hx5).trans rfl
        have y1 := (hp_cell (i := 1) hx5).trans rfl
        have y2 := (hp_cell (i := 2) hx5).trans rfl
        have hlay := HL.out W4.drew HB4.out.1.drew
        rw [← e5] at hlay
        have HLy := Lib.hid hlay
        clear hlay e5 hW5 hx5 d1 df
        go_wp2_with (go_at_call 71; refine HLy.out.mono ?_; rintro e W6 ⟨rfl, h6⟩; have H6 := Lib.hid h6; clear h6)
        have hd6 := H6.out
        rw [HX.out.1] at hd6
        refine ⟨⟨j + 1, by omega, hd6, HX.out.2.1, by have := HX.out.2.2.1; have := HX.out.2.2.2; omega⟩, ?_⟩
        have e1 := hd6.s.plen.1
        rw [List.length_drop] at e1
        have e2 := HPL.out
        show plen W6 m < plen wr m
        rw [e1, e2]
        omega
      · obtain rfl : D = j := by have := HDD.out; omega
        obtain ⟨t, ht⟩ : ∃ t, t = R.length - D := ⟨_, rfl⟩
        rw [← ht] at cr
        have p3 : ¬ (M : Int) < (t : Int) := by have := HDD.out; omega
        have HD := Lib.hid hd
        clear hd hrj hlj hpl ht
        go_wp2
        go_ret
        exact ⟨rfl, HD.out⟩
  · have e0 : undD R mark = 0 := by unfold undD; rw [if_neg hok]
    rw [e0, decide_eq_false hok]
    have HE := Lib.hid (DSTo.refl h)
    obtain ⟨_, A, C, c1⟩ := h.plen
    obtain ⟨q, hq⟩ : ∃ q, q = R.length := ⟨_, rfl⟩
    rw [← hq] at c1 hok
    clear h hr hN e0 hq
    by_cases h0 : mark < 0
    · clear hok
      go_enter Tryz.func45, Tryz.ntmps45
      go_wp2
      go_ret
      exact ⟨rfl, HE.out⟩
    · have p2 : (q : Int) < mark := by omega
      clear hok
      go_enter Tryz.func45, Tryz.ntmps45
      go_wp2
      go_ret
      exact ⟨rfl, HE.out⟩
end Go.Proofs.YtffipojlpdphiaaGreat

namespace Go.Proofs.YtffipojlpdphiaaGreat
open Go.RowKit Go.Maps Go.Sort

/-- the law's two variables tell what the entries have under the key -/
def KeepS (L : SL) (key want : ByteArray) (th : Bool) : Prop := (th = true ∧ sget L key = some want) ∨ (th = false ∧ want = ⟨#[]⟩ ∧ sget L key = none)
theorem mem_setE {L : SL} {k v : ByteArray} {p : ByteArray × ByteArray} (h : p ∈ setE L k v) : p ∈ L ∨ p.1 = k := by
  unfold setE at h
  split at h
  · exact .inl h
  · unfold setL at h
    split at h
    · exact .inl h
    · unfold sset at h
      split at h
      · obtain ⟨q, hq, rfl⟩ := List.mem_map.1 h
        split
        · exact .inr rfl
        · exact .inl hq
      · rcases List.mem_append.1 h with h | h
        · rcases List.mem_append.1 h with h | h
          · exact .inl (List.mem_of_mem_take h)
          · rw [List.mem_singleton.1 h]; exact .inr rfl
        · exact .inl (List.mem_of_mem_drop h)
theorem setE_len (L : SL) (k v : ByteArray) : (setE L k v).length ≤ L.length + 1 := by
  unfold setE
  split
  · omega
  · exact setL_len L k v
theorem KeepS.set {L : SL} {key v : ByteArray} (hne : key ≠ ⟨#[]⟩) : KeepS (setE L key v) key v true := by
  refine .inl ⟨rfl, ?_⟩
  unfold setE
  rw [if_neg hne, sget_setL, if_pos rfl]
theorem KeepS.other {L : SL} {key want k v : ByteArray} {th : Bool} (h : KeepS L key want th) (hne : k ≠ key ∨ key = ⟨#[]⟩) : KeepS (setE L k v) key want th := by
  have e : sget (setE L k v) key = sget L key := by
    unfold setE
    split
    · rfl
    · rename_i h0
      rw [sget_setL, if_neg]
      intro e
      rcases hne with h1 | h1
      · exact h1 e.symm
      · exact h0 (e.symm.trans h1)
  unfold KeepS at h ⊢
  rw [e]; exact h
theorem KeepS.del {L : SL} {key : ByteArray} : KeepS (sdel L key) key ⟨#[]⟩ false := .inr ⟨rfl, rfl, by rw [sget_sdel, if_pos rfl]⟩
theorem KeepS.delOther {L : SL} {key want k : ByteArray} {th : Bool} (h : KeepS L key want th) (hne : k ≠ key) : KeepS (sdel L k) key want th := by
  unfold KeepS at h ⊢
  rw [sget_sdel, if_neg (fun e => hne e.symm)]; exact h
theorem KeepS.get {L : SL} {key want : ByteArray} {th : Bool} (h : KeepS L key want th) : (sget L key).getD ⟨#[]⟩ = want ∧ (sget L key).isSome = th := by
  rcases h with ⟨h1, h2⟩ | ⟨h1, h2, h3⟩
  · rw [h2, h1]; exact ⟨rfl, rfl⟩
  · rw [h3, h1, h2]; exact ⟨rfl, rfl⟩
end Go.Proofs.YtffipojlpdphiaaGreat
