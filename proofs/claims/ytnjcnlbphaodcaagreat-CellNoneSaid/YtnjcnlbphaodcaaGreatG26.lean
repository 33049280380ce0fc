/- The document's lay: an entry, there or not. -/
import Derived.Test.YtnjcnlbphaodcaaGreatG25
namespace Go.Proofs.YtnjcnlbphaodcaaGreat
open Go.RowKit Go.Maps Go.Sort

theorem dinfoWas : (Tryz.prog.info? 100).map (fun i => (i.zero, i.size, i.bytes)) = some (some (.agg #[.string ⟨#[]⟩, .string ⟨#[]⟩, .bool false]), 3, 40) := by kernel_rfl
theorem pcs_app (a b : SL) : pcs (a ++ b) = pcs a ++ pcs b := by simp [pcs]
theorem pcs_len2 : ∀ l : SL, (pcs l).length = l.length * 2
  | [] => rfl
  | p :: r => by
    have e : pcs (p :: r) = .string p.1 :: .string p.2 :: pcs r := rfl
    rw [e, List.length_cons, List.length_cons, pcs_len2 r, List.length_cons]; omega
theorem pcs_one : ∀ l : SL, ∀ u ∈ pcs l, u.oneCell' = true
  | [], u, h => by cases h
  | p :: r, u, h => by
    have e : pcs (p :: r) = .string p.1 :: .string p.2 :: pcs r := rfl
    rw [e] at h
    rcases List.mem_cons.1 h with rfl | h
    · rfl
    · rcases List.mem_cons.1 h with rfl | h
      · rfl
      · exact pcs_one r u h
/-- the cells of a part of a row -/
theorem pcs_mid {w : World} {B : Nat} {g cap : Nat} {l : SL} (h : w.ownsRow B 125 2 (.slice (some ⟨g, 0, none⟩) l.length cap) l.length (pcs l)) (a b c : SL) (e : l = a ++ b ++ c) :
    ∀ j u, (pcs b)[j]? = some u → w.cell? ⟨g, a.length * 2 + j, none⟩ = some u := by
  intro j u hu
  have hj : j < (pcs b).length := (List.getElem?_eq_some_iff.1 hu).1
  refine ownsRow_cell h rfl (j := a.length * 2 + j) ?_
  rw [e, pcs_app, pcs_app, List.append_assoc, List.getElem?_append_right (by rw [pcs_len2]; omega), pcs_len2, Nat.add_sub_cancel_left, List.getElem?_append_left hj]
  exact hu
theorem iown_base' {w : World} {B B' n k : Nat} {e : TypeId} {v : Value} {xs : List Value} (h : w.ownsRow B e k v n xs) (hb : B' ≤ B) : w.ownsRow B' e k v n xs :=
  ⟨h.1, h.2.elim .inl fun ⟨g, cap, cur, h1, h2, h3⟩ => .inr ⟨g, cap, cur, h1, Nat.le_trans hb h2, h3⟩⟩
/-- the entries are stored -/
theorem lay_done {w W W3 : World} {m : Nat} {L L' : SL} {R : List Ch} (h : DS w W m L R) (hb : Below W.heap.size W W3) (v3 : Value) (ho : W3.ownsRow W.heap.size 125 2 v3 L'.length (pcs L')) : DSTo w W (W3.setCell ⟨m, 0, none⟩ v3) m L' R := by
  obtain ⟨vL, vP, h1, h2, h3⟩ := h.ex
  have hm := hp_lt h1
  have h1' := (hb.block m hm).trans h1
  have hfar : ∀ k, k ≠ m → (W3.setCell ⟨m, 0, none⟩ v3).heap[k]? = W3.heap[k]? := fun k hk => Below.heap_setCell _ _ _ _ hk
  have t2 : Touch [m] W (W3.setCell ⟨m, 0, none⟩ v3) := (Touch.of_below hb).trans (fun _ hk => .inl hk) (Touch.setCell W3 ⟨m, 0, none⟩ v3 (List.mem_singleton.2 rfl))
  have hty : ∀ g ∈ [m], w.heap.size ≤ g ∧ ∃ cs T fr, W.heap[g]? = some (Obj.cells cs T fr) ∧ DocT T ∧ T ≠ 125 := fun g hg => by
    rw [List.mem_singleton.1 hg]
    exact ⟨h.lt, _, _, _, h1, .inl rfl, by decide⟩
  refine ⟨⟨h.lt, h.l.trans (t2.below (fun k hk => by rw [List.mem_singleton.1 hk]; exact h.lt) h.l.size), v3, vP, ?_, ?_, ?_⟩, [m], t2, hty⟩
  · rw [heap_setCell_row h1']; rfl
  · refine ownsRow_same (iown_base' ho h.l.size) fun g hg => hfar g fun e => ?_
    have := (ho.lt g hg).1
    omega
  · refine ownsRow_same h3 fun g hg => ?_
    obtain ⟨cs, hc⟩ := ownsRow_typ h3 hg
    rw [hfar g (fun e => by rw [e, h1] at hc; cases hc)]
    exact hb.block g (hp_lt hc)
set_option maxRecDepth 100000 in
set_option maxHeartbeats 4000000 in
theorem lay_nil (w W : World) (m : Nat) (R : List Ch) (k v : ByteArray) (th : Bool) (h : DS w W m [] R) (vP : Value) (hm : W.heap[m]? = some (Obj.cells #[.slice none 0 0, vP] 43 (0, 0))) :
    Calls Tryz.prog 62 #[.pointer (some ⟨m, 0, none⟩), .string k, .string v, .bool th] W fun e W' => e = .returned (.tuple #[]) ∧ DSTo w W W' m (if th = true then [(k, v)] else []) R := by
  obtain ⟨i0, hi, hz0, hz1, hz2⟩ := info_parts infoPair
  have HPl := Lib.hid (rplace_walk m [] k W h.dl List.Pairwise.nil (Nat.zero_le _))
  have HD : Hid (∀ (L' : SL) (W3 : World) (v3 : Value), Below W.heap.size W W3 → W3.ownsRow W.heap.size 125 2 v3 L'.length (pcs L') → DSTo w W (W3.setCell ⟨m, 0, none⟩ v3) m L' R) := Lib.hid fun L' W3 v3 hb ho => lay_done h hb v3 ho
  have c0 := (hp_cell (i := 0) hm).trans rfl
  have f0 := hp_free (i := 0) hm
  have HM := Lib.hid hm
  clear hm h
  cases th with
  | false =>
    go_enter Tryz.func62, Tryz.ntmps62
    go_wp2_with (first | (go_at_call 81; refine HPl.out.mono ?_; rintro e w1 ⟨he, rfl⟩; obtain rfl : e = .returned (.int .i64 (0 : Nat)) := he) | (at_builtin; refine wpList_append_own_none rfl _ _ _ rfl W.heap.size 125 i0 2 Tryz.underlying40 hi _ _ _ rfl (World.ownsRow_nil _ _ _ _) rfl ?_))
    go_end0
    exact ⟨rfl, HD.out [] _ _ (Below.refl _ _) (World.ownsRow_nil _ _ _ _)⟩
  | true =>
    go_enter Tryz.func62, Tryz.ntmps62
    go_wp2_with (first
      | (go_at_call 81; refine HPl.out.mono ?_; rintro e w1 ⟨he, rfl⟩; obtain rfl : e = .returned (.int .i64 (0 : Nat)) := he)
      | (at_builtin; refine wpList_append_own_none rfl _ _ _ rfl W.heap.size 125 i0 2 Tryz.underlying40 hi _ _ _ rfl (HO.out.1) rfl ?_)
      | (at_builtin; refine wpList_append_own_none rfl _ _ _ rfl W.heap.size 125 i0 2 Tryz.underlying40 hi _ _ _ rfl (World.ownsRow_nil _ _ _ _) rfl ?_)
      | (at_builtin; refine wpList_append_own _ rfl _ _ _ rfl W.heap.size 125 i0 _ 2 32 Tryz.underlying40 hi hz0 hz1 hz2 rfl (by omega) _ 0 [] rfl (World.ownsRow_nil _ _ _ _) ⟨W.heap.size, 0, none⟩ 1 1 [.string k, .string v] rfl rfl (World.news_of_block (cs := #[.string k, .string v]) (t := 125) (fr := (0, 0)) (heap_alloc_new W _)) (by simp [Value.oneCell']) (by unfold maxLen; omega) (by omega) (by simp) ?_; intro v2 w5 hown2 hgrow _; have hb2 : Below W.heap.size W w5 := (((Below.refl _ W).alloc (Nat.le_refl _) (.cells #[.string k, .string v] 125)).grown hgrow (by simp) (fun q hq => (by cases hq))); have hm5 := (hb2.block m (hp_lt HM.out)).trans HM.out; have c5 := (hp_cell (i := 0) hm5).trans rfl; have f5 := hp_free (i := 0) hm5; obtain ⟨A2, C2, rfl, _⟩ := row_pairs (l := [(k, v)]) hown2; have HO := Lib.hid (And.intro hown2 hb2); clear hown2 hgrow hb2 hm5))
    go_end0
    exact ⟨rfl, HD.out [(k, v)] _ _ HO.out.2 HO.out.1⟩
set_option maxRecDepth 100000 in
set_option maxHeartbeats 4000000 in
theorem lay_some (w W : World) (m : Nat) (L : SL) (R : List Ch) (k v : ByteArray) (th : Bool) (h : DS w W m L R) (hr : Rising (skeys L)) (hN : L.length < 1000000) (vP : Value) (g cap : Nat) (hm : W.heap[m]? = some (Obj.cells #[.slice (some ⟨g, 0, none⟩) L.length cap, vP] 43 (0, 0)))
    (ho : W.ownsRow w.heap.size 125 2 (.slice (some ⟨g, 0, none⟩) L.length cap) L.length (pcs L)) :
    Calls Tryz.prog 62 #[.pointer (some ⟨m, 0, none⟩), .string k, .string v, .bool th] W fun e W' => e = .returned (.tuple #[]) ∧ DSTo w W W' m (if th = true then sset L k v else sdel L k) R := by
  obtain ⟨i0, hi, hz0, hz1, hz2⟩ := info_parts infoPair
  have HPl := Lib.hid (rplace_walk m L k W h.dl hr (by omega))
  have hsg := rsget_at k L hr
  have e1 := sset_parts hr k v
  have e2 := sdel_parts2 hr k
  have hKl := klo_le (skeys L) k
  have hkl : (skeys L).length = L.length := by unfold skeys; simp
  have hcap : L.length ≤ cap := by
    rcases ho.2 with ⟨h1, _⟩ | ⟨g', cap', cur, h1, _, _, h2, _⟩
    · cases h1
    · cases h1; exact h2
  have HD : Hid (∀ (L' : SL) (W3 : World) (v3 : Value), Below W.heap.size W W3 → W3.ownsRow W.heap.size 125 2 v3 L'.length (pcs L') → DSTo w W (W3.setCell ⟨m, 0, none⟩ v3) m L' R) := Lib.hid fun L' W3 v3 hb ho => lay_done h hb v3 ho
  generalize hK : klo (skeys L) k = K at *
  have hKn : K ≤ L.length := by omega
  obtain ⟨K', hK'⟩ : ∃ K', K' = if (sget L k).isSome = true then K + 1 else K := ⟨_, rfl⟩
  rw [← hK'] at e1 e2
  have hwhere : ((sget L k).isSome = true ∧ ∃ hlt : K < L.length, (L[K]).1 = k) ∨ ((sget L k).isSome = false ∧ (K < L.length → ∃ hlt : K < L.length, (L[K]).1 ≠ k)) := by
    by_cases hlt : K < L.length
    · rw [List.getElem?_eq_getElem hlt, Option.bind_some] at hsg
      by_cases e : (L[K]).1 = k
      · rw [if_pos e] at hsg; exact .inl ⟨by rw [hsg]; rfl, hlt, e⟩
      · rw [if_neg e] at hsg; exact .inr ⟨by rw [hsg]; rfl, fun _ => ⟨hlt, e⟩⟩
    · rw [List.getElem?_eq_none (by omega)] at hsg
      exact .inr ⟨by rw [hsg]; rfl, fun h => absurd h hlt⟩
  have hK'n : K' ≤ L.length := by
    rcases hwhere with ⟨h1, h2, _⟩ | ⟨h1, _⟩ <;> rw [h1] at hK' <;> simp at hK' <;> omega
  have hlt0 : (L.take K).length = K := by rw [List.length_take]; omega
  have HLn : Hid ((pcs (L.take K)).length = K * 2 ∧ (pcs (L.drop K')).length = (L.length - K') * 2) := Lib.hid ⟨by rw [pcs_len2, hlt0], by rw [pcs_len2, List.length_drop]⟩
  have s1 : ∀ j u, (pcs (L.take K))[j]? = some u → W.cell? ((⟨g, 0, none⟩ : Addr).add j) = some u := fun j u hu => by
    have := pcs_mid ho [] (L.take K) (L.drop K) (by simp) j u hu
    rw [Addr.add_lit]
    simpa using this
  have s2 : ∀ W5, Below W.heap.size W W5 → ∀ j u, (pcs (L.drop K'))[j]? = some u → W5.cell? ((⟨g, K' * 2, none⟩ : Addr).add j) = some u := fun W5 hb j u hu => by
    have := pcs_mid ho (L.take K') (L.drop K') [] (by simp) j u hu
    rw [List.length_take, Nat.min_eq_left hK'n] at this
    rw [Addr.add_lit, hb.cell (p := ⟨g, K' * 2 + j, none⟩) (ho.lt g rfl).2]
    exact this
  have s3 : cap = K' → ∀ W5 : World, ∀ j u, (pcs (L.drop K'))[j]? = some u → W5.cell? ((⟨g, 0, none⟩ : Addr).add j) = some u := fun hc W5 j u hu => by
    rw [List.drop_eq_nil_of_le (by omega)] at hu
    cases hu
  have hend : (L.take K ++ [(k, v)] ++ L.drop K' : SL).length = K + 1 + (L.length - K') ∧ (L.take K ++ L.drop K' : SL).length = K + (L.length - K') := by
    constructor
    · simp only [List.length_append, hlt0, List.length_drop, List.length_cons, List.length_nil]
    · simp only [List.length_append, hlt0, List.length_drop]
  have HE := Lib.hid (And.intro e1 (And.intro e2 hend))
  have c0 := (hp_cell (i := 0) hm).trans rfl
  have f0 := hp_free (i := 0) hm
  have HM := Lib.hid hm
  have hcells : ∀ hlt : K < L.length, W.cell? ⟨g, K * 2, none⟩ = some (.string (L[K]).1) := fun hlt => ownsRow_cell ho rfl (pcs_at L K hlt).1
  obtain ⟨n, hn⟩ : ∃ n, n = L.length := ⟨_, rfl⟩
  clear hm h hend e1 e2 hsg hKl hkl hlt0 ho hr
  rcases hwhere with ⟨q1, q2, q3⟩ | ⟨q1, q2⟩
  · obtain rfl : K' = K + 1 := by rw [hK', if_pos q1]
    have c1 := hcells q2
    rw [q3] at c1
    have p2 : (k.toList == k.toList) = true := beq_self_eq_true _
    have p1 : (K : Int) < (L.length : Int) := by omega
    clear hK' hcells q1 q2 q3 hK
    cases th with
    | true =>
      by_cases hc : cap = K + 1
      · have HSr := Lib.hid (And.intro s1 (And.intro s2 (s3 hc)))
        clear s1 s2 s3
        have HNl : Hid ((pcs (L.drop (K + 1))).length = 0 * 2) := Lib.hid (by rw [List.drop_eq_nil_of_le (by omega)]; rfl)
        have HSz : Hid (L.length - (K + 1) = 0) := Lib.hid (by omega)
        have hcs := hc.symm
        subst hcs
        go_enter Tryz.func62, Tryz.ntmps62
        go_wp2_with (first
          | (at_builtin; refine wpList_append_own _ rfl _ _ _ rfl W.heap.size 125 i0 _ 2 32 Tryz.underlying40 hi hz0 hz1 hz2 rfl (by omega) _ (K + 1) (pcs (L.take K) ++ [Value.string k, Value.string v]) rfl HO2.out.1 _ _ _ (pcs (L.drop (K + 1))) rfl (by first | exact HLn.out.2 | exact HNl.out) (HSr.out.2.2 _) (pcs_one _) (by unfold maxLen; omega) (by omega) HO2.out.2.size ?_; intro v4 w7 hown2 hgrow _; have hb2 : Below W.heap.size W w7 := (HO2.out.2.grown hgrow HO2.out.2.size (fun q hq => (HO2.out.1.lt q hq).1)); have hm5 := (hb2.block m (hp_lt HM.out)).trans HM.out; have c7 := (hp_cell (i := 0) hm5).trans rfl; have f7 := hp_free (i := 0) hm5; have hown3 : w7.ownsRow W.heap.size 125 2 v4 (L.take K ++ [(k, v)] ++ L.drop (K + 1) : SL).length (pcs (L.take K ++ [(k, v)] ++ L.drop (K + 1))) := (by rw [HE.out.2.2.1]; simp only [pcs_app]; first | exact hown2 | (rw [HSz.out]; exact hown2)); obtain ⟨A4, C4, ev4, _⟩ := row_pairs hown3; obtain ⟨N4, hN4⟩ : ∃ y, y = (L.take K ++ [(k, v)] ++ L.drop (K + 1) : SL).length := ⟨_, rfl⟩; rw [← hN4] at ev4; subst ev4; have HO3 := Lib.hid (And.intro hown3 hb2); clear hN4; clear hown2 hown3 hgrow hb2 hm5)
          | (at_builtin; refine wpList_append_own _ rfl _ _ _ rfl W.heap.size 125 i0 _ 2 32 Tryz.underlying40 hi hz0 hz1 hz2 rfl (by omega) _ K (pcs (L.take K)) rfl (HO1.out.1.alloc _) ⟨w5.heap.size, 0, none⟩ 1 1 [.string k, .string v] rfl rfl (World.news_of_block (cs := #[.string k, .string v]) (t := 125) (fr := (0, 0)) (heap_alloc_new w5 _)) (by simp [Value.oneCell']) (by unfold maxLen; omega) (by omega) (Nat.le_trans HO1.out.2.size (by simp)) ?_; intro v3 w6 hown2 hgrow _; have hb2 : Below W.heap.size W w6 := ((HO1.out.2.alloc HO1.out.2.size (.cells #[.string k, .string v] 125)).grown hgrow (Nat.le_trans HO1.out.2.size (by simp)) (fun q hq => (HO1.out.1.lt q hq).1)); have hm5 := (hb2.block m (hp_lt HM.out)).trans HM.out; have c6 := (hp_cell (i := 0) hm5).trans rfl; have f6 := hp_free (i := 0) hm5; have HO2 := Lib.hid (And.intro hown2 hb2); clear hown2 hgrow hb2 hm5)
          | (at_builtin; refine wpList_append_own _ rfl _ _ _ rfl W.heap.size 125 i0 _ 2 32 Tryz.underlying40 hi hz0 hz1 hz2 rfl (by omega) _ 0 [] rfl (World.ownsRow_nil _ _ _ _) ⟨g, 0, none⟩ K _ (pcs (L.take K)) rfl HLn.out.1 HSr.out.1 (pcs_one _) (by unfold maxLen; omega) (by omega) (Nat.le_refl _) ?_; intro v2 w5 hown2 hgrow _; have hb2 : Below W.heap.size W w5 := ((Below.refl _ W).grown hgrow (Nat.le_refl _) (fun q hq => (by cases hq))); have hm5 := (hb2.block m (hp_lt HM.out)).trans HM.out; have c5 := (hp_cell (i := 0) hm5).trans rfl; have f5 := hp_free (i := 0) hm5; rw [Nat.zero_add, List.nil_append] at hown2; have HO1 := Lib.hid (And.intro hown2 hb2); clear hown2 hgrow hb2 hm5)
          | (go_at_call 81; refine HPl.out.mono ?_; rintro e w1 ⟨rfl, rfl⟩))
        go_end0
        refine ⟨rfl, ?_⟩
        have HF := HD.out (L.take K ++ [(k, v)] ++ L.drop (K + 1)) _ _ HO3.out.2 HO3.out.1
        show DSTo w W _ m (sset L k v) R
        rw [HE.out.1]
        exact HF
      · have HSr := Lib.hid (And.intro s1 (And.intro s2 s2))
        clear s1 s2 s3
        go_enter Tryz.func62, Tryz.ntmps62
        go_wp2_with (first
          | (at_builtin; refine wpList_append_own _ rfl _ _ _ rfl W.heap.size 125 i0 _ 2 32 Tryz.underlying40 hi hz0 hz1 hz2 rfl (by omega) _ (K + 1) (pcs (L.take K) ++ [Value.string k, Value.string v]) rfl HO2.out.1 _ _ _ (pcs (L.drop (K + 1))) rfl (by first | exact HLn.out.2 | exact HNl.out) (HSr.out.2.1 _ HO2.out.2) (pcs_one _) (by unfold maxLen; omega) (by omega) HO2.out.2.size ?_; intro v4 w7 hown2 hgrow _; have hb2 : Below W.heap.size W w7 := (HO2.out.2.grown hgrow HO2.out.2.size (fun q hq => (HO2.out.1.lt q hq).1)); have hm5 := (hb2.block m (hp_lt HM.out)).trans HM.out; have c7 := (hp_cell (i := 0) hm5).trans rfl; have f7 := hp_free (i := 0) hm5; have hown3 : w7.ownsRow W.heap.size 125 2 v4 (L.take K ++ [(k, v)] ++ L.drop (K + 1) : SL).length (pcs (L.take K ++ [(k, v)] ++ L.drop (K + 1))) := (by rw [HE.out.2.2.1]; simp only [pcs_app]; first | exact hown2 | (rw [HSz.out]; exact hown2)); obtain ⟨A4, C4, ev4, _⟩ := row_pairs hown3; obtain ⟨N4, hN4⟩ : ∃ y, y = (L.take K ++ [(k, v)] ++ L.drop (K + 1) : SL).length := ⟨_, rfl⟩; rw [← hN4] at ev4; subst ev4; have HO3 := Lib.hid (And.intro hown3 hb2); clear hN4; clear hown2 hown3 hgrow hb2 hm5)
          | (at_builtin; refine wpList_append_own _ rfl _ _ _ rfl W.heap.size 125 i0 _ 2 32 Tryz.underlying40 hi hz0 hz1 hz2 rfl (by omega) _ K (pcs (L.take K)) rfl (HO1.out.1.alloc _) ⟨w5.heap.size, 0, none⟩ 1 1 [.string k, .string v] rfl rfl (World.news_of_block (cs := #[.string k, .string v]) (t := 125) (fr := (0, 0)) (heap_alloc_new w5 _)) (by simp [Value.oneCell']) (by unfold maxLen; omega) (by omega) (Nat.le_trans HO1.out.2.size (by simp)) ?_; intro v3 w6 hown2 hgrow _; have hb2 : Below W.heap.size W w6 := ((HO1.out.2.alloc HO1.out.2.size (.cells #[.string k, .string v] 125)).grown hgrow (Nat.le_trans HO1.out.2.size (by simp)) (fun q hq => (HO1.out.1.lt q hq).1)); have hm5 := (hb2.block m (hp_lt HM.out)).trans HM.out; have c6 := (hp_cell (i := 0) hm5).trans rfl; have f6 := hp_free (i := 0) hm5; have HO2 := Lib.hid (And.intro hown2 hb2); clear hown2 hgrow hb2 hm5)
          | (at_builtin; refine wpList_append_own _ rfl _ _ _ rfl W.heap.size 125 i0 _ 2 32 Tryz.underlying40 hi hz0 hz1 hz2 rfl (by omega) _ 0 [] rfl (World.ownsRow_nil _ _ _ _) ⟨g, 0, none⟩ K _ (pcs (L.take K)) rfl HLn.out.1 HSr.out.1 (pcs_one _) (by unfold maxLen; omega) (by omega) (Nat.le_refl _) ?_; intro v2 w5 hown2 hgrow _; have hb2 : Below W.heap.size W w5 := ((Below.refl _ W).grown hgrow (Nat.le_refl _) (fun q hq => (by cases hq))); have hm5 := (hb2.block m (hp_lt HM.out)).trans HM.out; have c5 := (hp_cell (i := 0) hm5).trans rfl; have f5 := hp_free (i := 0) hm5; rw [Nat.zero_add, List.nil_append] at hown2; have HO1 := Lib.hid (And.intro hown2 hb2); clear hown2 hgrow hb2 hm5)
          | (go_at_call 81; refine HPl.out.mono ?_; rintro e w1 ⟨rfl, rfl⟩))
        go_end0
        refine ⟨rfl, ?_⟩
        have HF := HD.out (L.take K ++ [(k, v)] ++ L.drop (K + 1)) _ _ HO3.out.2 HO3.out.1
        show DSTo w W _ m (sset L k v) R
        rw [HE.out.1]
        exact HF
    | false =>
      by_cases hc : cap = K + 1
      · have HSr := Lib.hid (And.intro s1 (And.intro s2 (s3 hc)))
        clear s1 s2 s3
        have HNl : Hid ((pcs (L.drop (K + 1))).length = 0 * 2) := Lib.hid (by rw [List.drop_eq_nil_of_le (by omega)]; rfl)
        have HSz : Hid (L.length - (K + 1) = 0) := Lib.hid (by omega)
        have hcs := hc.symm
        subst hcs
        go_enter Tryz.func62, Tryz.ntmps62
        go_wp2_with (first
          | (at_builtin; refine wpList_append_own _ rfl _ _ _ rfl W.heap.size 125 i0 _ 2 32 Tryz.underlying40 hi hz0 hz1 hz2 rfl (by omega) _ (K) (pcs (L.take K)) rfl HO1.out.1 _ _ _ (pcs (L.drop (K + 1))) rfl (by first | exact HLn.out.2 | exact HNl.out) (HSr.out.2.2 _) (pcs_one _) (by unfold maxLen; omega) (by omega) HO1.out.2.size ?_; intro v4 w7 hown2 hgrow _; have hb2 : Below W.heap.size W w7 := (HO1.out.2.grown hgrow HO1.out.2.size (fun q hq => (HO1.out.1.lt q hq).1)); have hm5 := (hb2.block m (hp_lt HM.out)).trans HM.out; have c7 := (hp_cell (i := 0) hm5).trans rfl; have f7 := hp_free (i := 0) hm5; have hown3 : w7.ownsRow W.heap.size 125 2 v4 (L.take K ++ L.drop (K + 1) : SL).length (pcs (L.take K ++ L.drop (K + 1))) := (by rw [HE.out.2.2.2]; simp only [pcs_app]; first | exact hown2 | (rw [HSz.out]; exact hown2)); obtain ⟨A4, C4, ev4, _⟩ := row_pairs hown3; obtain ⟨N4, hN4⟩ : ∃ y, y = (L.take K ++ L.drop (K + 1) : SL).length := ⟨_, rfl⟩; rw [← hN4] at ev4; subst ev4; have HO3 := Lib.hid (And.intro hown3 hb2); clear hN4; clear hown2 hown3 hgrow hb2 hm5)
          | (at_builtin; refine wpList_append_own _ rfl _ _ _ rfl W.heap.size 125 i0 _ 2 32 Tryz.underlying40 hi hz0 hz1 hz2 rfl (by omega) _ 0 [] rfl (World.ownsRow_nil _ _ _ _) ⟨g, 0, none⟩ K _ (pcs (L.take K)) rfl HLn.out.1 HSr.out.1 (pcs_one _) (by unfold maxLen; omega) (by omega) (Nat.le_refl _) ?_; intro v2 w5 hown2 hgrow _; have hb2 : Below W.heap.size W w5 := ((Below.refl _ W).grown hgrow (Nat.le_refl _) (fun q hq => (by cases hq))); have hm5 := (hb2.block m (hp_lt HM.out)).trans HM.out; have c5 := (hp_cell (i := 0) hm5).trans rfl; have f5 := hp_free (i := 0) hm5; rw [Nat.zero_add, List.nil_append] at hown2; have HO1 := Lib.hid (And.intro hown2 hb2); clear hown2 hgrow hb2 hm5)
          | (go_at_call 81; refine HPl.out.mono ?_; rintro e w1 ⟨rfl, rfl⟩))
        go_end0
        refine ⟨rfl, ?_⟩
        have HF := HD.out (L.take K ++ L.drop (K + 1)) _ _ HO3.out.2 HO3.out.1
        show DSTo w W _ m (sdel L k) R
        rw [HE.out.2.1]
        exact HF
      · have HSr := Lib.hid (And.intro s1 (And.intro s2 s2))
        clear s1 s2 s3
        go_enter Tryz.func62, Tryz.ntmps62
        go_wp2_with (first
          | (at_builtin; refine wpList_append_own _ rfl _ _ _ rfl W.heap.size 125 i0 _ 2 32 Tryz.underlying40 hi hz0 hz1 hz2 rfl (by omega) _ (K) (pcs (L.take K)) rfl HO1.out.1 _ _ _ (pcs (L.drop (K + 1))) rfl (by first | exact HLn.out.2 | exact HNl.out) (HSr.out.2.1 _ HO1.out.2) (pcs_one _) (by unfold maxLen; omega) (by omega) HO1.out.2.size ?_; intro v4 w7 hown2 hgrow _; have hb2 : Below W.heap.size W w7 := (HO1.out.2.grown hgrow HO1.out.2.size (fun q hq => (HO1.out.1.lt q hq).1)); have hm5 := (hb2.block m (hp_lt HM.out)).trans HM.out; have c7 := (hp_cell (i := 0) hm5).trans rfl; have f7 := hp_free (i := 0) hm5; have hown3 : w7.ownsRow W.heap.size 125 2 v4 (L.take K ++ L.drop (K + 1) : SL).length (pcs (L.take K ++ L.drop (K + 1))) := (by rw [HE.out.2.2.2]; simp only [pcs_app]; first | exact hown2 | (rw [HSz.out]; exact hown2)); obtain ⟨A4, C4, ev4, _⟩ := row_pairs hown3; obtain ⟨N4, hN4⟩ : ∃ y, y = (L.take K ++ L.drop (K + 1) : SL).length := ⟨_, rfl⟩; rw [← hN4] at ev4; subst ev4; have HO3 := Lib.hid (And.intro hown3 hb2); clear hN4; clear hown2 hown3 hgrow hb2 hm5)
          | (at_builtin; refine wpList_append_own _ rfl _ _ _ rfl W.heap.size 125 i0 _ 2 32 Tryz.underlying40 hi hz0 hz1 hz2 rfl (by omega) _ 0 [] rfl (World.ownsRow_nil _ _ _ _) ⟨g, 0, none⟩ K _ (pcs (L.take K)) rfl HLn.out.1 HSr.out.1 (pcs_one _) (by unfold maxLen; omega) (by omega) (Nat.le_refl _) ?_; intro v2 w5 hown2 hgrow _; have hb2 : Below W.heap.size W w5 := ((Below.refl _ W).grown hgrow (Nat.le_refl _) (fun q hq => (by cases hq))); have hm5 := (hb2.block m (hp_lt HM.out)).trans HM.out; have c5 := (hp_cell (i := 0) hm5).trans rfl; have f5 := hp_free (i := 0) hm5; rw [Nat.zero_add, List.nil_append] at hown2; have HO1 := Lib.hid (And.intro hown2 hb2); clear hown2 hgrow hb2 hm5)
          | (go_at_call 81; refine HPl.out.mono ?_; rintro e w1 ⟨rfl, rfl⟩))
        go_end0
        refine ⟨rfl, ?_⟩
        have HF := HD.out (L.take K ++ L.drop (K + 1)) _ _ HO3.out.2 HO3.out.1
        show DSTo w W _ m (sdel L k) R
        rw [HE.out.2.1]
        exact HF
  · obtain rfl : K' = K := by rw [hK', q1]; rfl
    by_cases hlt : K' < L.length
    · have c1 := hcells hlt
      obtain ⟨y, hy⟩ : ∃ y, y = (L[K']).1 := ⟨_, rfl⟩
      obtain ⟨_, q3⟩ := q2 hlt
      rw [← hy] at c1 q3
      have p2 : (y.toList == k.toList) = false := str_ne2 q3
      have p1 : (K' : Int) < (L.length : Int) := by omega
      clear hK' hcells q1 q2 q3 hK hy
      cases th with
      | true =>
        by_cases hc : cap = K'
        · exact absurd hcap (by omega)
        · have HSr := Lib.hid (And.intro s1 (And.intro s2 s2))
          clear s1 s2 s3
          go_enter Tryz.func62, Tryz.ntmps62
          go_wp2_with (first
            | (at_builtin; refine wpList_append_own _ rfl _ _ _ rfl W.heap.size 125 i0 _ 2 32 Tryz.underlying40 hi hz0 hz1 hz2 rfl (by omega) _ (K' + 1) (pcs (L.take K') ++ [Value.string k, Value.string v]) rfl HO2.out.1 _ _ _ (pcs (L.drop (K'))) rfl (by first | exact HLn.out.2 | exact HNl.out) (HSr.out.2.1 _ HO2.out.2) (pcs_one _) (by unfold maxLen; omega) (by omega) HO2.out.2.size ?_; intro v4 w7 hown2 hgrow _; have hb2 : Below W.heap.size W w7 := (HO2.out.2.grown hgrow HO2.out.2.size (fun q hq => (HO2.out.1.lt q hq).1)); have hm5 := (hb2.block m (hp_lt HM.out)).trans HM.out; have c7 := (hp_cell (i := 0) hm5).trans rfl; have f7 := hp_free (i := 0) hm5; have hown3 : w7.ownsRow W.heap.size 125 2 v4 (L.take K' ++ [(k, v)] ++ L.drop (K') : SL).length (pcs (L.take K' ++ [(k, v)] ++ L.drop (K'))) := (by rw [HE.out.2.2.1]; simp only [pcs_app]; first | exact hown2 | (rw [HSz.out]; exact hown2)); obtain ⟨A4, C4, ev4, _⟩ := row_pairs hown3; obtain ⟨N4, hN4⟩ : ∃ y, y = (L.take K' ++ [(k, v)] ++ L.drop (K') : SL).length := ⟨_, rfl⟩; rw [← hN4] at ev4; subst ev4; have HO3 := Lib.hid (And.intro hown3 hb2); clear hN4; clear hown2 hown3 hgrow hb2 hm5)
            | (at_builtin; refine wpList_append_own _ rfl _ _ _ rfl W.heap.size 125 i0 _ 2 32 Tryz.underlying40 hi hz0 hz1 hz2 rfl (by omega) _ K' (pcs (L.take K')) rfl (HO1.out.1.alloc _) ⟨w5.heap.size, 0, none⟩ 1 1 [.string k, .string v] rfl rfl (World.news_of_block (cs := #[.string k, .string v]) (t := 125) (fr := (0, 0)) (heap_alloc_new w5 _)) (by simp [Value.oneCell']) (by unfold maxLen; omega) (by omega) (Nat.le_trans HO1.out.2.size (by simp)) ?_; intro v3 w6 hown2 hgrow _; have hb2 : Below W.heap.size W w6 := ((HO1.out.2.alloc HO1.out.2.size (.cells #[.string k, .string v] 125)).grown hgrow (Nat.le_trans HO1.out.2.size (by simp)) (fun q hq => (HO1.out.1.lt q hq).1)); have hm5 := (hb2.block m (hp_lt HM.out)).trans HM.out; have c6 := (hp_cell (i := 0) hm5).trans rfl; have f6 := hp_free (i := 0) hm5; have HO2 := Lib.hid (And.intro hown2 hb2); clear hown2 hgrow hb2 hm5)
            | (at_builtin; refine wpList_append_own _ rfl _ _ _ rfl W.heap.size 125 i0 _ 2 32 Tryz.underlying40 hi hz0 hz1 hz2 rfl (by omega) _ 0 [] rfl (World.ownsRow_nil _ _ _ _) ⟨g, 0, none⟩ K' _ (pcs (L.take K')) rfl HLn.out.1 HSr.out.1 (pcs_one _) (by unfold maxLen; omega) (by omega) (Nat.le_refl _) ?_; intro v2 w5 hown2 hgrow _; have hb2 : Below W.heap.size W w5 := ((Below.refl _ W).grown hgrow (Nat.le_refl _) (fun q hq => (by cases hq))); have hm5 := (hb2.block m (hp_lt HM.out)).trans HM.out; have c5 := (hp_cell (i := 0) hm5).trans rfl; have f5 := hp_free (i := 0) hm5; rw [Nat.zero_add, List.nil_append] at hown2; have HO1 := Lib.hid (And.intro hown2 hb2); clear hown2 hgrow hb2 hm5)
            | (go_at_call 81; refine HPl.out.mono ?_; rintro e w1 ⟨rfl, rfl⟩))
          go_end0
          refine ⟨rfl, ?_⟩
          have HF := HD.out (L.take K' ++ [(k, v)] ++ L.drop (K')) _ _ HO3.out.2 HO3.out.1
          show DSTo w W _ m (sset L k v) R
          rw [HE.out.1]
          exact HF
      | false =>
        by_cases hc : cap = K'
        · exact absurd hcap (by omega)
        · have HSr := Lib.hid (And.intro s1 (And.intro s2 s2))
          clear s1 s2 s3
          go_enter Tryz.func62, Tryz.ntmps62
          go_wp2_with (first
            | (at_builtin; refine wpList_append_own _ rfl _ _ _ rfl W.heap.size 125 i0 _ 2 32 Tryz.underlying40 hi hz0 hz1 hz2 rfl (by omega) _ (K') (pcs (L.take K')) rfl HO1.out.1 _ _ _ (pcs (L.drop (K'))) rfl (by first | exact HLn.out.2 | exact HNl.out) (HSr.out.2.1 _ HO1.out.2) (pcs_one _) (by unfold maxLen; omega) (by omega) HO1.out.2.size ?_; intro v4 w7 hown2 hgrow _; have hb2 : Below W.heap.size W w7 := (HO1.out.2.grown hgrow HO1.out.2.size (fun q hq => (HO1.out.1.lt q hq).1)); have hm5 := (hb2.block m (hp_lt HM.out)).trans HM.out; have c7 := (hp_cell (i := 0) hm5).trans rfl; have f7 := hp_free (i := 0) hm5; have hown3 : w7.ownsRow W.heap.size 125 2 v4 (L.take K' ++ L.drop (K') : SL).length (pcs (L.take K' ++ L.drop (K'))) := (by rw [HE.out.2.2.2]; simp only [pcs_app]; first | exact hown2 | (rw [HSz.out]; exact hown2)); obtain ⟨A4, C4, ev4, _⟩ := row_pairs hown3; obtain ⟨N4, hN4⟩ : ∃ y, y = (L.take K' ++ L.drop (K') : SL).length := ⟨_, rfl⟩; rw [← hN4] at ev4; subst ev4; have HO3 := Lib.hid (And.intro hown3 hb2); clear hN4; clear hown2 hown3 hgrow hb2 hm5)
            | (at_builtin; refine wpList_append_own _ rfl _ _ _ rfl W.heap.size 125 i0 _ 2 32 Tryz.underlying40 hi hz0 hz1 hz2 rfl (by omega) _ 0 [] rfl (World.ownsRow_nil _ _ _ _) ⟨g, 0, none⟩ K' _ (pcs (L.take K')) rfl HLn.out.1 HSr.out.1 (pcs_one _) (by unfold maxLen; omega) (by omega) (Nat.le_refl _) ?_; intro v2 w5 hown2 hgrow _; have hb2 : Below W.heap.size W w5 := ((Below.refl _ W).grown hgrow (Nat.le_refl _) (fun q hq => (by cases hq))); have hm5 := (hb2.block m (hp_lt HM.out)).trans HM.out; have c5 := (hp_cell (i := 0) hm5).trans rfl; have f5 := hp_free (i := 0) hm5; rw [Nat.zero_add, List.nil_append] at hown2; have HO1 := Lib.hid (And.intro hown2 hb2); clear hown2 hgrow hb2 hm5)
            | (go_at_call 81; refine HPl.out.mono ?_; rintro e w1 ⟨rfl, rfl⟩))
          go_end0
          refine ⟨rfl, ?_⟩
          have HF := HD.out (L.take K' ++ L.drop (K')) _ _ HO3.out.2 HO3.out.1
          show DSTo w W _ m (sdel L k) R
          rw [HE.out.2.1]
          exact HF
    · have p1 : ¬ (K' : Int) < (L.length : Int) := by omega
      clear hK' hcells q1 q2 hK
      cases th with
      | true =>
        by_cases hc : cap = K'
        · have HSr := Lib.hid (And.intro s1 (And.intro s2 (s3 hc)))
          clear s1 s2 s3
          have HNl : Hid ((pcs (L.drop (K'))).length = 0 * 2) := Lib.hid (by rw [List.drop_eq_nil_of_le (by omega)]; rfl)
          have HSz : Hid (L.length - (K') = 0) := Lib.hid (by omega)
          have hcs := hc.symm
          subst hcs
          go_enter Tryz.func62, Tryz.ntmps62
          go_wp2_with (first
            | (at_builtin; refine wpList_append_own _ rfl _ _ _ rfl W.heap.size 125 i0 _ 2 32 Tryz.underlying40 hi hz0 hz1 hz2 rfl (by omega) _ (K' + 1) (pcs (L.take K') ++ [Value.string k, Value.string v]) rfl HO2.out.1 _ _ _ (pcs (L.drop (K'))) rfl (by first | exact HLn.out.2 | exact HNl.out) (HSr.out.2.2 _) (pcs_one _) (by unfold maxLen; omega) (by omega) HO2.out.2.size ?_; intro v4 w7 hown2 hgrow _; have hb2 : Below W.heap.size W w7 := (HO2.out.2.grown hgrow HO2.out.2.size (fun q hq => (HO2.out.1.lt q hq).1)); have hm5 := (hb2.block m (hp_lt HM.out)).trans HM.out; have c7 := (hp_cell (i := 0) hm5).trans rfl; have f7 := hp_free (i := 0) hm5; have hown3 : w7.ownsRow W.heap.size 125 2 v4 (L.take K' ++ [(k, v)] ++ L.drop (K') : SL).length (pcs (L.take K' ++ [(k, v)] ++ L.drop (K'))) := (by rw [HE.out.2.2.1]; simp only [pcs_app]; first | exact hown2 | (rw [HSz.out]; exact hown2)); obtain ⟨A4, C4, ev4, _⟩ := row_pairs hown3; obtain ⟨N4, hN4⟩ : ∃ y, y = (L.take K' ++ [(k, v)] ++ L.drop (K') : SL).length := ⟨_, rfl⟩; rw [← hN4] at ev4; subst ev4; have HO3 := Lib.hid (And.intro hown3 hb2); clear hN4; clear hown2 hown3 hgrow hb2 hm5)
            | (at_builtin; refine wpList_append_own _ rfl _ _ _ rfl W.heap.size 125 i0 _ 2 32 Tryz.underlying40 hi hz0 hz1 hz2 rfl (by omega) _ K' (pcs (L.take K')) rfl (HO1.out.1.alloc _) ⟨w5.heap.size, 0, none⟩ 1 1 [.string k, .string v] rfl rfl (World.news_of_block (cs := #[.string k, .string v]) (t := 125) (fr := (0, 0)) (heap_alloc_new w5 _)) (by simp [Value.oneCell']) (by unfold maxLen; omega) (by omega) (Nat.le_trans HO1.out.2.size (by simp)) ?_; intro v3 w6 hown2 hgrow _; have hb2 : Below W.heap.size W w6 := ((HO1.out.2.alloc HO1.out.2.size (.cells #[.string k, .string v] 125)).grown hgrow (Nat.le_trans HO1.out.2.size (by simp)) (fun q hq => (HO1.out.1.lt q hq).1)); have hm5 := (hb2.block m (hp_lt HM.out)).trans HM.out; have c6 := (hp_cell (i := 0) hm5).trans rfl; have f6 := hp_free (i := 0) hm5; have HO2 := Lib.hid (And.intro hown2 hb2); clear hown2 hgrow hb2 hm5)
            | (at_builtin; refine wpList_append_own _ rfl _ _ _ rfl W.heap.size 125 i0 _ 2 32 Tryz.underlying40 hi hz0 hz1 hz2 rfl (by omega) _ 0 [] rfl (World.ownsRow_nil _ _ _ _) ⟨g, 0, none⟩ K' _ (pcs (L.take K')) rfl HLn.out.1 HSr.out.1 (pcs_one _) (by unfold maxLen; omega) (by omega) (Nat.le_refl _) ?_; intro v2 w5 hown2 hgrow _; have hb2 : Below W.heap.size W w5 := ((Below.refl _ W).grown hgrow (Nat.le_refl _) (fun q hq => (by cases hq))); have hm5 := (hb2.block m (hp_lt HM.out)).trans HM.out; have c5 := (hp_cell (i := 0) hm5).trans rfl; have f5 := hp_free (i := 0) hm5; rw [Nat.zero_add, List.nil_append] at hown2; have HO1 := Lib.hid (And.intro hown2 hb2); clear hown2 hgrow hb2 hm5)
            | (go_at_call 81; refine HPl.out.mono ?_; rintro e w1 ⟨rfl, rfl⟩))
          go_end0
          refine ⟨rfl, ?_⟩
          have HF := HD.out (L.take K' ++ [(k, v)] ++ L.drop (K')) _ _ HO3.out.2 HO3.out.1
          show DSTo w W _ m (sset L k v) R
          rw [HE.out.1]
          exact HF
        · have HSr := Lib.hid (And.intro s1 (And.intro s2 s2))
          clear s1 s2 s3
          go_enter Tryz.func62, Tryz.ntmps62
          go_wp2_with (first
            | (at_builtin; refine wpList_append_own _ rfl _ _ _ rfl W.heap.size 125 i0 _ 2 32 Tryz.underlying40 hi hz0 hz1 hz2 rfl (by omega) _ (K' + 1) (pcs (L.take K') ++ [Value.string k, Value.string v]) rfl HO2.out.1 _ _ _ (pcs (L.drop (K'))) rfl (by first | exact HLn.out.2 | exact HNl.out) (HSr.out.2.1 _ HO2.out.2) (pcs_one _) (by unfold maxLen; omega) (by omega) HO2.out.2.size ?_; intro v4 w7 hown2 hgrow _; have hb2 : Below W.heap.size W w7 := (HO2.out.2.grown hgrow HO2.out.2.size (fun q hq => (HO2.out.1.lt q hq).1)); have hm5 := (hb2.block m (hp_lt HM.out)).trans HM.out; have c7 := (hp_cell (i := 0) hm5).trans rfl; have f7 := hp_free (i := 0) hm5; have hown3 : w7.ownsRow W.heap.size 125 2 v4 (L.take K' ++ [(k, v)] ++ L.drop (K') : SL).length (pcs (L.take K' ++ [(k, v)] ++ L.drop (K'))) := (by rw [HE.out.2.2.1]; simp only [pcs_app]; first | exact hown2 | (rw [HSz.out]; exact hown2)); obtain ⟨A4, C4, ev4, _⟩ := row_pairs hown3; obtain ⟨N4, hN4⟩ : ∃ y, y = (L.take K' ++ [(k, v)] ++ L.drop (K') : SL).length := ⟨_, rfl⟩; rw [← hN4] at ev4; subst ev4; have HO3 := Lib.hid (And.intro hown3 hb2); clear hN4; clear hown2 hown3 hgrow hb2 hm5)
            | (at_builtin; refine wpList_append_own _ rfl _ _ _ rfl W.heap.size 125 i0 _ 2 32 Tryz.underlying40 hi hz0 hz1 hz2 rfl (by omega) _ K' (pcs (L.take K')) rfl (HO1.out.1.alloc _) ⟨w5.heap.size, 0, none⟩ 1 1 [.string k, .string v] rfl rfl (World.news_of_block (cs := #[.string k, .string v]) (t := 125) (fr := (0, 0)) (heap_alloc_new w5 _)) (by simp [Value.oneCell']) (by unfold maxLen; omega) (by omega) (Nat.le_trans HO1.out.2.size (by simp)) ?_; intro v3 w6 hown2 hgrow _; have hb2 : Below W.heap.size W w6 := ((HO1.out.2.alloc HO1.out.2.size (.cells #[.string k, .string v] 125)).grown hgrow (Nat.le_trans HO1.out.2.size (by simp)) (fun q hq => (HO1.out.1.lt q hq).1)); have hm5 := (hb2.block m (hp_lt HM.out)).trans HM.out; have c6 := (hp_cell (i := 0) hm5).trans rfl; have f6 := hp_free (i := 0) hm5; have HO2 := Lib.hid (And.intro hown2 hb2); clear hown2 hgrow hb2 hm5)
            | (at_builtin; refine wpList_append_own _ rfl _ _ _ rfl W.heap.size 125 i0 _ 2 32 Tryz.underlying40 hi hz0 hz1 hz2 rfl (by omega) _ 0 [] rfl (World.ownsRow_nil _ _ _ _) ⟨g, 0, none⟩ K' _ (pcs (L.take K')) rfl HLn.out.1 HSr.out.1 (pcs_one _) (by unfold maxLen; omega) (by omega) (Nat.le_refl _) ?_; intro v2 w5 hown2 hgrow _; have hb2 : Below W.heap.size W w5 := ((Below.refl _ W).grown hgrow (Nat.le_refl _) (fun q hq => (by cases hq))); have hm5 := (hb2.block m (hp_lt HM.out)).trans HM.out; have c5 := (hp_cell (i := 0) hm5).trans rfl; have f5 := hp_free (i := 0) hm5; rw [Nat.zero_add, List.nil_append] at hown2; have HO1 := Lib.hid (And.intro hown2 hb2); clear hown2 hgrow hb2 hm5)
            | (go_at_call 81; refine HPl.out.mono ?_; rintro e w1 ⟨rfl, rfl⟩))
          go_end0
          refine ⟨rfl, ?_⟩
          have HF := HD.out (L.take K' ++ [(k, v)] ++ L.drop (K')) _ _ HO3.out.2 HO3.out.1
          show DSTo w W _ m (sset L k v) R
          rw [HE.out.1]
          exact HF
      | false =>
        by_cases hc : cap = K'
        · have HSr := Lib.hid (And.intro s1 (And.intro s2 (s3 hc)))
          clear s1 s2 s3
          have HNl : Hid ((pcs (L.drop (K'))).length = 0 * 2) := Lib.hid (by rw [List.drop_eq_nil_of_le (by omega)]; rfl)
          have HSz : Hid (L.length - (K') = 0) := Lib.hid (by omega)
          have hcs := hc.symm
          subst hcs
          go_enter Tryz.func62, Tryz.ntmps62
          go_wp2_with (first
            | (at_builtin; refine wpList_append_own _ rfl _ _ _ rfl W.heap.size 125 i0 _ 2 32 Tryz.underlying40 hi hz0 hz1 hz2 rfl (by omega) _ (K') (pcs (L.take K')) rfl HO1.out.1 _ _ _ (pcs (L.drop (K'))) rfl (by first | exact HLn.out.2 | exact HNl.out) (HSr.out.2.2 _) (pcs_one _) (by unfold maxLen; omega) (by omega) HO1.out.2.size ?_; intro v4 w7 hown2 hgrow _; have hb2 : Below W.heap.size W w7 := (HO1.out.2.grown hgrow HO1.out.2.size (fun q hq => (HO1.out.1.lt q hq).1)); have hm5 := (hb2.block m (hp_lt HM.out)).trans HM.out; have c7 := (hp_cell (i := 0) hm5).trans rfl; have f7 := hp_free (i := 0) hm5; have hown3 : w7.ownsRow W.heap.size 125 2 v4 (L.take K' ++ L.drop (K') : SL).length (pcs (L.take K' ++ L.drop (K'))) := (by rw [HE.out.2.2.2]; simp only [pcs_app]; first | exact hown2 | (rw [HSz.out]; exact hown2)); obtain ⟨A4, C4, ev4, _⟩ := row_pairs hown3; obtain ⟨N4, hN4⟩ : ∃ y, y = (L.take K' ++ L.drop (K') : SL).length := ⟨_, rfl⟩; rw [← hN4] at ev4; subst ev4; have HO3 := Lib.hid (And.intro hown3 hb2); clear hN4; clear hown2 hown3 hgrow hb2 hm5)
            | (at_builtin; refine wpList_append_own _ rfl _ _ _ rfl W.heap.size 125 i0 _ 2 32 Tryz.underlying40 hi hz0 hz1 hz2 rfl (by omega) _ 0 [] rfl (World.ownsRow_nil _ _ _ _) ⟨g, 0, none⟩ K' _ (pcs (L.take K')) rfl HLn.out.1 HSr.out.1 (pcs_one _) (by unfold maxLen; omega) (by omega) (Nat.le_refl _) ?_; intro v2 w5 hown2 hgrow _; have hb2 : Below W.heap.size W w5 := ((Below.refl _ W).grown hgrow (Nat.le_refl _) (fun q hq => (by cases hq))); have hm5 := (hb2.block m (hp_lt HM.out)).trans HM.out; have c5 := (hp_cell (i := 0) hm5).trans rfl; have f5 := hp_free (i := 0) hm5; rw [Nat.zero_add, List.nil_append] at hown2; have HO1 := Lib.hid (And.intro hown2 hb2); clear hown2 hgrow hb2 hm5)
            | (go_at_call 81; refine HPl.out.mono ?_; rintro e w1 ⟨rfl, rfl⟩))
          go_end0
          refine ⟨rfl, ?_⟩
          have HF := HD.out (L.take K' ++ L.drop (K')) _ _ HO3.out.2 HO3.out.1
          show DSTo w W _ m (sdel L k) R
          rw [HE.out.2.1]
          exact HF
        · have HSr := Lib.hid (And.intro s1 (And.intro s2 s2))
          clear s1 s2 s3
          go_enter Tryz.func62, Tryz.ntmps62
          go_wp2_with (first
            | (at_builtin; refine wpList_append_own _ rfl _ _ _ rfl W.heap.size 125 i0 _ 2 32 Tryz.underlying40 hi hz0 hz1 hz2 rfl (by omega) _ (K') (pcs (L.take K')) rfl HO1.out.1 _ _ _ (pcs (L.drop (K'))) rfl (by first | exact HLn.out.2 | exact HNl.out) (HSr.out.2.1 _ HO1.out.2) (pcs_one _) (by unfold maxLen; omega) (by omega) HO1.out.2.size ?_; intro v4 w7 hown2 hgrow _; have hb2 : Below W.heap.size W w7 := (HO1.out.2.grown hgrow HO1.out.2.size (fun q hq => (HO1.out.1.lt q hq).1)); have hm5 := (hb2.block m (hp_lt HM.out)).trans HM.out; have c7 := (hp_cell (i := 0) hm5).trans rfl; have f7 := hp_free (i := 0) hm5; have hown3 : w7.ownsRow W.heap.size 125 2 v4 (L.take K' ++ L.drop (K') : SL).length (pcs (L.take K' ++ L.drop (K'))) := (by rw [HE.out.2.2.2]; simp only [pcs_app]; first | exact hown2 | (rw [HSz.out]; exact hown2)); obtain ⟨A4, C4, ev4, _⟩ := row_pairs hown3; obtain ⟨N4, hN4⟩ : ∃ y, y = (L.take K' ++ L.drop (K') : SL).length := ⟨_, rfl⟩; rw [← hN4] at ev4; subst ev4; have HO3 := Lib.hid (And.intro hown3 hb2); clear hN4; clear hown2 hown3 hgrow hb2 hm5)
            | (at_builtin; refine wpList_append_own _ rfl _ _ _ rfl W.heap.size 125 i0 _ 2 32 Tryz.underlying40 hi hz0 hz1 hz2 rfl (by omega) _ 0 [] rfl (World.ownsRow_nil _ _ _ _) ⟨g, 0, none⟩ K' _ (pcs (L.take K')) rfl HLn.out.1 HSr.out.1 (pcs_one _) (by unfold maxLen; omega) (by omega) (Nat.le_refl _) ?_; intro v2 w5 hown2 hgrow _; have hb2 : Below W.heap.size W w5 := ((Below.refl _ W).grown hgrow (Nat.le_refl _) (fun q hq => (by cases hq))); have hm5 := (hb2.block m (hp_lt HM.out)).trans HM.out; have c5 := (hp_cell (i := 0) hm5).trans rfl; have f5 := hp_free (i := 0) hm5; rw [Nat.zero_add, List.nil_append] at hown2; have HO1 := Lib.hid (And.intro hown2 hb2); clear hown2 hgrow hb2 hm5)
            | (go_at_call 81; refine HPl.out.mono ?_; rintro e w1 ⟨rfl, rfl⟩))
          go_end0
          refine ⟨rfl, ?_⟩
          have HF := HD.out (L.take K' ++ L.drop (K')) _ _ HO3.out.2 HO3.out.1
          show DSTo w W _ m (sdel L k) R
          rw [HE.out.2.1]
          exact HF
end Go.Proofs.YtnjcnlbphaodcaaGreat

namespace Go.Proofs.YtnjcnlbphaodcaaGreat
open Go.RowKit Go.Maps Go.Sort

theorem lay_walk (w W : World) (m : Nat) (L : SL) (R : List Ch) (k v : ByteArray) (th : Bool) (h : DS w W m L R) (hr : Rising (skeys L)) (hN : L.length < 1000000) :
    Calls Tryz.prog 62 #[.pointer (some ⟨m, 0, none⟩), .string k, .string v, .bool th] W fun e W' => e = .returned (.tuple #[]) ∧ DSTo w W W' m (if th = true then sset L k v else sdel L k) R := by
  obtain ⟨vL, vP, h1, h2, h3⟩ := h.ex
  rcases h2.2 with ⟨rfl, h0⟩ | ⟨g, cap, cur, rfl, _⟩
  · have e : L = [] := List.length_eq_zero_iff.1 h0
    subst e
    refine (lay_nil w W m R k v th h vP h1).mono ?_
    rintro e W' ⟨he, hd⟩
    refine ⟨he, ?_⟩
    cases th <;> exact hd
  · exact lay_some w W m L R k v th h hr hN vP g cap h1 h2
theorem DSTo.trans {w W W1 W2 : World} {m : Nat} {L L' : SL} {R R' : List Ch} (h : DSTo w W W1 m L R) (h' : DSTo w W1 W2 m L' R') : DSTo w W W2 m L' R' := by
  obtain ⟨G, t, hG⟩ := h.ex
  obtain ⟨G', t', hG'⟩ := h'.ex
  refine ⟨h'.s, G ++ G'.filter (fun k => decide (k < W.heap.size ∧ k ∉ G)), ?_, ?_⟩
  · refine (t.mono (fun k hk => List.mem_append_left _ hk)).trans (F' := G') (fun k hk => ?_) t'
    by_cases h1 : k < W.heap.size
    · by_cases h2 : k ∈ G
      · exact .inl (List.mem_append_left _ h2)
      · exact .inl (List.mem_append_right _ (List.mem_filter.2 ⟨hk, decide_eq_true ⟨h1, h2⟩⟩))
    · exact .inr (by omega)
  · intro g hg
    rcases List.mem_append.1 hg with h1 | h1
    · exact hG g h1
    · obtain ⟨h2, h3⟩ := List.mem_filter.1 h1
      obtain ⟨h4, h5⟩ := of_decide_eq_true h3
      obtain ⟨h6, cs, T, fr, h7, h8⟩ := hG' g h2
      rw [t.block g h4 h5] at h7
      exact ⟨h6, cs, T, fr, h7, h8⟩
theorem row_any {w : World} {B k n : Nat} {T : TypeId} {v : Value} {xs : List Value} (h : w.ownsRow B T k v n xs) : ∃ A C, v = .slice A n C := by
  rcases h.2 with ⟨rfl, rfl⟩ | ⟨g, cap, cur, rfl, _⟩
  · exact ⟨_, _, rfl⟩
  · exact ⟨_, _, rfl⟩
/-- the changes are stored -/
theorem past_done {w W W0 W5 : World} {m : Nat} {L : SL} {R R' : List Ch} (h : DS w W m L R) {vL vP v5 : Value} (h1 : W.heap[m]? = some (Obj.cells #[vL, vP] 43 (0, 0))) (h0 : Below W.heap.size W W0) (hg : W0.grownBy W5 vP.ownBlock) (ho : W5.ownsRow w.heap.size 100 3 v5 R'.length (whs R')) :
    DSTo w W (W5.setCell ⟨m, 1, none⟩ v5) m L R' := by
  obtain ⟨vL', vP', h1', h2, h3⟩ := h.ex
  rw [h1] at h1'
  obtain ⟨rfl, rfl⟩ : vL = vL' ∧ vP = vP' := by
    injection h1' with h1'
    injection h1' with e1 e2 e3
    have := congrArg Array.toList e1
    simp only [List.cons.injEq, and_true] at this
    exact this
  have hm := hp_lt h1
  have hPm : vP.ownBlock ≠ some m := fun e => by
    obtain ⟨cs, hc⟩ := ownsRow_typ h3 e
    rw [h1] at hc; cases hc
  have hm0 := (h0.block m hm).trans h1
  have hm5 : W5.heap[m]? = some (Obj.cells #[vL, vP] 43 (0, 0)) := (hg.block m (hp_lt hm0) (fun e => hPm e.symm)).trans hm0
  have hfar : ∀ k, k ≠ m → (W5.setCell ⟨m, 1, none⟩ v5).heap[k]? = W5.heap[k]? := fun k hk => Below.heap_setCell _ _ _ _ hk
  have t0 : Touch (m :: vP.ownBlock.toList) W W0 := Touch.of_below h0
  have t1 : Touch (m :: vP.ownBlock.toList) W0 W5 := Touch.grown hg fun k hk => List.mem_cons_of_mem _ (by rw [hk]; simp)
  have t2 : Touch (m :: vP.ownBlock.toList) W (W5.setCell ⟨m, 1, none⟩ v5) := (t0.trans (fun _ hk => .inl hk) t1).trans (fun _ hk => .inl hk) (Touch.setCell W5 ⟨m, 1, none⟩ v5 (by simp))
  have hty : ∀ g ∈ m :: vP.ownBlock.toList, w.heap.size ≤ g ∧ ∃ cs T fr, W.heap[g]? = some (Obj.cells cs T fr) ∧ DocT T ∧ T ≠ 125 := fun g hg => by
    rcases List.mem_cons.1 hg with rfl | hg
    · exact ⟨h.lt, _, _, _, h1, .inl rfl, by decide⟩
    · have e : vP.ownBlock = some g := by simpa using hg
      obtain ⟨cs, hc⟩ := ownsRow_typ h3 e
      exact ⟨(h3.lt g e).1, _, _, _, hc, .inr (.inr rfl), by decide⟩
  refine ⟨⟨h.lt, h.l.trans (t2.below (fun k hk => (hty k hk).1) h.l.size), vL, v5, ?_, ?_, ?_⟩, _, t2, hty⟩
  · rw [heap_setCell_row hm5]; rfl
  · refine ownsRow_same h2 fun g hg2 => ?_
    obtain ⟨cs, hc⟩ := ownsRow_typ h2 hg2
    rw [hfar g (fun e => by rw [e, h1] at hc; cases hc)]
    have hc0 := (h0.block g (hp_lt hc)).trans hc
    refine (hg.block g (hp_lt hc0) (fun e => ?_)).trans (h0.block g (hp_lt hc))
    obtain ⟨cs', hc'⟩ := ownsRow_typ h3 e.symm
    rw [hc] at hc'; cases hc'
  · refine ownsRow_same ho fun g hg2 => hfar g fun e => ?_
    subst e
    obtain ⟨cs, hc⟩ := ownsRow_typ ho hg2
    rw [hm5] at hc; cases hc
set_option maxRecDepth 100000 in
set_option maxHeartbeats 4000000 in
theorem rset_walk (w W : World) (m : Nat) (L : SL) (R : List Ch) (k v : ByteArray) (h : DS w W m L R) (hr : Rising (skeys L)) (hN : L.length < 1000000) (hR : R.length < 1000000) :
    Calls Tryz.prog 39 #[.pointer (some ⟨m, 0, none⟩), .string k, .string v] W fun e W' => e = .returned (.int .i64 (if k = ⟨#[]⟩ then 2 else 0)) ∧ DSTo w W W' m (setE L k v) (setR L R k v) := by
  unfold setE setR
  by_cases hk0 : k = ⟨#[]⟩
  · simp only [if_pos hk0]
    have q1 : k.toList.isEmpty = true := by rw [hk0, Lib.toList_data]; rfl
    have HE := Lib.hid (DSTo.refl h)
    clear hk0 h
    go_enter Tryz.func39, Tryz.ntmps39
    go_wp2
    go_ret
    exact ⟨rfl, HE.out⟩
  · simp only [if_neg hk0]
    have q1 : k.toList.isEmpty = false := ba_nil hk0
    have HG := Lib.hid (rget_walk m L k W h.dl hr (by omega))
    obtain ⟨S, hS⟩ : ∃ S, S = sget L k := ⟨_, rfl⟩
    rw [← hS] at HG ⊢
    by_cases hs : S = some v
    · rw [if_pos hs]
      have e0 : setL L k v = L := by unfold setL; rw [if_pos (hS.symm.trans hs)]
      rw [e0]
      subst hs
      have q2 : (v.toList == v.toList) = true := beq_self_eq_true _
      have HE := Lib.hid (DSTo.refl h)
      clear hk0 h e0 hS
      go_enter Tryz.func39, Tryz.ntmps39
      go_wp2_with (go_at_call 61; refine HG.out.mono ?_; rintro e w1 ⟨he, rfl⟩; obtain rfl : e = .returned (.tuple #[.string v, .bool true]) := he)
      go_ret
      exact ⟨rfl, HE.out⟩
    · rw [if_neg hs]
      have e0 : setL L k v = sset L k v := by unfold setL; rw [if_neg (fun e => hs (hS.trans e))]
      rw [e0]
      clear e0 hS hk0
      cases S with
      | none =>
        obtain ⟨i0, hi, hz0, hz1, hz2⟩ := info_parts dinfoWas
        obtain ⟨vL, vP, h1, h2, h3⟩ := h.ex
        obtain ⟨A, C, rfl⟩ := row_any h3
        have HD : Hid (∀ W5 v5, (W.alloc (.cells #[.string k, .string ⟨#[]⟩, .bool false] 100)).grownBy W5 (Value.slice A R.length C).ownBlock → W5.ownsRow w.heap.size 100 3 v5 (R.length + 1) (whs R ++ wch (k, false, ⟨#[]⟩)) → DSTo w W (W5.setCell ⟨m, 1, none⟩ v5) m L ((k, false, ⟨#[]⟩) :: R)) := Lib.hid fun W5 v5 hg ho => past_done h h1 ((Below.refl _ _).alloc (Nat.le_refl _) _) hg (by rw [whs_cons]; exact ho)
        have HL : Hid (∀ W6, DSTo w W W6 m L ((k, false, ⟨#[]⟩) :: R) → Calls Tryz.prog 62 #[.pointer (some ⟨m, 0, none⟩), .string k, .string v, .bool true] W6 fun e W' => e = .returned (.tuple #[]) ∧ DSTo w W W' m (sset L k v) ((k, false, ⟨#[]⟩) :: R)) := Lib.hid fun W6 hd => (lay_walk w W6 m L _ k v true hd.s hr hN).mono fun e W' ⟨he, hd2⟩ => ⟨he, hd.trans hd2⟩
        have c1 := (hp_cell (i := 1) h1).trans rfl
        have f1 := hp_free (i := 1) h1
        have HM := Lib.hid (And.intro h1 h3)
        have HW : Hid (∀ W5, (W.alloc (.cells #[.string k, .string ⟨#[]⟩, .bool false] 100)).grownBy W5 (Value.slice A R.length C).ownBlock → W5.heap[m]? = some (Obj.cells #[vL, .slice A R.length C] 43 (0, 0))) := Lib.hid fun W5 hg => by
          have hm0 := (((Below.refl W.heap.size W).alloc (Nat.le_refl _) (.cells #[.string k, .string ⟨#[]⟩, .bool false] 100)).block m (hp_lt h1)).trans h1
          refine (hg.block m (hp_lt hm0) (fun e => ?_)).trans hm0
          obtain ⟨cs, hc⟩ := ownsRow_typ h3 e.symm
          rw [h1] at hc; cases hc
        have hbw := h.l.size
        clear h h1 h2 h3 hr hN hs
        go_enter Tryz.func39, Tryz.ntmps39
        go_wp2_with (first
          | (go_at_call 62; refine (HL.out _ HD5.out).mono ?_; rintro e w7 ⟨rfl, hd7⟩; have H7 := Lib.hid hd7; clear hd7)
          | (at_builtin; refine wpList_append_own _ rfl _ _ _ rfl w.heap.size 100 i0 _ 3 40 Tryz.underlying41 hi hz0 hz1 hz2 rfl (by omega) _ R.length (whs R) rfl (HM.out.2.alloc _) ⟨W.heap.size, 0, none⟩ 1 1 [Value.string k, Value.string ⟨#[]⟩, Value.bool false] rfl rfl (World.news_of_block (cs := #[.string k, .string ⟨#[]⟩, .bool false]) (t := 100) (fr := (0, 0)) (heap_alloc_new W _)) (by simp [Value.oneCell']) (by unfold maxLen; omega) (by omega) (Nat.le_trans hbw (by simp)) ?_; intro v5 W5 hown hgrow _; have hm5 := HW.out W5 hgrow; have c5 := (hp_cell (i := 1) hm5).trans rfl; have f5 := hp_free (i := 1) hm5; obtain ⟨A5, C5, rfl⟩ := row_any hown; have HD5 := Lib.hid (HD.out W5 _ hgrow hown); clear hown hgrow hm5)
          | (go_at_call 61; refine HG.out.mono ?_; rintro e w1 ⟨he, rfl⟩; obtain rfl : e = .returned (.tuple #[.string ⟨#[]⟩, .bool false]) := he))
        go_ret
        exact ⟨rfl, H7.out⟩
      | some y =>
        have q2 : (y.toList == v.toList) = false := str_ne2 fun e => hs (by rw [e])
        obtain ⟨i0, hi, hz0, hz1, hz2⟩ := info_parts dinfoWas
        obtain ⟨vL, vP, h1, h2, h3⟩ := h.ex
        obtain ⟨A, C, rfl⟩ := row_any h3
        have HD : Hid (∀ W5 v5, (W.alloc (.cells #[.string k, .string y, .bool true] 100)).grownBy W5 (Value.slice A R.length C).ownBlock → W5.ownsRow w.heap.size 100 3 v5 (R.length + 1) (whs R ++ wch (k, true, y)) → DSTo w W (W5.setCell ⟨m, 1, none⟩ v5) m L ((k, true, y) :: R)) := Lib.hid fun W5 v5 hg ho => past_done h h1 ((Below.refl _ _).alloc (Nat.le_refl _) _) hg (by rw [whs_cons]; exact ho)
        have HL : Hid (∀ W6, DSTo w W W6 m L ((k, true, y) :: R) → Calls Tryz.prog 62 #[.pointer (some ⟨m, 0, none⟩), .string k, .string v, .bool true] W6 fun e W' => e = .returned (.tuple #[]) ∧ DSTo w W W' m (sset L k v) ((k, true, y) :: R)) := Lib.hid fun W6 hd => (lay_walk w W6 m L _ k v true hd.s hr hN).mono fun e W' ⟨he, hd2⟩ => ⟨he, hd.trans hd2⟩
        have c1 := (hp_cell (i := 1) h1).trans rfl
        have f1 := hp_free (i := 1) h1
        have HM := Lib.hid (And.intro h1 h3)
        have HW : Hid (∀ W5, (W.alloc (.cells #[.string k, .string y, .bool true] 100)).grownBy W5 (Value.slice A R.length C).ownBlock → W5.heap[m]? = some (Obj.cells #[vL, .slice A R.length C] 43 (0, 0))) := Lib.hid fun W5 hg => by
          have hm0 := (((Below.refl W.heap.size W).alloc (Nat.le_refl _) (.cells #[.string k, .string y, .bool true] 100)).block m (hp_lt h1)).trans h1
          refine (hg.block m (hp_lt hm0) (fun e => ?_)).trans hm0
          obtain ⟨cs, hc⟩ := ownsRow_typ h3 e.symm
          rw [h1] at hc; cases hc
        have hbw := h.l.size
        clear h h1 h2 h3 hr hN hs
        go_enter Tryz.func39, Tryz.ntmps39
        go_wp2_with (first
          | (go_at_call 62; refine (HL.out _ HD5.out).mono ?_; rintro e w7 ⟨rfl, hd7⟩; have H7 := Lib.hid hd7; clear hd7)
          | (at_builtin; refine wpList_append_own _ rfl _ _ _ rfl w.heap.size 100 i0 _ 3 40 Tryz.underlying41 hi hz0 hz1 hz2 rfl (by omega) _ R.length (whs R) rfl (HM.out.2.alloc _) ⟨W.heap.size, 0, none⟩ 1 1 [Value.string k, Value.string y, Value.bool true] rfl rfl (World.news_of_block (cs := #[.string k, .string y, .bool true]) (t := 100) (fr := (0, 0)) (heap_alloc_new W _)) (by simp [Value.oneCell']) (by unfold maxLen; omega) (by omega) (Nat.le_trans hbw (by simp)) ?_; intro v5 W5 hown hgrow _; have hm5 := HW.out W5 hgrow; have c5 := (hp_cell (i := 1) hm5).trans rfl; have f5 := hp_free (i := 1) hm5; obtain ⟨A5, C5, rfl⟩ := row_any hown; have HD5 := Lib.hid (HD.out W5 _ hgrow hown); clear hown hgrow hm5)
          | (go_at_call 61; refine HG.out.mono ?_; rintro e w1 ⟨he, rfl⟩; obtain rfl : e = .returned (.tuple #[.string y, .bool true]) := he))
        go_ret
        exact ⟨rfl, H7.out⟩
set_option maxRecDepth 100000 in
set_option maxHeartbeats 4000000 in
theorem rdel_walk (w W : World) (m : Nat) (L : SL) (R : List Ch) (k : ByteArray) (h : DS w W m L R) (hr : Rising (skeys L)) (hN : L.length < 1000000) (hR : R.length < 1000000) :
    Calls Tryz.prog 38 #[.pointer (some ⟨m, 0, none⟩), .string k] W fun e W' => e = .returned (.bool (sget L k).isSome) ∧ DSTo w W W' m (sdel L k) (delR L R k) := by
  unfold delR
  have HG := Lib.hid (rget_walk m L k W h.dl hr (by omega))
  obtain ⟨S, hS⟩ : ∃ S, S = sget L k := ⟨_, rfl⟩
  rw [← hS] at HG ⊢
  cases S with
  | none =>
    have e0 : sdel L k = L := by
      unfold sdel
      rw [List.filter_eq_self]
      intro p hp
      simp [sget_none (by rw [← hS]; rfl) p hp]
    rw [e0]
    have HE := Lib.hid (DSTo.refl h)
    clear h e0 hS
    go_enter Tryz.func38, Tryz.ntmps38
    go_wp2_with (go_at_call 61; refine HG.out.mono ?_; rintro e w1 ⟨he, rfl⟩; obtain rfl : e = .returned (.tuple #[.string ⟨#[]⟩, .bool false]) := he)
    go_ret
    exact ⟨rfl, HE.out⟩
  | some y =>
    obtain ⟨i0, hi, hz0, hz1, hz2⟩ := info_parts dinfoWas
    obtain ⟨vL, vP, h1, h2, h3⟩ := h.ex
    obtain ⟨A, C, rfl⟩ := row_any h3
    have HD : Hid (∀ W5 v5, (W.alloc (.cells #[.string k, .string y, .bool true] 100)).grownBy W5 (Value.slice A R.length C).ownBlock → W5.ownsRow w.heap.size 100 3 v5 (R.length + 1) (whs R ++ wch (k, true, y)) → DSTo w W (W5.setCell ⟨m, 1, none⟩ v5) m L ((k, true, y) :: R)) := Lib.hid fun W5 v5 hg ho => past_done h h1 ((Below.refl _ _).alloc (Nat.le_refl _) _) hg (by rw [whs_cons]; exact ho)
    have HL : Hid (∀ W6, DSTo w W W6 m L ((k, true, y) :: R) → Calls Tryz.prog 62 #[.pointer (some ⟨m, 0, none⟩), .string k, .string ⟨#[]⟩, .bool false] W6 fun e W' => e = .returned (.tuple #[]) ∧ DSTo w W W' m (sdel L k) ((k, true, y) :: R)) := Lib.hid fun W6 hd => (lay_walk w W6 m L _ k ⟨#[]⟩ false hd.s hr hN).mono fun e W' ⟨he, hd2⟩ => ⟨he, hd.trans hd2⟩
    have c1 := (hp_cell (i := 1) h1).trans rfl
    have f1 := hp_free (i := 1) h1
    have HM := Lib.hid (And.intro h1 h3)
    have HW : Hid (∀ W5, (W.alloc (.cells #[.string k, .string y, .bool true] 100)).grownBy W5 (Value.slice A R.length C).ownBlock → W5.heap[m]? = some (Obj.cells #[vL, .slice A R.length C] 43 (0, 0))) := Lib.hid fun W5 hg => by
      have hm0 := (((Below.refl W.heap.size W).alloc (Nat.le_refl _) (.cells #[.string k, .string y, .bool true] 100)).block m (hp_lt h1)).trans h1
      refine (hg.block m (hp_lt hm0) (fun e => ?_)).trans hm0
      obtain ⟨cs, hc⟩ := ownsRow_typ h3 e.symm
      rw [h1] at hc; cases hc
    have hbw := h.l.size
    clear h h1 h2 h3 hr hN hS
    go_enter Tryz.func38, Tryz.ntmps38
    go_wp2_with (first
      | (go_at_call 62; refine (HL.out _ HD5.out).mono ?_; rintro e w7 ⟨rfl, hd7⟩; have H7 := Lib.hid hd7; clear hd7)
      | (at_builtin; refine wpList_append_own _ rfl _ _ _ rfl w.heap.size 100 i0 _ 3 40 Tryz.underlying41 hi hz0 hz1 hz2 rfl (by omega) _ R.length (whs R) rfl (HM.out.2.alloc _) ⟨W.heap.size, 0, none⟩ 1 1 [Value.string k, Value.string y, Value.bool true] rfl rfl (World.news_of_block (cs := #[.string k, .string y, .bool true]) (t := 100) (fr := (0, 0)) (heap_alloc_new W _)) (by simp [Value.oneCell']) (by unfold maxLen; omega) (by omega) (Nat.le_trans hbw (by simp)) ?_; intro v5 W5 hown hgrow _; have hm5 := HW.out W5 hgrow; have c5 := (hp_cell (i := 1) hm5).trans rfl; have f5 := hp_free (i := 1) hm5; obtain ⟨A5, C5, rfl⟩ := row_any hown; have HD5 := Lib.hid (HD.out W5 _ hgrow hown); clear hown hgrow hm5)
      | (go_at_call 61; refine HG.out.mono ?_; rintro e w1 ⟨he, rfl⟩; obtain rfl : e = .returned (.tuple #[.string y, .bool true]) := he))
    go_ret
    exact ⟨rfl, H7.out⟩
end Go.Proofs.YtnjcnlbphaodcaaGreat

namespace Go.Proofs.YtnjcnlbphaodcaaGreat
open Go.RowKit Go.Maps Go.Sort

theorem own_cut {w : World} {B k g n m cap : Nat} {T : TypeId} {xs ys : List Value} (h : w.ownsRow B T k (.slice (some ⟨g, 0, none⟩) n cap) n (xs ++ ys)) (hx : xs.length = m * k) (hm : m ≤ n) : w.ownsRow B T k (.slice (some ⟨g, 0, none⟩) m cap) m xs := by
  rcases h.2 with ⟨h1, _⟩ | ⟨g', cap', cur, h1, hb, hg, hn, hc, hs, ht⟩
  · cases h1
  · cases h1
    refine ⟨hx, .inr ⟨g, cap, cur, rfl, hb, hg, by omega, hc, hs, ?_⟩⟩
    have := congrArg (List.take (m * k)) ht
    rw [List.take_take, Nat.min_eq_left (Nat.mul_le_mul_right k hm), List.take_left' hx] at this
    exact this
/-- the newest change is taken off -/
theorem past_cut {w W W0 : World} {m g cap : Nat} {L : SL} {c : Ch} {R : List Ch} (h : DS w W m L (c :: R)) {vL : Value} (h1 : W.heap[m]? = some (Obj.cells #[vL, .slice (some ⟨g, 0, none⟩) (R.length + 1) cap] 43 (0, 0))) (h0 : Below W.heap.size W W0) :
    DSTo w W (W0.setCell ⟨m, 1, none⟩ (.slice (some ⟨g, 0, none⟩) R.length cap)) m L R := by
  obtain ⟨vL', vP', h1', h2, h3⟩ := h.ex
  rw [h1] at h1'
  obtain ⟨rfl, rfl⟩ : vL = vL' ∧ Value.slice (some ⟨g, 0, none⟩) (R.length + 1) cap = vP' := by
    injection h1' with h1'
    injection h1' with e1 e2 e3
    have := congrArg Array.toList e1
    simp only [List.cons.injEq, and_true] at this
    exact this
  refine past_done h h1 h0 (W5 := W0) ⟨rfl, rfl, rfl, Nat.le_refl _, fun _ _ _ => rfl⟩ ?_
  rw [whs_cons] at h3
  have h4 : W0.ownsRow w.heap.size 100 3 (.slice (some ⟨g, 0, none⟩) (R.length + 1) cap) (R.length + 1) (whs R ++ wch c) := ownsRow_same h3 fun g' hg' => h0.block g' (ownsRow_blk h3 g' hg')
  exact own_cut h4 (whs_len R) (Nat.le_succ _)
/-- the row of changes, where there is one -/
theorem past_cells {w W : World} {m : Nat} {L : SL} {c : Ch} {R : List Ch} (h : DS w W m L (c :: R)) : ∃ vL g cap, W.heap[m]? = some (Obj.cells #[vL, .slice (some ⟨g, 0, none⟩) (R.length + 1) cap] 43 (0, 0)) ∧
    W.cell? ⟨g, R.length * 3, none⟩ = some (.string c.1) ∧ W.cell? ⟨g, R.length * 3 + 1, none⟩ = some (.string c.2.2) ∧ W.cell? ⟨g, R.length * 3 + 2, none⟩ = some (.bool c.2.1) ∧ R.length + 1 ≤ cap := by
  obtain ⟨vL, vP, h1, h2, h3⟩ := h.ex
  have h3' := h3
  rcases h3.2 with ⟨rfl, h0⟩ | ⟨g, cap, cur, rfl, hb, hg, hn, _⟩
  · cases h0
  · rw [whs_cons] at h3'
    have hl := whs_len R
    refine ⟨vL, g, cap, h1, ownsRow_cell h3' rfl ?_, ownsRow_cell h3' rfl ?_, ownsRow_cell h3' rfl ?_, hn⟩
    · rw [List.getElem?_append_right (by omega), hl, Nat.sub_self]; rfl
    · rw [List.getElem?_append_right (by omega), hl, Nat.add_sub_cancel_left]; rfl
    · rw [List.getElem?_append_right (by omega), hl, Nat.add_sub_cancel_left]; rfl
theorem cell_lt {w : World} {g i : Nat} {v : Value} (h : w.cell? ⟨g, i, none⟩ = some v) : g < w.heap.size := by
  by_cases hl : g < w.heap.size
  · exact hl
  · unfold World.cell? at h
    simp only at h
    rw [Array.getElem?_eq_none (by omega)] at h
    cases h
/-- how many changes there are -/
def plen (w : World) (m : Nat) : Nat := match w.cell? ⟨m, 1, none⟩ with | some (.slice _ n _) => n | _ => 0
theorem DS.plen {w W : World} {m : Nat} {L : SL} {R : List Ch} (h : DS w W m L R) : plen W m = R.length ∧ ∃ A C, W.cell? ⟨m, 1, none⟩ = some (.slice A R.length C) := by
  obtain ⟨vL, vP, h1, h2, h3⟩ := h.ex
  obtain ⟨A, C, rfl⟩ := row_any h3
  have := (hp_cell (i := 1) h1).trans rfl
  exact ⟨by unfold Go.Proofs.YtnjcnlbphaodcaaGreat.plen; rw [this]; rfl, A, C, this⟩
theorem undo1_len (L : SL) (c : Ch) : (undo1 L c).length ≤ L.length + 1 := by
  unfold undo1
  split
  · unfold sset
    split
    · rw [List.length_map]; omega
    · simp only [List.length_append, List.length_take, List.length_drop, List.length_cons, List.length_nil]; omega
  · have : (sdel L c.1).length ≤ L.length := List.length_filter_le _ _
    omega
theorem undo1_rise {L : SL} (h : Rising (skeys L)) (c : Ch) : Rising (skeys (undo1 L c)) := by
  unfold undo1
  split
  · exact rising_sset h _ _
  · exact rising_sdel h
end Go.Proofs.YtnjcnlbphaodcaaGreat
