/- The document's lay: an entry, there or not. -/
import Derived.Test.YtbfmhafmncnhfaaG30
import Derived.Test.YtbfmhafmncnhfaaG25
import Derived.Test.YtbfmhafmncnhfaaG27
import Derived.Test.YtbfmhafmncnhfaaG05
namespace Go.Proofs.Ytbfmhafmncnhfaa
open Go.RowKit Go.Maps Go.Sort

theorem dinfoWas : (Try.prog.info? 117).map (fun i => (i.zero, i.size, i.bytes)) = some (some (.agg #[.string ⟨#[]⟩, .string ⟨#[]⟩, .bool false]), 3, 40) := by kernel_rfl
theorem pcs_app (a b : SL) : pcs (a ++ b) = pcs a ++ pcs b := by simp [pcs]
theorem pcs_len2 : ∀ l : SL, (pcs l).length = l.length * 2
  | [] => rfl
  | p :: r => by
    have e : pcs (p :: r) = .string p.1 :: .string p.2 :: pcs r := rfl
    rw [e, List.length_cons, List.length_cons, pcs_len2 r, List.length_cons]; omega
theorem pcs_one : ∀ l : SL, ∀ u ∈ pcs l, u.oneCell' = true
  | [], u, h => by cases h
  | p :: r, u, h => by
    have e : pcs (p :: r) = .string p.1 :: .string p.2 :: pcs r := rfl
    rw [e] at h
    rcases List.mem_cons.1 h with rfl | h
    · rfl
    · rcases List.mem_cons.1 h with rfl | h
      · rfl
      · exact pcs_one r u h
/-- the cells of a part of a row -/
theorem pcs_mid {w : World} {B : Nat} {g cap : Nat} {l : SL} (h : w.ownsRow B 43 2 (.slice (some ⟨g, 0, none⟩) l.length cap) l.length (pcs l)) (a b c : SL) (e : l = a ++ b ++ c) :
    ∀ j u, (pcs b)[j]? = some u → w.cell? ⟨g, a.length * 2 + j, none⟩ = some u := by
  intro j u hu
  have hj : j < (pcs b).length := (List.getElem?_eq_some_iff.1 hu).1
  refine ownsRow_cell h rfl (j := a.length * 2 + j) ?_
  rw [e, pcs_app, pcs_app, List.append_assoc, List.getElem?_append_right (by rw [pcs_len2]; omega), pcs_len2, Nat.add_sub_cancel_left, List.getElem?_append_left hj]
  exact hu
theorem iown_base' {w : World} {B B' n k : Nat} {e : TypeId} {v : Value} {xs : List Value} (h : w.ownsRow B e k v n xs) (hb : B' ≤ B) : w.ownsRow B' e k v n xs :=
  ⟨h.1, h.2.elim .inl fun ⟨g, cap, cur, h1, h2, h3⟩ => .inr ⟨g, cap, cur, h1, Nat.le_trans hb h2, h3⟩⟩
/-- the entries are stored -/
theorem lay_done {w W W3 : World} {m : Nat} {L L' : SL} {R : List Ch} (h : DS w W m L R) (hb : Below W.heap.size W W3) (v3 : Value) (ho : W3.ownsRow W.heap.size 43 2 v3 L'.length (pcs L')) : DSTo w W (W3.setCell ⟨m, 0, none⟩ v3) m L' R := by
  obtain ⟨vL, vP, h1, h2, h3⟩ := h.ex
  have hm := hp_lt h1
  have h1' := (hb.block m hm).trans h1
  have hfar : ∀ k, k ≠ m → (W3.setCell ⟨m, 0, none⟩ v3).heap[k]? = W3.heap[k]? := fun k hk => Below.heap_setCell _ _ _ _ hk
  have t2 : Touch [m] W (W3.setCell ⟨m, 0, none⟩ v3) := (Touch.of_below hb).trans (fun _ hk => .inl hk) (Touch.setCell W3 ⟨m, 0, none⟩ v3 (List.mem_singleton.2 rfl))
  have hty : ∀ g ∈ [m], w.heap.size ≤ g ∧ ∃ cs T fr, W.heap[g]? = some (Obj.cells cs T fr) ∧ DocT T ∧ T ≠ 43 := fun g hg => by
    rw [List.mem_singleton.1 hg]
    exact ⟨h.lt, _, _, _, h1, .inl rfl, by decide⟩
  refine ⟨⟨h.lt, h.l.trans (t2.below (fun k hk => by rw [List.mem_singleton.1 hk]; exact h.lt) h.l.size), v3, vP, ?_, ?_, ?_⟩, [m], t2, hty⟩
  · rw [heap_setCell_row h1']; rfl
  · refine ownsRow_same (iown_base' ho h.l.size) fun g hg => hfar g fun e => ?_
    have := (ho.lt g hg).1
    omega
  · refine ownsRow_same h3 fun g hg => ?_
    obtain ⟨cs, hc⟩ := ownsRow_typ h3 hg
    rw [hfar g (fun e => by rw [e, h1] at hc; cases hc)]
    exact hb.block g (hp_lt hc)
set_option maxRecDepth 100000 in
set_option maxHeartbeats 4000000 in
theorem lay_nil (w W : World) (m : Nat) (R : List Ch) (k v : ByteArray) (th : Bool) (h : DS w W m [] R) (vP : Value) (hm : W.heap[m]? = some (Obj.cells #[.slice none 0 0, vP] 31 (0, 0))) :
    Calls Try.prog 65 #[.pointer (some ⟨m, 0, none⟩), .string k, .string v, .bool th] W fun e W' => e = .returned (.tuple #[]) ∧ DSTo w W W' m (if th = true then [(k, v)] else []) R := by
  obtain ⟨i0, hi, hz0, hz1, hz2⟩ := info_parts infoPair
  have HPl := Lib.hid (rplace_walk m [] k W h.dl List.Pairwise.nil (Nat.zero_le _))
  have HD : Hid (∀ (L' : SL) (W3 : World) (v3 : Value), Below W.heap.size W W3 → W3.ownsRow W.heap.size 43 2 v3 L'.length (pcs L') → DSTo w W (W3.setCell ⟨m, 0, none⟩ v3) m L' R) := Lib.hid fun L' W3 v3 hb ho => lay_done h hb v3 ho
  have c0 := (hp_cell (i := 0) hm).trans rfl
  have f0 := hp_free (i := 0) hm
  have HM := Lib.hid hm
  clear hm h
  cases th with
  | false =>
    go_enter Try.func65, Try.ntmps65
    go_wp2_with (first | (go_at_call 44; refine HPl.out.mono ?_; rintro e w1 ⟨he, rfl⟩; obtain rfl : e = .returned (.int .i64 (0 : Nat)) := he) | (at_builtin; refine wpList_append_own_none rfl _ _ _ rfl W.heap.size 43 i0 2 Try.underlying28 hi _ _ _ rfl (World.ownsRow_nil _ _ _ _) rfl ?_))
    go_end0
    exact ⟨rfl, HD.out [] _ _ (Below.refl _ _) (World.ownsRow_nil _ _ _ _)⟩
  | true =>
    go_enter Try.func65, Try.ntmps65
    go_wp2_with (first
      | (go_at_call 44; refine HPl.out.mono ?_; rintro e w1 ⟨he, rfl⟩; obtain rfl : e = .returned (.int .i64 (0 : Nat)) := he)
      | (at_builtin; refine wpList_append_own_none rfl _ _ _ rfl W.heap.size 43 i0 2 Try.underlying28 hi _ _ _ rfl (HO.out.1) rfl ?_)
      | (at_builtin; refine wpList_append_own_none rfl _ _ _ rfl W.heap.size 43 i0 2 Try.underlying28 hi _ _ _ rfl (World.ownsRow_nil _ _ _ _) rfl ?_)
      | (at_builtin; refine wpList_append_own _ rfl _ _ _ rfl W.heap.size 43 i0 _ 2 32 Try.underlying28 hi hz0 hz1 hz2 rfl (by omega) _ 0 [] rfl (World.ownsRow_nil _ _ _ _) ⟨W.heap.size, 0, none⟩ 1 1 [.string k, .string v] rfl rfl (World.news_of_block (cs := #[.string k, .string v]) (t := 43) (fr := (0, 0)) (heap_alloc_new W _)) (by simp [Value.oneCell']) (by unfold maxLen; omega) (by omega) (by simp) ?_; intro v2 w5 hown2 hgrow _; have hb2 : Below W.heap.size W w5 := (((Below.refl _ W).alloc (Nat.le_refl _) (.cells #[.string k, .string v] 43)).grown hgrow (by simp) (fun q hq => (by cases hq))); have hm5 := (hb2.block m (hp_lt HM.out)).trans HM.out; have c5 := (hp_cell (i := 0) hm5).trans rfl; have f5 := hp_free (i := 0) hm5; obtain ⟨A2, C2, rfl, _⟩ := row_pairs (l := [(k, v)]) hown2; have HO := Lib.hid (And.intro hown2 hb2); clear hown2 hgrow hb2 hm5))
    go_end0
    exact ⟨rfl, HD.out [(k, v)] _ _ HO.out.2 HO.out.1⟩
set_option maxRecDepth 100000 in
set_option maxHeartbeats 4000000 in
theorem lay_some (w W : World) (m : Nat) (L : SL) (R : List Ch) (k v : ByteArray) (th : Bool) (h : DS w W m L R) (hr : Rising (skeys L)) (hN : L.length < 1000000) (vP : Value) (g cap : Nat) (hm : W.heap[m]? = some (Obj.cells #[.slice (some ⟨g, 0, none⟩) L.length cap, vP] 31 (0, 0)))
    (ho : W.ownsRow w.heap.size 43 2 (.slice (some ⟨g, 0, none⟩) L.length cap) L.length (pcs L)) :
    Calls Try.prog 65 #[.pointer (some ⟨m, 0, none⟩), .string k, .string v, .bool th] W fun e W' => e = .returned (.tuple #[]) ∧ DSTo w W W' m (if th = true then sset L k v else sdel L k) R := by
  obtain ⟨i0, hi, hz0, hz1, hz2⟩ := info_parts infoPair
  have HPl := Lib.hid (rplace_walk m L k W h.dl hr (by omega))
  have hsg := rsget_at k L hr
  have e1 := sset_parts hr k v
  have e2 := sdel_parts2 hr k
  have hKl := klo_le (skeys L) k
  have hkl : (skeys L).length = L.length := by unfold skeys; simp
  have hcap : L.length ≤ cap := by
    rcases ho.2 with ⟨h1, _⟩ | ⟨g', cap', cur, h1, _, _, h2, _⟩
    · cases h1
    · cases h1; exact h2
  have HD : Hid (∀ (L' : SL) (W3 : World) (v3 : Value), Below W.heap.size W W3 → W3.ownsRow W.heap.size 43 2 v3 L'.length (pcs L') → DSTo w W (W3.setCell ⟨m, 0, none⟩ v3) m L' R) := Lib.hid fun L' W3 v3 hb ho => lay_done h hb v3 ho
  generalize hK : klo (skeys L) k = K at *
  have hKn : K ≤ L.length := by omega
  obtain ⟨K', hK'⟩ : ∃ K', K' = if (sget L k).isSome = true then K + 1 else K := ⟨_, rfl⟩
  rw [← hK'] at e1 e2
  have hwhere : ((sget L k).isSome = true ∧ ∃ hlt : K < L.length, (L[K]).1 = k) ∨ ((sget L k).isSome = false ∧ (K < L.length → ∃ hlt : K < L.length, (L[K]).1 ≠ k)) := by
    by_cases hlt : K < L.length
    · rw [List.getElem?_eq_getElem hlt, Option.bind_some] at hsg
      by_cases e : (L[K]).1 = k
      · rw [if_pos e] at hsg; exact .inl ⟨by rw [hsg]; rfl, hlt, e⟩
      · rw [if_neg e] at hsg; exact .inr ⟨by rw [hsg]; rfl, fun _ => ⟨hlt, e⟩⟩
    · rw [List.getElem?_eq_none (by omega)] at hsg
      exact .inr ⟨by rw [hsg]; rfl, fun h => absurd h hlt⟩
  have hK'n : K' ≤ L.length := by
    rcases hwhere with ⟨h1, h2, _⟩ | ⟨h1, _⟩ <;> rw [h1] at hK' <;> simp at hK' <;> omega
  have hlt0 : (L.take K).length = K := by rw [List.length_take]; omega
  have HLn : Hid ((pcs (L.take K)).length = K * 2 ∧ (pcs (L.drop K')).length = (L.length - K') * 2) := Lib.hid ⟨by rw [pcs_len2, hlt0], by rw [pcs_len2, List.length_drop]⟩
  have s1 : ∀ j u, (pcs (L.take K))[j]? = some u → W.cell? ((⟨g, 0, none⟩ : Addr).add j) = some u := fun j u hu => by
    have := pcs_mid ho [] (L.take K) (L.drop K) (by simp) j u hu
    rw [Addr.add_lit]
    simpa using this
  have s2 : ∀ W5, Below W.heap.size W W5 → ∀ j u, (pcs (L.drop K'))[j]? = some u → W5.cell? ((⟨g, K' * 2, none⟩ : Addr).add j) = some u := fun W5 hb j u hu => by
    have := pcs_mid ho (L.take K') (L.drop K') [] (by simp) j u hu
    rw [List.length_take, Nat.min_eq_left hK'n] at this
    rw [Addr.add_lit, hb.cell (p := ⟨g, K' * 2 + j, none⟩) (ho.lt g rfl).2]
    exact this
  have s3 : cap = K' → ∀ W5 : World, ∀ j u, (pcs (L.drop K'))[j]? = some u → W5.cell? ((⟨g, 0, none⟩ : Addr).add j) = some u := fun hc W5 j u hu => by
    rw [List.drop_eq_nil_of_le (by omega)] at hu
    cases hu
  have hend : (L.take K ++ [(k, v)] ++ L.drop K' : SL).length = K + 1 + (L.length - K') ∧ (L.take K ++ L.drop K' : SL).length = K + (L.length - K') := by
    constructor
    · simp only [List.length_append, hlt0, List.length_drop, List.length_cons, List.length_nil]
    · simp only [List.length_append, hlt0, List.length_drop]
  have HE := Lib.hid (And.intro e1 (And.intro e2 hend))
  have c0 := (hp_cell (i := 0) hm).trans rfl
  have f0 := hp_free (i := 0) hm
  have HM := Lib.hid hm
  have hcells : ∀ hlt : K < L.length, W.cell? ⟨g, K * 2, none⟩ = some (.string (L[K]).1) := fun hlt => ownsRow_cell ho rfl (pcs_at L K hlt).1
  obtain ⟨n, hn⟩ : ∃ n, n = L.length := ⟨_, rfl⟩
  clear hm h hend e1 e2 hsg hKl hkl hlt0 ho hr
  rcases hwhere with ⟨q1, q2, q3⟩ | ⟨q1, q2⟩
  · obtain rfl : K' = K + 1 := by rw [hK', if_pos q1]
    have c1 := hcells q2
    rw [q3] at c1
    have p2 : (k.toList == k.toList) = true := beq_self_eq_true _
    have p1 : (K : Int) < (L.length : Int) := by omega
    clear hK' hcells q1 q2 q3 hK
    cases th with
    | true =>
      by_cases hc : cap = K + 1
      · have HSr := Lib.hid (And.intro s1 (And.intro s2 (s3 hc)))
        clear s1 s2 s3
        have HNl : Hid ((pcs (L.drop (K + 1))).length = 0 * 2) := Lib.hid (by rw [List.drop_eq_nil_of_le (by omega)]; rfl)
        have HSz : Hid (L.length - (K + 1) = 0) := Lib.hid (by omega)
        have hcs := hc.symm
        subst hcs
        go_enter Try.func65, Try.ntmps65
        go_wp2_with (first
          | (at_builtin; refine wpList_append_own _ rfl _ _ _ rfl W.heap.size 43 i0 _ 2 32 Try.underlying28 hi hz0 hz1 hz2 rfl (by omega) _ (K + 1) (pcs (L.take K) ++ [Value.string k, Value.string v]) rfl HO2.out.1 _ _ _ (pcs (L.drop (K + 1))) rfl (by first | exact HLn.out.2 | exact HNl.out) (HSr.out.2.2 _) (pcs_one _) (by unfold maxLen; omega) (by omega) HO2.out.2.size ?_; intro v4 w7 hown2 hgrow _; have hb2 : Below W.heap.size W w7 := (HO2.out.2.grown hgrow HO2.out.2.size (fun q hq => (HO2.out.1.lt q hq).1)); have hm5 := (hb2.block m (hp_lt HM.out)).trans HM.out; have c7 := (hp_cell (i := 0) hm5).trans rfl; have f7 := hp_free (i := 0) hm5; have hown3 : w7.ownsRow W.heap.size 43 2 v4 (L.take K ++ [(k, v)] ++ L.drop (K + 1) : SL).length (pcs (L.take K ++ [(k, v)] ++ L.drop (K + 1))) := (by rw [HE.out.2.2.1]; simp only [pcs_app]; first | exact hown2 | (rw [HSz.out]; exact hown2)); obtain ⟨A4, C4, ev4, _⟩ := row_pairs hown3; obtain ⟨N4, hN4⟩ : ∃ y, y = (L.take K ++ [(k, v)] ++ L.drop (K + 1) : SL).length := ⟨_, rfl⟩; rw [← hN4] at ev4; subst ev4; have HO3 := Lib.hid (And.intro hown3 hb2); clear hN4; clear hown2 hown3 hgrow hb2 hm5)
          | (at_builtin; refine wpList_append_own _ rfl _ _ _ rfl W.heap.size 43 i0 _ 2 32 Try.underlying28 hi hz0 hz1 hz2 rfl (by omega) _ K (pcs (L.take K)) rfl (HO1.out.1.alloc _) ⟨w5.heap.size, 0, none⟩ 1 1 [.string k, .string v] rfl rfl (World.news_of_block (cs := #[.string k, .string v]) (t := 43) (fr := (0, 0)) (heap_alloc_new w5 _)) (by simp [Value.oneCell']) (by unfold maxLen; omega) (by omega) (Nat.le_trans HO1.out.2.size (by simp)) ?_; intro v3 w6 hown2 hgrow _; have hb2 : Below W.heap.size W w6 := ((HO1.out.2.alloc HO1.out.2.size (.cells #[.string k, .string v] 43)).grown hgrow (Nat.le_trans HO1.out.2.size (by simp)) (fun q hq => (HO1.out.1.lt q hq).1)); have hm5 := (hb2.block m (hp_lt HM.out)).trans HM.out; have c6 := (hp_cell (i := 0) hm5).trans rfl; have f6 := hp_free (i := 0) hm5; have HO2 := Lib.hid (And.intro hown2 hb2); clear hown2 hgrow hb2 hm5)
          | (at_builtin; refine wpList_append_own _ rfl _ _ _ rfl W.heap.size 43 i0 _ 2 32 Try.underlying28 hi hz0 hz1 hz2 rfl (by omega) _ 0 [] rfl (World.ownsRow_nil _ _ _ _) ⟨g, 0, none⟩ K _ (pcs (L.take K)) rfl HLn.out.1 HSr.out.1 (pcs_one _) (by unfold maxLen; omega) (by omega) (Nat.le_refl _) ?_; intro v2 w5 hown2 hgrow _; have hb2 : Below W.heap.size W w5 := ((Below.refl _ W).grown hgrow (Nat.le_refl _) (fun q hq => (by cases hq))); have hm5 := (hb2.block m (hp_lt HM.out)).trans HM.out; have c5 := (hp_cell (i := 0) hm5).trans rfl; have f5 := hp_free (i := 0) hm5; rw [Nat.zero_add, List.nil_append] at hown2; have HO1 := Lib.hid (And.intro hown2 hb2); clear hown2 hgrow hb2 hm5)
          | (go_at_call 44; refine HPl.out.mono ?_; rintro e w1 ⟨rfl, rfl⟩))
        go_end0
        refine ⟨rfl, ?_⟩
        have HF := HD.out (L.take K ++ [(k, v)] ++ L.drop (K + 1)) _ _ HO3.out.2 HO3.out.1
        show DSTo w W _ m (sset L k v) R
        rw [HE.out.1]
        exact HF
      · have HSr := Lib.hid (And.intro s1 (And.intro s2 s2))
        clear s1 s2 s3
        go_enter Try.func65, Try.ntmps65
        go_wp2_with (first
          | (at_builtin; refine wpList_append_own _ rfl _ _ _ rfl W.heap.size 43 i0 _ 2 32 Try.underlying28 hi hz0 hz1 hz2 rfl (by omega) _ (K + 1) (pcs (L.take K) ++ [Value.string k, Value.string v]) rfl HO2.out.1 _ _ _ (pcs (L.drop (K + 1))) rfl (by first | exact HLn.out.2 | exact HNl.out) (HSr.out.2.1 _ HO2.out.2) (pcs_one _) (by unfold maxLen; omega) (by omega) HO2.out.2.size ?_; intro v4 w7 hown2 hgrow _; have hb2 : Below W.heap.size W w7 := (HO2.out.2.grown hgrow HO2.out.2.size (fun q hq => (HO2.out.1.lt q hq).1)); have hm5 := (hb2.block m (hp_lt HM.out)).trans HM.out; have c7 := (hp_cell (i := 0) hm5).trans rfl; have f7 := hp_free (i := 0) hm5; have hown3 : w7.ownsRow W.heap.size 43 2 v4 (L.take K ++ [(k, v)] ++ L.drop (K + 1) : SL).length (pcs (L.take K ++ [(k, v)] ++ L.drop (K + 1))) := (by rw [HE.out.2.2.1]; simp only [pcs_app]; first | exact hown2 | (rw [HSz.out]; exact hown2)); obtain ⟨A4, C4, ev4, _⟩ := row_pairs hown3; obtain ⟨N4, hN4⟩ : ∃ y, y = (L.take K ++ [(k, v)] ++ L.drop (K + 1) : SL).length := ⟨_, rfl⟩; rw [← hN4] at ev4; subst ev4; have HO3 := Lib.hid (And.intro hown3 hb2); clear hN4; clear hown2 hown3 hgrow hb2 hm5)
          | (at_builtin; refine wpList_append_own _ rfl _ _ _ rfl W.heap.size 43 i0 _ 2 32 Try.underlying28 hi hz0 hz1 hz2 rfl (by omega) _ K (pcs (L.take K)) rfl (HO1.out.1.alloc _) ⟨w5.heap.size, 0, none⟩ 1 1 [.string k, .string v] rfl rfl (World.news_of_block (cs := #[.string k, .string v]) (t := 43) (fr := (0, 0)) (heap_alloc_new w5 _)) (by simp [Value.oneCell']) (by unfold maxLen; omega) (by omega) (Nat.le_trans HO1.out.2.size (by simp)) ?_; intro v3 w6 hown2 hgrow _; have hb2 : Below W.heap.size W w6 := ((HO1.out.2.alloc HO1.out.2.size (.cells #[.string k, .string v] 43)).grown hgrow (Nat.le_trans HO1.out.2.size (by simp)) (fun q hq => (HO1.out.1.lt q hq).1)); have hm5 := (hb2.block m (hp_lt HM.out)).trans HM.out; have c6 := (hp_cell (i := 0) hm5).trans rfl; have f6 := hp_free (i := 0) hm5; have HO2 := Lib.hid (And.intro hown2 hb2); clear hown2 hgrow hb2 hm5)
          | (at_builtin; refine wpList_append_own _ rfl _ _ _ rfl W.heap.size 43 i0 _ 2 32 Try.underlying28 hi hz0 hz1 hz2 rfl (by omega) _ 0 [] rfl (World.ownsRow_nil _ _ _ _) ⟨g, 0, none⟩ K _ (pcs (L.take K)) rfl HLn.out.1 HSr.out.1 (pcs_one _) (by unfold maxLen; omega) (by omega) (Nat.le_refl _) ?_; intro v2 w5 hown2 hgrow _; have hb2 : Below W.heap.size W w5 := ((Below.refl _ W).grown hgrow (Nat.le_refl _) (fun q hq => (by cases hq))); have hm5 := (hb2.block m (hp_lt HM.out)).trans HM.out; have c5 := (hp_cell (i := 0) hm5).trans rfl; have f5 := hp_free (i := 0) hm5; rw [Nat.zero_add, List.nil_append] at hown2; have HO1 := Lib.hid (And.intro hown2 hb2); clear hown2 hgrow hb2 hm5)
          | (go_at_call 44; refine HPl.out.mono ?_; rintro e w1 ⟨rfl, rfl⟩))
        go_end0
        refine ⟨rfl, ?_⟩
        have HF := HD.out (L.take K ++ [(k, v)] ++ L.drop (K + 1)) _ _ HO3.out.2 HO3.out.1
        show DSTo w W _ m (sset L k v) R
        rw [HE.out.1]
        exact HF
    | false =>
      by_cases hc : cap = K + 1
      · have HSr := Lib.hid (And.intro s1 (And.intro s2 (s3 hc)))
        clear s1 s2 s3
        have HNl : Hid ((pcs (L.drop (K + 1))).length = 0 * 2) := Lib.hid (by rw [List.drop_eq_nil_of_le (by omega)]; rfl)
        have HSz : Hid (L.length - (K + 1) = 0) := Lib.hid (by omega)
        have hcs := hc.symm
        subst hcs
        go_enter Try.func65, Try.ntmps65
        go_wp2_with (first
          | (at_builtin; refine wpList_append_own _ rfl _ _ _ rfl W.heap.size 43 i0 _ 2 32 Try.underlying28 hi hz0 hz1 hz2 rfl (by omega) _ (K) (pcs (L.take K)) rfl HO1.out.1 _ _ _ (pcs (L.drop (K + 1))) rfl (by first | exact HLn.out.2 | exact HNl.out) (HSr.out.2.2 _) (pcs_one _) (by unfold maxLen; omega) (by omega) HO1.out.2.size ?_; intro v4 w7 hown2 hgrow _; have hb2 : Below W.heap.size W w7 := (HO1.out.2.grown hgrow HO1.out.2.size (fun q hq => (HO1.out.1.lt q hq).1)); have hm5 := (hb2.block m (hp_lt HM.out)).trans HM.out; have c7 := (hp_cell (i := 0) hm5).trans rfl; have f7 := hp_free (i := 0) hm5; have hown3 : w7.ownsRow W.heap.size 43 2 v4 (L.take K ++ L.drop (K + 1) : SL).length (pcs (L.take K ++ L.drop (K + 1))) := (by rw [HE.out.2.2.2]; simp only [pcs_app]; first | exact hown2 | (rw [HSz.out]; exact hown2)); obtain ⟨A4, C4, ev4, _⟩ := row_pairs hown3; obtain ⟨N4, hN4⟩ : ∃ y, y = (L.take K ++ L.drop (K + 1) : SL).length := ⟨_, rfl⟩; rw [← hN4] at ev4; subst ev4; have HO3 := Lib.hid (And.intro hown3 hb2); clear hN4; clear hown2 hown3 hgrow hb2 hm5)
          | (at_builtin; refine wpList_append_own _ rfl _ _ _ rfl W.heap.size 43 i0 _ 2 32 Try.underlying28 hi hz0 hz1 hz2 rfl (by omega) _ 0 [] rfl (World.ownsRow_nil _ _ _ _) ⟨g, 0, none⟩ K _ (pcs (L.take K)) rfl HLn.out.1 HSr.out.1 (pcs_one _) (by unfold maxLen; omega) (by omega) (Nat.le_refl _) ?_; intro v2 w5 hown2 hgrow _; have hb2 : Below W.heap.size W w5 := ((Below.refl _ W).grown hgrow (Nat.le_refl _) (fun q hq => (by cases hq))); have hm5 := (hb2.block m (hp_lt HM.out)).trans HM.out; have c5 := (hp_cell (i := 0) hm5).trans rfl; have f5 := hp_free (i := 0) hm5; rw [Nat.zero_add, List.nil_append] at hown2; have HO1 := Lib.hid (And.intro hown2 hb2); clear hown2 hgrow hb2 hm5)
          | (go_at_call 44; refine HPl.out.mono ?_; rintro e w1 ⟨rfl, rfl⟩))
        go_end0
        refine ⟨rfl, ?_⟩
        have HF := HD.out (L.take K ++ L.drop (K + 1)) _ _ HO3.out.2 HO3.out.1
        show DSTo w W _ m (sdel L k) R
        rw [HE.out.2.1]
        exact HF
      · have HSr := Lib.hid (And.intro s1 (And.intro s2 s2))
        clear s1 s2 s3
        go_enter Try.func65, Try.ntmps65
        go_wp2_with (first
          | (at_builtin; refine wpList_append_own _ rfl _ _ _ rfl W.heap.size 43 i0 _ 2 32 Try.underlying28 hi hz0 hz1 hz2 rfl (by omega) _ (K) (pcs (L.take K)) rfl HO1.out.1 _ _ _ (pcs (L.drop (K + 1))) rfl (by first | exact HLn.out.2 | exact HNl.out) (HSr.out.2.1 _ HO1.out.2) (pcs_one _) (by unfold maxLen; omega) (by omega) HO1.out.2.size ?_; intro v4 w7 hown2 hgrow _; have hb2 : Below W.heap.size W w7 := (HO1.out.2.grown hgrow HO1.out.2.size (fun q hq => (HO1.out.1.lt q hq).1)); have hm5 := (hb2.block m (hp_lt HM.out)).trans HM.out; have c7 := (hp_cell (i := 0) hm5).trans rfl; have f7 := hp_free (i := 0) hm5; have hown3 : w7.ownsRow W.heap.size 43 2 v4 (L.take K ++ L.drop (K + 1) : SL).length (pcs (L.take K ++ L.drop (K + 1))) := (by rw [HE.out.2.2.2]; simp only [pcs_app]; first | exact hown2 | (rw [HSz.out]; exact hown2)); obtain ⟨A4, C4, ev4, _⟩ := row_pairs hown3; obtain ⟨N4, hN4⟩ : ∃ y, y = (L.take K ++ L.drop (K + 1) : SL).length := ⟨_, rfl⟩; rw [← hN4] at ev4; subst ev4; have HO3 := Lib.hid (And.intro hown3 hb2); clear hN4; clear hown2 hown3 hgrow hb2 hm5)
          | (at_builtin; refine wpList_append_own _ rfl _ _ _ rfl W.heap.size 43 i0 _ 2 32 Try.underlying28 hi hz0 hz1 hz2 rfl (by omega) _ 0 [] rfl (World.ownsRow_nil _ _ _ _) ⟨g, 0, none⟩ K _ (pcs (L.take K)) rfl HLn.out.1 HSr.out.1 (pcs_one _) (by unfold maxLen; omega) (by omega) (Nat.le_refl _) ?_; intro v2 w5 hown2 hgrow _; have hb2 : Below W.heap.size W w5 := ((Below.refl _ W).grown hgrow (Nat.le_refl _) (fun q hq => (by cases hq))); have hm5 := (hb2.block m (hp_lt HM.out)).trans HM.out; have c5 := (hp_cell (i := 0) hm5).trans rfl; have f5 := hp_free (i := 0) hm5; rw [Nat.zero_add, List.nil_append] at hown2; have HO1 := Lib.hid (And.intro hown2 hb2); clear hown2 hgrow hb2 hm5)
          | (go_at_call 44; refine HPl.out.mono ?_; rintro e w1 ⟨rfl, rfl⟩))
        go_end0
        refine ⟨rfl, ?_⟩
        have HF := HD.out (L.take K ++ L.drop (K + 1)) _ _ HO3.out.2 HO3.out.1
        show DSTo w W _ m (sdel L k) R
        rw [HE.out.2.1]
        exact HF
  · obtain rfl : K' = K := by rw [hK', q1]; rfl
    by_cases hlt : K' < L.length
    · have c1 := hcells hlt
      obtain ⟨y, hy⟩ : ∃ y, y = (L[K']).1 := ⟨_, rfl⟩
      obtain ⟨_, q3⟩ := q2 hlt
      rw [← hy] at c1 q3
      have p2 : (y.toList == k.toList) = false := str_ne2 q3
      have p1 : (K' : Int) < (L.length : Int) := by omega
      clear hK' hcells q1 q2 q3 hK hy
      cases th with
      | true =>
        by_cases hc : cap = K'
        · exact absurd hcap (by omega)
        · have HSr := Lib.hid (And.intro s1 (And.intro s2 s2))
          clear s1 s2 s3
          go_enter Try.func65, Try.ntmps65
          go_wp2_with (first
            | (at_builtin; refine wpList_append_own _ rfl _ _ _ rfl W.heap.size 43 i0 _ 2 32 Try.underlying28 hi hz0 hz1 hz2 rfl (by omega) _ (K' + 1) (pcs (L.take K') ++ [Value.string k, Value.string v]) rfl HO2.out.1 _ _ _ (pcs (L.drop (K'))) rfl (by first | exact HLn.out.2 | exact HNl.out) (HSr.out.2.1 _ HO2.out.2) (pcs_one _) (by unfold maxLen; omega) (by omega) HO2.out.2.size ?_; intro v4 w7 hown2 hgrow _; have hb2 : Below W.heap.size W w7 := (HO2.out.2.grown hgrow HO2.out.2.size (fun q hq => (HO2.out.1.lt q hq).1)); have hm5 := (hb2.block m (hp_lt HM.out)).trans HM.out; have c7 := (hp_cell (i := 0) hm5).trans rfl; have f7 := hp_free (i := 0) hm5; have hown3 : w7.ownsRow W.heap.size 43 2 v4 (L.take K' ++ [(k, v)] ++ L.drop (K') : SL).length (pcs (L.take K' ++ [(k, v)] ++ L.drop (K'))) := (by rw [HE.out.2.2.1]; simp only [pcs_app]; first | exact hown2 | (rw [HSz.out]; exact hown2)); obtain ⟨A4, C4, ev4, _⟩ := row_pairs hown3; obtain ⟨N4, hN4⟩ : ∃ y, y = (L.take K' ++ [(k, v)] ++ L.drop (K') : SL).length := ⟨_, rfl⟩; rw [← hN4] at ev4; subst ev4; have HO3 := Lib.hid (And.intro hown3 hb2); clear hN4; clear hown2 hown3 hgrow hb2 hm5)
            | (at_builtin; refine wpList_append_own _ rfl _ _ _ rfl W.heap.size 43 i0 _ 2 32 Try.underlying28 hi hz0 hz1 hz2 rfl (by omega) _ K' (pcs (L.take K')) rfl (HO1.out.1.alloc _) ⟨w5.heap.size, 0, none⟩ 1 1 [.string k, .string v] rfl rfl (World.news_of_block (cs := #[.string k, .string v]) (t := 43) (fr := (0, 0)) (heap_alloc_new w5 _)) (by simp [Value.oneCell']) (by unfold maxLen; omega) (by omega) (Nat.le_trans HO1.out.2.size (by simp)) ?_; intro v3 w6 hown2 hgrow _; have hb2 : Below W.heap.size W w6 := ((HO1.out.2.alloc HO1.out.2.size (.cells #[.string k, .string v] 43)).grown hgrow (Nat.le_trans HO1.out.2.size (by simp)) (fun q hq => (HO1.out.1.lt q hq).1)); have hm5 := (hb2.block m (hp_lt HM.out)).trans HM.out; have c6 := (hp_cell (i := 0) hm5).trans rfl; have f6 := hp_free (i := 0) hm5; have HO2 := Lib.hid (And.intro hown2 hb2); clear hown2 hgrow hb2 hm5)
            | (at_builtin; refine wpList_append_own _ rfl _ _ _ rfl W.heap.size 43 i0 _ 2 32 Try.underlying28 hi hz0 hz1 hz2 rfl (by omega) _ 0 [] rfl (World.ownsRow_nil _ _ _ _) ⟨g, 0, none⟩ K' _ (pcs (L.take K')) rfl HLn.out.1 HSr.out.1 (pcs_one _) (by unfold maxLen; omega) (by omega) (Nat.le_refl _) ?_; intro v2 w5 hown2 hgrow _; have hb2 : Below W.heap.size W w5 := ((Below.refl _ W).grown hgrow (Nat.le_refl _) (fun q hq => (by cases hq))); have hm5 := (hb2.block m (hp_lt HM.out)).trans HM.out; have c5 := (hp_cell (i := 0) hm5).trans rfl; have f5 := hp_free (i := 0) hm5; rw [Nat.zero_add, List.nil_append] at hown2; have HO1 := Lib.hid (And.intro hown2 hb2); clear hown2 hgrow hb2 hm5)
            | (go_at_call 44; refine HPl.out.mono ?_; rintro e w1 ⟨rfl, rfl⟩))
          go_end0
          refine ⟨rfl, ?_⟩
          have HF := HD.out (L.take K' ++ [(k, v)] ++ L.drop (K')) _ _ HO3.out.2 HO3.out.1
          show DSTo w W _ m (sset L k v) R
          rw [HE.out.1]
          exact HF
      | false =>
        by_cases hc : cap = K'
        · exact absurd hcap (by omega)
        · have HSr := Lib.hid (And.intro s1 (And.intro s2 s2))
          clear s1 s2 s3
          go_enter Try.func65, Try.ntmps65
          go_wp2_with (first
            | (at_builtin; refine wpList_append_own _ rfl _ _ _ rfl W.heap.size 43 i0 _ 2 32 Try.underlying28 hi hz0 hz1 hz2 rfl (by omega) _ (K') (pcs (L.take K')) rfl HO1.out.1 _ _ _ (pcs (L.drop (K'))) rfl (by first | exact HLn.out.2 | exact HNl.out) (HSr.out.2.1 _ HO1.out.2) (pcs_one _) (by unfold maxLen; omega) (by omega) HO1.out.2.size ?_; intro v4 w7 hown2 hgrow _; have hb2 : Below W.heap.size W w7 := (HO1.out.2.grown hgrow HO1.out.2.size (fun q hq => (HO1.out.1.lt q hq).1)); have hm5 := (hb2.block m (hp_lt HM.out)).trans HM.out; have c7 := (hp_cell (i := 0) hm5).trans rfl; have f7 := hp_free (i := 0) hm5; have hown3 : w7.ownsRow W.heap.size 43 2 v4 (L.take K' ++ L.drop (K') : SL).length (pcs (L.take K' ++ L.drop (K'))) := (by rw [HE.out.2.2.2]; simp only [pcs_app]; first | exact hown2 | (rw [HSz.out]; exact hown2)); obtain ⟨A4, C4, ev4, _⟩ := row_pairs hown3; obtain ⟨N4, hN4⟩ : ∃ y, y = (L.take K' ++ L.drop (K') : SL).length := ⟨_, rfl⟩; rw [← hN4] at ev4; subst ev4; have HO3 := Lib.hid (And.intro hown3 hb2); clear hN4; clear hown2 hown3 hgrow hb2 hm5)
            | (at_builtin; refine wpList_append_own _ rfl _ _ _ rfl W.heap.size 43 i0 _ 2 32 Try.underlying28 hi hz0 hz1 hz2 rfl (by omega) _ 0 [] rfl (World.ownsRow_nil _ _ _ _) ⟨g, 0, none⟩ K' _ (pcs (L.take K')) rfl HLn.out.1 HSr.out.1 (pcs_one _) (by unfold maxLen; omega) (by omega) (Nat.le_refl _) ?_; intro v2 w5 hown2 hgrow _; have hb2 : Below W.heap.size W w5 := ((Below.refl _ W).grown hgrow (Nat.le_refl _) (fun q hq => (by cases hq))); have hm5 := (hb2.block m (hp_lt HM.out)).trans HM.out; have c5 := (hp_cell (i := 0) hm5).trans rfl; have f5 := hp_free (i := 0) hm5; rw [Nat.zero_add, List.nil_append] at hown2; have HO1 := Lib.hid (And.intro hown2 hb2); clear hown2 hgrow hb2 hm5)
            | (go_at_call 44; refine HPl.out.mono ?_; rintro e w1 ⟨rfl, rfl⟩))
          go_end0
          refine ⟨rfl, ?_⟩
          have HF := HD.out (L.take K' ++ L.drop (K')) _ _ HO3.out.2 HO3.out.1
          show DSTo w W _ m (sdel L k) R
          rw [HE.out.2.1]
          exact HF
    · have p1 : ¬ (K' : Int) < (L.length : Int) := by omega
      clear hK' hcells q1 q2 hK
      cases th with
      | true =>
        by_cases hc : cap = K'
        · have HSr := Lib.hid (And.intro s1 (And.intro s2 (s3 hc)))
          clear s1 s2 s3
          have HNl : Hid ((pcs (L.drop (K'))).length = 0 * 2) := Lib.hid (by rw [List.drop_eq_nil_of_le (by omega)]; rfl)
          have HSz : Hid (L.length - (K') = 0) := Lib.hid (by omega)
          have hcs := hc.symm
          subst hcs
          go_enter Try.func65, Try.ntmps65
          go_wp2_with (first
            | (at_builtin; refine wpList_append_own _ rfl _ _ _ rfl W.heap.size 43 i0 _ 2 32 Try.underlying28 hi hz0 hz1 hz2 rfl (by omega) _ (K' + 1) (pcs (L.take K') ++ [Value.string k, Value.string v]) rfl HO2.out.1 _ _ _ (pcs (L.drop (K'))) rfl (by first | exact HLn.out.2 | exact HNl.out) (HSr.out.2.2 _) (pcs_one _) (by unfold maxLen; omega) (by omega) HO2.out.2.size ?_; intro v4 w7 hown2 hgrow _; have hb2 : Below W.heap.size W w7 := (HO2.out.2.grown hgrow HO2.out.2.size (fun q hq => (HO2.out.1.lt q hq).1)); have hm5 := (hb2.block m (hp_lt HM.out)).trans HM.out; have c7 := (hp_cell (i := 0) hm5).trans rfl; have f7 := hp_free (i := 0) hm5; have hown3 : w7.ownsRow W.heap.size 43 2 v4 (L.take K' ++ [(k, v)] ++ L.drop (K') : SL).length (pcs (L.take K' ++ [(k, v)] ++ L.drop (K'))) := (by rw [HE.out.2.2.1]; simp only [pcs_app]; first | exact hown2 | (rw [HSz.out]; exact hown2)); obtain ⟨A4, C4, ev4, _⟩ := row_pairs hown3; obtain ⟨N4, hN4⟩ : ∃ y, y = (L.take K' ++ [(k, v)] ++ L.drop (K') : SL).length := ⟨_, rfl⟩; rw [← hN4] at ev4; subst ev4; have HO3 := Lib.hid (And.intro hown3 hb2); clear hN4; clear hown2 hown3 hgrow hb2 hm5)
            | (at_builtin; refine wpList_append_own _ rfl _ _ _ rfl W.heap.size 43 i0 _ 2 32 Try.underlying28 hi hz0 hz1 hz2 rfl (by omega) _ K' (pcs (L.take K')) rfl (HO1.out.1.alloc _) ⟨w5.heap.size, 0, none⟩ 1 1 [.string k, .string v] rfl rfl (World.news_of_block (cs := #[.string k, .string v]) (t := 43) (fr := (0, 0)) (heap_alloc_new w5 _)) (by simp [Value.oneCell']) (by unfold maxLen; omega) (by omega) (Nat.le_trans HO1.out.2.size (by simp)) ?_; intro v3 w6 hown2 hgrow _; have hb2 : Below W.heap.size W w6 := ((HO1.out.2.alloc HO1.out.2.size (.cells #[.string k, .string v] 43)).grown hgrow (Nat.le_trans HO1.out.2.size (by simp)) (fun q hq => (HO1.out.1.lt q hq).1)); have hm5 := (hb2.block m (hp_lt HM.out)).trans HM.out; have c6 := (hp_cell (i := 0) hm5).trans rfl; have f6 := hp_free (i := 0) hm5; have HO2 := Lib.hid (And.intro hown2 hb2); clear hown2 hgrow hb2 hm5)
            | (at_builtin; refine wpList_append_own _ rfl _ _ _ rfl W.heap.size 43 i0 _ 2 32 Try.underlying28 hi hz0 hz1 hz2 rfl (by omega) _ 0 [] rfl (World.ownsRow_nil _ _ _ _) ⟨g, 0, none⟩ K' _ (pcs (L.take K')) rfl HLn.out.1 HSr.out.1 (pcs_one _) (by unfold maxLen; omega) (by omega) (Nat.le_refl _) ?_; intro v2 w5 hown2 hgrow _; have hb2 : Below W.heap.size W w5 := ((Below.refl _ W).grown hgrow (Nat.le_refl _) (fun q hq => (by cases hq))); have hm5 := (hb2.block m (hp_lt HM.out)).trans HM.out; have c5 := (hp_cell (i := 0) hm5).trans rfl; have f5 := hp_free (i := 0) hm5; rw [Nat.zero_add, List.nil_append] at hown2; have HO1 := Lib.hid (And.intro hown2 hb2); clear hown2 hgrow hb2 hm5)
            | (go_at_call 44; refine HPl.out.mono ?_; rintro e w1 ⟨rfl, rfl⟩))
          go_end0
          refine ⟨rfl, ?_⟩
          have HF := HD.out (L.take K' ++ [(k, v)] ++ L.drop (K')) _ _ HO3.out.2 HO3.out.1
          show DSTo w W _ m (sset L k v) R
          rw [HE.out.1]
          exact HF
        · have HSr := Lib.hid (And.intro s1 (And.intro s2 s2))
          clear s1 s2 s3
          go_enter Try.func65, Try.ntmps65
          go_wp2_with (first
            | (at_builtin; refine wpList_append_own _ rfl _ _ _ rfl W.heap.size 43 i0 _ 2 32 Try.underlying28 hi hz0 hz1 hz2 rfl (by omega) _ (K' + 1) (pcs (L.take K') ++ [Value.string k, Value.string v]) rfl HO2.out.1 _ _ _ (pcs (L.drop (K'))) rfl (by first | exact HLn.out.2 | exact HNl.out) (HSr.out.2.1 _ HO2.out.2) (pcs_one _) (by unfold maxLen; omega) (by omega) HO2.out.2.size ?_; intro v4 w7 hown2 hgrow _; have hb2 : Below W.heap.size W w7 := (HO2.out.2.grown hgrow HO2.out.2.size (fun q hq => (HO2.out.1.lt q hq).1)); have hm5 := (hb2.block m (hp_lt HM.out)).trans HM.out; have c7 := (hp_cell (i := 0) hm5).trans rfl; have f7 := hp_free (i := 0) hm5; have hown3 : w7.ownsRow W.heap.size 43 2 v4 (L.take K' ++ [(k, v)] ++ L.drop (K') : SL).length (pcs (L.take K' ++ [(k, v)] ++ L.drop (K'))) := (by rw [HE.out.2.2.1]; simp only [pcs_app]; first | exact hown2 | (rw [HSz.out]; exact hown2)); obtain ⟨A4, C4, ev4, _⟩ := row_pairs hown3; obtain ⟨N4, hN4⟩ : ∃ y, y = (L.take K' ++ [(k, v)] ++ L.drop (K') : SL).length := ⟨_, rfl⟩; rw [← hN4] at ev4; subst ev4; have HO3 := Lib.hid (And.intro hown3 hb2); clear hN4; clear hown2 hown3 hgrow hb2 hm5)
            | (at_builtin; refine wpList_append_own _ rfl _ _ _ rfl W.heap.size 43 i0 _ 2 32 Try.underlying28 hi hz0 hz1 hz2 rfl (by omega) _ K' (pcs (L.take K')) rfl (HO1.out.1.alloc _) ⟨w5.heap.size, 0, none⟩ 1 1 [.string k, .string v] rfl rfl (World.news_of_block (cs := #[.string k, .string v]) (t := 43) (fr := (0, 0)) (heap_alloc_new w5 _)) (by simp [Value.oneCell']) (by unfold maxLen; omega) (by omega) (Nat.le_trans HO1.out.2.size (by simp)) ?_; intro v3 w6 hown2 hgrow _; have hb2 : Below W.heap.size W w6 := ((HO1.out.2.alloc HO1.out.2.size (.cells #[.string k, .string v] 43)).grown hgrow (Nat.le_trans HO1.out.2.size (by simp)) (fun q hq => (HO1.out.1.lt q hq).1)); have hm5 := (hb2.block m (hp_lt HM.out)).trans HM.out; have c6 := (hp_cell (i := 0) hm5).trans rfl; have f6 := hp_free (i := 0) hm5; have HO2 := Lib.hid (And.intro hown2 hb2); clear hown2 hgrow hb2 hm5)
            | (at_builtin; refine wpList_append_own _ rfl _ _ _ rfl W.heap.size 43 i0 _ 2 32 Try.underlying28 hi hz0 hz1 hz2 rfl (by omega) _ 0 [] rfl (World.ownsRow_nil _ _ _ _) ⟨g, 0, none⟩ K' _ (pcs (L.take K')) rfl HLn.out.1 HSr.out.1 (pcs_one _) (by unfold maxLen; omega) (by omega) (Nat.le_refl _) ?_; intro v2 w5 hown2 hgrow _; have hb2 : Below W.heap.size W w5 := ((Below.refl _ W).grown hgrow (Nat.le_refl _) (fun q hq => (by cases hq))); have hm5 := (hb2.block m (hp_lt HM.out)).trans HM.out; have c5 := (hp_cell (i := 0) hm5).trans rfl; have f5 := hp_free (i := 0) hm5; rw [Nat.zero_add, List.nil_append] at hown2; have HO1 := Lib.hid (And.intro hown2 hb2); clear hown2 hgrow hb2 hm5)
            | (go_at_call 44; refine HPl.out.mono ?_; rintro e w1 ⟨rfl, rfl⟩))
          go_end0
          refine ⟨rfl, ?_⟩
          have HF := HD.out (L.take K' ++ [(k, v)] ++ L.drop (K')) _ _ HO3.out.2 HO3.out.1
          show DSTo w W _ m (sset L k v) R
          rw [HE.out.1]
          exact HF
      | false =>
        by_cases hc : cap = K'
        · have HSr := Lib.hid (And.intro s1 (And.intro s2 (s3 hc)))
          clear s1 s2 s3
          have HNl : Hid ((pcs (L.drop (K'))).length = 0 * 2) := Lib.hid (by rw [List.drop_eq_nil_of_le (by omega)]; rfl)
          have HSz : Hid (L.length - (K') = 0) := Lib.hid (by omega)
          have hcs := hc.symm
          subst hcs
          go_enter Try.func65, Try.ntmps65
          go_wp2_with (first
            | (at_builtin; refine wpList_append_own _ rfl _ _ _ rfl W.heap.size 43 i0 _ 2 32 Try.underlying28 hi hz0 hz1 hz2 rfl (by omega) _ (K') (pcs (L.take K')) rfl HO1.out.1 _ _ _ (pcs (L.drop (K'))) rfl (by first | exact HLn.out.2 | exact HNl.out) (HSr.out.2.2 _) (pcs_one _) (by unfold maxLen; omega) (by omega) HO1.out.2.size ?_; intro v4 w7 hown2 hgrow _; have hb2 : Below W.heap.size W w7 := (HO1.out.2.grown hgrow HO1.out.2.size (fun q hq => (HO1.out.1.lt q hq).1)); have hm5 := (hb2.block m (hp_lt HM.out)).trans HM.out; have c7 := (hp_cell (i := 0) hm5).trans rfl; have f7 := hp_free (i := 0) hm5; have hown3 : w7.ownsRow W.heap.size 43 2 v4 (L.take K' ++ L.drop (K') : SL).length (pcs (L.take K' ++ L.drop (K'))) := (by rw [HE.out.2.2.2]; simp only [pcs_app]; first | exact hown2 | (rw [HSz.out]; exact hown2)); obtain ⟨A4, C4, ev4, _⟩ := row_pairs hown3; obtain ⟨N4, hN4⟩ : ∃ y, y = (L.take K' ++ L.drop (K') : SL).length := ⟨_, rfl⟩; rw [← hN4] at ev4; subst ev4; have HO3 := Lib.hid (And.intro hown3 hb2); clear hN4; clear hown2 hown3 hgrow hb2 hm5)
            | (at_builtin; refine wpList_append_own _ rfl _ _ _ rfl W.heap.size 43 i0 _ 2 32 Try.underlying28 hi hz0 hz1 hz2 rfl (by omega) _ 0 [] rfl (World.ownsRow_nil _ _ _ _) ⟨g, 0, none⟩ K' _ (pcs (L.take K')) rfl HLn.out.1 HSr.out.1 (pcs_one _) (by unfold maxLen; omega) (by omega) (Nat.le_refl _) ?_; intro v2 w5 hown2 hgrow _; have hb2 : Below W.heap.size W w5 := ((Below.refl _ W).grown hgrow (Nat.le_refl _) (fun q hq => (by cases hq))); have hm5 := (hb2.block m (hp_lt HM.out)).trans HM.out; have c5 := (hp_cell (i := 0) hm5).trans rfl; have f5 := hp_free (i := 0) hm5; rw [Nat.zero_add, List.nil_append] at hown2; have HO1 := Lib.hid (And.intro hown2 hb2); clear hown2 hgrow hb2 hm5)
            | (go_at_call 44; refine HPl.out.mono ?_; rintro e w1 ⟨rfl, rfl⟩))
          go_end0
          refine ⟨rfl, ?_⟩
          have HF := HD.out (L.take K' ++ L.drop (K')) _ _ HO3.out.2 HO3.out.1
          show DSTo w W _ m (sdel L k) R
          rw [HE.out.2.1]
          exact HF
        · have HSr := Lib.hid (And.intro s1 (And.intro s2 s2))
          clear s1 s2 s3
          go_enter Try.func65, Try.ntmps65
          go_wp2_with (first
            | (at_builtin; refine wpList_append_own _ rfl _ _ _ rfl W.heap.size 43 i0 _ 2 32 Try.underlying28 hi hz0 hz1 hz2 rfl (by omega) _ (K') (pcs (L.take K')) rfl HO1.out.1 _ _ _ (pcs (L.drop (K'))) rfl (by first | exact HLn.out.2 | exact HNl.out) (HSr.out.2.1 _ HO1.out.2) (pcs_one _) (by unfold maxLen; omega) (by omega) HO1.out.2.size ?_; intro v4 w7 hown2 hgrow _; have hb2 : Below W.heap.size W w7 := (HO1.out.2.grown hgrow HO1.out.2.size (fun q hq => (HO1.out.1.lt q hq).1)); have hm5 := (hb2.block m (hp_lt HM.out)).trans HM.out; have c7 := (hp_cell (i := 0) hm5).trans rfl; have f7 := hp_free (i := 0) hm5; have hown3 : w7.ownsRow W.heap.size 43 2 v4 (L.take K' ++ L.drop (K') : SL).length (pcs (L.take K' ++ L.drop (K'))) := (by rw [HE.out.2.2.2]; simp only [pcs_app]; first | exact hown2 | (rw [HSz.out]; exact hown2)); obtain ⟨A4, C4, ev4, _⟩ := row_pairs hown3; obtain ⟨N4, hN4⟩ : ∃ y, y = (L.take K' ++ L.drop (K') : SL).length := ⟨_, rfl⟩; rw [← hN4] at ev4; subst ev4; have HO3 := Lib.hid (And.intro hown3 hb2); clear hN4; clear hown2 hown3 hgrow hb2 hm5)
            | (at_builtin; refine wpList_append_own _ rfl _ _ _ rfl W.heap.size 43 i0 _ 2 32 Try.underlying28 hi hz0 hz1 hz2 rfl (by omega) _ 0 [] rfl (World.ownsRow_nil _ _ _ _) ⟨g, 0, none⟩ K' _ (pcs (L.take K')) rfl HLn.out.1 HSr.out.1 (pcs_one _) (by unfold maxLen; omega) (by omega) (Nat.le_refl _) ?_; intro v2 w5 hown2 hgrow _; have hb2 : Below W.heap.size W w5 := ((Below.refl _ W).grown hgrow (Nat.le_refl _) (fun q hq => (by cases hq))); have hm5 := (hb2.block m (hp_lt HM.out)).trans HM.out; have c5 := (hp_cell (i := 0) hm5).trans rfl; have f5 := hp_free (i := 0) hm5; rw [Nat.zero_add, List.nil_append] at hown2; have HO1 := Lib.hid (And.intro hown2 hb2); clear hown2 hgrow hb2 hm5)
            | (go_at_call 44; refine HPl.out.mono ?_; rintro e w1 ⟨rfl, rfl⟩))
          go_end0
          refine ⟨rfl, ?_⟩
          have HF := HD.out (L.take K' ++ L.drop (K')) _ _ HO3.out.2 HO3.out.1
          show DSTo w W _ m (sdel L k) R
          rw [HE.out.2.1]
          exact HF
end Go.Proofs.Ytbfmhafmncnhfaa

namespace Go.Proofs.Ytbfmhafmncnhfaa
open Go.RowKit Go.Maps Go.Sort

theorem lay_walk (w W : World) (m : Nat) (L : SL) (R : List Ch) (k v : ByteArray) (th : Bool) (h : DS w W m L R) (hr : Rising (skeys L)) (hN : L.length < 1000000) :
    Calls Try.prog 65 #[.pointer (some ⟨m, 0, none⟩), .string k, .string v, .bool th] W fun e W' => e = .returned (.tuple #[]) ∧ DSTo w W W' m (if th = true then sset L k v else sdel L k) R := by
  obtain ⟨vL, vP, h1, h2, h3⟩ := h.ex
  rcases h2.2 with ⟨rfl, h0⟩ | ⟨g, cap, cur, rfl, _⟩
  · have e : L = [] := List.length_eq_zero_iff.1 h0
    subst e
    refine (lay_nil w W m R k v th h vP h1).mono ?_
    rintro e W' ⟨he, hd⟩
    refine ⟨he, ?_⟩
    cases th <;> exact hd
  · exact lay_some w W m L R k v th h hr hN vP g cap h1 h2
theorem DSTo.trans {w W W1 W2 : World} {m : Nat} {L L' : SL} {R R' : List Ch} (h : DSTo w W W1 m L R) (h' : DSTo w W1 W2 m L' R') : DSTo w W W2 m L' R' := by
  obtain ⟨G, t, hG⟩ := h.ex
  obtain ⟨G', t', hG'⟩ := h'.ex
  refine ⟨h'.s, G ++ G'.filter (fun k => decide (k < W.heap.size ∧ k ∉ G)), ?_, ?_⟩
  · refine (t.mono (fun k hk => List.mem_append_left _ hk)).trans (F' := G') (fun k hk => ?_) t'
    by_cases h1 : k < W.heap.size
    · by_cases h2 : k ∈ G
      · exact .inl (List.mem_append_left _ h2)
      · exact .inl (List.mem_append_right _ (List.mem_filter.2 ⟨hk, decide_eq_true ⟨h1, h2⟩⟩))
    · exact .inr (by omega)
  · intro g hg
    rcases List.mem_append.1 hg with h1 | h1
    · exact hG g h1
    · obtain ⟨h2, h3⟩ := List.mem_filter.1 h1
      obtain ⟨h4, h5⟩ := of_decide_eq_true h3
      obtain ⟨h6, cs, T, fr, h7, h8⟩ := hG' g h2
      rw [t.block g h4 h5] at h7
      exact ⟨h6, cs, T, fr, h7, h8⟩
theorem row_any {w : World} {B k n : Nat} {T : TypeId} {v : Value} {xs : List Value} (h : w.ownsRow B T k v n xs) : ∃ A C, v = .slice A n C := by
  rcases h.2 with ⟨rfl, rfl⟩ | ⟨g, cap, cur, rfl, _⟩
  · exact ⟨_, _, rfl⟩
  · exact ⟨_, _, rfl⟩
/-- the changes are stored -/
theorem past_done {w W W0 W5 : World} {m : Nat} {L : SL} {R R' : List Ch} (h : DS w W m L R) {vL vP v5 : Value} (h1 : W.heap[m]? = some (Obj.cells #[vL, vP] 31 (0, 0))) (h0 : Below W.heap.size W W0) (hg : W0.grownBy W5 vP.ownBlock) (ho : W5.ownsRow w.heap.size 117 3 v5 R'.length (whs R')) :
    DSTo w W (W5.setCell ⟨m, 1, none⟩ v5) m L R' := by
  obtain ⟨vL', vP', h1', h2, h3⟩ := h.ex
  rw [h1] at h1'
  obtain ⟨rfl, rfl⟩ : vL = vL' ∧ vP = vP' := by
    injection h1' with h1'
    injection h1' with e1 e2 e3
    have := congrArg Array.toList e1
    simp only [List.cons.injEq, and_true] at this
    exact this
  have hm := hp_lt h1
  have hPm : vP.ownBlock ≠ some m := fun e => by
    obtain ⟨cs, hc⟩ := ownsRow_typ h3 e
    rw [h1] at hc; cases hc
  have hm0 := (h0.block m hm).trans h1
  have hm5 : W5.heap[m]? = some (Obj.cells #[vL, vP] 31 (0, 0)) := (hg.block m (hp_lt hm0) (fun e => hPm e.symm)).trans hm0
  have hfar : ∀ k, k ≠ m → (W5.setCell ⟨m, 1, none⟩ v5).heap[k]? = W5.heap[k]? := fun k hk => Below.heap_setCell _ _ _ _ hk
  have t0 : Touch (m :: vP.ownBlock.toList) W W0 := Touch.of_below h0
  have t1 : Touch (m :: vP.ownBlock.toList) W0 W5 := Touch.grown hg fun k hk => List.mem_cons_of_mem _ (by rw [hk]; simp)
  have t2 : Touch (m :: vP.ownBlock.toList) W (W5.setCell ⟨m, 1, none⟩ v5) := (t0.trans (fun _ hk => .inl hk) t1).trans (fun _ hk => .inl hk) (Touch.setCell W5 ⟨m, 1, none⟩ v5 (by simp))
  have hty : ∀ g ∈ m :: vP.ownBlock.toList, w.heap.size ≤ g ∧ ∃ cs T fr, W.heap[g]? = some (Obj.cells cs T fr) ∧ DocT T ∧ T ≠ 43 := fun g hg => by
    rcases List.mem_cons.1 hg with rfl | hg
    · exact ⟨h.lt, _, _, _, h1, .inl rfl, by decide⟩
    · have e : vP.ownBlock = some g := by simpa using hg
      obtain ⟨cs, hc⟩ := ownsRow_typ h3 e
      exact ⟨(h3.lt g e).1, _, _, _, hc, .inr (.inr rfl), by decide⟩
  refine ⟨⟨h.lt, h.l.trans (t2.below (fun k hk => (hty k hk).1) h.l.size), vL, v5, ?_, ?_, ?_⟩, _, t2, hty⟩
  · rw [heap_setCell_row hm5]; rfl
  · refine ownsRow_same h2 fun g hg2 => ?_
    obtain ⟨cs, hc⟩ := ownsRow_typ h2 hg2
    rw [hfar g (fun e => by rw [e, h1] at hc; cases hc)]
    have hc0 := (h0.block g (hp_lt hc)).trans hc
    refine (hg.block g (hp_lt hc0) (fun e => ?_)).trans (h0.block g (hp_lt hc))
    obtain ⟨cs', hc'⟩ := ownsRow_typ h3 e.symm
    rw [hc] at hc'; cases hc'
  · refine ownsRow_same ho fun g hg2 => hfar g fun e => ?_
    subst e
    obtain ⟨cs, hc⟩ := ownsRow_typ ho hg2
    rw [hm5] at hc; cases hc
set_option maxRecDepth 100000 in
set_option maxHeartbeats 4000000 in
theorem rset_walk (w W : World) (m : Nat) (L : SL) (R : List Ch) (k v : ByteArray) (h : DS w W m L R) (hr : Rising (skeys L)) (hN : L.length < 1000000) (hR : R.length < 1000000) :
    Calls Try.prog 39 #[.pointer (some ⟨m, 0, none⟩), .string k, .string v] W fun e W' => e = .returned (.int .i64 (if k = ⟨#[]⟩ then 2 else 0)) ∧ DSTo w W W' m (setE L k v) (setR L R k v) := by
  unfold setE setR
  by_cases hk0 : k = ⟨#[]⟩
  · simp only [if_pos hk0]
    have q1 : k.toList.isEmpty = true := by rw [hk0, Lib.toList_data]; rfl
    have HE := Lib.hid (DSTo.refl h)
    clear hk0 h
    go_enter Try.func39, Try.ntmps39
    go_wp2
    go_ret
    exact ⟨rfl, HE.out⟩
  · simp only [if_neg hk0]
    have q1 : k.toList.isEmpty = false := ba_nil hk0
    have HG := Lib.hid (rget_walk m L k W h.dl hr (by omega))
    obtain ⟨S, hS⟩ : ∃ S, S = sget L k := ⟨_, rfl⟩
    rw [← hS] at HG ⊢
    by_cases hs : S = some v
    · rw [if_pos hs]
      have e0 : setL L k v = L := by unfold setL; rw [if_pos (hS.symm.trans hs)]
      rw [e0]
      subst hs
      have q2 : (v.toList == v.toList) = true := beq_self_eq_true _
      have HE := Lib.hid (DSTo.refl h)
      clear hk0 h e0 hS
      go_enter Try.func39, Try.ntmps39
      go_wp2_with (go_at_call 13; refine HG.out.mono ?_; rintro e w1 ⟨he, rfl⟩; obtain rfl : e = .returned (.tuple #[.string v, .bool true]) := he)
      go_ret
      exact ⟨rfl, HE.out⟩
    · rw [if_neg hs]
      have e0 : setL L k v = sset L k v := by unfold setL; rw [if_neg (fun e => hs (hS.trans e))]
      rw [e0]
      clear e0 hS hk0
      cases S with
      | none =>
        obtain ⟨i0, hi, hz0, hz1, hz2⟩ := info_parts dinfoWas
        obtain ⟨vL, vP, h1, h2, h3⟩ := h.ex
        obtain ⟨A, C, rfl⟩ := row_any h3
        have HD : Hid (∀ W5 v5, (W.alloc (.cells #[.string k, .string ⟨#[]⟩, .bool false] 117)).grownBy W5 (Value.slice A R.length C).ownBlock → W5.ownsRow w.heap.size 117 3 v5 (R.length + 1) (whs R ++ wch (k, false, ⟨#[]⟩)) → DSTo w W (W5.setCell ⟨m, 1, none⟩ v5) m L ((k, false, ⟨#[]⟩) :: R)) := Lib.hid fun W5 v5 hg ho => past_done h h1 ((Below.refl _ _).alloc (Nat.le_refl _) _) hg (by rw [whs_cons]; exact ho)
        have HL : Hid (∀ W6, DSTo w W W6 m L ((k, false, ⟨#[]⟩) :: R) → Calls Try.prog 65 #[.pointer (some ⟨m, 0, none⟩), .string k, .string v, .bool true] W6 fun e W' => e = .returned (.tuple #[]) ∧ DSTo w W W' m (sset L k v) ((k, false, ⟨#[]⟩) :: R)) := Lib.hid fun W6 hd => (lay_walk w W6 m L _ k v true hd.s hr hN).mono fun e W' ⟨he, hd2⟩ => ⟨he, hd.trans hd2⟩
        have c1 := (hp_cell (i := 1) h1).trans rfl
        have f1 := hp_free (i := 1) h1
        have HM := Lib.hid (And.intro h1 h3)
        have HW : Hid (∀ W5, (W.alloc (.cells #[.string k, .string ⟨#[]⟩, .bool false] 117)).grownBy W5 (Value.slice A R.length C).ownBlock → W5.heap[m]? = some (Obj.cells #[vL, .slice A R.length C] 31 (0, 0))) := Lib.hid fun W5 hg => by
          have hm0 := (((Below.refl W.heap.size W).alloc (Nat.le_refl _) (.cells #[.string k, .string ⟨#[]⟩, .bool false] 117)).block m (hp_lt h1)).trans h1
          refine (hg.block m (hp_lt hm0) (fun e => ?_)).trans hm0
          obtain ⟨cs, hc⟩ := ownsRow_typ h3 e.symm
          rw [h1] at hc; cases hc
        have hbw := h.l.size
        clear h h1 h2 h3 hr hN hs
        go_enter Try.func39, Try.ntmps39
        go_wp2_with (first
          | (go_at_call 65; refine (HL.out _ HD5.out).mono ?_; rintro e w7 ⟨rfl, hd7⟩; have H7 := Lib.hid hd7; clear hd7)
          | (at_builtin; refine wpList_append_own _ rfl _ _ _ rfl w.heap.size 117 i0 _ 3 40 Try.underlying29 hi hz0 hz1 hz2 rfl (by omega) _ R.length (whs R) rfl (HM.out.2.alloc _) ⟨W.heap.size, 0, none⟩ 1 1 [Value.string k, Value.string ⟨#[]⟩, Value.bool false] rfl rfl (World.news_of_block (cs := #[.string k, .string ⟨#[]⟩, .bool false]) (t := 117) (fr := (0, 0)) (heap_alloc_new W _)) (by simp [Value.oneCell']) (by unfold maxLen; omega) (by omega) (Nat.le_trans hbw (by simp)) ?_; intro v5 W5 hown hgrow _; have hm5 := HW.out W5 hgrow; have c5 := (hp_cell (i := 1) hm5).trans rfl; have f5 := hp_free (i := 1) hm5; obtain ⟨A5, C5, rfl⟩ := row_any hown; have HD5 := Lib.hid (HD.out W5 _ hgrow hown); clear hown hgrow hm5)
          | (go_at_call 13; refine HG.out.mono ?_; rintro e w1 ⟨he, rfl⟩; obtain rfl : e = .returned (.tuple #[.string ⟨#[]⟩, .bool false]) := he))
        go_ret
        exact ⟨rfl, H7.out⟩
      | some y =>
        have q2 : (y.toList == v.toList) = false := str_ne2 fun e => hs (by rw [e])
        obtain ⟨i0, hi, hz0, hz1, hz2⟩ := info_parts dinfoWas
        obtain ⟨vL, vP, h1, h2, h3⟩ := h.ex
        obtain ⟨A, C, rfl⟩ := row_any h3
        have HD : Hid (∀ W5 v5, (W.alloc (.cells #[.string k, .string y, .bool true] 117)).grownBy W5 (Value.slice A R.length C).ownBlock → W5.ownsRow w.heap.size 117 3 v5 (R.length + 1) (whs R ++ wch (k, true, y)) → DSTo w W (W5.setCell ⟨m, 1, none⟩ v5) m L ((k, true, y) :: R)) := Lib.hid fun W5 v5 hg ho => past_done h h1 ((Below.refl _ _).alloc (Nat.le_refl _) _) hg (by rw [whs_cons]; exact ho)
        have HL : Hid (∀ W6, DSTo w W W6 m L ((k, true, y) :: R) → Calls Try.prog 65 #[.pointer (some ⟨m, 0, none⟩), .string k, .string v, .bool true] W6 fun e W' => e = .returned (.tuple #[]) ∧ DSTo w W W' m (sset L k v) ((k, true, y) :: R)) := Lib.hid fun W6 hd => (lay_walk w W6 m L _ k v true hd.s hr hN).mono fun e W' ⟨he, hd2⟩ => ⟨he, hd.trans hd2⟩
        have c1 := (hp_cell (i := 1) h1).trans rfl
        have f1 := hp_free (i := 1) h1
        have HM := Lib.hid (And.intro h1 h3)
        have HW : Hid (∀ W5, (W.alloc (.cells #[.string k, .string y, .bool true] 117)).grownBy W5 (Value.slice A R.length C).ownBlock → W5.heap[m]? = some (Obj.cells #[vL, .slice A R.length C] 31 (0, 0))) := Lib.hid fun W5 hg => by
          have hm0 := (((Below.refl W.heap.size W).alloc (Nat.le_refl _) (.cells #[.string k, .string y, .bool true] 117)).block m (hp_lt h1)).trans h1
          refine (hg.block m (hp_lt hm0) (fun e => ?_)).trans hm0
          obtain ⟨cs, hc⟩ := ownsRow_typ h3 e.symm
          rw [h1] at hc; cases hc
        have hbw := h.l.size
        clear h h1 h2 h3 hr hN hs
        go_enter Try.func39, Try.ntmps39
        go_wp2_with (first
          | (go_at_call 65; refine (HL.out _ HD5.out).mono ?_; rintro e w7 ⟨rfl, hd7⟩; have H7 := Lib.hid hd7; clear hd7)
          | (at_builtin; refine wpList_append_own _ rfl _ _ _ rfl w.heap.size 117 i0 _ 3 40 Try.underlying29 hi hz0 hz1 hz2 rfl (by omega) _ R.length (whs R) rfl (HM.out.2.alloc _) ⟨W.heap.size, 0, none⟩ 1 1 [Value.string k, Value.string y, Value.bool true] rfl rfl (World.news_of_block (cs := #[.string k, .string y, .bool true]) (t := 117) (fr := (0, 0)) (heap_alloc_new W _)) (by simp [Value.oneCell']) (by unfold maxLen; omega) (by omega) (Nat.le_trans hbw (by simp)) ?_; intro v5 W5 hown hgrow _; have hm5 := HW.out W5 hgrow; have c5 := (hp_cell (i := 1) hm5).trans rfl; have f5 := hp_free (i := 1) hm5; obtain ⟨A5, C5, rfl⟩ := row_any hown; have HD5 := Lib.hid (HD.out W5 _ hgrow hown); clear hown hgrow hm5)
          | (go_at_call 13; refine HG.out.mono ?_; rintro e w1 ⟨he, rfl⟩; obtain rfl : e = .returned (.tuple #[.string y, .bool true]) := he))
        go_ret
        exact ⟨rfl, H7.out⟩
set_option maxRecDepth 100000 in
set_option maxHeartbeats 4000000 in
theorem rdel_walk (w W : World) (m : Nat) (L : SL) (R : List Ch) (k : ByteArray) (h : DS w W m L R) (hr : Rising (skeys L)) (hN : L.length < 1000000) (hR : R.length < 1000000) :
    Calls Try.prog 40 #[.pointer (some ⟨m, 0, none⟩), .string k] W fun e W' => e = .returned (.bool (sget L k).isSome) ∧ DSTo w W W' m (sdel L k) (delR L R k) := by
  unfold delR
  have HG := Lib.hid (rget_walk m L k W h.dl hr (by omega))
  obtain ⟨S, hS⟩ : ∃ S, S = sget L k := ⟨_, rfl⟩
  rw [← hS] at HG ⊢
  cases S with
  | none =>
    have e0 : sdel L k = L := by
      unfold sdel
      rw [List.filter_eq_self]
      intro p hp
      simp [sget_none (by rw [← hS]; rfl) p hp]
    rw [e0]
    have HE := Lib.hid (DSTo.refl h)
    clear h e0 hS
    go_enter Try.func40, Try.ntmps40
    go_wp2_with (go_at_call 13; refine HG.out.mono ?_; rintro e w1 ⟨he, rfl⟩; obtain rfl : e = .returned (.tuple #[.string ⟨#[]⟩, .bool false]) := he)
    go_ret
    exact ⟨rfl, HE.out⟩
  | some y =>
    obtain ⟨i0, hi, hz0, hz1, hz2⟩ := info_parts dinfoWas
    obtain ⟨vL, vP, h1, h2, h3⟩ := h.ex
    obtain ⟨A, C, rfl⟩ := row_any h3
    have HD : Hid (∀ W5 v5, (W.alloc (.cells #[.string k, .string y, .bool true] 117)).grownBy W5 (Value.slice A R.length C).ownBlock → W5.ownsRow w.heap.size 117 3 v5 (R.length + 1) (whs R ++ wch (k, true, y)) → DSTo w W (W5.setCell ⟨m, 1, none⟩ v5) m L ((k, true, y) :: R)) := Lib.hid fun W5 v5 hg ho => past_done h h1 ((Below.refl _ _).alloc (Nat.le_refl _) _) hg (by rw [whs_cons]; exact ho)
    have HL : Hid (∀ W6, DSTo w W W6 m L ((k, true, y) :: R) → Calls Try.prog 65 #[.pointer (some ⟨m, 0, none⟩), .string k, .string ⟨#[]⟩, .bool false] W6 fun e W' => e = .returned (.tuple #[]) ∧ DSTo w W W' m (sdel L k) ((k, true, y) :: R)) := Lib.hid fun W6 hd => (lay_walk w W6 m L _ k ⟨#[]⟩ false hd.s hr hN).mono fun e W' ⟨he, hd2⟩ => ⟨he, hd.trans hd2⟩
    have c1 := (hp_cell (i := 1) h1).trans rfl
    have f1 := hp_free (i := 1) h1
    have HM := Lib.hid (And.intro h1 h3)
    have HW : Hid (∀ W5, (W.alloc (.cells #[.string k, .string y, .bool true] 117)).grownBy W5 (Value.slice A R.length C).ownBlock → W5.heap[m]? = some (Obj.cells #[vL, .slice A R.length C] 31 (0, 0))) := Lib.hid fun W5 hg => by
      have hm0 := (((Below.refl W.heap.size W).alloc (Nat.le_refl _) (.cells #[.string k, .string y, .bool true] 117)).block m (hp_lt h1)).trans h1
      refine (hg.block m (hp_lt hm0) (fun e => ?_)).trans hm0
      obtain ⟨cs, hc⟩ := ownsRow_typ h3 e.symm
      rw [h1] at hc; cases hc
    have hbw := h.l.size
    clear h h1 h2 h3 hr hN hS
    go_enter Try.func40, Try.ntmps40
    go_wp2_with (first
      | (go_at_call 65; refine (HL.out _ HD5.out).mono ?_; rintro e w7 ⟨rfl, hd7⟩; have H7 := Lib.hid hd7; clear hd7)
      | (at_builtin; refine wpList_append_own _ rfl _ _ _ rfl w.heap.size 117 i0 _ 3 40 Try.underlying29 hi hz0 hz1 hz2 rfl (by omega) _ R.length (whs R) rfl (HM.out.2.alloc _) ⟨W.heap.size, 0, none⟩ 1 1 [Value.string k, Value.string y, Value.bool true] rfl rfl (World.news_of_block (cs := #[.string k, .string y, .bool true]) (t := 117) (fr := (0, 0)) (heap_alloc_new W _)) (by simp [Value.oneCell']) (by unfold maxLen; omega) (by omega) (Nat.le_trans hbw (by simp)) ?_; intro v5 W5 hown hgrow _; have hm5 := HW.out W5 hgrow; have c5 := (hp_cell (i := 1) hm5).trans rfl; have f5 := hp_free (i := 1) hm5; obtain ⟨A5, C5, rfl⟩ := row_any hown; have HD5 := Lib.hid (HD.out W5 _ hgrow hown); clear hown hgrow hm5)
      | (go_at_call 13; refine HG.out.mono ?_; rintro e w1 ⟨he, rfl⟩; obtain rfl : e = .returned (.tuple #[.string y, .bool true]) := he))
    go_ret
    exact ⟨rfl, H7.out⟩
end Go.Proofs.Ytbfmhafmncnhfaa

namespace Go.Proofs.Ytbfmhafmncnhfaa
open Go.RowKit Go.Maps Go.Sort

theorem bits_or10 {a b : Nat} (ha : a < 2 ^ 64) (hb : b < 2 ^ 64) : bits .or .u64 (a : Int) (b : Int) = ((a ||| b : Nat) : Int) := by
  show IntKind.u64.wrap ((BitVec.ofInt 64 (a : Int) ||| BitVec.ofInt 64 (b : Int)).toNat : Int) = _
  rw [BitVec.toNat_or, BitVec.toNat_ofInt, BitVec.toNat_ofInt]
  have h1 : ((a : Int) % (2 ^ 64 : Nat)).toNat = a := by omega
  have h2 : ((b : Int) % (2 ^ 64 : Nat)).toNat = b := by omega
  rw [h1, h2]
  exact IntWalk.u64_in _ (by have := Nat.or_lt_two_pow ha hb; omega)
theorem radd10 (a b c : Nat) (W : World) (ha : a < 2 ^ 256) (hb : b < 2 ^ 256) (hc : a + b = c) (hl : c < 2 ^ 256) : Calls Try.prog 29 #[.agg #[.int .u64 (limb a 0 : Nat), .int .u64 (limb a 1 : Nat), .int .u64 (limb a 2 : Nat), .int .u64 (limb a 3 : Nat)], .agg #[.int .u64 (limb b 0 : Nat), .int .u64 (limb b 1 : Nat), .int .u64 (limb b 2 : Nat), .int .u64 (limb b 3 : Nat)]] W fun e w' => e = .returned (.tuple #[.agg #[.int .u64 (limb c 0 : Nat), .int .u64 (limb c 1 : Nat), .int .u64 (limb c 2 : Nat), .int .u64 (limb c 3 : Nat)], .bool true]) ∧ Below W.heap.size W w' := by
  have h := radd_walk a b W ha hb
  unfold addv addk at h
  rw [hc, if_pos hl, decide_eq_true hl] at h
  exact h
theorem ams_nil : AmsAt [] (fun _ => 0) := fun i hi => by
  unfold amtAt
  exact .inl ⟨rfl, rfl⟩
/-- below 2^128: the two upper limbs are none -/
theorem small_of {z : Nat} (hz : z < 2 ^ 256) (h : limb z 2 ||| limb z 3 = 0) : z < 2 ^ 128 := by
  have h2 : limb z 2 = 0 := (Nat.or_eq_zero_iff.1 h).1
  have h3 : limb z 3 = 0 := (Nat.or_eq_zero_iff.1 h).2
  unfold limb at h2 h3
  omega
theorem fA10 : Foreign 62 := ⟨by decide, by decide, by decide, by decide⟩
theorem pr_keep {w W : World} {B : Nat} {A : Option Addr} {C : Nat} {l : SL} (h : w.ownsRow B 43 2 (.slice A l.length C) l.length (pcs l)) (hk : KeepT 43 w W) : Pr W A l := by
  obtain ⟨Az, Cz, ez, hz⟩ := Pr.of (ownsRow_keepT h hk)
  cases ez
  exact hz
theorem sumG_mono (g : Nat → Nat) {a b : Nat} (h : a ≤ b) : sumG g a ≤ sumG g b := by
  induction h with
  | refl => exact Nat.le_refl _
  | step _ ih => exact Nat.le_trans ih (by show _ ≤ sumG g _ + g _; exact Nat.le_add_right _ _)
theorem CmW.box {w W W' : World} {b x s : Nat} {L : SL} {g : Nat → Nat} {c : Nat} (h : CmW w W b L g c) (hx : W.heap[x]? = some (uBox s)) (hwx : w.heap.size ≤ x) (ht : Touch [x] W W') : CmW w W' b L g c := by
  obtain ⟨F, q, qs, hs, hq⟩ := h.s
  exact ⟨⟨F, q, qs, hs.other [x] ht (fun k hk => by rw [List.mem_singleton.1 hk]; exact ⟨hwx, _, _, _, hx, fU10⟩), hq⟩, h.len, h.ks, h.am⟩
/-- a box of a number is stored anew -/
def put4 (W : World) (x s : Nat) : World := (((W.setCell ⟨x, 0, none⟩ (.int .u64 (limb s 0 : Nat))).setCell ⟨x, 1, none⟩ (.int .u64 (limb s 1 : Nat))).setCell ⟨x, 2, none⟩ (.int .u64 (limb s 2 : Nat))).setCell ⟨x, 3, none⟩ (.int .u64 (limb s 3 : Nat))
theorem put4_x {W : World} {x s0 s : Nat} (hx : W.heap[x]? = some (uBox s0)) : (put4 W x s).heap[x]? = some (uBox s) := by
  have rr := heap_setCell_row (o := 3) (heap_setCell_row (o := 2) (heap_setCell_row (o := 1) (heap_setCell_row (o := 0) hx (.int .u64 (limb s 0 : Nat))) (.int .u64 (limb s 1 : Nat))) (.int .u64 (limb s 2 : Nat))) (.int .u64 (limb s 3 : Nat))
  exact rr
theorem put4_t (W : World) (x s : Nat) : Touch [x] W (put4 W x s) := by
  have h := fun (W : World) (o : Nat) (v : Value) => Touch.setCell (F := [x]) W ⟨x, o, none⟩ v (by simp)
  exact (((h W 0 _).trans (fun _ hk => .inl hk) (h _ 1 _)).trans (fun _ hk => .inl hk) (h _ 2 _)).trans (fun _ hk => .inl hk) (h _ 3 _)
theorem sumG_zero (g : Nat → Nat) (i : Nat) (h : g i = 0) (hi : i < 10) (z : Nat) : sumG (upG g i z) 10 = sumG g 10 + z := by
  have := sumG_up g i z 10
  rw [if_pos hi, if_pos hi, h] at this
  omega
theorem sumG_small (g : Nat → Nat) (h : ∀ t, g t < 2 ^ 128) : ∀ k, sumG g k ≤ k * 2 ^ 128
  | 0 => by simp [sumG]
  | k + 1 => by
    have := sumG_small g h k
    have := h k
    unfold sumG
    omega
set_option maxRecDepth 100000 in
set_option maxHeartbeats 16000000 in
theorem cellMoves_go (A : Option Addr) (N C : Nat) (gs : Nat → Nat) (A' : Option Addr) (N' C' : Nat) (x0 x1 x2 x3 : Nat → Int) (a4 : Nat → Nat) (A5 : Nat → Option Addr) (k5 c5 : Nat → Nat) (w : World)
    (hr : RowsV w A N 4 (fun i => [.int .u64 (limb (gs i) 0 : Nat), .int .u64 (limb (gs i) 1 : Nat), .int .u64 (limb (gs i) 2 : Nat), .int .u64 (limb (gs i) 3 : Nat)])) (hg : ∀ i, i < N → gs i < 2 ^ 256) (hN : N ≤ 10)
    (hr' : A10Rows w A' N' x0 x1 x2 x3 a4 A5 k5 c5) (hN' : N' ≤ 200 ∧ ∀ j, j < N' → k5 j ≤ 20) (ha : ∀ i, i < N' → a4 i < 2 ^ 256) :
    Calls Try.prog 6 #[.slice A N C, .slice A' N' C'] w fun e w' => e = .returned (.bool true) ∧ Below w.heap.size w w' := by
  have HL1 := Lib.hid (light10_rows A' N' C' x0 x1 x2 x3 a4 A5 k5 c5 w hr' (by omega) true ⟨fun _ => hN', fun _ => rfl⟩)
  have HR := Lib.hid (And.intro hr (And.intro hr' (And.intro hg ha)))
  have hNI : (N : Int) ≤ 10 := by omega
  have hNI' : (N' : Int) ≤ 200 := by omega
  have z0 : limb 0 0 = 0 := by decide
  have z1 : limb 0 1 = 0 := by decide
  have z2 : limb 0 2 = 0 := by decide
  have z3 : limb 0 3 = 0 := by decide
  have hub : uBox 0 = .cells #[.int .u64 0, .int .u64 0, .int .u64 0, .int .u64 0] 55 := by unfold uBox; rw [z0, z1, z2, z3]; rfl
  have HUb := Lib.hid hub
  clear hr hr' hg ha hN hN' z0 z1 z2 z3 hub
  go_enter Try.func6, Try.ntmps6
  go_upto_region 3 with (go_at_call 25; with_reducible refine HL1.out.mono ?_; rintro e w1 ⟨rfl, hb1⟩; have H1 := Lib.hid hb1; clear hb1)
  go_upto_region 4 with (go_at_call 10; with_reducible refine (SNew.new w _ H1.out).mono ?_; rintro e w3 ⟨b, F1, rfl, hs1, _, _⟩; have H3 : Hid (CmW w w3 b [] (fun _ => 0) 0) := Lib.hid ⟨⟨F1, 0, [], hs1, Nat.le_refl _⟩, Nat.le_refl _, fun p hp => absurd hp List.not_mem_nil, ams_nil⟩; clear hs1)
  go_upto_region 5 with fail
  have hb4 := (Below.refl w3.heap.size w3).alloc (Nat.le_refl _) (uBox 0)
  have hx4 := heap_alloc_new w3 (uBox 0)
  rw [HUb.out] at hb4 hx4
  generalize w3.alloc (.cells #[.int .u64 0, .int .u64 0, .int .u64 0, .int .u64 0] 55) = w4 at hb4 hx4 ⊢
  obtain ⟨x, hx⟩ : ∃ x, x = w3.heap.size := ⟨_, rfl⟩
  rw [← hx] at hx4 ⊢
  have H4 : Hid (CmW w w4 b [] (fun _ => 0) 0 ∧ w4.heap[x]? = some (uBox 0)) := Lib.hid ⟨H3.out.below hb4, by rw [HUb.out]; exact hx4⟩
  have hwx : w.heap.size ≤ x := by rw [hx]; exact H3.out.l.size
  clear hb4 hx4 hx
  go_wp2
  go_loopw [28] (fun i wr => ∃ (j : Nat) (L : SL) (g : Nat → Nat), j ≤ N ∧ i = .int .i64 (j : Nat) ∧ CmW w wr b L g j ∧ wr.heap[x]? = some (uBox (sumG g 10)) ∧ (∀ t, g t < 2 ^ 128) ∧ ∀ t, j ≤ t → g t = 0) (fun i _ => N - (intOf i).toNat)
  case atStart => exact ⟨0, [], fun _ => 0, by omega, rfl, H4.out.1, H4.out.2, fun _ => (by show 0 < 2 ^ 128; decide), fun _ _ => rfl⟩
  case round =>
    obtain ⟨j, L, g, hj, rfl, hw, hxb, hsm, hz0⟩ := hrel
    by_cases hlt : j < N
    · have p2 : (j : Int) < (N : Int) := by omega
      obtain ⟨gr, o, rfl, hgr, hc⟩ := (RowsV.below HR.out.1 hw.l) (by omega)
      have d0 := hc j hlt 0 _ rfl
      have d1 := hc j hlt 1 _ rfl
      have d2 := hc j hlt 2 _ rfl
      have d3 := hc j hlt 3 _ rfl
      simp only [Nat.add_zero] at d0
      have hz := HR.out.2.2.1 j hlt
      obtain ⟨z, ez⟩ : ∃ z, z = gs j := ⟨_, rfl⟩
      rw [← ez] at d0 d1 d2 d3 hz
      have HH := Lib.hid (And.intro hw (And.intro hxb (And.intro hsm (And.intro hz0 hz))))
      clear hc ez hw hxb hsm hz0 hz
      go_upto_region 8 with fail
      have hb5 := (Below.refl wr.heap.size wr).alloc (Nat.le_refl _) (uBox z)
      have hx5 := heap_alloc_new wr (uBox z)
      unfold uBox at hb5 hx5
      generalize wr.alloc (.cells #[.int .u64 (limb z 0 : Nat), .int .u64 (limb z 1 : Nat), .int .u64 (limb z 2 : Nat), .int .u64 (limb z 3 : Nat)] 55) = W5 at hb5 hx5 ⊢
      obtain ⟨y, hy⟩ : ∃ y, y = wr.heap.size := ⟨_, rfl⟩
      rw [← hy] at hx5 ⊢
      have H5 : Hid (CmW w W5 b L g j ∧ W5.heap[x]? = some (uBox (sumG g 10)) ∧ W5.heap[y]? = some (uBox z)) := Lib.hid ⟨HH.out.1.below hb5, (hb5.block x (hp_lt HH.out.2.1)).trans HH.out.2.1, hx5⟩
      clear hb5 hy
      obtain ⟨e0, e1, e2, e3⟩ : W5.cell? ⟨y, 0, none⟩ = some (.int .u64 (limb z 0 : Nat)) ∧ W5.cell? ⟨y, 1, none⟩ = some (.int .u64 (limb z 1 : Nat)) ∧ W5.cell? ⟨y, 2, none⟩ = some (.int .u64 (limb z 2 : Nat)) ∧ W5.cell? ⟨y, 3, none⟩ = some (.int .u64 (limb z 3 : Nat)) := ⟨(hp_cell (i := 0) hx5).trans rfl, (hp_cell (i := 1) hx5).trans rfl, (hp_cell (i := 2) hx5).trans rfl, (hp_cell (i := 3) hx5).trans rfl⟩
      have hor := bits_or10 (limb_lt z 2) (limb_lt z 3)
      clear hx5
      by_cases hsml : limb z 2 ||| limb z 3 = 0
      · have q1 : (bits .or .u64 (limb z 2 : Int) (limb z 3 : Int) != 0) = false := by rw [hor, hsml]; rfl
        have hz128 := small_of HH.out.2.2.2.2 hsml
        have HS := Lib.hid hz128
        clear hor hsml hz128
        go_upto_region 10 with fail
        refine wp_region_held_drew (S := fun w' => w'.heap[y]? = some (uBox z)) (by kernel_rfl) ?_ (fun hHeld => ?_)
        · exact H5.out.2.2
        have H5d : Hid (CmW w W5.drew b L g j ∧ W5.drew.heap[x]? = some (uBox (sumG g 10)) ∧ W5.drew.heap[y]? = some (uBox z)) := Lib.hid ⟨H5.out.1.below (Below.refl _ _).drew, H5.out.2.1, H5.out.2.2⟩
        refine wpAnyH_take (i := 0) (v := ?_) rfl (by kernel_rfl) (by kernel_rfl) (by kernel_rfl) (fun _ _ _ h => h) (Or.inl ⟨by kernel_rfl, ?_⟩) (by with_reducible assumption) ?_
        rotate_left
        · intro wz hSw
          (try dsimp only at hSw)
          go_simp
          (try with_reducible rfl)
        show wpAnyH _ _ _ _ _ _ _ (Act.put _ (some 40) _) _
        (try simp only [Act.put, List.setIfInBounds_toArray, List.set_cons_zero, List.set_cons_succ])
        refine wpAnyH_take (i := 1) (v := ?_) rfl (by kernel_rfl) (by kernel_rfl) (by kernel_rfl) (fun _ _ _ h => h) (Or.inl ⟨by kernel_rfl, ?_⟩) (by with_reducible assumption) ?_
        rotate_left
        · intro wz hSw
          (try dsimp only at hSw)
          go_simp
          (try with_reducible rfl)
        show wpAnyH _ _ _ _ _ _ _ (Act.put _ (some 41) _) _
        (try simp only [Act.put, List.setIfInBounds_toArray, List.set_cons_zero, List.set_cons_succ])
        refine wpAnyH_take (i := 3) (v := .agg #[.int .u64 (limb z 0 : Nat), .int .u64 (limb z 1 : Nat), .int .u64 (limb z 2 : Nat), .int .u64 (limb z 3 : Nat)]) rfl (by kernel_rfl) (by kernel_rfl) (by kernel_rfl) (fun _ _ _ h => h) (Or.inl ⟨by kernel_rfl, ?_⟩) (by with_reducible assumption) ?_
        · intro wz hSw
          (try dsimp only at hSw)
          have y0 := (hp_cell (i := 0) hSw).trans rfl
          have y1 := (hp_cell (i := 1) hSw).trans rfl
          have y2 := (hp_cell (i := 2) hSw).trans rfl
          have y3 := (hp_cell (i := 3) hSw).trans rfl
          go_simp
          (try with_reducible rfl)
        show wpAnyH _ _ _ _ _ _ _ (Act.put _ (some 43) _) _
        (try simp only [Act.put, List.setIfInBounds_toArray, List.set_cons_zero, List.set_cons_succ])
        refine wpAnyH_ready (rs := [2]) (by kernel_rfl) (by simp) ?_
        refine AllReadyH.cons rfl (fun K hK => ?_) AllReadyH.nil
        clear hHeld
        go_simp
        go_at_call 28
        refine (key10_walk j (by omega) _).mono ?_
        rintro e Z6 ⟨rfl, hb⟩
        have J6 : Hid (CmW w Z6 b L g j ∧ Z6.heap[x]? = some (uBox (sumG g 10)) ∧ Z6.heap[y]? = some (uBox z)) := Lib.hid ⟨H5d.out.1.below hb, (hb.block x (hp_lt H5d.out.2.1)).trans H5d.out.2.1, (hb.block y (hp_lt H5d.out.2.2)).trans H5d.out.2.2⟩
        clear hb
        go_wp2_with fail
        refine hK.out _ _ ?_ (fun hHeld => ?_)
        · exact J6.out.2.2
        clear hK K
        (try simp only [Act.put, List.setIfInBounds_toArray, List.set_cons_zero, List.set_cons_succ])
        refine wpAnyH_ready (rs := [4]) (by kernel_rfl) (by simp) ?_
        refine AllReadyH.cons rfl (fun K hK => ?_) AllReadyH.nil
        clear hHeld
        go_simp
        go_at_call 27
        refine (CmW.setAmount J6.out.1 (by omega) j (by omega) z HH.out.2.2.2.2).mono ?_
        rintro e Z7 ⟨rfl, hw7, hk7⟩
        have J7 : Hid (CmW w Z7 b (setA L (kN j) z) (upG g j z) (j + 1) ∧ Z7.heap[x]? = some (uBox (sumG g 10)) ∧ Z7.heap[y]? = some (uBox z)) := Lib.hid ⟨hw7, (hk7 _ fU10).2 _ _ _ J6.out.2.1, (hk7 _ fU10).2 _ _ _ J6.out.2.2⟩
        clear hw7 hk7
        go_wp2_with fail
        refine hK.out _ _ ?_ (fun hHeld => ?_)
        · exact J7.out.2.2
        clear hK K
        (try simp only [Act.put, List.setIfInBounds_toArray, List.set_cons_zero, List.set_cons_succ])
        refine wpAnyH_done (by kernel_rfl) ?_ _
        go_upto_region 11 with fail
        obtain ⟨sg, hsg⟩ : ∃ s, s = sumG g 10 := ⟨_, rfl⟩
        have hsm := sumG_small g HH.out.2.2.1 10
        rw [← hsg] at hsm
        have J7' := J7.out
        rw [← hsg] at J7'
        have HSg := Lib.hid hsg
        obtain ⟨s0, s1, s2, s3⟩ : Z7.cell? ⟨x, 0, none⟩ = some (.int .u64 (limb sg 0 : Nat)) ∧ Z7.cell? ⟨x, 1, none⟩ = some (.int .u64 (limb sg 1 : Nat)) ∧ Z7.cell? ⟨x, 2, none⟩ = some (.int .u64 (limb sg 2 : Nat)) ∧ Z7.cell? ⟨x, 3, none⟩ = some (.int .u64 (limb sg 3 : Nat)) := ⟨(hp_cell (i := 0) J7'.2.1).trans rfl, (hp_cell (i := 1) J7'.2.1).trans rfl, (hp_cell (i := 2) J7'.2.1).trans rfl, (hp_cell (i := 3) J7'.2.1).trans rfl⟩
        obtain ⟨e0, e1, e2, e3⟩ : Z7.cell? ⟨y, 0, none⟩ = some (.int .u64 (limb z 0 : Nat)) ∧ Z7.cell? ⟨y, 1, none⟩ = some (.int .u64 (limb z 1 : Nat)) ∧ Z7.cell? ⟨y, 2, none⟩ = some (.int .u64 (limb z 2 : Nat)) ∧ Z7.cell? ⟨y, 3, none⟩ = some (.int .u64 (limb z 3 : Nat)) := ⟨(hp_cell (i := 0) J7'.2.2).trans rfl, (hp_cell (i := 1) J7'.2.2).trans rfl, (hp_cell (i := 2) J7'.2.2).trans rfl, (hp_cell (i := 3) J7'.2.2).trans rfl⟩
        obtain ⟨s', hs'⟩ : ∃ s', s' = sg + z := ⟨_, rfl⟩
        have hs256 : s' < 2 ^ 256 := by have := HS.out; omega
        have HAdd := Lib.hid (fun W => radd10 sg z s' W (by omega) HH.out.2.2.2.2 hs'.symm hs256)
        have HJ7 := Lib.hid J7'
        have HS' := Lib.hid hs'
        clear hsg J7' hs' hsm hs256
        go_wp2_with (go_at_call 29; refine (HAdd.out _).mono ?_; rintro e W8 ⟨rfl, hb8⟩; have hx8 := (hb8.block x (hp_lt HJ7.out.2.1)).trans HJ7.out.2.1; have HX8 := Lib.hid (And.intro (HJ7.out.1.below hb8) hx8); have t0 := (hp_cell (i := 0) hx8).trans rfl; have t1 := (hp_cell (i := 1) hx8).trans rfl; have t2 := (hp_cell (i := 2) hx8).trans rfl; have t3 := (hp_cell (i := 3) hx8).trans rfl; have v0 := hp_free (i := 0) hx8; have v1 := hp_free (i := 1) hx8; have v2 := hp_free (i := 2) hx8; have v3 := hp_free (i := 3) hx8; clear hb8 hx8)
        have hfin : CmW w (put4 W8 x s') b (setA L (kN j) z) (upG g j z) (j + 1) ∧ (put4 W8 x s').heap[x]? = some (uBox (sumG (upG g j z) 10)) := by
          refine ⟨HX8.out.1.box HX8.out.2 hwx (put4_t W8 x s'), ?_⟩
          rw [sumG_zero g j (HH.out.2.2.2.1 j (Nat.le_refl _)) (by omega) z, ← HSg.out, ← HS'.out]
          exact put4_x HX8.out.2
        exact ⟨⟨j + 1, _, _, by omega, by go_num, hfin.1, hfin.2, fun t => by unfold upG; split; exact HS.out; exact HH.out.2.2.1 t, fun t ht => by unfold upG; rw [if_neg (by omega)]; exact HH.out.2.2.2.1 t (by omega)⟩, by simp [intOf]; omega⟩
      · have q1 : (bits .or .u64 (limb z 2 : Int) (limb z 3 : Int) != 0) = true := by
          rw [hor, bne_iff_ne]
          exact fun h => hsml (by omega)
        clear hor hsml
        go_wp2_with (go_at_call 26; refine (lives10_walk _).mono ?_; rintro e w9 ⟨rfl, hb9⟩; have H9 := Lib.hid hb9; clear hb9)
        go_ret
        exact ⟨rfl, H5.out.1.l.trans (H9.out.mono H5.out.1.l.size)⟩
    · obtain rfl : j = N := by omega
      have p2 : ¬ (j : Int) < (j : Int) := by omega
      obtain ⟨T, hT⟩ : ∃ T, T = sumG g 10 := ⟨_, rfl⟩
      have hT256 : T < 2 ^ 256 := by have := sumG_small g hsm 10; rw [← hT] at this; omega
      rw [← hT] at hxb
      have H0 := Lib.hid (And.intro hw (And.intro hxb (And.intro hT.symm hT256)))
      clear hw hxb hsm hz0 hT hT256
      go_wp2
      go_loopw [54] (fun i wz => ∃ (t : Nat) (L2 : SL) (g2 : Nat → Nat), t ≤ N' ∧ i = .int .i64 (t : Nat) ∧ CmW w wz b L2 g2 (j + 2 * t) ∧ wz.heap[x]? = some (uBox T) ∧ sumG g2 10 = T) (fun i _ => N' - (intOf i).toNat)
      case atStart => exact ⟨0, L, g, by omega, rfl, H0.out.1, H0.out.2.1, H0.out.2.2.1⟩
      case round =>
        obtain ⟨t, L2, g2, ht, rfl, hw, hxb, hsum⟩ := hrel
        by_cases hlt : t < N'
        · have p3 : (t : Int) < (N' : Int) := by omega
          obtain ⟨gr, o, rfl, hgr, hc⟩ := (RowsV.below HR.out.2.1 hw.l) (by omega)
          have d0 := hc t hlt 0 _ rfl
          have d1 := hc t hlt 1 _ rfl
          have d2 := hc t hlt 2 _ rfl
          have d3 := hc t hlt 3 _ rfl
          have d4 := hc t hlt 4 _ rfl
          have d5 := hc t hlt 5 _ rfl
          have d6 := hc t hlt 6 _ rfl
          have d7 := hc t hlt 7 _ rfl
          have d8 := hc t hlt 8 _ rfl
          simp only [Nat.add_zero] at d0
          have hz := HR.out.2.2.2 t hlt
          obtain ⟨kd, e0⟩ : ∃ z, z = x0 t := ⟨_, rfl⟩
          obtain ⟨ka, e1⟩ : ∃ z, z = x1 t := ⟨_, rfl⟩
          obtain ⟨kb, e2⟩ : ∃ z, z = x2 t := ⟨_, rfl⟩
          obtain ⟨kn, e3⟩ : ∃ z, z = x3 t := ⟨_, rfl⟩
          obtain ⟨z, ez⟩ : ∃ z, z = a4 t := ⟨_, rfl⟩
          obtain ⟨Al, e5⟩ : ∃ z, z = A5 t := ⟨_, rfl⟩
          obtain ⟨kl, e6⟩ : ∃ z, z = k5 t := ⟨_, rfl⟩
          obtain ⟨cl, e7⟩ : ∃ z, z = c5 t := ⟨_, rfl⟩
          rw [← e0] at d0
          rw [← e1] at d1
          rw [← e2] at d2
          rw [← e3] at d3
          rw [← ez] at d4 d5 d6 d7 hz
          rw [← e5, ← e6, ← e7] at d8
          have HH := Lib.hid (And.intro hw (And.intro hxb (And.intro hsum hz)))
          clear hc e0 e1 e2 e3 ez e5 e6 e7 hw hxb hsum hz
          go_upto_region 16 with fail
          have hb5 := (Below.refl wr.heap.size wr).alloc (Nat.le_refl _) (.cells #[.int .i64 kd, .int .i64 ka, .int .i64 kb, .int .i64 kn, .int .u64 (limb z 0 : Nat), .int .u64 (limb z 1 : Nat), .int .u64 (limb z 2 : Nat), .int .u64 (limb z 3 : Nat), .slice Al kl cl] 62)
          have hx5 := heap_alloc_new wr (.cells #[.int .i64 kd, .int .i64 ka, .int .i64 kb, .int .i64 kn, .int .u64 (limb z 0 : Nat), .int .u64 (limb z 1 : Nat), .int .u64 (limb z 2 : Nat), .int .u64 (limb z 3 : Nat), .slice Al kl cl] 62)
          generalize wr.alloc (.cells #[.int .i64 kd, .int .i64 ka, .int .i64 kb, .int .i64 kn, .int .u64 (limb z 0 : Nat), .int .u64 (limb z 1 : Nat), .int .u64 (limb z 2 : Nat), .int .u64 (limb z 3 : Nat), .slice Al kl cl] 62) = W5 at hb5 hx5 ⊢
          obtain ⟨y, hy⟩ : ∃ y, y = wr.heap.size := ⟨_, rfl⟩
          rw [← hy] at hx5 ⊢
          have H6 : Hid (CmW w W5 b L2 g2 (j + 2 * t) ∧ W5.heap[x]? = some (uBox T) ∧ W5.heap[y]? = some (.cells #[.int .i64 kd, .int .i64 ka, .int .i64 kb, .int .i64 kn, .int .u64 (limb z 0 : Nat), .int .u64 (limb z 1 : Nat), .int .u64 (limb z 2 : Nat), .int .u64 (limb z 3 : Nat), .slice Al kl cl] 62 (0, 0))) := Lib.hid ⟨HH.out.1.below hb5, (hb5.block x (hp_lt HH.out.2.1)).trans HH.out.2.1, hx5⟩
          have b1 := (hp_cell (i := 1) hx5).trans rfl
          have b2 := (hp_cell (i := 2) hx5).trans rfl
          clear hb5 hy hx5
          by_cases v1 : ka < 0
          · have q1 : decide (ka < 0) = true := decide_eq_true v1
            go_wp2
            exact ⟨⟨t + 1, L2, g2, by omega, by go_num, H6.out.1.up (by omega), H6.out.2.1, HH.out.2.2.1⟩, by simp [intOf]; omega⟩
          · have q1 : decide (ka < 0) = false := decide_eq_false v1
            by_cases v2 : 9 < ka
            · have q2 : decide (9 < ka) = true := decide_eq_true v2
              go_wp2
              exact ⟨⟨t + 1, L2, g2, by omega, by go_num, H6.out.1.up (by omega), H6.out.2.1, HH.out.2.2.1⟩, by simp [intOf]; omega⟩
            · have q2 : decide (9 < ka) = false := decide_eq_false v2
              by_cases v3 : kb < 0
              · have q3 : decide (kb < 0) = true := decide_eq_true v3
                go_wp2
                exact ⟨⟨t + 1, L2, g2, by omega, by go_num, H6.out.1.up (by omega), H6.out.2.1, HH.out.2.2.1⟩, by simp [intOf]; omega⟩
              · have q3 : decide (kb < 0) = false := decide_eq_false v3
                by_cases v4 : 9 < kb
                · have q4 : decide (9 < kb) = true := decide_eq_true v4
                  go_wp2
                  exact ⟨⟨t + 1, L2, g2, by omega, by go_num, H6.out.1.up (by omega), H6.out.2.1, HH.out.2.2.1⟩, by simp [intOf]; omega⟩
                · have q4 : decide (9 < kb) = false := decide_eq_false v4
                  obtain ⟨i1, hi1⟩ : ∃ i1 : Nat, ka = (i1 : Int) := ⟨ka.toNat, by omega⟩
                  obtain ⟨j1, hj1⟩ : ∃ j1 : Nat, kb = (j1 : Int) := ⟨kb.toNat, by omega⟩
                  have HIJ := Lib.hid (And.intro hi1 hj1)
                  have hi10 : i1 < 10 := by omega
                  have hj10 : j1 < 10 := by omega
                  clear hi1 hj1
                  have hAl := CmW.all H6.out.1 (by omega)
                  have HAl := Lib.hid hAl
                  clear hAl
                  go_upto_region 18 with (go_at_call 20; refine HAl.out.mono ?_; rintro e W6 ⟨⟨v6, rfl, ho6⟩, hb6⟩; obtain ⟨A6, C6, rfl⟩ := row_any ho6; have H7 : Hid (CmW w W6 b L2 g2 (j + 2 * t) ∧ W6.heap[x]? = some (uBox T) ∧ W6.heap[y]? = some (.cells #[.int .i64 kd, .int .i64 ka, .int .i64 kb, .int .i64 kn, .int .u64 (limb z 0 : Nat), .int .u64 (limb z 1 : Nat), .int .u64 (limb z 2 : Nat), .int .u64 (limb z 3 : Nat), .slice Al kl cl] 62 (0, 0)) ∧ W6.ownsRow W5.heap.size 43 2 (.slice A6 L2.length C6) L2.length (pcs L2)) := Lib.hid ⟨H6.out.1.below hb6, (hb6.block x (hp_lt H6.out.2.1)).trans H6.out.2.1, (hb6.block y (hp_lt H6.out.2.2)).trans H6.out.2.2, ho6⟩; clear ho6 hb6)
                  obtain ⟨er, her⟩ : ∃ er, er = mvErr g2 i1 j1 z := ⟨_, rfl⟩
                  have HEr := Lib.hid her
                  have hst := fun h => mv_stays (L := L2) (g := g2) (i := i1) (j := j1) (a := z) h
                  rw [← her] at hst
                  have HSt := Lib.hid hst
                  have HSum := Lib.hid (mv_sum g2 i1 j1 z hi10 hj10)
                  obtain ⟨rfl, rfl⟩ := HIJ.out
                  clear her hst q1 q2 q3 q4 v1 v2 v3 v4 b1 b2
                  refine wp_region_held_drew (S := fun w' => w'.heap[y]? = some (.cells #[.int .i64 kd, .int .i64 (i1 : Nat), .int .i64 (j1 : Nat), .int .i64 kn, .int .u64 (limb z 0 : Nat), .int .u64 (limb z 1 : Nat), .int .u64 (limb z 2 : Nat), .int .u64 (limb z 3 : Nat), .slice Al kl cl] 62 (0, 0))) (by kernel_rfl) ?_ (fun hHeld => ?_)
                  · exact H7.out.2.2.1
                  have H7d : Hid (CmW w W6.drew b L2 g2 (j + 2 * t) ∧ W6.drew.heap[x]? = some (uBox T) ∧ W6.drew.heap[y]? = some (.cells #[.int .i64 kd, .int .i64 (i1 : Nat), .int .i64 (j1 : Nat), .int .i64 kn, .int .u64 (limb z 0 : Nat), .int .u64 (limb z 1 : Nat), .int .u64 (limb z 2 : Nat), .int .u64 (limb z 3 : Nat), .slice Al kl cl] 62 (0, 0)) ∧ W6.drew.ownsRow W5.heap.size 43 2 (.slice A6 L2.length C6) L2.length (pcs L2)) := Lib.hid ⟨H7.out.1.below (Below.refl _ _).drew, H7.out.2.1, H7.out.2.2.1, H7.out.2.2.2.drew⟩
                  refine wpAnyH_take (i := 0) (v := ?_) rfl (by kernel_rfl) (by kernel_rfl) (by kernel_rfl) (fun _ _ _ h => h) (Or.inl ⟨by kernel_rfl, ?_⟩) (by with_reducible assumption) ?_
                  rotate_left
                  · intro wz hSw
                    (try dsimp only at hSw)
                    go_simp
                    (try with_reducible rfl)
                  show wpAnyH _ _ _ _ _ _ _ (Act.put _ (some 78) _) _
                  (try simp only [Act.put, List.setIfInBounds_toArray, List.set_cons_zero, List.set_cons_succ])
                  refine wpAnyH_take (i := 1) (v := ?_) rfl (by kernel_rfl) (by kernel_rfl) (by kernel_rfl) (fun _ _ _ h => h) (Or.inl ⟨by kernel_rfl, ?_⟩) (by with_reducible assumption) ?_
                  rotate_left
                  · intro wz hSw
                    (try dsimp only at hSw)
                    go_simp
                    (try with_reducible rfl)
                  show wpAnyH _ _ _ _ _ _ _ (Act.put _ (some 79) _) _
                  (try simp only [Act.put, List.setIfInBounds_toArray, List.set_cons_zero, List.set_cons_succ])
                  refine wpAnyH_take (i := 2) (v := .int .i64 (i1 : Nat)) rfl (by kernel_rfl) (by kernel_rfl) (by kernel_rfl) (fun _ _ _ h => h) (Or.inl ⟨by kernel_rfl, ?_⟩) (by with_reducible assumption) ?_
                  · intro wz hSw
                    (try dsimp only at hSw)
                    have y0 := (hp_cell (i := 1) hSw).trans rfl
                    go_simp
                    (try with_reducible rfl)
                  show wpAnyH _ _ _ _ _ _ _ (Act.put _ (some 80) _) _
                  (try simp only [Act.put, List.setIfInBounds_toArray, List.set_cons_zero, List.set_cons_succ])
                  refine wpAnyH_take (i := 4) (v := ?_) rfl (by kernel_rfl) (by kernel_rfl) (by kernel_rfl) (fun _ _ _ h => h) (Or.inl ⟨by kernel_rfl, ?_⟩) (by with_reducible assumption) ?_
                  rotate_left
                  · intro wz hSw
                    (try dsimp only at hSw)
                    go_simp
                    (try with_reducible rfl)
                  show wpAnyH _ _ _ _ _ _ _ (Act.put _ (some 82) _) _
                  (try simp only [Act.put, List.setIfInBounds_toArray, List.set_cons_zero, List.set_cons_succ])
                  refine wpAnyH_take (i := 5) (v := .int .i64 (j1 : Nat)) rfl (by kernel_rfl) (by kernel_rfl) (by kernel_rfl) (fun _ _ _ h => h) (Or.inl ⟨by kernel_rfl, ?_⟩) (by with_reducible assumption) ?_
                  · intro wz hSw
                    (try dsimp only at hSw)
                    have y0 := (hp_cell (i := 2) hSw).trans rfl
                    go_simp
                    (try with_reducible rfl)
                  show wpAnyH _ _ _ _ _ _ _ (Act.put _ (some 83) _) _
                  (try simp only [Act.put, List.setIfInBounds_toArray, List.set_cons_zero, List.set_cons_succ])
                  refine wpAnyH_take (i := 7) (v := ?_) rfl (by kernel_rfl) (by kernel_rfl) (by kernel_rfl) (fun _ _ _ h => h) (Or.inl ⟨by kernel_rfl, ?_⟩) (by with_reducible assumption) ?_
                  rotate_left
                  · intro wz hSw
                    (try dsimp only at hSw)
                    go_simp
                    (try with_reducible rfl)
                  show wpAnyH _ _ _ _ _ _ _ (Act.put _ (some 85) _) _
                  (try simp only [Act.put, List.setIfInBounds_toArray, List.set_cons_zero, List.set_cons_succ])
                  refine wpAnyH_take (i := 8) (v := .agg #[.int .u64 (limb z 0 : Nat), .int .u64 (limb z 1 : Nat), .int .u64 (limb z 2 : Nat), .int .u64 (limb z 3 : Nat)]) rfl (by kernel_rfl) (by kernel_rfl) (by kernel_rfl) (fun _ _ _ h => h) (Or.inl ⟨by kernel_rfl, ?_⟩) (by with_reducible assumption) ?_
                  · intro wz hSw
                    (try dsimp only at hSw)
                    have y0 := (hp_cell (i := 4) hSw).trans rfl
                    have y1 := (hp_cell (i := 5) hSw).trans rfl
                    have y2 := (hp_cell (i := 6) hSw).trans rfl
                    have y3 := (hp_cell (i := 7) hSw).trans rfl
                    go_simp
                    (try with_reducible rfl)
                  show wpAnyH _ _ _ _ _ _ _ (Act.put _ (some 86) _) _
                  (try simp only [Act.put, List.setIfInBounds_toArray, List.set_cons_zero, List.set_cons_succ])
                  refine wpAnyH_ready (rs := [3]) (by kernel_rfl) (by simp) ?_
                  refine AllReadyH.cons rfl (fun K hK => ?_) AllReadyH.nil
                  clear hHeld
                  go_simp
                  go_at_call 28
                  refine (key10_walk i1 hi10 _).mono ?_
                  rintro e ZK1 ⟨rfl, hb⟩
                  have K1 : Hid (CmW w ZK1 b L2 g2 (j + 2 * t) ∧ ZK1.heap[x]? = some (uBox T) ∧ ZK1.heap[y]? = some (.cells #[.int .i64 kd, .int .i64 (i1 : Nat), .int .i64 (j1 : Nat), .int .i64 kn, .int .u64 (limb z 0 : Nat), .int .u64 (limb z 1 : Nat), .int .u64 (limb z 2 : Nat), .int .u64 (limb z 3 : Nat), .slice Al kl cl] 62 (0, 0)) ∧ ZK1.ownsRow W5.heap.size 43 2 (.slice A6 L2.length C6) L2.length (pcs L2)) := Lib.hid ⟨H7d.out.1.below hb, (hb.block x (hp_lt H7d.out.2.1)).trans H7d.out.2.1, (hb.block y (hp_lt H7d.out.2.2.1)).trans H7d.out.2.2.1, ownsRow_keepT H7d.out.2.2.2 (KeepT.of_below hb)⟩
                  clear hb
                  go_wp2_with fail
                  refine hK.out _ _ ?_ (fun hHeld => ?_)
                  · exact K1.out.2.2.1
                  clear hK K
                  (try simp only [Act.put, List.setIfInBounds_toArray, List.set_cons_zero, List.set_cons_succ])
                  refine wpAnyH_ready (rs := [6]) (by kernel_rfl) (by simp) ?_
                  refine AllReadyH.cons rfl (fun K hK => ?_) AllReadyH.nil
                  clear hHeld
                  go_simp
                  go_at_call 28
                  refine (key10_walk j1 hj10 _).mono ?_
                  rintro e ZK2 ⟨rfl, hb⟩
                  have K2 : Hid (CmW w ZK2 b L2 g2 (j + 2 * t) ∧ ZK2.heap[x]? = some (uBox T) ∧ ZK2.heap[y]? = some (.cells #[.int .i64 kd, .int .i64 (i1 : Nat), .int .i64 (j1 : Nat), .int .i64 kn, .int .u64 (limb z 0 : Nat), .int .u64 (limb z 1 : Nat), .int .u64 (limb z 2 : Nat), .int .u64 (limb z 3 : Nat), .slice Al kl cl] 62 (0, 0)) ∧ ZK2.ownsRow W5.heap.size 43 2 (.slice A6 L2.length C6) L2.length (pcs L2)) := Lib.hid ⟨K1.out.1.below hb, (hb.block x (hp_lt K1.out.2.1)).trans K1.out.2.1, (hb.block y (hp_lt K1.out.2.2.1)).trans K1.out.2.2.1, ownsRow_keepT K1.out.2.2.2 (KeepT.of_below hb)⟩
                  clear hb
                  go_wp2_with fail
                  refine hK.out _ _ ?_ (fun hHeld => ?_)
                  · exact K2.out.2.2.1
                  clear hK K
                  (try simp only [Act.put, List.setIfInBounds_toArray, List.set_cons_zero, List.set_cons_succ])
                  refine wpAnyH_ready (rs := [9]) (by kernel_rfl) (by simp) ?_
                  refine AllReadyH.cons rfl (fun K hK => ?_) AllReadyH.nil
                  clear hHeld
                  go_simp
                  go_at_call 30
                  refine (CmW.move K2.out.1 (by omega) i1 j1 z hi10 hj10 HH.out.2.2.2 (fun u hu => Nat.lt_of_le_of_lt (by rw [← HH.out.2.2.1]; exact sumG_ge g2 u 10 hu) H0.out.2.2.2)).mono ?_
                  rintro e Zm ⟨he, hwm, hkm⟩
                  rw [← HEr.out] at he
                  subst he
                  have M1 : Hid (CmW w Zm b (mvL L2 g2 i1 j1 z) (mvG g2 i1 j1 z) (j + 2 * t + 2) ∧ Zm.heap[x]? = some (uBox T) ∧ Zm.heap[y]? = some (.cells #[.int .i64 kd, .int .i64 (i1 : Nat), .int .i64 (j1 : Nat), .int .i64 kn, .int .u64 (limb z 0 : Nat), .int .u64 (limb z 1 : Nat), .int .u64 (limb z 2 : Nat), .int .u64 (limb z 3 : Nat), .slice Al kl cl] 62 (0, 0)) ∧ Zm.ownsRow W5.heap.size 43 2 (.slice A6 L2.length C6) L2.length (pcs L2)) := Lib.hid ⟨hwm, (hkm _ fU10).2 _ _ _ K2.out.2.1, (hkm _ fA10).2 _ _ _ K2.out.2.2.1, ownsRow_keepT K2.out.2.2.2 (hkm _ (DocT.foreign (.inr (.inl rfl))))⟩
                  clear hwm hkm
                  go_wp2_with fail
                  refine hK.out _ _ ?_ (fun hHeld => ?_)
                  · exact M1.out.2.2.1
                  clear hK K
                  (try simp only [Act.put, List.setIfInBounds_toArray, List.set_cons_zero, List.set_cons_succ])
                  refine wpAnyH_take (i := 10) (v := ?_) rfl (by kernel_rfl) (by kernel_rfl) (by kernel_rfl) (fun _ _ _ h => h) (Or.inl ⟨by kernel_rfl, ?_⟩) (by with_reducible assumption) ?_
                  rotate_left
                  · intro wz hSw
                    (try dsimp only at hSw)
                    go_simp
                    (try with_reducible rfl)
                  show wpAnyH _ _ _ _ _ _ _ (Act.put _ (some 12) _) _
                  (try simp only [Act.put, List.setIfInBounds_toArray, List.set_cons_zero, List.set_cons_succ])
                  refine wpAnyH_done (by kernel_rfl) ?_ _
                  have hL3' : (mvL L2 g2 i1 j1 z).length ≤ j + 2 * t + 2 := M1.out.1.len
                  obtain ⟨L3, hL3⟩ : ∃ L3, L3 = mvL L2 g2 i1 j1 z := ⟨_, rfl⟩
                  obtain ⟨g3, hg3⟩ : ∃ g3, g3 = mvG g2 i1 j1 z := ⟨_, rfl⟩
                  have hM := M1.out
                  have hSum := HSum.out
                  have hSt := HSt.out
                  rw [← hL3, ← hg3] at hM
                  rw [← hg3] at hSum
                  rw [← hL3] at hSt hL3'
                  have M2 := Lib.hid hM
                  have hsum3 : sumG g3 10 = T := hSum.trans HH.out.2.2.1
                  have Hs3 := Lib.hid (And.intro hsum3 hSt)
                  have Hg3 : Hid (∀ u, u < 10 → g3 u < 2 ^ 256) := Lib.hid fun u hu => Nat.lt_of_le_of_lt (by rw [← hsum3]; exact sumG_ge g3 u 10 hu) H0.out.2.2.2
                  clear hL3 hg3 hM hSum hSt hsum3
                  go_upto_region 19 with fail
                  go_cut [96] (fun v wx => v = .bool false ∧ CmW w wx b L3 g3 (j + 2 * t + 2) ∧ wx.heap[x]? = some (uBox T))
                  case first =>
                    by_cases hz : er = 0
                    · have qz : (er == 0) = true := by rw [hz]; rfl
                      have qz2 : (er != 0) = false := by rw [hz]; rfl
                      clear hz
                      go_wp2_with fail
                      go_meet
                      exact ⟨rfl, M2.out.1, M2.out.2.1⟩
                    · have qz : (er == 0) = false := beq_false_of_ne hz
                      have qz2 : (er != 0) = true := bne_iff_ne.2 hz
                      have HSame : Hid (L3 = L2) := Lib.hid (Hs3.out.2 hz)
                      clear hz
                      go_wp2_with (first | (go_at_call 19; refine (same_walk A8 A6 C8 C6 L3 L2 _ J30.out.2.2.1 J30.out.2.2.2 (by omega) true ⟨fun _ => HSame.out, fun _ => rfl⟩).mono ?_; rintro e Z31 ⟨rfl, hb⟩; have J31 : Hid (CmW w Z31 b L3 g3 (j + 2 * t + 2) ∧ Z31.heap[x]? = some (uBox T)) := Lib.hid ⟨J30.out.1.below hb, (hb.block x (hp_lt J30.out.2.1)).trans J30.out.2.1⟩; clear hb) | (go_at_call 20; refine (CmW.all M2.out.1 (by omega)).mono ?_; rintro e Z30 ⟨⟨v30, rfl, ho⟩, hb⟩; obtain ⟨A8, C8, rfl, hp8⟩ := Pr.of ho; have hz8 := pr_keep M2.out.2.2.2 (KeepT.of_below hb); have J30 : Hid (CmW w Z30 b L3 g3 (j + 2 * t + 2) ∧ Z30.heap[x]? = some (uBox T) ∧ Pr Z30 A8 L3 ∧ Pr Z30 A6 L2) := Lib.hid ⟨M2.out.1.below hb, (hb.block x (hp_lt M2.out.2.1)).trans M2.out.2.1, hp8, hz8⟩; clear ho hp8 hz8 hb))
                      go_meet
                      exact ⟨rfl, J31.out⟩
                  case rest =>
                    obtain ⟨rfl, hc19⟩ := hcut
                    have H19 := Lib.hid hc19
                    clear hc19
                    go_upto_region 22 with fail
                    have hb20 := (Below.refl wc.heap.size wc).alloc (Nat.le_refl _) (uBox 0)
                    have hx20 := heap_alloc_new wc (uBox 0)
                    rw [HUb.out] at hb20 hx20
                    generalize wc.alloc (.cells #[.int .u64 0, .int .u64 0, .int .u64 0, .int .u64 0] 55) = W20 at hb20 hx20 ⊢
                    obtain ⟨y2, hy2⟩ : ∃ y2, y2 = wc.heap.size := ⟨_, rfl⟩
                    rw [← hy2] at hx20 ⊢
                    obtain ⟨cc, hcc⟩ : ∃ cc, cc = j + 2 * t + 2 := ⟨_, rfl⟩
                    have H20 : Hid (CmW w W20 b L3 g3 cc ∧ W20.heap[x]? = some (uBox T) ∧ W20.heap[y2]? = some (uBox (sumG g3 0))) := Lib.hid ⟨by rw [hcc]; exact H19.out.1.below hb20, (hb20.block x (hp_lt H19.out.2)).trans H19.out.2, by show _ = some (uBox 0); rw [HUb.out]; exact hx20⟩
                    have HY2 : Hid (w.heap.size ≤ y2 ∧ x ≠ y2) := Lib.hid ⟨by rw [hy2]; exact H19.out.1.l.size, by have := hp_lt H19.out.2; omega⟩
                    have HCc := Lib.hid hcc
                    clear hb20 hx20 hy2 hcc
                    go_wp2
                    go_loopw [14] (fun i wq => ∃ (q : Nat), q ≤ 10 ∧ i = .int .i64 (q : Nat) ∧ CmW w wq b L3 g3 cc ∧ wq.heap[x]? = some (uBox T) ∧ wq.heap[y2]? = some (uBox (sumG g3 q))) (fun i _ => 10 - (intOf i).toNat)
                    case atStart => exact ⟨0, by omega, rfl, H20.out⟩
                    case round =>
                      obtain ⟨q, hq, rfl, hwq, hxq, hyq⟩ := hrel
                      by_cases hlq : q < 10
                      · have p4 : (q : Int) < 10 := by omega
                        obtain ⟨sq, hsq⟩ : ∃ s, s = sumG g3 q := ⟨_, rfl⟩
                        obtain ⟨aq, haq⟩ : ∃ s, s = g3 q := ⟨_, rfl⟩
                        obtain ⟨sq2, hsq2⟩ : ∃ s, s = sumG g3 (q + 1) := ⟨_, rfl⟩
                        have hle : sq2 < 2 ^ 256 := by
                          have h1 := sumG_mono g3 (show q + 1 ≤ 10 by omega)
                          have h2 := Hs3.out.1
                          have h3 := H0.out.2.2.2
                          omega
                        have hadd : sq + aq = sq2 := by rw [hsq, haq, hsq2]; rfl
                        rw [← hsq] at hyq
                        have HAdd := Lib.hid (fun W => radd10 sq aq sq2 W (by omega) (by omega) hadd hle)
                        have HAq := Lib.hid haq
                        have HSq2 := Lib.hid hsq2
                        have I9 := Lib.hid (And.intro hwq (And.intro hxq hyq))
                        clear hwq hxq hyq hsq haq hsq2 hle hadd
                        go_upto_region 25 with fail
                        refine wp_region_held_drew (S := fun _ => True) (by kernel_rfl) ?_ (fun hHeld => ?_)
                        · trivial
                        have I0 : Hid (CmW w wr.drew b L3 g3 cc ∧ wr.drew.heap[x]? = some (uBox T) ∧ wr.drew.heap[y2]? = some (uBox sq)) := Lib.hid ⟨I9.out.1.below (Below.refl _ _).drew, I9.out.2.1, I9.out.2.2⟩
                        refine wpAnyH_take (i := 1) (v := ?_) rfl (by kernel_rfl) (by kernel_rfl) (by kernel_rfl) (fun _ _ _ h => h) (Or.inl ⟨by kernel_rfl, ?_⟩) (by with_reducible assumption) ?_
                        rotate_left
                        · intro wz hSw
                          (try dsimp only at hSw)
                          go_simp
                          (try with_reducible rfl)
                        show wpAnyH _ _ _ _ _ _ _ (Act.put _ (some 104) _) _
                        (try simp only [Act.put, List.setIfInBounds_toArray, List.set_cons_zero, List.set_cons_succ])
                        refine wpAnyH_take (i := 2) (v := ?_) rfl (by kernel_rfl) (by kernel_rfl) (by kernel_rfl) (fun _ _ _ h => h) (Or.inl ⟨by kernel_rfl, ?_⟩) (by with_reducible assumption) ?_
                        rotate_left
                        · intro wz hSw
                          (try dsimp only at hSw)
                          go_simp
                          (try with_reducible rfl)
                        show wpAnyH _ _ _ _ _ _ _ (Act.put _ (some 105) _) _
                        (try simp only [Act.put, List.setIfInBounds_toArray, List.set_cons_zero, List.set_cons_succ])
                        refine wpAnyH_ready (rs := [0, 3]) (by kernel_rfl) (by simp) ?_
                        refine AllReadyH.cons rfl (fun K hK => ?_) (AllReadyH.cons rfl (fun K hK => ?_) AllReadyH.nil)
                        · clear hHeld
                          obtain ⟨n0, n1, n2, n3⟩ : wr.drew.cell? ⟨y2, 0, none⟩ = some (.int .u64 (limb sq 0 : Nat)) ∧ wr.drew.cell? ⟨y2, 1, none⟩ = some (.int .u64 (limb sq 1 : Nat)) ∧ wr.drew.cell? ⟨y2, 2, none⟩ = some (.int .u64 (limb sq 2 : Nat)) ∧ wr.drew.cell? ⟨y2, 3, none⟩ = some (.int .u64 (limb sq 3 : Nat)) := ⟨(hp_cell (i := 0) I0.out.2.2).trans rfl, (hp_cell (i := 1) I0.out.2.2).trans rfl, (hp_cell (i := 2) I0.out.2.2).trans rfl, (hp_cell (i := 3) I0.out.2.2).trans rfl⟩
                          go_simp
                          refine hK.out _ _ ?_ (fun hHeld => ?_)
                          · exact trivial
                          clear hK K
                          (try simp only [Act.put, List.setIfInBounds_toArray, List.set_cons_zero, List.set_cons_succ])
                          clear n0 n1 n2 n3
                          refine wpAnyH_ready (rs := [3]) (by kernel_rfl) (by simp) ?_
                          refine AllReadyH.cons rfl (fun K hK => ?_) AllReadyH.nil
                          clear hHeld
                          go_simp
                          go_at_call 28
                          refine (key10_walk q (by omega) _).mono ?_
                          rintro e ZR1 ⟨rfl, hb⟩
                          have R1 : Hid (CmW w ZR1 b L3 g3 cc ∧ ZR1.heap[x]? = some (uBox T) ∧ ZR1.heap[y2]? = some (uBox sq)) := Lib.hid ⟨I0.out.1.below hb, (hb.block x (hp_lt I0.out.2.1)).trans I0.out.2.1, (hb.block y2 (hp_lt I0.out.2.2)).trans I0.out.2.2⟩
                          clear hb
                          go_wp2_with fail
                          refine hK.out _ _ ?_ (fun hHeld => ?_)
                          · exact trivial
                          clear hK K
                          (try simp only [Act.put, List.setIfInBounds_toArray, List.set_cons_zero, List.set_cons_succ])
                          refine wpAnyH_ready (rs := [4]) (by kernel_rfl) (by simp) ?_
                          refine AllReadyH.cons rfl (fun K hK => ?_) AllReadyH.nil
                          clear hHeld
                          go_simp
                          go_at_call 31
                          refine (CmW.amount R1.out.1 q (by omega) (Hg3.out q (by omega))).mono ?_
                          rintro e ZR2 ⟨he, hb⟩
                          unfold U at he
                          rw [← HAq.out] at he
                          subst he
                          have R2 : Hid (CmW w ZR2 b L3 g3 cc ∧ ZR2.heap[x]? = some (uBox T) ∧ ZR2.heap[y2]? = some (uBox sq)) := Lib.hid ⟨R1.out.1.below hb, (hb.block x (hp_lt R1.out.2.1)).trans R1.out.2.1, (hb.block y2 (hp_lt R1.out.2.2)).trans R1.out.2.2⟩
                          clear hb
                          go_wp2_with fail
                          refine hK.out _ _ ?_ (fun hHeld => ?_)
                          · exact trivial
                          clear hK K
                          (try simp only [Act.put, List.setIfInBounds_toArray, List.set_cons_zero, List.set_cons_succ])
                          refine wpAnyH_ready (rs := [5]) (by kernel_rfl) (by simp) ?_
                          refine AllReadyH.cons rfl (fun K hK => ?_) AllReadyH.nil
                          clear hHeld
                          go_simp
                          go_at_call 29
                          refine (HAdd.out _).mono ?_
                          rintro e ZR3 ⟨rfl, hb⟩
                          have R3 : Hid (CmW w ZR3 b L3 g3 cc ∧ ZR3.heap[x]? = some (uBox T) ∧ ZR3.heap[y2]? = some (uBox sq)) := Lib.hid ⟨R2.out.1.below hb, (hb.block x (hp_lt R2.out.2.1)).trans R2.out.2.1, (hb.block y2 (hp_lt R2.out.2.2)).trans R2.out.2.2⟩
                          clear hb
                          go_wp2_with fail
                          refine hK.out _ _ ?_ (fun hHeld => ?_)
                          · exact trivial
                          clear hK K
                          (try simp only [Act.put, List.setIfInBounds_toArray, List.set_cons_zero, List.set_cons_succ])
                          refine wpAnyH_take (i := 6) (v := ?_) rfl (by kernel_rfl) (by kernel_rfl) (by kernel_rfl) (fun _ _ _ h => h) (Or.inl ⟨by kernel_rfl, ?_⟩) (by with_reducible assumption) ?_
                          rotate_left
                          · intro wz hSw
                            (try dsimp only at hSw)
                            go_simp
                            (try with_reducible rfl)
                          show wpAnyH _ _ _ _ _ _ _ (Act.put _ (some 102) _) _
                          (try simp only [Act.put, List.setIfInBounds_toArray, List.set_cons_zero, List.set_cons_succ])
                          refine wpAnyH_take (i := 7) (v := ?_) rfl (by kernel_rfl) (by kernel_rfl) (by kernel_rfl) (fun _ _ _ h => h) (Or.inl ⟨by kernel_rfl, ?_⟩) (by with_reducible assumption) ?_
                          rotate_left
                          · intro wz hSw
                            (try dsimp only at hSw)
                            go_simp
                            (try with_reducible rfl)
                          show wpAnyH _ _ _ _ _ _ _ (Act.put _ (some 109) _) _
                          (try simp only [Act.put, List.setIfInBounds_toArray, List.set_cons_zero, List.set_cons_succ])
                          refine wpAnyH_take (i := 8) (v := ?_) rfl (by kernel_rfl) (by kernel_rfl) (by kernel_rfl) (fun _ _ _ h => h) (Or.inl ⟨by kernel_rfl, ?_⟩) (by with_reducible assumption) ?_
                          rotate_left
                          · intro wz hSw
                            (try dsimp only at hSw)
                            go_simp
                            (try with_reducible rfl)
                          show wpAnyH _ _ _ _ _ _ _ (Act.put _ (some 110) _) _
                          (try simp only [Act.put, List.setIfInBounds_toArray, List.set_cons_zero, List.set_cons_succ])
                          refine wpAnyH_ready (rs := [9]) (by kernel_rfl) (by simp) ?_
                          refine AllReadyH.cons rfl (fun K hK => ?_) AllReadyH.nil
                          clear hHeld
                          have n0 := (hp_cell (i := 0) R3.out.2.2).trans rfl
                          have f0 := hp_free (i := 0) R3.out.2.2
                          have n1 := (hp_cell (i := 1) R3.out.2.2).trans rfl
                          have f1 := hp_free (i := 1) R3.out.2.2
                          have n2 := (hp_cell (i := 2) R3.out.2.2).trans rfl
                          have f2 := hp_free (i := 2) R3.out.2.2
                          have n3 := (hp_cell (i := 3) R3.out.2.2).trans rfl
                          have f3 := hp_free (i := 3) R3.out.2.2
                          go_simp
                          refine hK.out _ _ ?_ (fun hHeld => ?_)
                          · exact trivial
                          clear hK K
                          (try simp only [Act.put, List.setIfInBounds_toArray, List.set_cons_zero, List.set_cons_succ])
                          refine wpAnyH_done (by kernel_rfl) ?_ _
                          go_wp2_with fail
                          have hfin : CmW w (put4 ZR3 y2 sq2) b L3 g3 cc ∧ (put4 ZR3 y2 sq2).heap[x]? = some (uBox T) ∧ (put4 ZR3 y2 sq2).heap[y2]? = some (uBox sq2) := ⟨R3.out.1.box R3.out.2.2 HY2.out.1 (put4_t ZR3 y2 sq2), ((put4_t ZR3 y2 sq2).block x (hp_lt R3.out.2.1) (by simp; exact HY2.out.2)).trans R3.out.2.1, put4_x R3.out.2.2⟩
                          exact ⟨⟨q + 1, by omega, by go_num, hfin.1, hfin.2.1, by rw [← HSq2.out]; exact hfin.2.2⟩, by simp [intOf]; omega⟩
                        · clear hHeld
                          go_simp
                          go_at_call 28
                          refine (key10_walk q (by omega) _).mono ?_
                          rintro e ZR4 ⟨rfl, hb⟩
                          have R4 : Hid (CmW w ZR4 b L3 g3 cc ∧ ZR4.heap[x]? = some (uBox T) ∧ ZR4.heap[y2]? = some (uBox sq)) := Lib.hid ⟨I0.out.1.below hb, (hb.block x (hp_lt I0.out.2.1)).trans I0.out.2.1, (hb.block y2 (hp_lt I0.out.2.2)).trans I0.out.2.2⟩
                          clear hb
                          go_wp2_with fail
                          refine hK.out _ _ ?_ (fun hHeld => ?_)
                          · exact trivial
                          clear hK K
                          (try simp only [Act.put, List.setIfInBounds_toArray, List.set_cons_zero, List.set_cons_succ])
                          refine wpAnyH_ready (rs := [0, 4]) (by kernel_rfl) (by simp) ?_
                          refine AllReadyH.cons rfl (fun K hK => ?_) (AllReadyH.cons rfl (fun K hK => ?_) AllReadyH.nil)
                          · clear hHeld
                            obtain ⟨n0, n1, n2, n3⟩ : ZR4.cell? ⟨y2, 0, none⟩ = some (.int .u64 (limb sq 0 : Nat)) ∧ ZR4.cell? ⟨y2, 1, none⟩ = some (.int .u64 (limb sq 1 : Nat)) ∧ ZR4.cell? ⟨y2, 2, none⟩ = some (.int .u64 (limb sq 2 : Nat)) ∧ ZR4.cell? ⟨y2, 3, none⟩ = some (.int .u64 (limb sq 3 : Nat)) := ⟨(hp_cell (i := 0) R4.out.2.2).trans rfl, (hp_cell (i := 1) R4.out.2.2).trans rfl, (hp_cell (i := 2) R4.out.2.2).trans rfl, (hp_cell (i := 3) R4.out.2.2).trans rfl⟩
                            go_simp
                            refine hK.out _ _ ?_ (fun hHeld => ?_)
                            · exact trivial
                            clear hK K
                            (try simp only [Act.put, List.setIfInBounds_toArray, List.set_cons_zero, List.set_cons_succ])
                            clear n0 n1 n2 n3
                            refine wpAnyH_ready (rs := [4]) (by kernel_rfl) (by simp) ?_
                            refine AllReadyH.cons rfl (fun K hK => ?_) AllReadyH.nil
                            clear hHeld
                            go_simp
                            go_at_call 31
                            refine (CmW.amount R4.out.1 q (by omega) (Hg3.out q (by omega))).mono ?_
                            rintro e ZR5 ⟨he, hb⟩
                            unfold U at he
                            rw [← HAq.out] at he
                            subst he
                            have R5 : Hid (CmW w ZR5 b L3 g3 cc ∧ ZR5.heap[x]? = some (uBox T) ∧ ZR5.heap[y2]? = some (uBox sq)) := Lib.hid ⟨R4.out.1.below hb, (hb.block x (hp_lt R4.out.2.1)).trans R4.out.2.1, (hb.block y2 (hp_lt R4.out.2.2)).trans R4.out.2.2⟩
                            clear hb
                            go_wp2_with fail
                            refine hK.out _ _ ?_ (fun hHeld => ?_)
                            · exact trivial
                            clear hK K
                            (try simp only [Act.put, List.setIfInBounds_toArray, List.set_cons_zero, List.set_cons_succ])
                            refine wpAnyH_ready (rs := [5]) (by kernel_rfl) (by simp) ?_
                            refine AllReadyH.cons rfl (fun K hK => ?_) AllReadyH.nil
                            clear hHeld
                            go_simp
                            go_at_call 29
                            refine (HAdd.out _).mono ?_
                            rintro e ZR6 ⟨rfl, hb⟩
                            have R6 : Hid (CmW w ZR6 b L3 g3 cc ∧ ZR6.heap[x]? = some (uBox T) ∧ ZR6.heap[y2]? = some (uBox sq)) := Lib.hid ⟨R5.out.1.below hb, (hb.block x (hp_lt R5.out.2.1)).trans R5.out.2.1, (hb.block y2 (hp_lt R5.out.2.2)).trans R5.out.2.2⟩
                            clear hb
                            go_wp2_with fail
                            refine hK.out _ _ ?_ (fun hHeld => ?_)
                            · exact trivial
                            clear hK K
                            (try simp only [Act.put, List.setIfInBounds_toArray, List.set_cons_zero, List.set_cons_succ])
                            refine wpAnyH_take (i := 6) (v := ?_) rfl (by kernel_rfl) (by kernel_rfl) (by kernel_rfl) (fun _ _ _ h => h) (Or.inl ⟨by kernel_rfl, ?_⟩) (by with_reducible assumption) ?_
                            rotate_left
                            · intro wz hSw
                              (try dsimp only at hSw)
                              go_simp
                              (try with_reducible rfl)
                            show wpAnyH _ _ _ _ _ _ _ (Act.put _ (some 102) _) _
                            (try simp only [Act.put, List.setIfInBounds_toArray, List.set_cons_zero, List.set_cons_succ])
                            refine wpAnyH_take (i := 7) (v := ?_) rfl (by kernel_rfl) (by kernel_rfl) (by kernel_rfl) (fun _ _ _ h => h) (Or.inl ⟨by kernel_rfl, ?_⟩) (by with_reducible assumption) ?_
                            rotate_left
                            · intro wz hSw
                              (try dsimp only at hSw)
                              go_simp
                              (try with_reducible rfl)
                            show wpAnyH _ _ _ _ _ _ _ (Act.put _ (some 109) _) _
                            (try simp only [Act.put, List.setIfInBounds_toArray, List.set_cons_zero, List.set_cons_succ])
                            refine wpAnyH_take (i := 8) (v := ?_) rfl (by kernel_rfl) (by kernel_rfl) (by kernel_rfl) (fun _ _ _ h => h) (Or.inl ⟨by kernel_rfl, ?_⟩) (by with_reducible assumption) ?_
                            rotate_left
                            · intro wz hSw
                              (try dsimp only at hSw)
                              go_simp
                              (try with_reducible rfl)
                            show wpAnyH _ _ _ _ _ _ _ (Act.put _ (some 110) _) _
                            (try simp only [Act.put, List.setIfInBounds_toArray, List.set_cons_zero, List.set_cons_succ])
                            refine wpAnyH_ready (rs := [9]) (by kernel_rfl) (by simp) ?_
                            refine AllReadyH.cons rfl (fun K hK => ?_) AllReadyH.nil
                            clear hHeld
                            have n0 := (hp_cell (i := 0) R6.out.2.2).trans rfl
                            have f0 := hp_free (i := 0) R6.out.2.2
                            have n1 := (hp_cell (i := 1) R6.out.2.2).trans rfl
                            have f1 := hp_free (i := 1) R6.out.2.2
                            have n2 := (hp_cell (i := 2) R6.out.2.2).trans rfl
                            have f2 := hp_free (i := 2) R6.out.2.2
                            have n3 := (hp_cell (i := 3) R6.out.2.2).trans rfl
                            have f3 := hp_free (i := 3) R6.out.2.2
                            go_simp
                            refine hK.out _ _ ?_ (fun hHeld => ?_)
                            · exact trivial
                            clear hK K
                            (try simp only [Act.put, List.setIfInBounds_toArray, List.set_cons_zero, List.set_cons_succ])
                            refine wpAnyH_done (by kernel_rfl) ?_ _
                            go_wp2_with fail
                            have hfin : CmW w (put4 ZR6 y2 sq2) b L3 g3 cc ∧ (put4 ZR6 y2 sq2).heap[x]? = some (uBox T) ∧ (put4 ZR6 y2 sq2).heap[y2]? = some (uBox sq2) := ⟨R6.out.1.box R6.out.2.2 HY2.out.1 (put4_t ZR6 y2 sq2), ((put4_t ZR6 y2 sq2).block x (hp_lt R6.out.2.1) (by simp; exact HY2.out.2)).trans R6.out.2.1, put4_x R6.out.2.2⟩
                            exact ⟨⟨q + 1, by omega, by go_num, hfin.1, hfin.2.1, by rw [← HSq2.out]; exact hfin.2.2⟩, by simp [intOf]; omega⟩
                          · clear hHeld
                            go_simp
                            go_at_call 31
                            refine (CmW.amount R4.out.1 q (by omega) (Hg3.out q (by omega))).mono ?_
                            rintro e ZR7 ⟨he, hb⟩
                            unfold U at he
                            rw [← HAq.out] at he
                            subst he
                            have R7 : Hid (CmW w ZR7 b L3 g3 cc ∧ ZR7.heap[x]? = some (uBox T) ∧ ZR7.heap[y2]? = some (uBox sq)) := Lib.hid ⟨R4.out.1.below hb, (hb.block x (hp_lt R4.out.2.1)).trans R4.out.2.1, (hb.block y2 (hp_lt R4.out.2.2)).trans R4.out.2.2⟩
                            clear hb
                            go_wp2_with fail
                            refine hK.out _ _ ?_ (fun hHeld => ?_)
                            · exact trivial
                            clear hK K
                            (try simp only [Act.put, List.setIfInBounds_toArray, List.set_cons_zero, List.set_cons_succ])
                            refine wpAnyH_ready (rs := [0]) (by kernel_rfl) (by simp) ?_
                            refine AllReadyH.cons rfl (fun K hK => ?_) AllReadyH.nil
                            clear hHeld
                            obtain ⟨n0, n1, n2, n3⟩ : ZR7.cell? ⟨y2, 0, none⟩ = some (.int .u64 (limb sq 0 : Nat)) ∧ ZR7.cell? ⟨y2, 1, none⟩ = some (.int .u64 (limb sq 1 : Nat)) ∧ ZR7.cell? ⟨y2, 2, none⟩ = some (.int .u64 (limb sq 2 : Nat)) ∧ ZR7.cell? ⟨y2, 3, none⟩ = some (.int .u64 (limb sq 3 : Nat)) := ⟨(hp_cell (i := 0) R7.out.2.2).trans rfl, (hp_cell (i := 1) R7.out.2.2).trans rfl, (hp_cell (i := 2) R7.out.2.2).trans rfl, (hp_cell (i := 3) R7.out.2.2).trans rfl⟩
                            go_simp
                            refine hK.out _ _ ?_ (fun hHeld => ?_)
                            · exact trivial
                            clear hK K
                            (try simp only [Act.put, List.setIfInBounds_toArray, List.set_cons_zero, List.set_cons_succ])
                            clear n0 n1 n2 n3
                            refine wpAnyH_ready (rs := [5]) (by kernel_rfl) (by simp) ?_
                            refine AllReadyH.cons rfl (fun K hK => ?_) AllReadyH.nil
                            clear hHeld
                            go_simp
                            go_at_call 29
                            refine (HAdd.out _).mono ?_
                            rintro e ZR8 ⟨rfl, hb⟩
                            have R8 : Hid (CmW w ZR8 b L3 g3 cc ∧ ZR8.heap[x]? = some (uBox T) ∧ ZR8.heap[y2]? = some (uBox sq)) := Lib.hid ⟨R7.out.1.below hb, (hb.block x (hp_lt R7.out.2.1)).trans R7.out.2.1, (hb.block y2 (hp_lt R7.out.2.2)).trans R7.out.2.2⟩
                            clear hb
                            go_wp2_with fail
                            refine hK.out _ _ ?_ (fun hHeld => ?_)
                            · exact trivial
                            clear hK K
                            (try simp only [Act.put, List.setIfInBounds_toArray, List.set_cons_zero, List.set_cons_succ])
                            refine wpAnyH_take (i := 6) (v := ?_) rfl (by kernel_rfl) (by kernel_rfl) (by kernel_rfl) (fun _ _ _ h => h) (Or.inl ⟨by kernel_rfl, ?_⟩) (by with_reducible assumption) ?_
                            rotate_left
                            · intro wz hSw
                              (try dsimp only at hSw)
                              go_simp
                              (try with_reducible rfl)
                            show wpAnyH _ _ _ _ _ _ _ (Act.put _ (some 102) _) _
                            (try simp only [Act.put, List.setIfInBounds_toArray, List.set_cons_zero, List.set_cons_succ])
                            refine wpAnyH_take (i := 7) (v := ?_) rfl (by kernel_rfl) (by kernel_rfl) (by kernel_rfl) (fun _ _ _ h => h) (Or.inl ⟨by kernel_rfl, ?_⟩) (by with_reducible assumption) ?_
                            rotate_left
                            · intro wz hSw
                              (try dsimp only at hSw)
                              go_simp
                              (try with_reducible rfl)
                            show wpAnyH _ _ _ _ _ _ _ (Act.put _ (some 109) _) _
                            (try simp only [Act.put, List.setIfInBounds_toArray, List.set_cons_zero, List.set_cons_succ])
                            refine wpAnyH_take (i := 8) (v := ?_) rfl (by kernel_rfl) (by kernel_rfl) (by kernel_rfl) (fun _ _ _ h => h) (Or.inl ⟨by kernel_rfl, ?_⟩) (by with_reducible assumption) ?_
                            rotate_left
                            · intro wz hSw
                              (try dsimp only at hSw)
                              go_simp
                              (try with_reducible rfl)
                            show wpAnyH _ _ _ _ _ _ _ (Act.put _ (some 110) _) _
                            (try simp only [Act.put, List.setIfInBounds_toArray, List.set_cons_zero, List.set_cons_succ])
                            refine wpAnyH_ready (rs := [9]) (by kernel_rfl) (by simp) ?_
                            refine AllReadyH.cons rfl (fun K hK => ?_) AllReadyH.nil
                            clear hHeld
                            have n0 := (hp_cell (i := 0) R8.out.2.2).trans rfl
                            have f0 := hp_free (i := 0) R8.out.2.2
                            have n1 := (hp_cell (i := 1) R8.out.2.2).trans rfl
                            have f1 := hp_free (i := 1) R8.out.2.2
                            have n2 := (hp_cell (i := 2) R8.out.2.2).trans rfl
                            have f2 := hp_free (i := 2) R8.out.2.2
                            have n3 := (hp_cell (i := 3) R8.out.2.2).trans rfl
                            have f3 := hp_free (i := 3) R8.out.2.2
                            go_simp
                            refine hK.out _ _ ?_ (fun hHeld => ?_)
                            · exact trivial
                            clear hK K
                            (try simp only [Act.put, List.setIfInBounds_toArray, List.set_cons_zero, List.set_cons_succ])
                            refine wpAnyH_done (by kernel_rfl) ?_ _
                            go_wp2_with fail
                            have hfin : CmW w (put4 ZR8 y2 sq2) b L3 g3 cc ∧ (put4 ZR8 y2 sq2).heap[x]? = some (uBox T) ∧ (put4 ZR8 y2 sq2).heap[y2]? = some (uBox sq2) := ⟨R8.out.1.box R8.out.2.2 HY2.out.1 (put4_t ZR8 y2 sq2), ((put4_t ZR8 y2 sq2).block x (hp_lt R8.out.2.1) (by simp; exact HY2.out.2)).trans R8.out.2.1, put4_x R8.out.2.2⟩
                            exact ⟨⟨q + 1, by omega, by go_num, hfin.1, hfin.2.1, by rw [← HSq2.out]; exact hfin.2.2⟩, by simp [intOf]; omega⟩
                      · obtain rfl : q = 10 := by omega
                        have p4 : ¬ ((10 : Nat) : Int) < 10 := by omega
                        rw [Hs3.out.1] at hyq
                        have I9 := Lib.hid (And.intro hwq (And.intro hxq hyq))
                        have hqq := fun w => eq_run H0.out.2.2.2 H0.out.2.2.2 w
                        obtain ⟨m0, m1, m2, m3⟩ : wr.cell? ⟨x, 0, none⟩ = some (.int .u64 (limb T 0 : Nat)) ∧ wr.cell? ⟨x, 1, none⟩ = some (.int .u64 (limb T 1 : Nat)) ∧ wr.cell? ⟨x, 2, none⟩ = some (.int .u64 (limb T 2 : Nat)) ∧ wr.cell? ⟨x, 3, none⟩ = some (.int .u64 (limb T 3 : Nat)) := ⟨(hp_cell (i := 0) I9.out.2.1).trans rfl, (hp_cell (i := 1) I9.out.2.1).trans rfl, (hp_cell (i := 2) I9.out.2.1).trans rfl, (hp_cell (i := 3) I9.out.2.1).trans rfl⟩
                        obtain ⟨n0, n1, n2, n3⟩ : wr.cell? ⟨y2, 0, none⟩ = some (.int .u64 (limb T 0 : Nat)) ∧ wr.cell? ⟨y2, 1, none⟩ = some (.int .u64 (limb T 1 : Nat)) ∧ wr.cell? ⟨y2, 2, none⟩ = some (.int .u64 (limb T 2 : Nat)) ∧ wr.cell? ⟨y2, 3, none⟩ = some (.int .u64 (limb T 3 : Nat)) := ⟨(hp_cell (i := 0) I9.out.2.2).trans rfl, (hp_cell (i := 1) I9.out.2.2).trans rfl, (hp_cell (i := 2) I9.out.2.2).trans rfl, (hp_cell (i := 3) I9.out.2.2).trans rfl⟩
                        clear hwq hxq hyq
                        go_wp2
                        exact ⟨⟨t + 1, L3, g3, by omega, by go_num, I9.out.1.up (by have := HCc.out; omega), I9.out.2.1, Hs3.out.1⟩, by simp [intOf]; omega⟩
        · obtain rfl : t = N' := by omega
          have p3 : ¬ (t : Int) < (t : Int) := by omega
          have HE := Lib.hid hw.l
          clear hw hxb hsum
          go_wp2_with (go_at_call 26; refine (lives10_walk _).mono ?_; rintro e w9 ⟨rfl, hb9⟩; have H9 := Lib.hid hb9; clear hb9)
          go_ret
          exact ⟨rfl, HE.out.trans (H9.out.mono HE.out.size)⟩
  all_goals done
end Go.Proofs.Ytbfmhafmncnhfaa
