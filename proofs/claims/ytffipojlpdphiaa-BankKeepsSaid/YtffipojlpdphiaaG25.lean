/- The document's store (tallageref08), written: its entries and its changes; what a call leaves of it. No walks. -/
import Derived.Test.YtffipojlpdphiaaG22
import Derived.Test.YtffipojlpdphiaaG23
import Derived.Test.YtffipojlpdphiaaG24
import Derived.Test.YtffipojlpdphiaaG11
import Derived.Test.YtffipojlpdphiaaG19
import Derived.Test.YtffipojlpdphiaaG05
import Derived.OwnWalk
import Derived.Laws.AppendOwnNone
namespace Go.Proofs.Ytffipojlpdphiaa
open Go.RowKit Go.Maps Go.Sort

theorem sset_parts {L : SL} (hr : Rising (skeys L)) (k v : ByteArray) : sset L k v = L.take (klo (skeys L) k) ++ [(k, v)] ++ L.drop (if (sget L k).isSome = true then klo (skeys L) k + 1 else klo (skeys L) k) := by
  unfold sset
  cases hs : (sget L k).isSome with
  | false => simp
  | true =>
    obtain ⟨h1, h2, h3⟩ := sdel_parts k L hr hs
    simp only [if_true]
    generalize hK : klo (skeys L) k = K at *
    have hne : ∀ p ∈ L.take K ++ L.drop (K + 1), keq p.1 k = false := fun p hp => by
      rw [← h3] at hp
      have := (List.mem_filter.1 hp).2
      simpa using this
    have hk : (L[K]).1 = k := by
      unfold skeys at h2
      rw [List.getElem?_map, List.getElem?_eq_getElem h1] at h2
      exact Option.some.inj h2
    conv => lhs; rw [← List.take_append_drop K L, List.drop_eq_getElem_cons h1, List.map_append, List.map_cons]
    rw [hk, keq_self, if_pos rfl]
    have e1 : (L.take K).map (fun p => if keq p.1 k = true then (k, v) else p) = L.take K := by
      conv => rhs; rw [← List.map_id (L.take K)]
      refine List.map_congr_left fun p hp => ?_
      rw [hne p (List.mem_append_left _ hp)]; rfl
    have e2 : (L.drop (K + 1)).map (fun p => if keq p.1 k = true then (k, v) else p) = L.drop (K + 1) := by
      conv => rhs; rw [← List.map_id (L.drop (K + 1))]
      refine List.map_congr_left fun p hp => ?_
      rw [hne p (List.mem_append_right _ hp)]; rfl
    rw [e1, e2]
    simp
theorem sdel_parts2 {L : SL} (hr : Rising (skeys L)) (k : ByteArray) : sdel L k = L.take (klo (skeys L) k) ++ L.drop (if (sget L k).isSome = true then klo (skeys L) k + 1 else klo (skeys L) k) := by
  cases hs : (sget L k).isSome with
  | true => simp only [if_true]; exact (sdel_parts k L hr hs).2.2
  | false =>
    simp only [Bool.false_eq_true, if_false]
    rw [List.take_append_drop]
    unfold sdel
    rw [List.filter_eq_self]
    intro p hp
    simp [sget_none hs p hp]
theorem tw_filter {α : Type} (P : α → Bool) (D : List α) (h : (D.takeWhile P).length = D.countP P) : D.takeWhile P = D.filter P := by
  have h1 : (D.takeWhile P).filter P = D.takeWhile P := List.filter_eq_self.2 fun a ha => by
    have := List.all_takeWhile (p := P) (l := D)
    exact (List.all_eq_true.1 this) a ha
  have h2 : ((D.takeWhile P).filter P).Sublist (D.filter P) := (List.takeWhile_sublist P).filter P
  rw [h1] at h2
  exact h2.eq_of_length (by rw [h, List.countP_eq_length_filter])
theorem under_filter {L : SL} (hr : Rising (skeys L)) (x : ByteArray) : under L x = L.filter (hpre x) := by
  obtain ⟨h1, h2⟩ := klo_parts x (skeys L) hr
  obtain ⟨m, em⟩ : ∃ m, m = klo (skeys L) x := ⟨_, rfl⟩
  unfold under
  rw [← em] at h1 h2 ⊢
  have hd : Rising (skeys (L.drop m)) := by
    unfold Rising skeys at hr ⊢
    rw [List.map_drop]
    exact hr.sublist (List.drop_sublist _ _)
  rw [tw_filter _ _ (tw_count x _ hd (fun p hp => h2 p.1 (by unfold skeys; rw [← List.map_drop]; exact List.mem_map.2 ⟨p, hp, rfl⟩)))]
  conv => rhs; rw [← List.take_append_drop m L, List.filter_append]
  have : (L.take m).filter (hpre x) = [] := List.filter_eq_nil_iff.2 fun q hq h => pre_ge _ _ h (h1 q.1 (by unfold skeys; rw [← List.map_take]; exact List.mem_map.2 ⟨q, hq, rfl⟩))
  rw [this, List.nil_append]
/-- the cells of the document's changes -/
def wch (c : Ch) : List Value := [.string c.1, .string c.2.2, .bool c.2.1]
def whs (R : List Ch) : List Value := R.reverse.flatMap wch
theorem whs_cons (c : Ch) (R : List Ch) : whs (c :: R) = whs R ++ wch c := by simp [whs]
theorem whs_len : ∀ R : List Ch, (whs R).length = R.length * 3
  | [] => rfl
  | c :: R => by rw [whs_cons, List.length_append, whs_len R, List.length_cons, show (wch c).length = 3 from rfl]; omega
/-- the types of the blocks of the document's store -/
def DocT (T : TypeId) : Prop := T = 31 ∨ T = 137 ∨ T = 189
theorem DocT.foreign {T : TypeId} (h : DocT T) : Foreign T := by
  rcases h with rfl | rfl | rfl <;> exact ⟨by decide, by decide, by decide, by decide⟩
/-- the document's store at m: its entries and its changes (the newest first) -/
structure DS (w W : World) (m : Nat) (L : SL) (R : List Ch) : Prop where
  lt : w.heap.size ≤ m
  l : Below w.heap.size w W
  ex : ∃ vL vP, W.heap[m]? = some (Obj.cells #[vL, vP] 31 (0, 0)) ∧ W.ownsRow w.heap.size 137 2 vL L.length (pcs L) ∧ W.ownsRow w.heap.size 189 3 vP R.length (whs R)
theorem DS.new (w W : World) (h : Below w.heap.size w W) (_vL _vP : Value) (W' : World) (hW : W' = W.alloc (.cells #[.slice none 0 0, .slice none 0 0] 31)) : DS w W' W.heap.size [] [] := by
  subst hW
  exact ⟨h.size, h.alloc h.size _, _, _, heap_alloc_new _ _, World.ownsRow_nil _ _ _ _, World.ownsRow_nil _ _ _ _⟩
theorem DS.keep {w W W' : World} {m : Nat} {L : SL} {R : List Ch} (h : DS w W m L R) (hb : Below w.heap.size w W') (hk : ∀ T, DocT T → KeepT T W W') : DS w W' m L R := by
  obtain ⟨vL, vP, h1, h2, h3⟩ := h.ex
  exact ⟨h.lt, hb, vL, vP, (hk _ (.inl rfl)).2 _ _ _ h1, ownsRow_keepT h2 (hk _ (.inr (.inl rfl))), ownsRow_keepT h3 (hk _ (.inr (.inr rfl)))⟩
theorem DS.below {w W W' : World} {m : Nat} {L : SL} {R : List Ch} (h : DS w W m L R) (hb : Below W.heap.size W W') : DS w W' m L R :=
  h.keep (h.l.trans (hb.mono h.l.size)) fun _ _ => KeepT.of_below hb
theorem DS.dl {w W : World} {m : Nat} {L : SL} {R : List Ch} (h : DS w W m L R) : DL W m L := by
  obtain ⟨vL, vP, h1, h2, h3⟩ := h.ex
  obtain ⟨A, C, rfl, hr⟩ := row_pairs h2
  exact ⟨A, C, (hp_cell (i := 0) h1).trans rfl, hp_lt h1, fun hp => by obtain ⟨g, e, _, hg, hc⟩ := hr hp; exact ⟨g, e, hg, hc⟩⟩
/-- what a call of the document's leaves -/
structure DSTo (w W W' : World) (m : Nat) (L : SL) (R : List Ch) : Prop where
  s : DS w W' m L R
  ex : ∃ G, Touch G W W' ∧ ∀ g ∈ G, w.heap.size ≤ g ∧ ∃ cs T fr, W.heap[g]? = some (Obj.cells cs T fr) ∧ DocT T ∧ T ≠ 137
theorem DSTo.keepT {w W W' : World} {m : Nat} {L : SL} {R : List Ch} (h : DSTo w W W' m L R) {T : TypeId} (hT : T ≠ 31 ∧ T ≠ 189) : KeepT T W W' := by
  obtain ⟨G, ht, hG⟩ := h.ex
  exact ht.keepT fun k hk cs fr e => by
    obtain ⟨_, cs', T', fr', h1, h2⟩ := hG k hk
    rw [e] at h1; cases h1
    rcases h2.1 with h3 | h3 | h3
    · exact hT.1 h3
    · exact h2.2 h3
    · exact hT.2 h3
theorem DSTo.refl {w W : World} {m : Nat} {L : SL} {R : List Ch} (h : DS w W m L R) : DSTo w W W m L R := ⟨h, [], Touch.of_below (Below.refl _ _), fun g hg => by cases hg⟩
theorem DSTo.of_below {w W W' : World} {m : Nat} {L : SL} {R : List Ch} (h : DS w W m L R) (hb : Below W.heap.size W W') : DSTo w W W' m L R := ⟨h.below hb, [], Touch.of_below hb, fun g hg => by cases hg⟩
theorem SH.other {w W W' : World} {b m : Nat} {F : List Nat} {L L' : SL} {R R' : List Ch} (h : SH w W b F L R) (hd : DSTo w W W' m L' R') : SH w W' b F L R := by
  obtain ⟨G, ht, hG⟩ := hd.ex
  exact ⟨h.s.other G ht fun g hg => by
    obtain ⟨h1, cs, T, fr, h2, h3⟩ := hG g hg
    exact ⟨h1, cs, T, fr, h2, h3.1.foreign⟩, h.o, h.z⟩
theorem SHTo.keepT {w W W' : World} {b : Nat} {F : List Nat} {L L' : SL} {R R' : List Ch} (hs : SH w W b F L R) (h : SHTo w W W' b F L' R') {T : TypeId} (hT : Foreign T) : KeepT T W W' := by
  obtain ⟨_, _, ht, _⟩ := h
  exact ⟨ht.size, fun k cs fr hk => (ht.block k (hp_lt hk) (stp_other hs.s.s hk hT)).trans hk⟩
theorem SHTo.l {w W W' : World} {b : Nat} {F : List Nat} {L : SL} {R : List Ch} (h : SHTo w W W' b F L R) : Below w.heap.size w W' := by
  obtain ⟨_, h, _⟩ := h
  exact h.s.l
theorem DS.other {w W W' : World} {b m : Nat} {F : List Nat} {L L1 L' : SL} {R R1 R' : List Ch} (h : DS w W m L' R') (hs : SH w W b F L1 R1) (hd : SHTo w W W' b F L R) : DS w W' m L' R' :=
  h.keep hd.l fun _ hT => SHTo.keepT hs hd hT.foreign
end Go.Proofs.Ytffipojlpdphiaa

namespace Go.Proofs.Ytffipojlpdphiaa
open Go.RowKit

theorem set4_row {w : World} {g : Nat} {t : TypeId} {a b c d : Value} (x0 x1 x2 x3 : Value) (h : w.heap[g]? = some (.cells #[a, b, c, d] t (0, 0))) :
    ((((w.setCell ⟨g, 0, none⟩ x0).setCell ⟨g, 1, none⟩ x1).setCell ⟨g, 2, none⟩ x2).setCell ⟨g, 3, none⟩ x3).heap[g]? = some (.cells #[x0, x1, x2, x3] t (0, 0)) :=
  heap_setCell_row (heap_setCell_row (heap_setCell_row (heap_setCell_row h x0) x1) x2) x3
theorem set4_far {w : World} {g g' : Nat} (x0 x1 x2 x3 : Value) (hne : g ≠ g') {o : Obj} (h : w.heap[g']? = some o) :
    ((((w.setCell ⟨g, 0, none⟩ x0).setCell ⟨g, 1, none⟩ x1).setCell ⟨g, 2, none⟩ x2).setCell ⟨g, 3, none⟩ x3).heap[g']? = some o := by
  rw [Below.heap_setCell _ _ _ _ hne.symm, Below.heap_setCell _ _ _ _ hne.symm, Below.heap_setCell _ _ _ _ hne.symm, Below.heap_setCell _ _ _ _ hne.symm]
  exact h
end Go.Proofs.Ytffipojlpdphiaa

namespace Go.Proofs.Ytffipojlpdphiaa
open Go.RowKit Go.Maps Go.Sort

set_option maxRecDepth 100000 in
theorem istok_any (t : Int) (w : World) : Calls Try.prog 91 #[.int .i64 t] w fun e w' => e = .returned (.bool (decide (1 ≤ t ∧ t ≤ 1000))) ∧ w = w' := by
  by_cases h1 : 1 ≤ t
  · by_cases h2 : t ≤ 1000
    · rw [decide_eq_true ⟨h1, h2⟩]
      go_enter Try.func91, Try.ntmps91
      go_wp2
      go_ret
      exact ⟨rfl, rfl⟩
    · rw [decide_eq_false (fun h => h2 h.2)]
      go_enter Try.func91, Try.ntmps91
      go_wp2
      go_ret
      exact ⟨rfl, rfl⟩
  · rw [decide_eq_false (fun h => h1 h.1)]
    go_enter Try.func91, Try.ntmps91
    go_wp2
    go_ret
    exact ⟨rfl, rfl⟩
set_option maxRecDepth 100000 in
theorem bgood_any (t a : Int) (w : World) : Calls Try.prog 81 #[.int .i64 t, .int .i64 a] w fun e w' => e = .returned (.bool (decide ((1 ≤ t ∧ t ≤ 1000) ∧ 1 ≤ a ∧ a ≤ 4294967295))) ∧ w = w' := by
  have HT := Lib.hid (istok_any t w)
  by_cases h0 : 1 ≤ t ∧ t ≤ 1000
  · rw [decide_eq_true h0] at HT
    by_cases h1 : 1 ≤ a
    · by_cases h2 : a ≤ 4294967295
      · rw [decide_eq_true ⟨h0, h1, h2⟩]
        clear h0
        go_enter Try.func81, Try.ntmps81
        go_wp2_with (go_at_call 91; refine HT.out.mono ?_; rintro e w1 ⟨rfl, rfl⟩)
        go_ret
        exact ⟨rfl, rfl⟩
      · rw [decide_eq_false (fun h => h2 h.2.2)]
        clear h0
        go_enter Try.func81, Try.ntmps81
        go_wp2_with (go_at_call 91; refine HT.out.mono ?_; rintro e w1 ⟨rfl, rfl⟩)
        go_ret
        exact ⟨by show Ending.returned (.bool (decide (a ≤ 4294967295))) = _; rw [decide_eq_false (by omega)], rfl⟩
    · rw [decide_eq_false (fun h => h1 h.2.1)]
      clear h0
      go_enter Try.func81, Try.ntmps81
      go_wp2_with (go_at_call 91; refine HT.out.mono ?_; rintro e w1 ⟨rfl, rfl⟩)
      go_ret
      exact ⟨rfl, rfl⟩
  · rw [decide_eq_false h0] at HT
    rw [decide_eq_false (fun h => h0 h.1)]
    clear h0
    go_enter Try.func81, Try.ntmps81
    go_wp2_with (go_at_call 91; refine HT.out.mono ?_; rintro e w1 ⟨rfl, rfl⟩)
    go_ret
    exact ⟨rfl, rfl⟩
set_option maxRecDepth 100000 in
theorem account_is (t a : Int) (K : ByteArray) (hK : keyStr 1 (two2 t a) 2 = K) (w : World) (ht : t < 2 ^ 63) (ha : a < 2 ^ 63) : Calls Try.prog 85 #[.int .i64 t, .int .i64 a] w fun e w' => e = .returned (.string K) ∧ Below w.heap.size w w' := by
  have HK := Lib.hid (key_is 1 (some ⟨w.heap.size, 0, none⟩) 2 2 (two2 t a) K hK _ (il2 t a w 3 ht ha) (by omega))
  have HB0 := Lib.hid ((Below.refl w.heap.size w).alloc (Nat.le_refl _) (.cells #[.int .i64 t, .int .i64 a] 3))
  clear hK ht ha
  go_enter Try.func85, Try.ntmps85
  go_wp2_with (go_at_call 72; refine HK.out.mono ?_; rintro e w1 ⟨rfl, hb1⟩; have HB1 := Lib.hid (HB0.out.trans (hb1.mono HB0.out.size)); clear hb1)
  go_ret
  exact ⟨rfl, HB1.out⟩
set_option maxRecDepth 100000 in
theorem supply_is (t : Int) (K : ByteArray) (hK : keyStr 2 (fun _ => t) 1 = K) (w : World) (ht : t < 2 ^ 63) : Calls Try.prog 29 #[.int .i64 t] w fun e w' => e = .returned (.string K) ∧ Below w.heap.size w w' := by
  have HK := Lib.hid (key_is 2 (some ⟨w.heap.size, 0, none⟩) 1 1 (fun _ => t) K hK _ (il1 t w 3 ht) (by omega))
  have HB0 := Lib.hid ((Below.refl w.heap.size w).alloc (Nat.le_refl _) (.cells #[.int .i64 t] 3))
  clear hK ht
  go_enter Try.func29, Try.ntmps29
  go_wp2_with (go_at_call 72; refine HK.out.mono ?_; rintro e w1 ⟨rfl, hb1⟩; have HB1 := Lib.hid (HB0.out.trans (hb1.mono HB0.out.size)); clear hb1)
  go_ret
  exact ⟨rfl, HB1.out⟩
set_option maxRecDepth 100000 in
theorem sink_is (t : Int) (K : ByteArray) (hK : keyStr 3 (fun _ => t) 1 = K) (w : World) (ht : t < 2 ^ 63) : Calls Try.prog 95 #[.int .i64 t] w fun e w' => e = .returned (.string K) ∧ Below w.heap.size w w' := by
  have HK := Lib.hid (key_is 3 (some ⟨w.heap.size, 0, none⟩) 1 1 (fun _ => t) K hK _ (il1 t w 3 ht) (by omega))
  have HB0 := Lib.hid ((Below.refl w.heap.size w).alloc (Nat.le_refl _) (.cells #[.int .i64 t] 3))
  clear hK ht
  go_enter Try.func95, Try.ntmps95
  go_wp2_with (go_at_call 72; refine HK.out.mono ?_; rintro e w1 ⟨rfl, hb1⟩; have HB1 := Lib.hid (HB0.out.trans (hb1.mono HB0.out.size)); clear hb1)
  go_ret
  exact ⟨rfl, HB1.out⟩
set_option maxRecDepth 100000 in
theorem pool_is (t : Int) (K : ByteArray) (hK : keyStr 4 (fun _ => t) 1 = K) (w : World) (ht : t < 2 ^ 63) : Calls Try.prog 96 #[.int .i64 t] w fun e w' => e = .returned (.string K) ∧ Below w.heap.size w w' := by
  have HK := Lib.hid (key_is 4 (some ⟨w.heap.size, 0, none⟩) 1 1 (fun _ => t) K hK _ (il1 t w 3 ht) (by omega))
  have HB0 := Lib.hid ((Below.refl w.heap.size w).alloc (Nat.le_refl _) (.cells #[.int .i64 t] 3))
  clear hK ht
  go_enter Try.func96, Try.ntmps96
  go_wp2_with (go_at_call 72; refine HK.out.mono ?_; rintro e w1 ⟨rfl, hb1⟩; have HB1 := Lib.hid (HB0.out.trans (hb1.mono HB0.out.size)); clear hb1)
  go_ret
  exact ⟨rfl, HB1.out⟩
/-! ### the sum -/
/-- the two boxes of Total: the sum so far, and that it fits -/
structure Tot (w : World) (g6 g7 S : Nat) : Prop where
  s : w.heap[g6]? = some (.cells #[.int .u64 (limb S 0 : Nat), .int .u64 (limb S 1 : Nat), .int .u64 (limb S 2 : Nat), .int .u64 (limb S 3 : Nat)] 52 (0, 0))
  f : w.heap[g7]? = some (.cells #[.bool true] 4 (0, 0))
theorem Tot.below {w w' : World} {g6 g7 S : Nat} (h : Tot w g6 g7 S) (hb : Below w.heap.size w w') : Tot w' g6 g7 S := ⟨(hb.block _ (hp_lt h.s)).trans h.s, (hb.block _ (hp_lt h.f)).trans h.f⟩
set_option maxRecDepth 100000 in
set_option maxHeartbeats 2000000 in
theorem tell_walk (S a g6 g7 : Nat) (w : World) (ha : a < 2 ^ 256) (hS : S + a < 2 ^ 256) (h : Tot w g6 g7 S) (hne : g6 ≠ g7) :
    Calls Try.prog 93 #[U a, .pointer (some ⟨g7, 0, none⟩), .pointer (some ⟨g6, 0, none⟩)] w fun e w' => e = .returned (.tuple #[]) ∧ Tot w' g6 g7 (S + a) ∧ Touch [g6, g7] w w' := by
  have hA : ∀ W, Calls Try.prog 94 #[U S, U a] W fun e w' => e = .returned (.tuple #[U (S + a), .bool true]) ∧ Below W.heap.size W w' := fun W => (add_walk S a W (by omega) ha).mono fun e w' hh => by
    obtain ⟨he, hb⟩ := hh
    rw [if_pos hS, decide_eq_true hS] at he
    exact ⟨he, hb⟩
  unfold U at hA
  have HA := Lib.hid hA
  have hb0 := (Below.refl w.heap.size w).alloc (Nat.le_refl _) (.cells #[.int .u64 (limb a 0 : Nat), .int .u64 (limb a 1 : Nat), .int .u64 (limb a 2 : Nat), .int .u64 (limb a 3 : Nat)] 52)
  have h0 := h.below hb0
  have H0 := Lib.hid (And.intro hb0 h0)
  have l6 := hp_lt h.s
  have l7 := hp_lt h.f
  have s0 := (hp_cell (i := 0) h0.s).trans rfl
  have s1 := (hp_cell (i := 1) h0.s).trans rfl
  have s2 := (hp_cell (i := 2) h0.s).trans rfl
  have s3 := (hp_cell (i := 3) h0.s).trans rfl
  have s7 := (hp_cell (i := 0) h0.f).trans rfl
  obtain ⟨r, hr⟩ : ∃ r, r = S + a := ⟨_, rfl⟩
  rw [← hr] at HA ⊢
  have HNE := Lib.hid hne
  clear hb0 h0 hA hr ha hS h hne
  unfold U
  go_enter Try.func93, Try.ntmps93
  go_wp2_with (go_at_call 94; refine (HA.out _).mono ?_; rintro e w2 ⟨rfl, hb2⟩; have ht := H0.out.2.below hb2; have H2 := Lib.hid (And.intro (H0.out.1.trans (hb2.mono H0.out.1.size)) ht); have d0 := (hp_cell (i := 0) ht.s).trans rfl; have d1 := (hp_cell (i := 1) ht.s).trans rfl; have d2 := (hp_cell (i := 2) ht.s).trans rfl; have d3 := (hp_cell (i := 3) ht.s).trans rfl; have rs := set4_far (.int .u64 (limb r 0 : Nat)) (.int .u64 (limb r 1 : Nat)) (.int .u64 (limb r 2 : Nat)) (.int .u64 (limb r 3 : Nat)) HNE.out ht.f; have d7 := (hp_cell (i := 0) rs).trans rfl; have g0 := hp_free (i := 0) ht.s; have g1 := hp_free (i := 1) ht.s; have g2 := hp_free (i := 2) ht.s; have g3 := hp_free (i := 3) ht.s; have gf := hp_free (i := 0) rs; clear hb2 ht rs)
  go_end0
  refine ⟨rfl, ⟨?_, ?_⟩, ?_⟩
  · rw [Below.heap_setCell _ _ _ _ HNE.out]
    exact set4_row _ _ _ _ H2.out.2.s
  · exact heap_setCell_row (set4_far _ _ _ _ HNE.out H2.out.2.f) (.bool true)
  · exact ((Touch.of_below H2.out.1).trans (fun _ hk => .inl hk) (touch_set4 (by simp))).trans (fun _ hk => .inl hk) (Touch.setCell _ _ _ (by simp))
end Go.Proofs.Ytffipojlpdphiaa
