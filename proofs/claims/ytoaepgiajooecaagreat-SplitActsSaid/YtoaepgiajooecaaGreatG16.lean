/- The document's Same of two rows of pairs. -/
import Derived.Test.YtoaepgiajooecaaGreatG15
import Derived.Test.YtoaepgiajooecaaGreatG10
import Derived.Test.YtoaepgiajooecaaGreatG06
import Derived.Test.YtoaepgiajooecaaGreatG14
import Derived.Laws.StructEq
import Derived.OwnWalk
import Derived.Laws.AppendOwnNone
namespace Go.Proofs.YtoaepgiajooecaaGreat
open Go.RowKit Go.Maps Go.Sort

/-- a row of pairs at A -/
def Pr (w : World) (A : Option Addr) (l : SL) : Prop := 0 < l.length → ∃ g, A = some ⟨g, 0, none⟩ ∧ g < w.heap.size ∧ ∀ j (h : j < l.length), w.cell? ⟨g, j * 2, none⟩ = some (.string l[j].1) ∧ w.cell? ⟨g, j * 2 + 1, none⟩ = some (.string l[j].2)
theorem Pr.below {w w' : World} {A : Option Addr} {l : SL} (h : Pr w A l) (hb : Below w.heap.size w w') : Pr w' A l := fun hp => by
  obtain ⟨g, e, hg, hc⟩ := h hp
  exact ⟨g, e, Nat.lt_of_lt_of_le hg hb.size, fun j hj => ⟨(hb.cell (p := ⟨g, j * 2, none⟩) hg).trans (hc j hj).1, (hb.cell (p := ⟨g, j * 2 + 1, none⟩) hg).trans (hc j hj).2⟩⟩
theorem Pr.of {w : World} {B : Nat} {v : Value} {l : SL} (h : w.ownsRow B 65 2 v l.length (pcs l)) : ∃ A C, v = .slice A l.length C ∧ Pr w A l := by
  obtain ⟨A, C, e, h⟩ := row_pairs h
  exact ⟨A, C, e, fun hp => by obtain ⟨g, h1, _, h2, h3⟩ := h hp; exact ⟨g, h1, h2, h3⟩⟩
theorem str_ne2 {a b : ByteArray} (h : a ≠ b) : (a.toList == b.toList) = false := by
  rw [beq_eq_false_iff_ne, Lib.toList_data, Lib.toList_data]
  exact fun e => h (lit_inj (congrArg Lit.string e))
theorem pair_und : Tryz.prog.underlying 65 = some (.struct (Tryz.prog.fieldsOf 65)) := by kernel_rfl
theorem pair_held : Tryz.prog.stoodInHeld 65 = false := by kernel_rfl
theorem pair_guard : Tryz.prog.eqGuardType Tryz.prog.depth 65 = false := by kernel_rfl
set_option maxRecDepth 100000 in
theorem pair_ne (k v k' v' : ByteArray) (w : World) : (binOp .neq 65 (.agg #[.string k, .string v]) (.agg #[.string k', .string v'])).run Tryz.prog w = .ok (.bool (!((k.toList == k'.toList) && (v.toList == v'.toList)))) w := by
  have hm : (Tryz.prog.fieldsOf 65).toList.map (fun f => (f.name, f.offset, f.type)) = [("Key", 0, 9), ("Value", 1, 9)] := by kernel_rfl
  obtain ⟨fs, hf⟩ : ∃ y, y = (Tryz.prog.fieldsOf 65).toList := ⟨_, rfl⟩
  rw [← hf] at hm
  match fs, hm with
  | [f0, f1], hm =>
  simp only [List.map_cons, List.map_nil, List.cons.injEq, Prod.mk.injEq, and_true] at hm
  obtain ⟨⟨n0, o0, t0⟩, n1, o1, t1⟩ := hm
  rw [run_neq_struct, run_equalIn_agg _ _ _ _ _ pair_und pair_held, ← hf]
  cases h1 : (k.toList == k'.toList) <;> cases h2 : (v.toList == v'.toList) <;> simp [Op.eqFields, n0, o0, t0, n1, o1, t1, go_sem, h1, h2]
set_option maxRecDepth 100000 in
set_option maxHeartbeats 4000000 in
theorem same_walk (A B : Option Addr) (C D : Nat) (l m : SL) (w : World) (hl : Pr w A l) (hm : Pr w B m) (hN : l.length < 1000000) (T : Bool) (hT : T = true ↔ l = m) :
    Calls Tryz.prog 10 #[.slice A l.length C, .slice B m.length D] w fun e w' => e = .returned (.bool T) ∧ Below w.heap.size w w' := by
  by_cases hlen : l.length = m.length
  · have HT := Lib.hid hT
    have HL := Lib.hid (And.intro hl hm)
    have HLen := Lib.hid hlen
    obtain ⟨n, hn⟩ : ∃ n, n = l.length := ⟨_, rfl⟩
    rw [← hlen, ← hn]
    rw [← hn] at hN
    clear hT hl hm hlen
    have HN := Lib.hid hn
    clear hn
    go_enter Tryz.func10, Tryz.ntmps10
    go_wp2
    go_loopw [13] (fun i wr => ∃ j : Nat, j ≤ n ∧ i = .int .i64 (j : Nat) ∧ (∀ t (h1 : t < l.length) (h2 : t < m.length), t < j → l[t] = m[t]) ∧ Below w.heap.size w wr) (fun i _ => n - (intOf i).toNat)
    case atStart => exact ⟨0, Nat.zero_le _, rfl, fun t _ _ h => absurd h (Nat.not_lt_zero _), Below.refl _ _⟩
    case round =>
      obtain ⟨j, hj, rfl, hall, hbb⟩ := hrel
      have HB := Lib.hid hbb
      by_cases hlt : j < n
      · have p2 : (j : Int) < (n : Int) := by omega
        have h1 : j < l.length := by have := HN.out; omega
        have h2 : j < m.length := by have := HN.out; have := HLen.out; omega
        obtain ⟨g1, rfl, _, c1⟩ := (HL.out.1.below hbb) (by omega)
        obtain ⟨g2, rfl, _, c2⟩ := (HL.out.2.below hbb) (by omega)
        have a0 := (c1 j h1).1
        have a1 := (c1 j h1).2
        have b0 := (c2 j h2).1
        have b1 := (c2 j h2).2
        obtain ⟨p, ep⟩ : ∃ y, y = l[j] := ⟨_, rfl⟩
        obtain ⟨p', ep'⟩ : ∃ y, y = m[j] := ⟨_, rfl⟩
        rw [← ep] at a0 a1
        rw [← ep'] at b0 b1
        obtain ⟨k, v⟩ := p
        obtain ⟨k', v'⟩ := p'
        simp only at a0 a1 b0 b1
        have HE := Lib.hid (And.intro hall (And.intro ep ep'))
        clear hall c1 c2 ep ep' hbb
        have q9 := pair_ne k v k' v'
        have q8 := pair_guard
        go_upto_region 6 with fail
        have hne : ¬ ((k, v) = (k', v')) → T = false := fun hne => by
          cases hTv : T with
          | false => rfl
          | true =>
            have e := HT.out.1 hTv
            subst e
            exact absurd (HE.out.2.1.trans HE.out.2.2.symm) hne
        have HNE := Lib.hid hne
        clear hne
        by_cases hk : k = k'
        · have r1 : (k.toList == k'.toList) = true := by rw [hk]; exact beq_self_eq_true _
          have HK := Lib.hid hk
          clear hk
          by_cases hv : v = v'
          · have r2 : (v.toList == v'.toList) = true := by rw [hv]; exact beq_self_eq_true _
            have HV := Lib.hid hv
            clear hv
            go_quiet (fail)
            go_wp2
            refine ⟨⟨j + 1, by omega, by go_num, fun t t1 t2 ht => ?_, ?_⟩, by simp [intOf]; omega⟩
            · rcases (by omega : t < j ∨ t = j) with h | rfl
              · exact HE.out.1 t t1 t2 h
              · rw [← HE.out.2.1, ← HE.out.2.2, HK.out, HV.out]
            · exact below_drewN HB.out _
          · have r2 := str_ne2 hv
            obtain rfl : T = false := HNE.out fun e => hv (Prod.mk.inj e).2
            go_quiet (fail)
            go_wp2
            go_ret
            exact ⟨rfl, below_drewN HB.out _⟩
        · have r1 := str_ne2 hk
          obtain rfl : T = false := HNE.out fun e => hk (Prod.mk.inj e).1
          go_quiet (fail)
          go_wp2
          go_ret
          exact ⟨rfl, below_drewN HB.out _⟩
      · obtain rfl : j = n := by omega
        have p2 : ¬ (j : Int) < (j : Int) := by omega
        obtain rfl : T = true := HT.out.2 (List.ext_getElem HLen.out fun t t1 t2 => hall t t1 t2 (by have := HN.out; omega))
        clear hall hbb
        go_wp2
        go_ret
        exact ⟨rfl, HB.out⟩
  · obtain rfl : T = false := by
      cases hTv : T with
      | false => rfl
      | true => exact absurd (congrArg List.length (hT.1 hTv)) hlen
    obtain ⟨a, ha⟩ : ∃ a, a = l.length := ⟨_, rfl⟩
    obtain ⟨b, hb⟩ : ∃ b, b = m.length := ⟨_, rfl⟩
    rw [← ha, ← hb]
    have p1 : ((a : Int) == (b : Int)) = false := beq_eq_false_iff_ne.2 (by omega)
    have p2 : ¬ (a : Int) = (b : Int) := by omega
    have p3 : ¬ a = b := by omega
    clear hT hlen hl hm hN ha hb
    go_enter Tryz.func10, Tryz.ntmps10
    go_wp2
    go_ret
    exact ⟨rfl, Below.refl _ _⟩
end Go.Proofs.YtoaepgiajooecaaGreat

namespace Go.Proofs.YtoaepgiajooecaaGreat
open Go.RowKit Go.Maps Go.Sort

theorem pre_ge : ∀ (k x : List UInt8), Lib.hasPrefix k x = true → ¬ k < x
  | _, [], _, h => List.not_lt_nil _ h
  | [], b :: x, hp, _ => by simp [Lib.hasPrefix] at hp
  | a :: k, b :: x, hp, h => by
    simp [Lib.hasPrefix] at hp
    obtain ⟨e, hp⟩ := hp
    subst e
    rcases List.cons_lt_cons_iff.1 h with h | ⟨_, h⟩
    · exact absurd h (UInt8.lt_irrefl _)
    · exact pre_ge k x (by simpa [Lib.hasPrefix] using hp) h
theorem pre_between : ∀ (x k k' : List UInt8), ¬ k < x → k < k' → Lib.hasPrefix k' x = true → Lib.hasPrefix k x = true
  | [], k, _, _, _, _ => by simp [Lib.hasPrefix]
  | b :: x, [], _, h, _, _ => absurd (List.nil_lt_cons _ _) h
  | b :: x, a :: k, [], _, _, hp => by simp [Lib.hasPrefix] at hp
  | b :: x, a :: k, c :: k', h, hl, hp => by
    simp [Lib.hasPrefix] at hp
    obtain ⟨e, hp⟩ := hp
    subst e
    have hba : ¬ a < b := fun h2 => h (List.cons_lt_cons_iff.2 (.inl h2))
    rcases List.cons_lt_cons_iff.1 hl with h2 | ⟨h2, h3⟩
    · exact absurd h2 hba
    · subst h2
      have := pre_between x k k' (fun h4 => h (List.cons_lt_cons_iff.2 (.inr ⟨rfl, h4⟩))) h3 (by simpa [Lib.hasPrefix] using hp)
      simpa [Lib.hasPrefix] using this
theorem tw_count (x : ByteArray) : ∀ D : SL, Rising (skeys D) → (∀ p ∈ D, ¬ p.1.data.toList < x.data.toList) → (D.takeWhile (hpre x)).length = D.countP (hpre x)
  | [], _, _ => rfl
  | p :: r, hr, hg => by
    have hr2 : Rising (skeys r) := (List.pairwise_cons.1 hr).2
    cases hp : hpre x p with
    | true =>
      rw [List.takeWhile_cons, hp, List.countP_cons_of_pos hp]
      simp only [if_true, List.length_cons]
      rw [tw_count x r hr2 (fun q hq => hg q (List.mem_cons_of_mem _ hq))]
    | false =>
      rw [List.takeWhile_cons, hp, List.countP_cons_of_neg (by rw [hp]; decide)]
      have : r.countP (hpre x) = 0 := List.countP_eq_zero.2 fun q hq h => by
        have hlt : p.1.data.toList < q.1.data.toList := (List.pairwise_cons.1 hr).1 q.1 (List.mem_map.2 ⟨q, hq, rfl⟩)
        have := pre_between x.data.toList p.1.data.toList q.1.data.toList (hg p (by simp)) hlt h
        unfold hpre at hp
        rw [hp] at this
        cases this
      rw [this]
      rfl
theorem under_count {L : SL} (hr : Rising (skeys L)) (x : ByteArray) : (under L x).length = L.countP (hpre x) := by
  obtain ⟨h1, h2⟩ := klo_parts x (skeys L) hr
  obtain ⟨m, em⟩ : ∃ m, m = klo (skeys L) x := ⟨_, rfl⟩
  unfold under
  rw [← em] at h1 h2 ⊢
  have hd : Rising (skeys (L.drop m)) := by
    unfold Rising skeys at hr ⊢
    rw [List.map_drop]
    exact hr.sublist (List.drop_sublist _ _)
  rw [tw_count x _ hd (fun p hp => h2 p.1 (by unfold skeys; rw [← List.map_drop]; exact List.mem_map.2 ⟨p, hp, rfl⟩))]
  conv => rhs; rw [← List.take_append_drop m L, List.countP_append]
  have : (L.take m).countP (hpre x) = 0 := List.countP_eq_zero.2 fun q hq h => pre_ge _ _ h (h1 q.1 (by unfold skeys; rw [← List.map_take]; exact List.mem_map.2 ⟨q, hq, rfl⟩))
  rw [this, Nat.zero_add]
theorem under_all (L : SL) : under L ⟨#[]⟩ = L := by
  have h0 : klo (skeys L) ⟨#[]⟩ = 0 := klo_zero fun y _ h => List.not_lt_nil _ h
  unfold under
  rw [h0, List.drop_zero]
  rw [takeWhile_here _ L L.length (Nat.le_refl _) (fun j hj _ => by unfold hpre; simp [Lib.hasPrefix]) (fun h => absurd h (Nat.lt_irrefl _)), List.take_length]
set_option maxRecDepth 100000 in
set_option maxHeartbeats 400000 in
/-- All on a live store -/
theorem all_live (b : Nat) (F : List Nat) (L : SL) (q : Nat) (qs : List Value) (W : World) (h : StP W b F L q qs) (hks : ∀ p ∈ L, p.1.size ≤ maxLen) (hN : L.length < 1000000) :
    Calls Tryz.prog 11 #[.pointer (some ⟨b, 0, none⟩)] W fun e w' => (∃ v, e = .returned v ∧ w'.ownsRow W.heap.size 65 2 v L.length (pcs L)) ∧ Below W.heap.size W w' := by
  have HU := under_live b F L q qs W h ⟨#[]⟩ hks hN
  unfold UnPost at HU
  rw [under_all] at HU
  have HU := Lib.hid HU
  clear h hks hN
  go_enter Tryz.func11, Tryz.ntmps11
  go_wp2_with (go_at_call 29; refine HU.out.mono ?_; rintro e w1 ⟨⟨v, rfl, hown⟩, hb⟩; have HO := Lib.hid (And.intro hown hb); clear hown hb)
  go_ret
  exact ⟨⟨v, rfl, HO.out.1⟩, HO.out.2⟩
end Go.Proofs.YtoaepgiajooecaaGreat

namespace Go.Proofs.YtoaepgiajooecaaGreat
open Go.RowKit Go.Maps Go.Sort

theorem sset_parts {L : SL} (hr : Rising (skeys L)) (k v : ByteArray) : sset L k v = L.take (klo (skeys L) k) ++ [(k, v)] ++ L.drop (if (sget L k).isSome = true then klo (skeys L) k + 1 else klo (skeys L) k) := by
  unfold sset
  cases hs : (sget L k).isSome with
  | false => simp
  | true =>
    obtain ⟨h1, h2, h3⟩ := sdel_parts k L hr hs
    simp only [if_true]
    generalize hK : klo (skeys L) k = K at *
    have hne : ∀ p ∈ L.take K ++ L.drop (K + 1), keq p.1 k = false := fun p hp => by
      rw [← h3] at hp
      have := (List.mem_filter.1 hp).2
      simpa using this
    have hk : (L[K]).1 = k := by
      unfold skeys at h2
      rw [List.getElem?_map, List.getElem?_eq_getElem h1] at h2
      exact Option.some.inj h2
    conv => lhs; rw [← List.take_append_drop K L, List.drop_eq_getElem_cons h1, List.map_append, List.map_cons]
    rw [hk, keq_self, if_pos rfl]
    have e1 : (L.take K).map (fun p => if keq p.1 k = true then (k, v) else p) = L.take K := by
      conv => rhs; rw [← List.map_id (L.take K)]
      refine List.map_congr_left fun p hp => ?_
      rw [hne p (List.mem_append_left _ hp)]; rfl
    have e2 : (L.drop (K + 1)).map (fun p => if keq p.1 k = true then (k, v) else p) = L.drop (K + 1) := by
      conv => rhs; rw [← List.map_id (L.drop (K + 1))]
      refine List.map_congr_left fun p hp => ?_
      rw [hne p (List.mem_append_right _ hp)]; rfl
    rw [e1, e2]
    simp
theorem sdel_parts2 {L : SL} (hr : Rising (skeys L)) (k : ByteArray) : sdel L k = L.take (klo (skeys L) k) ++ L.drop (if (sget L k).isSome = true then klo (skeys L) k + 1 else klo (skeys L) k) := by
  cases hs : (sget L k).isSome with
  | true => simp only [if_true]; exact (sdel_parts k L hr hs).2.2
  | false =>
    simp only [Bool.false_eq_true, if_false]
    rw [List.take_append_drop]
    unfold sdel
    rw [List.filter_eq_self]
    intro p hp
    simp [sget_none hs p hp]
theorem tw_filter {α : Type} (P : α → Bool) (D : List α) (h : (D.takeWhile P).length = D.countP P) : D.takeWhile P = D.filter P := by
  have h1 : (D.takeWhile P).filter P = D.takeWhile P := List.filter_eq_self.2 fun a ha => by
    have := List.all_takeWhile (p := P) (l := D)
    exact (List.all_eq_true.1 this) a ha
  have h2 : ((D.takeWhile P).filter P).Sublist (D.filter P) := (List.takeWhile_sublist P).filter P
  rw [h1] at h2
  exact h2.eq_of_length (by rw [h, List.countP_eq_length_filter])
theorem under_filter {L : SL} (hr : Rising (skeys L)) (x : ByteArray) : under L x = L.filter (hpre x) := by
  obtain ⟨h1, h2⟩ := klo_parts x (skeys L) hr
  obtain ⟨m, em⟩ : ∃ m, m = klo (skeys L) x := ⟨_, rfl⟩
  unfold under
  rw [← em] at h1 h2 ⊢
  have hd : Rising (skeys (L.drop m)) := by
    unfold Rising skeys at hr ⊢
    rw [List.map_drop]
    exact hr.sublist (List.drop_sublist _ _)
  rw [tw_filter _ _ (tw_count x _ hd (fun p hp => h2 p.1 (by unfold skeys; rw [← List.map_drop]; exact List.mem_map.2 ⟨p, hp, rfl⟩)))]
  conv => rhs; rw [← List.take_append_drop m L, List.filter_append]
  have : (L.take m).filter (hpre x) = [] := List.filter_eq_nil_iff.2 fun q hq h => pre_ge _ _ h (h1 q.1 (by unfold skeys; rw [← List.map_take]; exact List.mem_map.2 ⟨q, hq, rfl⟩))
  rw [this, List.nil_append]
/-- the cells of the document's changes -/
def wch (c : Ch) : List Value := [.string c.1, .string c.2.2, .bool c.2.1]
def whs (R : List Ch) : List Value := R.reverse.flatMap wch
theorem whs_cons (c : Ch) (R : List Ch) : whs (c :: R) = whs R ++ wch c := by simp [whs]
theorem whs_len : ∀ R : List Ch, (whs R).length = R.length * 3
  | [] => rfl
  | c :: R => by rw [whs_cons, List.length_append, whs_len R, List.length_cons, show (wch c).length = 3 from rfl]; omega
/-- the types of the blocks of the document's store -/
def DocT (T : TypeId) : Prop := T = 40 ∨ T = 65 ∨ T = 136
theorem DocT.foreign {T : TypeId} (h : DocT T) : Foreign T := by
  rcases h with rfl | rfl | rfl <;> exact ⟨by decide, by decide, by decide, by decide⟩
/-- the document's store at m: its entries and its changes (the newest first) -/
structure DS (w W : World) (m : Nat) (L : SL) (R : List Ch) : Prop where
  lt : w.heap.size ≤ m
  l : Below w.heap.size w W
  ex : ∃ vL vP, W.heap[m]? = some (Obj.cells #[vL, vP] 40 (0, 0)) ∧ W.ownsRow w.heap.size 65 2 vL L.length (pcs L) ∧ W.ownsRow w.heap.size 136 3 vP R.length (whs R)
theorem DS.new (w W : World) (h : Below w.heap.size w W) (_vL _vP : Value) (W' : World) (hW : W' = W.alloc (.cells #[.slice none 0 0, .slice none 0 0] 40)) : DS w W' W.heap.size [] [] := by
  subst hW
  exact ⟨h.size, h.alloc h.size _, _, _, heap_alloc_new _ _, World.ownsRow_nil _ _ _ _, World.ownsRow_nil _ _ _ _⟩
theorem DS.keep {w W W' : World} {m : Nat} {L : SL} {R : List Ch} (h : DS w W m L R) (hb : Below w.heap.size w W') (hk : ∀ T, DocT T → KeepT T W W') : DS w W' m L R := by
  obtain ⟨vL, vP, h1, h2, h3⟩ := h.ex
  exact ⟨h.lt, hb, vL, vP, (hk _ (.inl rfl)).2 _ _ _ h1, ownsRow_keepT h2 (hk _ (.inr (.inl rfl))), ownsRow_keepT h3 (hk _ (.inr (.inr rfl)))⟩
theorem DS.below {w W W' : World} {m : Nat} {L : SL} {R : List Ch} (h : DS w W m L R) (hb : Below W.heap.size W W') : DS w W' m L R :=
  h.keep (h.l.trans (hb.mono h.l.size)) fun _ _ => KeepT.of_below hb
theorem DS.dl {w W : World} {m : Nat} {L : SL} {R : List Ch} (h : DS w W m L R) : DL W m L := by
  obtain ⟨vL, vP, h1, h2, h3⟩ := h.ex
  obtain ⟨A, C, rfl, hr⟩ := row_pairs h2
  exact ⟨A, C, (hp_cell (i := 0) h1).trans rfl, hp_lt h1, fun hp => by obtain ⟨g, e, _, hg, hc⟩ := hr hp; exact ⟨g, e, hg, hc⟩⟩
/-- what a call of the document's leaves -/
structure DSTo (w W W' : World) (m : Nat) (L : SL) (R : List Ch) : Prop where
  s : DS w W' m L R
  ex : ∃ G, Touch G W W' ∧ ∀ g ∈ G, w.heap.size ≤ g ∧ ∃ cs T fr, W.heap[g]? = some (Obj.cells cs T fr) ∧ DocT T ∧ T ≠ 65
theorem DSTo.keepT {w W W' : World} {m : Nat} {L : SL} {R : List Ch} (h : DSTo w W W' m L R) {T : TypeId} (hT : T ≠ 40 ∧ T ≠ 136) : KeepT T W W' := by
  obtain ⟨G, ht, hG⟩ := h.ex
  exact ht.keepT fun k hk cs fr e => by
    obtain ⟨_, cs', T', fr', h1, h2⟩ := hG k hk
    rw [e] at h1; cases h1
    rcases h2.1 with h3 | h3 | h3
    · exact hT.1 h3
    · exact h2.2 h3
    · exact hT.2 h3
theorem DSTo.refl {w W : World} {m : Nat} {L : SL} {R : List Ch} (h : DS w W m L R) : DSTo w W W m L R := ⟨h, [], Touch.of_below (Below.refl _ _), fun g hg => by cases hg⟩
theorem DSTo.of_below {w W W' : World} {m : Nat} {L : SL} {R : List Ch} (h : DS w W m L R) (hb : Below W.heap.size W W') : DSTo w W W' m L R := ⟨h.below hb, [], Touch.of_below hb, fun g hg => by cases hg⟩
theorem SH.other {w W W' : World} {b m : Nat} {F : List Nat} {L L' : SL} {R R' : List Ch} (h : SH w W b F L R) (hd : DSTo w W W' m L' R') : SH w W' b F L R := by
  obtain ⟨G, ht, hG⟩ := hd.ex
  exact ⟨h.s.other G ht fun g hg => by
    obtain ⟨h1, cs, T, fr, h2, h3⟩ := hG g hg
    exact ⟨h1, cs, T, fr, h2, h3.1.foreign⟩, h.o, h.z⟩
theorem SHTo.keepT {w W W' : World} {b : Nat} {F : List Nat} {L L' : SL} {R R' : List Ch} (hs : SH w W b F L R) (h : SHTo w W W' b F L' R') {T : TypeId} (hT : Foreign T) : KeepT T W W' := by
  obtain ⟨_, _, ht, _⟩ := h
  exact ⟨ht.size, fun k cs fr hk => (ht.block k (hp_lt hk) (stp_other hs.s.s hk hT)).trans hk⟩
theorem SHTo.l {w W W' : World} {b : Nat} {F : List Nat} {L : SL} {R : List Ch} (h : SHTo w W W' b F L R) : Below w.heap.size w W' := by
  obtain ⟨_, h, _⟩ := h
  exact h.s.l
theorem DS.other {w W W' : World} {b m : Nat} {F : List Nat} {L L1 L' : SL} {R R1 R' : List Ch} (h : DS w W m L' R') (hs : SH w W b F L1 R1) (hd : SHTo w W W' b F L R) : DS w W' m L' R' :=
  h.keep hd.l fun _ hT => SHTo.keepT hs hd hT.foreign
end Go.Proofs.YtoaepgiajooecaaGreat
