/- Rows of pairs that were made: how they are read. -/
import Derived.Test.YtffipojlpdphiaaG23
import Derived.Test.YtffipojlpdphiaaG09
import Derived.Laws.StructEq
namespace Go.Proofs.Ytffipojlpdphiaa
open Go.RowKit Go.Maps Go.Sort

theorem pcs_at : ∀ (l : SL) (j : Nat) (h : j < l.length), (pcs l)[j * 2]? = some (.string l[j].1) ∧ (pcs l)[j * 2 + 1]? = some (.string l[j].2)
  | [], j, h => absurd h (Nat.not_lt_zero _)
  | p :: r, 0, _ => ⟨rfl, rfl⟩
  | p :: r, j + 1, h => by
    have ih := pcs_at r j (by simpa using h)
    have e : pcs (p :: r) = .string p.1 :: .string p.2 :: pcs r := rfl
    rw [e]
    refine ⟨?_, ?_⟩
    · rw [show (j + 1) * 2 = j * 2 + 1 + 1 by omega, List.getElem?_cons_succ, List.getElem?_cons_succ]
      simpa using ih.1
    · rw [show (j + 1) * 2 + 1 = j * 2 + 1 + 1 + 1 by omega, List.getElem?_cons_succ, List.getElem?_cons_succ]
      simpa using ih.2
/-- a row of pairs that was made: how it is read -/
theorem row_pairs {w : World} {B : Nat} {v : Value} {l : SL} (h : w.ownsRow B 137 2 v l.length (pcs l)) :
    ∃ A c, v = .slice A l.length c ∧ (0 < l.length → ∃ g, A = some ⟨g, 0, none⟩ ∧ B ≤ g ∧ g < w.heap.size ∧ ∀ j (h : j < l.length), w.cell? ⟨g, j * 2, none⟩ = some (.string l[j].1) ∧ w.cell? ⟨g, j * 2 + 1, none⟩ = some (.string l[j].2)) := by
  rcases h.2 with ⟨rfl, h0⟩ | ⟨g, cap, cur, rfl, hb, hg, r⟩
  · exact ⟨none, 0, by rw [h0], fun hp => by omega⟩
  · exact ⟨_, cap, rfl, fun _ => ⟨g, rfl, hb, hp_lt hg, fun j hj => ⟨ownsRow_cell h rfl (pcs_at l j hj).1, ownsRow_cell h rfl (pcs_at l j hj).2⟩⟩⟩
end Go.Proofs.Ytffipojlpdphiaa

namespace Go.Proofs.Ytffipojlpdphiaa
open Go.RowKit Go.Maps Go.Sort

/-- a row of pairs at A -/
def Pr (w : World) (A : Option Addr) (l : SL) : Prop := 0 < l.length → ∃ g, A = some ⟨g, 0, none⟩ ∧ g < w.heap.size ∧ ∀ j (h : j < l.length), w.cell? ⟨g, j * 2, none⟩ = some (.string l[j].1) ∧ w.cell? ⟨g, j * 2 + 1, none⟩ = some (.string l[j].2)
theorem Pr.below {w w' : World} {A : Option Addr} {l : SL} (h : Pr w A l) (hb : Below w.heap.size w w') : Pr w' A l := fun hp => by
  obtain ⟨g, e, hg, hc⟩ := h hp
  exact ⟨g, e, Nat.lt_of_lt_of_le hg hb.size, fun j hj => ⟨(hb.cell (p := ⟨g, j * 2, none⟩) hg).trans (hc j hj).1, (hb.cell (p := ⟨g, j * 2 + 1, none⟩) hg).trans (hc j hj).2⟩⟩
theorem Pr.of {w : World} {B : Nat} {v : Value} {l : SL} (h : w.ownsRow B 137 2 v l.length (pcs l)) : ∃ A C, v = .slice A l.length C ∧ Pr w A l := by
  obtain ⟨A, C, e, h⟩ := row_pairs h
  exact ⟨A, C, e, fun hp => by obtain ⟨g, h1, _, h2, h3⟩ := h hp; exact ⟨g, h1, h2, h3⟩⟩
theorem str_ne2 {a b : ByteArray} (h : a ≠ b) : (a.toList == b.toList) = false := by
  rw [beq_eq_false_iff_ne, Lib.toList_data, Lib.toList_data]
  exact fun e => h (lit_inj (congrArg Lit.string e))
theorem pair_und : Try.prog.underlying 137 = some (.struct (Try.prog.fieldsOf 137)) := by kernel_rfl
theorem pair_held : Try.prog.stoodInHeld 137 = false := by kernel_rfl
theorem pair_guard : Try.prog.eqGuardType Try.prog.depth 137 = false := by kernel_rfl
set_option maxRecDepth 100000 in
theorem pair_ne (k v k' v' : ByteArray) (w : World) : (binOp .neq 137 (.agg #[.string k, .string v]) (.agg #[.string k', .string v'])).run Try.prog w = .ok (.bool (!((k.toList == k'.toList) && (v.toList == v'.toList)))) w := by
  have hm : (Try.prog.fieldsOf 137).toList.map (fun f => (f.name, f.offset, f.type)) = [("Key", 0, 9), ("Value", 1, 9)] := by kernel_rfl
  obtain ⟨fs, hf⟩ : ∃ y, y = (Try.prog.fieldsOf 137).toList := ⟨_, rfl⟩
  rw [← hf] at hm
  match fs, hm with
  | [f0, f1], hm =>
  simp only [List.map_cons, List.map_nil, List.cons.injEq, Prod.mk.injEq, and_true] at hm
  obtain ⟨⟨n0, o0, t0⟩, n1, o1, t1⟩ := hm
  rw [run_neq_struct, run_equalIn_agg _ _ _ _ _ pair_und pair_held, ← hf]
  cases h1 : (k.toList == k'.toList) <;> cases h2 : (v.toList == v'.toList) <;> simp [Op.eqFields, n0, o0, t0, n1, o1, t1, go_sem, h1, h2]
set_option maxRecDepth 100000 in
set_option maxHeartbeats 4000000 in
theorem same_walk (A B : Option Addr) (C D : Nat) (l m : SL) (w : World) (hl : Pr w A l) (hm : Pr w B m) (hN : l.length < 1000000) (T : Bool) (hT : T = true ↔ l = m) :
    Calls Try.prog 21 #[.slice A l.length C, .slice B m.length D] w fun e w' => e = .returned (.bool T) ∧ Below w.heap.size w w' := by
  by_cases hlen : l.length = m.length
  · have HT := Lib.hid hT
    have HL := Lib.hid (And.intro hl hm)
    have HLen := Lib.hid hlen
    obtain ⟨n, hn⟩ : ∃ n, n = l.length := ⟨_, rfl⟩
    rw [← hlen, ← hn]
    rw [← hn] at hN
    clear hT hl hm hlen
    have HN := Lib.hid hn
    clear hn
    go_enter Try.func21, Try.ntmps21
    go_wp2
    go_loopw [13] (fun i wr => ∃ j : Nat, j ≤ n ∧ i = .int .i64 (j : Nat) ∧ (∀ t (h1 : t < l.length) (h2 : t < m.length), t < j → l[t] = m[t]) ∧ Below w.heap.size w wr) (fun i _ => n - (intOf i).toNat)
    case atStart => exact ⟨0, Nat.zero_le _, rfl, fun t _ _ h => absurd h (Nat.not_lt_zero _), Below.refl _ _⟩
    case round =>
      obtain ⟨j, hj, rfl, hall, hbb⟩ := hrel
      have HB := Lib.hid hbb
      by_cases hlt : j < n
      · have p2 : (j : Int) < (n : Int) := by omega
        have h1 : j < l.length := by have := HN.out; omega
        have h2 : j < m.length := by have := HN.out; have := HLen.out; omega
        obtain ⟨g1, rfl, _, c1⟩ := (HL.out.1.below hbb) (by omega)
        obtain ⟨g2, rfl, _, c2⟩ := (HL.out.2.below hbb) (by omega)
        have a0 := (c1 j h1).1
        have a1 := (c1 j h1).2
        have b0 := (c2 j h2).1
        have b1 := (c2 j h2).2
        obtain ⟨p, ep⟩ : ∃ y, y = l[j] := ⟨_, rfl⟩
        obtain ⟨p', ep'⟩ : ∃ y, y = m[j] := ⟨_, rfl⟩
        rw [← ep] at a0 a1
        rw [← ep'] at b0 b1
        obtain ⟨k, v⟩ := p
        obtain ⟨k', v'⟩ := p'
        simp only at a0 a1 b0 b1
        have HE := Lib.hid (And.intro hall (And.intro ep ep'))
        clear hall c1 c2 ep ep' hbb
        have q9 := pair_ne k v k' v'
        have q8 := pair_guard
        go_upto_region 6 with fail
        have hne : ¬ ((k, v) = (k', v')) → T = false := fun hne => by
          cases hTv : T with
          | false => rfl
          | true =>
            have e := HT.out.1 hTv
            subst e
            exact absurd (HE.out.2.1.trans HE.out.2.2.symm) hne
        have HNE := Lib.hid hne
        clear hne
        by_cases hk : k = k'
        · have r1 : (k.toList == k'.toList) = true := by rw [hk]; exact beq_self_eq_true _
          have HK := Lib.hid hk
          clear hk
          by_cases hv : v = v'
          · have r2 : (v.toList == v'.toList) = true := by rw [hv]; exact beq_self_eq_true _
            have HV := Lib.hid hv
            clear hv
            go_quiet (fail)
            go_wp2
            refine ⟨⟨j + 1, by omega, by go_num, fun t t1 t2 ht => ?_, ?_⟩, by simp [intOf]; omega⟩
            · rcases (by omega : t < j ∨ t = j) with h | rfl
              · exact HE.out.1 t t1 t2 h
              · rw [← HE.out.2.1, ← HE.out.2.2, HK.out, HV.out]
            · exact below_drewN HB.out _
          · have r2 := str_ne2 hv
            obtain rfl : T = false := HNE.out fun e => hv (Prod.mk.inj e).2
            go_quiet (fail)
            go_wp2
            go_ret
            exact ⟨rfl, below_drewN HB.out _⟩
        · have r1 := str_ne2 hk
          obtain rfl : T = false := HNE.out fun e => hk (Prod.mk.inj e).1
          go_quiet (fail)
          go_wp2
          go_ret
          exact ⟨rfl, below_drewN HB.out _⟩
      · obtain rfl : j = n := by omega
        have p2 : ¬ (j : Int) < (j : Int) := by omega
        obtain rfl : T = true := HT.out.2 (List.ext_getElem HLen.out fun t t1 t2 => hall t t1 t2 (by have := HN.out; omega))
        clear hall hbb
        go_wp2
        go_ret
        exact ⟨rfl, HB.out⟩
  · obtain rfl : T = false := by
      cases hTv : T with
      | false => rfl
      | true => exact absurd (congrArg List.length (hT.1 hTv)) hlen
    obtain ⟨a, ha⟩ : ∃ a, a = l.length := ⟨_, rfl⟩
    obtain ⟨b, hb⟩ : ∃ b, b = m.length := ⟨_, rfl⟩
    rw [← ha, ← hb]
    have p1 : ((a : Int) == (b : Int)) = false := beq_eq_false_iff_ne.2 (by omega)
    have p2 : ¬ (a : Int) = (b : Int) := by omega
    have p3 : ¬ a = b := by omega
    clear hT hlen hl hm hN ha hb
    go_enter Try.func21, Try.ntmps21
    go_wp2
    go_ret
    exact ⟨rfl, Below.refl _ _⟩
end Go.Proofs.Ytffipojlpdphiaa

namespace Go.Proofs.Ytffipojlpdphiaa
open Go.RowKit Go.Maps Go.Sort

theorem pre_ge : ∀ (k x : List UInt8), Lib.hasPrefix k x = true → ¬ k < x
  | _, [], _, h => List.not_lt_nil _ h
  | [], b :: x, hp, _ => by simp [Lib.hasPrefix] at hp
  | a :: k, b :: x, hp, h => by
    simp [Lib.hasPrefix] at hp
    obtain ⟨e, hp⟩ := hp
    subst e
    rcases List.cons_lt_cons_iff.1 h with h | ⟨_, h⟩
    · exact absurd h (UInt8.lt_irrefl _)
    · exact pre_ge k x (by simpa [Lib.hasPrefix] using hp) h
theorem pre_between : ∀ (x k k' : List UInt8), ¬ k < x → k < k' → Lib.hasPrefix k' x = true → Lib.hasPrefix k x = true
  | [], k, _, _, _, _ => by simp [Lib.hasPrefix]
  | b :: x, [], _, h, _, _ => absurd (List.nil_lt_cons _ _) h
  | b :: x, a :: k, [], _, _, hp => by simp [Lib.hasPrefix] at hp
  | b :: x, a :: k, c :: k', h, hl, hp => by
    simp [Lib.hasPrefix] at hp
    obtain ⟨e, hp⟩ := hp
    subst e
    have hba : ¬ a < b := fun h2 => h (List.cons_lt_cons_iff.2 (.inl h2))
    rcases List.cons_lt_cons_iff.1 hl with h2 | ⟨h2, h3⟩
    · exact absurd h2 hba
    · subst h2
      have := pre_between x k k' (fun h4 => h (List.cons_lt_cons_iff.2 (.inr ⟨rfl, h4⟩))) h3 (by simpa [Lib.hasPrefix] using hp)
      simpa [Lib.hasPrefix] using this
theorem tw_count (x : ByteArray) : ∀ D : SL, Rising (skeys D) → (∀ p ∈ D, ¬ p.1.data.toList < x.data.toList) → (D.takeWhile (hpre x)).length = D.countP (hpre x)
  | [], _, _ => rfl
  | p :: r, hr, hg => by
    have hr2 : Rising (skeys r) := (List.pairwise_cons.1 hr).2
    cases hp : hpre x p with
    | true =>
      rw [List.takeWhile_cons, hp, List.countP_cons_of_pos hp]
      simp only [if_true, List.length_cons]
      rw [tw_count x r hr2 (fun q hq => hg q (List.mem_cons_of_mem _ hq))]
    | false =>
      rw [List.takeWhile_cons, hp, List.countP_cons_of_neg (by rw [hp]; decide)]
      have : r.countP (hpre x) = 0 := List.countP_eq_zero.2 fun q hq h => by
        have hlt : p.1.data.toList < q.1.data.toList := (List.pairwise_cons.1 hr).1 q.1 (List.mem_map.2 ⟨q, hq, rfl⟩)
        have := pre_between x.data.toList p.1.data.toList q.1.data.toList (hg p (by simp)) hlt h
        unfold hpre at hp
        rw [hp] at this
        cases this
      rw [this]
      rfl
theorem under_count {L : SL} (hr : Rising (skeys L)) (x : ByteArray) : (under L x).length = L.countP (hpre x) := by
  obtain ⟨h1, h2⟩ := klo_parts x (skeys L) hr
  obtain ⟨m, em⟩ : ∃ m, m = klo (skeys L) x := ⟨_, rfl⟩
  unfold under
  rw [← em] at h1 h2 ⊢
  have hd : Rising (skeys (L.drop m)) := by
    unfold Rising skeys at hr ⊢
    rw [List.map_drop]
    exact hr.sublist (List.drop_sublist _ _)
  rw [tw_count x _ hd (fun p hp => h2 p.1 (by unfold skeys; rw [← List.map_drop]; exact List.mem_map.2 ⟨p, hp, rfl⟩))]
  conv => rhs; rw [← List.take_append_drop m L, List.countP_append]
  have : (L.take m).countP (hpre x) = 0 := List.countP_eq_zero.2 fun q hq h => pre_ge _ _ h (h1 q.1 (by unfold skeys; rw [← List.map_take]; exact List.mem_map.2 ⟨q, hq, rfl⟩))
  rw [this, Nat.zero_add]
theorem under_all (L : SL) : under L ⟨#[]⟩ = L := by
  have h0 : klo (skeys L) ⟨#[]⟩ = 0 := klo_zero fun y _ h => List.not_lt_nil _ h
  unfold under
  rw [h0, List.drop_zero]
  rw [takeWhile_here _ L L.length (Nat.le_refl _) (fun j hj _ => by unfold hpre; simp [Lib.hasPrefix]) (fun h => absurd h (Nat.lt_irrefl _)), List.take_length]
set_option maxRecDepth 100000 in
set_option maxHeartbeats 400000 in
/-- All on a live store -/
theorem all_live (b : Nat) (F : List Nat) (L : SL) (q : Nat) (qs : List Value) (W : World) (h : StP W b F L q qs) (hks : ∀ p ∈ L, p.1.size ≤ maxLen) (hN : L.length < 1000000) :
    Calls Try.prog 22 #[.pointer (some ⟨b, 0, none⟩)] W fun e w' => (∃ v, e = .returned v ∧ w'.ownsRow W.heap.size 137 2 v L.length (pcs L)) ∧ Below W.heap.size W w' := by
  have HU := under_live b F L q qs W h ⟨#[]⟩ hks hN
  unfold UnPost at HU
  rw [under_all] at HU
  have HU := Lib.hid HU
  clear h hks hN
  go_enter Try.func22, Try.ntmps22
  go_wp2_with (go_at_call 79; refine HU.out.mono ?_; rintro e w1 ⟨⟨v, rfl, hown⟩, hb⟩; have HO := Lib.hid (And.intro hown hb); clear hown hb)
  go_ret
  exact ⟨⟨v, rfl, HO.out.1⟩, HO.out.2⟩
end Go.Proofs.Ytffipojlpdphiaa
