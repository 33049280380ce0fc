/- fifo by the queue of the law FifoOrder: Push and Pop. -/
import Derived.Test.YtedkhpnlhkjjgaaG33
import Derived.ArgAppend
namespace Go.Proofs.Ytedkhpnlhkjjgaa
open Go.RowKit Go.Maps Go.Sort

/-- a row: how many numbers, which -/
structure QRow where
  n : Nat
  f : Nat → Int
def QRow.val (r : QRow) : ByteArray := rowV r.f r.n
structure QRow.Ok (r : QRow) : Prop where
  n1 : 1 ≤ r.n
  n2 : r.n ≤ 100
  f : ∀ i, i < r.n → 0 ≤ r.f i ∧ r.f i < 2 ^ 63
/-- a store that holds the queue -/
structure FqS (w W : World) (b x : Nat) (R : List QRow) (c : Nat) : Prop where
  s : ∃ F q qs, SNew w W b F (qL x (R.map QRow.val)) q qs ∧ q ≤ c
  ok : ∀ r ∈ R, r.Ok
  x0 : R.length = 0 → x = 0
theorem FqS.below {w W W' : World} {b x : Nat} {R : List QRow} {c : Nat} (h : FqS w W b x R c) (hb : Below W.heap.size W W') : FqS w W' b x R c := by
  obtain ⟨F, q, qs, hs, hq⟩ := h.s
  exact ⟨⟨F, q, qs, hs.below hb, hq⟩, h.ok, h.x0⟩
theorem qL_sget {x : Nat} {R : List ByteArray} (h : R.length ≠ 0) : sget (qL x R) qK0 = some (qhd x R.length) := by
  unfold qL
  rw [if_neg h]
  unfold sget
  simp [keq_self]
theorem qL_ends {x : Nat} {R : List ByteArray} (hx : R.length = 0 → x = 0) (hb : x + R.length ≤ 1000000) : endsAt (qL x R) qK0 (x : Int) ((x + R.length : Nat) : Int) := by
  by_cases h : R.length = 0
  · have := hx h
    subst this
    have := List.length_eq_zero_iff.1 h
    subst this
    exact .inl ⟨rfl, rfl, rfl⟩
  · exact .inr ⟨by omega, by omega, by omega, qL_sget h⟩
theorem qL_len {x : Nat} {R : List ByteArray} : (qL x R).length ≤ R.length + 1 := by
  unfold qL
  split
  · simp
  · simp [qrows_len]
theorem qKn_ok (k : Nat) (h : k < 256) : (qKn k).size ≤ maxLen ∧ qKn k ≠ ⟨#[]⟩ := by
  have h2 := qKn_list ⟨k, h⟩
  simp only at h2
  constructor
  · have : (qKn k).data.toList.length = 17 := by rw [h2]; rfl
    have e : (qKn k).size = 17 := by rw [Array.length_toList] at this; exact this
    rw [e]; decide
  · intro e; rw [e] at h2; cases h2
theorem setL_other_ends {L : SL} {k v : ByteArray} {x y : Int} (hE : endsAt L qK0 x y) (hne : qK0 ≠ k) : endsAt (setL L k v) qK0 x y := by
  have e : sget (setL L k v) qK0 = sget L qK0 := by rw [sget_setL, if_neg hne]
  rcases hE with ⟨h1, h2, h3⟩ | ⟨h1, h2, h3, h4⟩
  · exact .inl ⟨h1, h2, by rw [e]; exact h3⟩
  · exact .inr ⟨h1, h2, h3, by rw [e]; exact h4⟩
/-- a row is pushed -/
theorem fq_push {w W : World} {b x : Nat} {R : List QRow} {c : Nat} (h : FqS w W b x R c) (hc : c < 100000) (hm : R.length < 20) (hx : x + R.length < 250) (A : Option Addr) (cp : Nat) (hI : ∀ F L q qs, SNew w W b F L q qs → ∀ W', Touch F W W' → Il W' A 1 (fun _ => 1)) (hz : A = none → 1 = 0 ∧ cp = 0) (most : Int) (hmo : (R.length : Int) < most) (r : QRow) (hr : r.Ok) (A2 : Option Addr) (c2 : Nat) (hl : Il W A2 r.n r.f) :
    Calls Try.prog 20 #[.pointer (some ⟨b, 0, none⟩), .int .i64 3, .slice A 1 cp, .int .i64 most, .slice A2 r.n c2] W fun e W' => e = .returned (.int .i64 0) ∧ FqS w W' b x (R ++ [r]) (c + 2) ∧ ∀ T, Foreign T → KeepT T W W' := by
  obtain ⟨F, q, qs, hs, hq⟩ := h.s
  obtain ⟨k1, k2⟩ := qKn_ok (x + R.length) (by omega)
  have hlen := qL_len (x := x) (R := R.map QRow.val)
  rw [List.length_map] at hlen
  have hE := qL_ends (x := x) (R := R.map QRow.val) (by simpa using h.x0) (by simp; omega)
  rw [List.length_map] at hE
  have hne : qK0 ≠ qKn (x + R.length) := lt_ne (qK0_lt (by omega))
  have hK0 : qK0.size ≤ maxLen := by rw [show qK0.size = 9 by decide +kernel]; decide
  have hp := qL_push (x := x) (R := R.map QRow.val) (v := r.val) (by simpa using h.x0) (by simp; omega)
  have hL1 : (setL (qL x (R.map QRow.val)) (qKn (x + R.length)) (rowV r.f r.n)).length < 128 := by
    have := setL_len (qL x (R.map QRow.val)) (qKn (x + R.length)) (rowV r.f r.n)
    omega
  have := push_liveA hs 3 A 1 cp (fun _ => 1) (hI F _ q qs hs) hz (by omega) qK0 (qKn (x + R.length)) (x : Nat) ((x + R.length : Nat) : Int) rfl rfl hK0 (by decide +kernel) k1 k2 hE most (by omega) A2 r.n c2 r.f hl hr.n1 hr.n2 (fun i hi => (hr.f i hi).1) (setL_other_ends hE hne) (by omega) hL1 (by omega)
  refine this.mono ?_
  rintro e W' ⟨he, hL⟩
  have e1 : setL (setL (qL x (R.map QRow.val)) (qKn (x + R.length)) (rowV r.f r.n)) qK0 (rowV (two2 ((x : Int) + 0) (((x + R.length : Nat) : Int) + 1)) 2) = qL x ((R ++ [r]).map QRow.val) := by
    rw [List.map_append]
    rw [List.length_map] at hp
    rw [show (R.map QRow.val ++ [r].map QRow.val) = R.map QRow.val ++ [r.val] from rfl, ← hp]
    unfold qhd
    rw [List.length_append, List.length_map, Int.add_zero, show ((x + (R.length + [r.val].length) : Nat) : Int) = ((x + R.length : Nat) : Int) + 1 by simp; omega]
    rfl
  rw [e1] at hL
  refine ⟨he, ⟨?_, fun r' hr' => ?_, fun h0 => by simp at h0⟩, fun T hT => LiveTo.keepT hs hL hT⟩
  · obtain ⟨F', q', qs', hs', hq', _⟩ := hL
    exact ⟨F', q', qs', hs', by omega⟩
  · rcases List.mem_append.1 hr' with h1 | h1
    · exact h.ok r' h1
    · obtain rfl : r' = r := by simpa using h1
      exact hr
theorem sdel_other_ends {L : SL} {k : ByteArray} {x y : Int} (hE : endsAt L qK0 x y) (hne : qK0 ≠ k) : endsAt (sdel L k) qK0 x y := by
  have e : sget (sdel L k) qK0 = sget L qK0 := by rw [sget_sdel, if_neg hne]
  rcases hE with ⟨h1, h2, h3⟩ | ⟨h1, h2, h3, h4⟩
  · exact .inl ⟨h1, h2, by rw [e]; exact h3⟩
  · exact .inr ⟨h1, h2, h3, by rw [e]; exact h4⟩
theorem qL_row {x : Nat} {v : ByteArray} {R : List ByteArray} (hx : x < 256) : sget (qL x (v :: R)) (qKn x) = some v := by
  unfold qL
  rw [if_neg (by simp)]
  have hne : qK0 ≠ qKn x := lt_ne (qK0_lt hx)
  unfold sget
  rw [List.find?_cons, keq_ne hne]
  show Option.map _ (List.find? _ ((qKn x, v) :: qrows (x + 1) R)) = _
  rw [List.find?_cons, keq_self]
  rfl
/-- the first row comes out -/
theorem fq_pop {w W : World} {b x : Nat} {r : QRow} {R : List QRow} {c : Nat} (h : FqS w W b x (r :: R) c) (hc : c < 100000) (hm : R.length < 20) (hx : x + R.length < 250) (A : Option Addr) (cp : Nat) (hI : ∀ F L q qs, SNew w W b F L q qs → ∀ W', Touch F W W' → Il W' A 1 (fun _ => 1)) (hz : A = none → 1 = 0 ∧ cp = 0) :
    Calls Try.prog 22 #[.pointer (some ⟨b, 0, none⟩), .int .i64 3, .slice A 1 cp] W fun e W' => (∃ G, e = .returned (.tuple #[.slice (some ⟨G, 0, none⟩) r.n r.n, .bool true]) ∧ (∀ i, i < r.n → W'.cell? ⟨G, i, none⟩ = some (.int .i64 (r.f i))) ∧ G < W'.heap.size) ∧ FqS w W' b (if R.length = 0 then 0 else x + 1) R (c + 2) ∧ ∀ T, Foreign T → KeepT T W W' := by
  obtain ⟨F, q, qs, hs, hq⟩ := h.s
  obtain ⟨k1, k2⟩ := qKn_ok x (by omega)
  have hr := h.ok r (by simp)
  have hlen := qL_len (x := x) (R := (r :: R).map QRow.val)
  have hE := qL_ends (x := x) (R := (r :: R).map QRow.val) (fun h0 => by simp at h0) (by simp; omega)
  rw [List.length_map, List.length_cons] at hE hlen
  have hne : qK0 ≠ qKn x := lt_ne (qK0_lt (by omega))
  have hK0 : qK0.size ≤ maxLen := by rw [show qK0.size = 9 by decide +kernel]; decide
  have hdl : (sdel (qL x ((r :: R).map QRow.val)) (qKn x)).length < 128 := by
    have := sdel_len (qL x ((r :: R).map QRow.val)) (qKn x)
    omega
  by_cases h0 : R.length = 0
  · rw [if_pos h0]
    have hR := List.length_eq_zero_iff.1 h0
    subst hR
    have := pop_lastA hs 3 A 1 cp (fun _ => 1) (hI F _ q qs hs) hz (by omega) qK0 (qKn x) (x : Nat) ((x + 1 : Nat) : Int) rfl rfl hK0 (by decide +kernel) k1 hE (by omega) r.n r.f hr.n1 hr.n2 hr.f (qL_row (by omega)) (sdel_other_ends hE hne) (by omega) (by omega) hdl (by omega)
    refine this.mono ?_
    rintro e W' ⟨he, hL⟩
    rw [show (([r] : List QRow).map QRow.val) = [r.val] from rfl, qL_last (by simp at hx; omega)] at hL
    refine ⟨he, ⟨?_, fun r' hr' => (by cases hr'), fun _ => rfl⟩, fun T hT => LiveTo.keepT hs hL hT⟩
    obtain ⟨F', q', qs', hs', hq', _⟩ := hL
    exact ⟨F', q', qs', hs', by omega⟩
  · rw [if_neg h0]
    have := pop_liveA hs 3 A 1 cp (fun _ => 1) (hI F _ q qs hs) hz (by omega) qK0 (qKn x) (x : Nat) ((x + (R.length + 1) : Nat) : Int) rfl rfl hK0 (by decide +kernel) k1 hE (by omega) r.n r.f hr.n1 hr.n2 hr.f (qL_row (by omega)) (sdel_other_ends hE hne) (by omega) (by omega) hdl (by omega)
    refine this.mono ?_
    rintro e W' ⟨he, hL⟩
    have hp := qL_pop (x := x) (R := R.map QRow.val) (v := r.val) (by simpa using h0) (by simp; omega)
    rw [List.length_map] at hp
    have e1 : setL (sdel (qL x ((r :: R).map QRow.val)) (qKn x)) qK0 (rowV (two2 ((x : Int) + 1) (((x + (R.length + 1) : Nat) : Int) + 0)) 2) = qL (x + 1) (R.map QRow.val) := by
      rw [← hp]
      unfold qhd
      rw [Int.add_zero, show ((x + (R.length + 1) : Nat) : Int) = ((x + 1 + R.length : Nat) : Int) by omega]
      rfl
    rw [e1] at hL
    refine ⟨he, ⟨?_, fun r' hr' => h.ok r' (List.mem_cons_of_mem _ hr'), fun h1 => absurd h1 h0⟩, fun T hT => LiveTo.keepT hs hL hT⟩
    obtain ⟨F', q', qs', hs', hq', _⟩ := hL
    exact ⟨F', q', qs', hs', by omega⟩
end Go.Proofs.Ytedkhpnlhkjjgaa

namespace Go.Proofs.Ytedkhpnlhkjjgaa
open Go.RowKit Go.Maps Go.Sort

/-- v is a slice of the one-cell values xs, in a block of type T of its own, from B on -/
structure Gq (w : World) (B : Nat) (T : TypeId) (v : Value) (xs : List Value) : Prop where
  one : ∀ u ∈ xs, u.oneCell' = true
  at_ : (v = .slice none 0 0 ∧ xs = []) ∨ ∃ g o c cs, v = .slice (some ⟨g, o, none⟩) xs.length c ∧ xs.length ≤ c ∧ B ≤ g ∧ w.heap[g]? = some (.cells cs T (0, 0)) ∧ o + c ≤ cs.size ∧ o + c ≤ maxLen ∧ ∀ j u, xs[j]? = some u → cs[o + j]? = some u
theorem Gq.nil (w : World) (B : Nat) (T : TypeId) : Gq w B T (.slice none 0 0) [] := ⟨fun _ h => (by cases h), .inl ⟨rfl, rfl⟩⟩
theorem Gq.keep {w w' : World} {B : Nat} {T : TypeId} {v : Value} {xs : List Value} (h : Gq w B T v xs) (hk : KeepT T w w') : Gq w' B T v xs := by
  refine ⟨h.one, ?_⟩
  rcases h.at_ with h1 | ⟨g, o, c, cs, h1, h2, h3, h4, h5⟩
  · exact .inl h1
  · exact .inr ⟨g, o, c, cs, h1, h2, h3, hk.2 _ _ _ h4, h5⟩
theorem Gq.form {w : World} {B : Nat} {T : TypeId} {v : Value} {xs : List Value} (h : Gq w B T v xs) : ∃ A c, v = .slice A xs.length c ∧ (xs.length : Int) ≤ c := by
  rcases h.at_ with ⟨h1, h2⟩ | ⟨g, o, c, cs, h1, h2, _⟩
  · exact ⟨none, 0, by rw [h2]; exact h1, by rw [h2]; simp⟩
  · exact ⟨_, c, h1, by omega⟩
/-- where its values lie -/
theorem Gq.cells {w : World} {B : Nat} {T : TypeId} {A : Option Addr} {n c : Nat} {xs : List Value} (h : Gq w B T (.slice A n c) xs) (h0 : 0 < xs.length) : n = xs.length ∧ ∃ g o, A = some ⟨g, o, none⟩ ∧ B ≤ g ∧ g < w.heap.size ∧ ∀ j u, xs[j]? = some u → w.cell? ⟨g, o + j, none⟩ = some u := by
  rcases h.at_ with ⟨h1, h2⟩ | ⟨g, o, c', cs, h1, h2, h3, h4, h5, _, h6⟩
  · rw [h2] at h0; cases h0
  · cases h1
    exact ⟨rfl, g, o, rfl, h3, hp_lt h4, fun j u hj => (hp_cell h4).trans (h6 j u hj)⟩
/-- cut at its head -/
theorem Gq.cut {w : World} {B : Nat} {T : TypeId} {g o n c : Nat} {u : Value} {xs : List Value} (h : Gq w B T (.slice (some ⟨g, o, none⟩) (n + 1) c) (u :: xs)) : n = xs.length ∧ n + 1 ≤ c ∧ (c = 1 → Gq w B T (.slice (some ⟨g, o, none⟩) 0 0) xs) ∧ Gq w B T (.slice (some ⟨g, o + 1, none⟩) n (c - 1)) xs := by
  rcases h.at_ with ⟨h1, h2⟩ | ⟨g', o', c', cs, h1, h2, h3, h4, h5, h6, h7⟩
  · cases h2
  · cases h1
    simp only [List.length_cons] at h2
    refine ⟨rfl, h2, fun e => ?_, fun v hv => h.one v (List.mem_cons_of_mem _ hv), .inr ⟨g, o + 1, c - 1, cs, rfl, by omega, h3, h4, by omega, by omega, fun j v hj => ?_⟩⟩
    · have : xs = [] := List.length_eq_zero_iff.1 (by omega)
      subst this
      exact ⟨fun v hv => (by cases hv), .inr ⟨g, o, 0, cs, rfl, Nat.le_refl _, h3, h4, by omega, by omega, fun j v hj => by simp at hj⟩⟩
    · rw [show o + 1 + j = o + (j + 1) by omega]
      exact h7 (j + 1) v hj
/-- 'v = append(v, u)' -/
theorem wpList_append_gq {P : Program} (w : World) {ops : Array Oper} {rest : List Oper} {op : Oper} {a : Act} {Q : Exit → Act → World → Prop}
    (hg : op.guard = none) (s x : Operand) (t : TypeId) (hop : op.op = Op.call { callee := Callee.builtin Builtin.append, args := #[s, x], argTypes := #[t, t] })
    (e : TypeId) (i : TypeInfo) (z : Value) (bytes : Nat) (h1 : P.underlying t = some (.slice e)) (h2 : P.info? e = some i) (h3 : i.zero = some z) (h4 : i.size = 1) (h5 : i.bytes = bytes) (h6 : z.cells.size = 1)
    (B : Nat) (v : Value) (xs : List Value) (hs : a.eval s = v) (hq : Gq w B e v xs) (hB : B ≤ w.heap.size) (ad : Addr) (c : Nat) (u : Value) (hx : a.eval x = .slice (some ad) 1 c) (hc : w.cell? ad = some u) (h1c : u.oneCell' = true)
    (b1 : xs.length + 1 ≤ maxLen) (b2 : (xs.length + 1) * bytes ≤ 140737488355328)
    (hK : ∀ v' w', Gq w' B e v' (xs ++ [u]) → w.grownBy w' v.ownBlock → wpList P ops Q rest (a.put op.dst v') w') :
    wpList P ops Q (op :: rest) a w := by
  have hnews : ∀ (j : Nat) (y : Value), [u][j]? = some y → w.cell? (ad.add j) = some y := by
    intro j y hj
    match j with
    | 0 => cases hj; rw [show ad.add 0 = ad by simp [Addr.add]]; exact hc
    | k + 1 => simp at hj
  have h1n : ∀ y ∈ [u], y.oneCell' = true := by simpa using h1c
  have hone : ∀ y ∈ xs ++ [u], y.oneCell' = true := fun y hy => by
    rcases List.mem_append.1 hy with h | h
    · exact hq.one y h
    · exact h1n y h
  have own : ∀ v' w', w'.ownsRow w.heap.size e 1 v' (xs.length + 1) (xs ++ [u]) → Gq w' B e v' (xs ++ [u]) := fun v' w' ho => by
    refine ⟨hone, ?_⟩
    rcases ho.2 with ⟨_, h0⟩ | ⟨g, cap, cur, rfl, hb, hh, hn, hcp, hsz, ht⟩
    · omega
    · refine .inr ⟨g, 0, cap, cur, by simp, by simpa using hn, by omega, hh, by omega, by omega, fun j y hj => ?_⟩
      have hlt : j < (xs ++ [u]).length := (List.getElem?_eq_some_iff.1 hj).1
      rw [← ht, List.getElem?_take_of_lt (by simp at hlt; omega)] at hj
      rw [Nat.zero_add, ← hj]; simp
  have go : ∀ v' w', (Builtin.append_ #[t, t] op.type #[v, .slice (some ad) 1 c]).run P w = .ok v' w' → Gq w' B e v' (xs ++ [u]) → w.grownBy w' v.ownBlock → wpList P ops Q (op :: rest) a w := fun v' w' hrun r1 r2 => by
    refine wpList_plain hg fun K hK' => ?_
    unfold Oper.wp
    simp [execOp, hop, resolve, invoke, builtin, hs, hx, hrun, Result.andThen]
    exact hK' _ _ (hK v' w' r1 r2)
  rcases hq.at_ with ⟨rfl, rfl⟩ | ⟨g, o, cp, cs, rfl, hle, hBg, hh, hsz, hml, hcs⟩
  · obtain ⟨v', w', hrun, r1, r2, _⟩ := run_append_own (P := P) w w.heap.size t op.type e i z 1 bytes h1 h2 h3 h4 h5 h6 (by decide) (.slice none 0 0) 0 [] (World.ownsRow_nil w _ e 1) ad 1 c [u] rfl hnews h1n (by simpa using b1) (by simpa using b2) (Nat.le_refl _)
    exact go v' w' hrun (own v' w' (by simpa using r1)) r2
  · by_cases hr : xs.length + 1 ≤ cp
    · have hcell : w.cell? ⟨g, o + xs.length * i.size + 0, none⟩ = cs[o + xs.length]? := by rw [h4, Nat.mul_one, Nat.add_zero]; exact hp_cell hh
      have hsome : (cs[o + xs.length]?).isSome = true := by rw [Array.getElem?_eq_getElem (by omega)]; rfl
      have hrun := run_append_room_cells (P := P) w t op.type e i h1 h2 g o xs.length cp ad 1 c [u] (by rw [h4]; rfl) hnews h1n hr
        (fun j hj => by obtain rfl : j = 0 := by simpa using hj
                        rw [hcell]; exact hsome)
        (fun j hj => by unfold World.frozen?; simp [hh])
      rw [h4, Nat.mul_one] at hrun
      have hset : (w.setCells g (o + xs.length) [u]) = w.setCell ⟨g, o + xs.length, none⟩ u := rfl
      rw [hset] at hrun
      refine go _ _ hrun ⟨hone, .inr ⟨g, o, cp, _, by simp, by simpa using hr, hBg, heap_setCell_row hh u, ?_, hml, fun j y hj => ?_⟩⟩ ⟨rfl, rfl, rfl, by simp, fun k _ hne => Below.heap_setCell _ _ _ _ fun e => hne (by rw [e]; rfl)⟩
      · simpa using hsz
      · by_cases hjl : j < xs.length
        · rw [List.getElem?_append_left hjl] at hj
          rw [Array.getElem?_setIfInBounds_ne (by omega)]
          exact hcs j y hj
        · obtain rfl : j = xs.length := by
            have := (List.getElem?_eq_some_iff.1 hj).1
            simp at this; omega
          simp at hj
          subst hj
          rw [Array.getElem?_setIfInBounds_self_of_lt (by omega)]
    · obtain ⟨v', w', hrun, r1, r2⟩ := run_append_arg_grows (P := P) w t op.type e i z 1 bytes h1 h2 h3 h4 h5 h6 (by decide) ⟨g, o, none⟩ xs.length cp xs (by simp) (fun j y hj => by rw [Addr.add_lit]; exact (hp_cell hh).trans (hcs j y hj)) ad 1 c [u] rfl hnews (by omega) b1 b2
      exact go v' w' hrun (own v' w' r1) ⟨r2.os, r2.tape, r2.output, r2.size, fun k hk _ => r2.block k hk (by simp)⟩
end Go.Proofs.Ytedkhpnlhkjjgaa

namespace Go.Proofs.Ytedkhpnlhkjjgaa
open Go.RowKit Go.Maps Go.Sort

theorem qK0_ok : qK0.size ≤ maxLen ∧ qK0 ≠ ⟨#[]⟩ := ⟨by rw [show qK0.size = 9 by decide +kernel]; decide, by decide +kernel⟩
theorem fq_full {w W : World} {b x : Nat} {R : List QRow} {c : Nat} (h : FqS w W b x R c) (hm : R.length < 20) (hx : x + R.length < 250) (A : Option Addr) (cp : Nat) (hI : ∀ F L q qs, SNew w W b F L q qs → ∀ W', Touch F W W' → Il W' A 1 (fun _ => 1)) (hz : A = none → 1 = 0 ∧ cp = 0) (most : Int) (hmo : most ≤ (R.length : Int)) (hmo1 : 1 ≤ most) (A2 : Option Addr) (m c2 : Nat) (g : Nat → Int) (hl : Il W A2 m g) (hm1 : 1 ≤ m) (hm2 : m ≤ 100) (hg : ∀ i, i < m → 0 ≤ g i) :
    Calls Try.prog 20 #[.pointer (some ⟨b, 0, none⟩), .int .i64 3, .slice A 1 cp, .int .i64 most, .slice A2 m c2] W fun e W' => e = .returned (.int .i64 7) ∧ Below W.heap.size W W' := by
  obtain ⟨F, q, qs, hs, hq⟩ := h.s
  have hE := qL_ends (x := x) (R := R.map QRow.val) (by simpa using h.x0) (by simp; omega)
  rw [List.length_map] at hE
  exact push_fullA hs 3 A 1 cp (fun _ => 1) (hI F _ q qs hs) hz (by omega) qK0 (x : Nat) ((x + R.length : Nat) : Int) rfl qK0_ok.1 qK0_ok.2 hE most (by omega) hmo1 A2 m c2 g hl hm1 hm2 hg
theorem fq_bad {w W : World} {b x : Nat} {R : List QRow} {c : Nat} (h : FqS w W b x R c) (A : Option Addr) (cp : Nat) (hI : ∀ F L q qs, SNew w W b F L q qs → ∀ W', Touch F W W' → Il W' A 1 (fun _ => 1)) (hz : A = none → 1 = 0 ∧ cp = 0) (most : Int) (hmo1 : 1 ≤ most) (A2 : Option Addr) (m c2 : Nat) (g : Nat → Int) (hl : Il W A2 m g) (hm2 : m ≤ 100) (hg : ¬ gd g m) :
    Calls Try.prog 20 #[.pointer (some ⟨b, 0, none⟩), .int .i64 3, .slice A 1 cp, .int .i64 most, .slice A2 m c2] W fun e W' => e = .returned (.int .i64 2) ∧ Below W.heap.size W W' := by
  obtain ⟨F, q, qs, hs, hq⟩ := h.s
  exact push_badA hs 3 A 1 cp (fun _ => 1) (hI F _ q qs hs) hz (by omega) qK0 rfl qK0_ok.1 qK0_ok.2 most hmo1 A2 m c2 g hl hm2 hg
theorem fq_none {w W : World} {b x : Nat} {c : Nat} (h : FqS w W b x [] c) (A : Option Addr) (cp : Nat) (hI : Il W A 1 (fun _ => 1)) (hz : A = none → 1 = 0 ∧ cp = 0) :
    Calls Try.prog 22 #[.pointer (some ⟨b, 0, none⟩), .int .i64 3, .slice A 1 cp] W fun e W' => e = .returned (.tuple #[.slice none 0 0, .bool false]) ∧ Below W.heap.size W W' := by
  obtain ⟨F, q, qs, hs, hq⟩ := h.s
  refine pop_none _ 3 A 1 cp W (peek_none _ 3 A 1 cp (fun _ => 1) (qKn 0) rfl W hI hz (by omega) (fun W1 hb => ?_) (fun W1 hb => ?_))
  · exact ends_liveA (hs.below hb) 3 A 1 cp (fun _ => 1) (hI.below hb) (by omega) qK0 rfl qK0_ok.1 0 0 (.inl ⟨rfl, rfl, rfl⟩)
  · exact crow_none (hs.below hb) (qKn 0) (qKn_ok 0 (by omega)).1 rfl
/-- row k -/
def qrn (R : List QRow) (k : Nat) : Nat := (R.getD k ⟨1, fun _ => 0⟩).n
def qrf (R : List QRow) (k : Nat) : Nat → Int := (R.getD k ⟨1, fun _ => 0⟩).f
theorem qrows_find : ∀ (R : List ByteArray) (x k : Nat) (hk : k < R.length) (hb : x + R.length < 256), (qrows x R).find? (fun p => keq p.1 (qKn (x + k))) = some (qKn (x + k), R[k])
  | [], _, _, hk, _ => absurd hk (Nat.not_lt_zero _)
  | v :: R, x, k, hk, hb => by
    simp only [List.length_cons] at hk hb
    unfold qrows
    rw [List.find?_cons]
    by_cases h0 : k = 0
    · subst h0
      rw [Nat.add_zero, keq_self]
      rfl
    · obtain ⟨j, rfl⟩ : ∃ j, k = j + 1 := ⟨k - 1, by omega⟩
      rw [keq_ne (lt_ne (qKn_lt (show x < x + (j + 1) by omega) (by omega)))]
      have := qrows_find R (x + 1) j (by omega) (by omega)
      rw [show x + 1 + j = x + (j + 1) by omega] at this
      simpa using this
theorem qL_at {x k : Nat} {R : List ByteArray} (hk : k < R.length) (hb : x + R.length < 256) : sget (qL x R) (qKn (x + k)) = some R[k] := by
  unfold qL
  rw [if_neg (by omega)]
  unfold sget
  rw [List.find?_cons, keq_ne (lt_ne (qK0_lt (by omega))), qrows_find R x k hk hb]
  rfl
theorem fq_all {w W : World} {b x : Nat} {R : List QRow} {c : Nat} (h : FqS w W b x R c) (hm : R.length < 20) (hx : x + R.length < 250) (A : Option Addr) (cp : Nat) (hI : Il W A 1 (fun _ => 1)) (hz : A = none → 1 = 0 ∧ cp = 0) :
    Calls Try.prog 25 #[.pointer (some ⟨b, 0, none⟩), .int .i64 3, .slice A 1 cp] W fun e w' => (∃ B v xs, e = .returned v ∧ xs.length = R.length ∧ w'.ownsRow B 30 1 v R.length (xs.map DRow.val) ∧ FRow w' W.heap.size (qrn R) (qrf R) xs) ∧ Below W.heap.size W w' := by
  obtain ⟨F, q, qs, hs, hq⟩ := h.s
  have hE := qL_ends (x := x) (R := R.map QRow.val) (by simpa using h.x0) (by simp; omega)
  rw [List.length_map] at hE
  have hok : ∀ k (hk : k < R.length), (R.getD k ⟨1, fun _ => 0⟩) = R[k] := fun k hk => by rw [List.getD_eq_getElem?_getD, List.getElem?_eq_getElem hk]; rfl
  refine fall_walk _ 3 A 1 cp (x : Nat) ((x + R.length : Nat) : Int) R.length (by omega) (by omega) (by omega) (by omega) (fun k => qKn (x + k)) (qrn R) (qrf R) (fun k hk => ?_) W (fun W1 hb => ?_) (fun k hk W1 hb => ?_) (fun k hk W1 hb => ?_)
  · unfold qrn; rw [hok k hk]; exact ⟨(h.ok _ (List.getElem_mem hk)).n1, (h.ok _ (List.getElem_mem hk)).n2⟩
  · exact ends_liveA (hs.below hb) 3 A 1 cp (fun _ => 1) (hI.below hb) (by omega) qK0 rfl qK0_ok.1 _ _ hE
  · exact qat_is _ 3 A 1 cp (fun _ => 1) _ (qKn (x + k)) (by unfold qKn; rw [show (((x + k : Nat)) : Int) = (x : Int) + (k : Int) by omega]) W1 (hI.below hb) hz (by omega) (by omega)
  · have hr := h.ok _ (List.getElem_mem hk)
    have hg : sget (qL x (R.map QRow.val)) (qKn (x + k)) = some (rowV (qrf R k) (qrn R k)) := by
      rw [qL_at (by simpa using hk) (by simp; omega), List.getElem_map]
      unfold qrf qrn; rw [hok k hk]; rfl
    exact crow_freshT (hs.below hb) (qKn (x + k)) (qrf R k) (qrn R k) (by unfold qrn; rw [hok k hk]; exact hr.n1) (by unfold qrn; rw [hok k hk]; exact hr.n2) (by unfold qrf qrn; rw [hok k hk]; exact hr.f) (qKn_ok _ (by omega)).1 hg
theorem fq_len0 {w W : World} {b x : Nat} {c : Nat} (h : FqS w W b x [] c) : Calls Try.prog 26 #[.pointer (some ⟨b, 0, none⟩)] W fun e w' => e = .returned (.int .i64 0) ∧ W = w' := by
  obtain ⟨F, q, qs, hs, hq⟩ := h.s
  exact len_live b F _ q qs W hs.s
theorem fq_made {w W : World} {b x : Nat} {R : List QRow} {c : Nat} (h : FqS w W b x R c) : Calls Try.prog 27 #[.pointer (some ⟨b, 0, none⟩)] W fun e w' => e = .returned (.bool true) ∧ W = w' := by
  obtain ⟨F, q, qs, hs, hq⟩ := h.s
  exact made_live b F _ q qs W hs.s
end Go.Proofs.Ytedkhpnlhkjjgaa
