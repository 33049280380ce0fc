/- What lies in blocks of types that no store has stays, whatever a store does. -/
import Derived.Test.YtoaepgiajooecaaGreatG13
import Derived.Test.YtoaepgiajooecaaGreatG09
namespace Go.Proofs.YtoaepgiajooecaaGreat
open Go.RowKit Go.Maps Go.Sort

/-- what keeps every block of cells of one type -/
def KeepT (T : TypeId) (W W' : World) : Prop := W.heap.size ≤ W'.heap.size ∧ ∀ (k : Nat) (cs : Array Value) (fr : Nat × Nat), W.heap[k]? = some (Obj.cells cs T fr) → W'.heap[k]? = some (Obj.cells cs T fr)
theorem KeepT.refl (T : TypeId) (W : World) : KeepT T W W := ⟨Nat.le_refl _, fun _ _ _ h => h⟩
theorem KeepT.trans {T : TypeId} {A B C : World} (h : KeepT T A B) (k : KeepT T B C) : KeepT T A C := ⟨Nat.le_trans h.1 k.1, fun i cs fr hi => k.2 i cs fr (h.2 i cs fr hi)⟩
theorem KeepT.of_below {T : TypeId} {W W' : World} (h : Below W.heap.size W W') : KeepT T W W' := ⟨h.size, fun k cs fr hk => (h.block k (hp_lt hk)).trans hk⟩
theorem ownsRow_keepT {T : TypeId} {w w' : World} {B k n : Nat} {v : Value} {xs : List Value} (h : w.ownsRow B T k v n xs) (hk : KeepT T w w') : w'.ownsRow B T k v n xs := by
  refine ownsRow_same h fun g hg => ?_
  rcases h.2 with ⟨rfl, _⟩ | ⟨g', cap, cur, rfl, _, hh, _⟩
  · cases hg
  · cases hg
    exact (hk.2 _ _ _ hh).trans hh.symm
theorem ownsRow_typ {T : TypeId} {w : World} {B k n : Nat} {v : Value} {xs : List Value} (h : w.ownsRow B T k v n xs) {g : Nat} (hg : v.ownBlock = some g) : ∃ cs, w.heap[g]? = some (Obj.cells cs T (0, 0)) := by
  rcases h.2 with ⟨rfl, _⟩ | ⟨g', cap, cur, rfl, _, hh, _⟩
  · cases hg
  · cases hg
    exact ⟨_, hh⟩
/-- a type of which no block of a store is -/
structure Foreign (T : TypeId) : Prop where
  s : T ≠ 77
  b : T ≠ 97
  k : T ≠ 9
  c : T ≠ 155
theorem stp_blk {w : World} {b : Nat} {F : List Nat} {L : SL} {q : Nat} {qs : List Value} (h : StP w b F L q qs) : ∀ k ∈ F, (∃ es c, w.heap[k]? = some (Obj.map es c)) ∨ ∃ cs T, w.heap[k]? = some (Obj.cells cs T (0, 0)) ∧ ¬ Foreign T := by
  obtain ⟨bm, vb, vk, vq, rfl, hS⟩ := h
  intro k hk
  rcases (fpr_kfp _ _ _ _ _ _ _).1 hk with rfl | hk | hk
  · obtain ⟨D, ⟨es, clock, hb, _⟩, _⟩ := hS.m
    exact .inl ⟨_, _, hb⟩
  · obtain ⟨cs, T, hc, hT⟩ := hS.keys.ty hk
    exact .inr ⟨cs, T, hc, fun h => by rcases hT with e | e | e; exact h.s e; exact h.b e; exact h.k e⟩
  · obtain ⟨cs, hc⟩ := ownsRow_typ hS.kq hk
    exact .inr ⟨cs, _, hc, fun h => h.c rfl⟩
theorem stp_other {w : World} {b : Nat} {F : List Nat} {L : SL} {q : Nat} {qs : List Value} (h : StP w b F L q qs) {k : Nat} {cs : Array Value} {T : TypeId} {fr : Nat × Nat} (hk : w.heap[k]? = some (Obj.cells cs T fr)) (hT : Foreign T) : k ∉ F := fun hm => by
  rcases stp_blk h k hm with ⟨es, c, h1⟩ | ⟨cs', T', h1, h2⟩
  · rw [h1] at hk; cases hk
  · rw [h1] at hk; cases hk; exact h2 hT
theorem LiveTo.keepT {w W W' : World} {b : Nat} {F : List Nat} {L L' : SL} {q q' : Nat} {qs : List Value} (hs : SNew w W b F L q qs) (h : LiveTo w W W' b F L' q') {T : TypeId} (hT : Foreign T) : KeepT T W W' := by
  obtain ⟨_, _, _, _, _, ht, _⟩ := h
  exact ⟨ht.size, fun k cs fr hk => (ht.block k (hp_lt hk) (stp_other hs.s hk hT)).trans hk⟩
/-- a store lies as it lay where a block of another type is written -/
theorem SNew.other {w W W' : World} {b : Nat} {F : List Nat} {L : SL} {q : Nat} {qs : List Value} (h : SNew w W b F L q qs) (G : List Nat) (ht : Touch G W W') (hG : ∀ g ∈ G, w.heap.size ≤ g ∧ ∃ cs T fr, W.heap[g]? = some (Obj.cells cs T fr) ∧ Foreign T) : SNew w W' b F L q qs :=
  ⟨h.s.touch ht (fun k hk hm => by obtain ⟨_, cs, T, fr, h1, h2⟩ := hG k hm; exact stp_other h.s h1 h2 hk), h.f, h.l.trans (ht.below (fun k hk => (hG k hk).1) h.l.size)⟩
theorem KeepT.setOther {T T' : TypeId} {W : World} {g o : Nat} {cs : Array Value} {fr : Nat × Nat} (v : Value) (hg : W.heap[g]? = some (Obj.cells cs T' fr)) (hne : T ≠ T') : KeepT T W (W.setCell ⟨g, o, none⟩ v) := by
  refine ⟨by simp, fun k cs' fr' hk => ?_⟩
  have hk2 : k ≠ g := fun e => by subst e; rw [hg] at hk; cases hk; exact hne rfl
  rw [Below.heap_setCell _ _ _ _ hk2]
  exact hk
theorem KeepT.grown {T T' : TypeId} {W W' : World} {row : Option Nat} (hg : W.grownBy W' row) (hr : ∀ g, row = some g → ∃ cs fr, W.heap[g]? = some (Obj.cells cs T' fr)) (hne : T ≠ T') : KeepT T W W' :=
  ⟨hg.size, fun k cs fr hk => (hg.block k (hp_lt hk) (fun e => by
    obtain ⟨cs', fr', h1⟩ := hr k e.symm
    rw [hk] at h1; cases h1; exact hne rfl)).trans hk⟩
theorem Touch.keepT {F : List Nat} {W W' : World} {T : TypeId} (ht : Touch F W W') (hF : ∀ k ∈ F, ∀ cs fr, W.heap[k]? ≠ some (Obj.cells cs T fr)) : KeepT T W W' :=
  ⟨ht.size, fun k cs fr hk => (ht.block k (hp_lt hk) (fun hm => hF k hm cs fr hk)).trans hk⟩
/-- a row of ints in a block of its own stays -/
theorem il_touch {w W : World} {b : Nat} {F : List Nat} {L : SL} {q : Nat} {qs : List Value} (hs : SNew w W b F L q qs) {g : Nat} {cs : Array Value} (hg : W.heap[g]? = some (Obj.cells cs 3 (0, 0))) {n : Nat} {f : Nat → Int} (hl : Il W (some ⟨g, 0, none⟩) n f) (hT : Foreign 3) (W' : World) (ht : Touch F W W') : Il W' (some ⟨g, 0, none⟩) n f := by
  have he := ht.block g (hp_lt hg) (stp_other hs.s hg hT)
  refine ⟨hl.1, fun hn => ?_⟩
  obtain ⟨g', o, e, hlt, hc⟩ := hl.2 hn
  cases e
  refine ⟨g, 0, rfl, Nat.lt_of_lt_of_le hlt ht.size, fun i hi => ?_⟩
  rw [← hc i hi]
  simp only [World.cell?, he]
end Go.Proofs.YtoaepgiajooecaaGreat

namespace Go.Proofs.YtoaepgiajooecaaGreat
open Go.RowKit Go.Maps Go.Sort

/-- the cells of pairs -/
def pcs (l : SL) : List Value := l.flatMap fun p => [.string p.1, .string p.2]
theorem pcs_snoc (l : SL) (p : ByteArray × ByteArray) : pcs (l ++ [p]) = pcs l ++ [.string p.1, .string p.2] := by simp [pcs]
def hpre (x : ByteArray) (p : ByteArray × ByteArray) : Bool := Lib.hasPrefix p.1.data.toList x.data.toList
/-- what stands under x -/
def under (L : SL) (x : ByteArray) : SL := (L.drop (klo (skeys L) x)).takeWhile (hpre x)
theorem takeWhile_here {α : Type} (P : α → Bool) : ∀ (l : List α) (k : Nat), k ≤ l.length → (∀ j (h : j < l.length), j < k → P l[j] = true) → (∀ h : k < l.length, P l[k] = false) → l.takeWhile P = l.take k
  | [], k, _, _, _ => by simp
  | a :: r, 0, _, _, h => by
    have := h (by simp)
    simp only [List.getElem_cons_zero] at this
    simp [this]
  | a :: r, k + 1, hk, ha, h => by
    have h0 := ha 0 (by simp) (by omega)
    simp only [List.getElem_cons_zero] at h0
    rw [List.takeWhile_cons, h0, List.take_succ_cons]
    simp only [if_true]
    congr 1
    refine takeWhile_here P r k (by simpa using hk) (fun j hj hlt => ?_) (fun hh => ?_)
    · have := ha (j + 1) (by simpa using hj) (by omega)
      simpa using this
    · have := h (by simpa using hh)
      simpa using this
theorem infoPair : (Tryz.prog.info? 65).map (fun i => (i.zero, i.size, i.bytes)) = some (some (.agg #[.string { data := #[] }, .string { data := #[] }]), 2, 32) := by kernel_rfl
/-- 'm[k]' -/
theorem MapAt.plain {w : World} {bm : Nat} {L : SL} (h : MapAt w bm L) (k : ByteArray) (hk : k.size ≤ maxLen) :
    (Instr.lookup 73 (.map (some bm)) (.string k) false).run Tryz.prog w = .ok (.agg #[.string ((sget L k).getD { data := #[] })]) w := by
  obtain ⟨D, ho, hR⟩ := h
  obtain ⟨v, ps, hrun, hv⟩ := ho.lookup skeyed Tryz.underlying73 (zeroEntry w) (entR_mk (s := { data := #[] }) (by decide)) (keyOf_s hk)
  obtain ⟨s, rfl, hz⟩ := entR_inv hv
  have e := hR.get (k := k) (s := s) (by have := congrArg Prod.fst hz; simpa using this)
  rw [hrun, e]
theorem sget_at : ∀ (L : SL), Rising (skeys L) → ∀ i (h : i < L.length), sget L L[i].1 = some L[i].2
  | [], _, i, h => absurd h (Nat.not_lt_zero _)
  | p :: r, hr, i, h => by
    cases i with
    | zero => simp [sget, keq_self]
    | succ i =>
      have hi : i < r.length := by simpa using h
      have hr' := List.pairwise_cons.1 hr
      have hlt : p.1.data.toList < r[i].1.data.toList := hr'.1 r[i].1 (List.mem_map.2 ⟨r[i], List.getElem_mem _, rfl⟩)
      have hne : keq p.1 r[i].1 = false := keq_ne fun e => by rw [e] at hlt; exact List.lt_irrefl _ hlt
      have ih := sget_at r hr'.2 i hi
      unfold sget at ih ⊢
      simp only [List.getElem_cons_succ]
      rw [List.find?_cons, hne]
      exact ih
/-- key t of block I is key number .. of all -/
theorem flat_at {G : List Seg} {I t : Nat} (hI : I < G.length) (ht : t < (G[I]).ks.length) : (flat G)[(flat (G.take I)).length + t]? = some (G[I]).ks[t] := by
  have e : G = G.take I ++ G[I] :: G.drop (I + 1) := by rw [← List.drop_eq_getElem_cons hI, List.take_append_drop]
  conv => lhs; rw [e, flat_app, flat_cons]
  rw [List.getElem?_append_right (by rw [List.take_append_of_le_length (by simp; omega), List.take_take, Nat.min_self]; omega), List.take_append_of_le_length (by simp; omega), List.take_take, Nat.min_self, Nat.add_sub_cancel_left, List.getElem?_append_left ht, List.getElem?_eq_getElem ht]
theorem flat_take_succ {G : List Seg} {I : Nat} (hI : I < G.length) : (flat (G.take (I + 1))).length = (flat (G.take I)).length + (G[I]).ks.length := by
  rw [List.take_succ_eq_append_getElem hI, flat_app, flat_cons, List.length_append, List.length_append]
  simp [flat]
def UnPost (L : SL) (x : ByteArray) (w : World) (e : Ending) (w' : World) : Prop :=
  (∃ v, e = .returned v ∧ w'.ownsRow w.heap.size 65 2 v (under L x).length (pcs (under L x))) ∧ Below w.heap.size w w'
theorem un_nil {L : SL} {x : ByteArray} {w w' : World} (h : under L x = []) (hb : Below w.heap.size w w') : UnPost L x w (Ending.returned (.slice none 0 0)) w' := by
  refine ⟨⟨_, rfl, ?_⟩, hb⟩
  rw [h]
  exact World.ownsRow_nil _ _ _ _
set_option maxRecDepth 100000 in
set_option maxHeartbeats 2000000 in
/-- no keys: no blocks -/
theorem under_none (b : Nat) (F : List Nat) (q : Nat) (qs : List Value) (W : World) (h : StP W b F [] q qs) (x : ByteArray) :
    Calls Tryz.prog 29 #[.pointer (some ⟨b, 0, none⟩), .string x] W fun e w' => UnPost [] x W e w' := by
  have HM := Lib.hid (made_live b F [] q qs W h)
  obtain ⟨bm, vb, vk, vq, rfl, hS⟩ := h
  obtain ⟨A, c, rfl⟩ : ∃ A c, vb = .slice A 0 c := by
    have hkb := hS.keys.kb
    have hl : vk.length = 0 := by have := hS.keys.len; simp [skeys] at this; simpa using this
    rw [hl] at hkb
    rcases hkb.2 with ⟨rfl, _⟩ | ⟨g, cap, cur, rfl, _⟩
    · exact ⟨_, _, rfl⟩
    · exact ⟨_, _, rfl⟩
  have HP := Lib.hid (place_none b bm A c vq x W hS.r)
  have HR := Lib.hid (fun w' (hB : Below W.heap.size W w') => (hp_cell (i := 1) ((hB.block b (hp_lt hS.r)).trans hS.r)).trans rfl)
  clear hS
  go_enter Tryz.func29, Tryz.ntmps29
  go_wp2_with (first | (go_at_call 18; refine HM.out.mono ?_; rintro e w1 ⟨rfl, rfl⟩) | (go_at_call 55; refine HP.out.mono ?_; rintro e w2 ⟨rfl, hb2⟩; have B2 := Lib.hid hb2; have r1 := HR.out _ hb2; clear hb2))
  go_loopw [5, 6, 7] (fun v i j wr => v = .slice none 0 0 ∧ i = .int .i64 0 ∧ j = .int .i64 0 ∧ w2 = wr) (fun _ _ _ _ => 0)
  case atStart => exact ⟨rfl, rfl, rfl, rfl⟩
  case round =>
    obtain ⟨rfl, rfl, rfl, rfl⟩ := hrel
    go_wp2
    go_ret
    exact un_nil (by simp [under]) B2.out
theorem fieldE (v : ByteArray) (w : World) : (Instr.field 100 (.agg #[.string v]) 0).run Tryz.prog w = .ok (.string v) w := by kernel_rfl
/-- the outer rounds: d pairs so far -/
def UnOut (G : List Seg) (L : SL) (l : Nat) (x : ByteArray) (w : World) (v i j : Value) (wr : World) : Prop :=
  ∃ I J d : Nat, I ≤ G.length ∧ i = .int .i64 (I : Nat) ∧ j = .int .i64 (J : Nat) ∧ (flat (G.take I)).length + J = l + d ∧ (∀ h : I < G.length, J < (G[I]).ks.length) ∧ (I = G.length → J = 0) ∧ d ≤ (L.drop l).length ∧
    wr.ownsRow w.heap.size 65 2 v d (pcs ((L.drop l).take d)) ∧ (∀ j (h : j < (L.drop l).length), j < d → hpre x (L.drop l)[j] = true) ∧ Below w.heap.size w wr
/-- the inner ones -/
def UnRel (D : SL) (d m : Nat) (x : ByteArray) (w : World) (v i : Value) (wr : World) : Prop :=
  ∃ k : Nat, k ≤ m ∧ d + k ≤ D.length ∧ i = .int .i64 (k : Nat) ∧ wr.ownsRow w.heap.size 65 2 v (d + k) (pcs (D.take (d + k))) ∧ (∀ j (h : j < D.length), j < d + k → hpre x D[j] = true) ∧ Below w.heap.size w wr
set_option maxRecDepth 100000 in
set_option maxHeartbeats 4000000 in
theorem under_some (b : Nat) (F : List Nat) (L : SL) (q : Nat) (qs : List Value) (W : World) (h : StP W b F L q qs) (x : ByteArray) (hL : L ≠ []) (hks : ∀ p ∈ L, p.1.size ≤ maxLen) (hN : L.length < 1000000) :
    Calls Tryz.prog 29 #[.pointer (some ⟨b, 0, none⟩), .string x] W fun e w' => UnPost L x W e w' := by
  obtain ⟨i0, hi, hz0, hz1, hz2⟩ := info_parts infoPair
  have HM := Lib.hid (made_live b F L q qs W h)
  obtain ⟨bm, vb, G, vq, rfl, hS⟩ := h
  have hlen : (skeys L).length = L.length := by simp [skeys]
  have hGl := hS.keys.len
  have hfl := hS.keys.fl
  have hG0 : 0 < G.length := by
    rcases Nat.eq_zero_or_pos G.length with h0 | h0
    · have := List.length_eq_zero_iff.1 h0
      subst this
      have : (skeys L).length = 0 := by rw [← hfl]; rfl
      exact absurd (List.length_eq_zero_iff.1 (by omega)) hL
    · exact h0
  obtain ⟨ba, bc, rfl, hba⟩ := ownsRow_form hS.keys.kb hG0
  have hcell : ∀ w', Below W.heap.size W w' → ∀ i (hi : i < G.length), w'.cell? ⟨ba, i, none⟩ = some G[i].val := fun w' hB i hi => ownsRow_cell (hS.below hB).keys.kb rfl (by rw [List.getElem?_map, List.getElem?_eq_getElem hi]; rfl)
  have hs : Rising (flat G) := by rw [hfl]; exact hS.so
  have hne : ∀ s ∈ G, 0 < s.ks.length := fun s hm => (hS.keys.kk.ne s hm).1
  have hP := place_some b bm ba bc G vq x W hG0 (by omega) hs hS.keys.kk hS.r (hcell W (Below.refl _ _))
  obtain ⟨l, hl⟩ : ∃ l, l = klo (skeys L) x := ⟨_, rfl⟩
  have hle : l ≤ L.length := by have := klo_le (skeys L) x; omega
  have hund : under L x = (L.drop l).takeWhile (hpre x) := by rw [hl]; rfl
  obtain ⟨I0, J0, hpl, hI0, hlj, hJ0, hJN⟩ : ∃ I0 J0, plcI G x = (I0, J0) ∧ I0 ≤ G.length ∧ (flat (G.take I0)).length + J0 = l ∧ (∀ h : I0 < G.length, J0 < (G[I0]).ks.length) ∧ (I0 = G.length → J0 = 0) := by
    rcases plc_parts x G hs hne with ⟨h1, h2⟩ | ⟨P, s, S, rfl, h1, h2, h3⟩
    · refine ⟨G.length, 0, by unfold plcI; rw [if_pos h1], Nat.le_refl _, ?_, fun h => absurd h (Nat.lt_irrefl _), fun _ => rfl⟩
      rw [List.take_length, ← h2, hfl, hl]; rfl
    · refine ⟨P.length, klo s.ks x, ?_, by simp, ?_, fun _ => ?_, fun h => by simp at h⟩
      · unfold plcI
        rw [if_neg (by rw [h1]; simp), h1, List.getD_eq_getElem?_getD, List.getElem?_append_right (Nat.le_refl _), Nat.sub_self]
        rfl
      · rw [List.take_left' rfl, hl, ← hfl, h2]
      · simpa using h3
  rw [hpl] at hP
  have HP := Lib.hid hP
  have HR := Lib.hid (fun w' (hB : Below W.heap.size W w') => And.intro ((hp_cell (i := 0) (hS.below hB).r).trans rfl) ((hp_cell (i := 1) (hS.below hB).r).trans rfl))
  have HGc := Lib.hid hcell
  have HKc := Lib.hid (fun w' (hB : Below W.heap.size W w') (s : Seg) (hm : s ∈ G) (t : Nat) (ht : t < s.ks.length) => ((hS.below hB).keys.kk.at_ s hm).cell (List.getElem?_eq_getElem ht))
  have HLe := Lib.hid (fun (s : Seg) (hm : s ∈ G) => And.intro (hS.keys.kk.at_ s hm).le (hS.keys.kk.ne s hm).2)
  have HLk := Lib.hid (fun w' (hB : Below W.heap.size W w') (i : Nat) (hi : i < L.length) => show (Instr.lookup 73 (.map (some bm)) (.string L[i].1) false).run Tryz.prog w' = .ok (.agg #[.string L[i].2]) w' by
    have := (hS.below hB).m.plain L[i].1 (hks _ (List.getElem_mem _))
    rw [sget_at L hS.so i hi] at this
    exact this)
  have HFl := Lib.hid (fun I t (hI : I < G.length) (ht : t < (G[I]).ks.length) => show (skeys L)[(flat (G.take I)).length + t]? = some (G[I]).ks[t] by rw [← hfl]; exact flat_at hI ht)
  have HFa := Lib.hid (show (flat (G.take G.length)).length = L.length by rw [List.take_length, hfl, hlen])
  have HSt := Lib.hid (And.intro hI0 (And.intro hlj (And.intro hJ0 hJN)))
  have HS := Lib.hid hund
  have HNl := Lib.hid (And.intro hN (And.intro hle hGl))
  have HNe := Lib.hid hne
  have hGN : (G.length : Int) ≤ 1000000 := by omega
  clear hS hks hcell hs hne hP hl hle hund hpl hI0 hlj hJ0 hJN hL hN hGl hfl hlen hG0 hba
  go_enter Tryz.func29, Tryz.ntmps29
  go_wp2_with (first | (go_at_call 18; refine HM.out.mono ?_; rintro e w1 ⟨rfl, rfl⟩) | (go_at_call 55; refine HP.out.mono ?_; rintro e w2 ⟨rfl, hb2⟩; have B2 := Lib.hid hb2; clear hb2))
  go_loopw [5, 6, 7] (UnOut G L l x W) (fun _ i _ _ => G.length - (intOf i).toNat)
  case atStart => exact ⟨I0, J0, 0, HSt.out.1, rfl, rfl, HSt.out.2.1, HSt.out.2.2.1, HSt.out.2.2.2, Nat.zero_le _, by simpa [pcs] using World.ownsRow_nil _ _ _ _, fun j h h' => absurd h' (Nat.not_lt_zero _), B2.out⟩
  case round =>
    obtain ⟨I, J, d, hI, rfl, rfl, hpos, hJ, hJ2, hd, hown0, hpr0, hb0⟩ := hrel
    have r1 := (HR.out _ hb0).2
    by_cases hlt : I < G.length
    · have p1 : (I : Int) < (G.length : Int) := by omega
      have hm := List.getElem_mem hlt
      have a1 := HGc.out _ hb0 I hlt
      unfold Seg.val at a1
      obtain ⟨s, es⟩ : ∃ s, s = G[I] := ⟨_, rfl⟩
      have hJn := hJ hlt
      have hle := HLe.out _ hm
      rw [← es] at a1 hJn hle hm
      obtain ⟨n, en⟩ : ∃ n, n = s.ks.length := ⟨_, rfl⟩
      rw [← en] at a1 hJn hle
      have HX := Lib.hid (And.intro es (And.intro en (And.intro hpos (And.intro hd (And.intro hm hlt)))))
      have HO0 := Lib.hid (And.intro hown0 (And.intro hpr0 hb0))
      obtain ⟨c, ec⟩ : ∃ c, c = s.c := ⟨_, rfl⟩
      rw [← ec] at a1 hle
      have q1 : (J : Int) < (n : Int) := by omega
      have q2 : (J : Int) ≤ (n : Int) := by omega
      have q3 : (n : Int) ≤ (c : Int) := by omega
      have q4 : (J : Int) < (c : Int) := by omega
      have q5 : (n : Int) ≤ 128 := by omega
      have q6 : ¬ c = J := by omega
      have q7 : J ≤ n := by omega
      have q8 : n ≤ c := by omega
      clear hI hpos hJ hJ2 hd hown0 hpr0 hb0 hm es en ec hle
      go_wp2
      go_loopw [5, 38] (UnRel (L.drop l) d (n - J) x W) (fun _ i _ => n - (intOf i).toNat)
      case atStart => exact ⟨0, Nat.zero_le _, HX.out.2.2.2.1, rfl, HO0.out.1, HO0.out.2.1, HO0.out.2.2⟩
      case round =>
        obtain ⟨k, hkm, hk, rfl, hown, hpr, hbel⟩ := hrel
        have HPr := Lib.hid hpr
        have HO := Lib.hid hown
        have HBl := Lib.hid hbel
        by_cases hkl : k < n - J
        · have hIx := HFl.out I (J + k) HX.out.2.2.2.2.2 (by rw [← HX.out.1, ← HX.out.2.1]; omega)
          rw [show (flat (G.take I)).length + (J + k) = l + (d + k) by have := HX.out.2.2.1; omega] at hIx
          have hlk : l + (d + k) < L.length := by have := (List.getElem?_eq_some_iff.1 hIx).1; simpa [skeys] using this
          have r0 := (HR.out _ hbel).1
          have lk := HLk.out _ hbel _ hlk
          have hkD : d + k < (L.drop l).length := by rw [List.length_drop]; omega
          have hDk : ∀ h : d + k < (L.drop l).length, (L.drop l)[d + k]'h = L[l + (d + k)] := fun _ => List.getElem_drop
          have ck := HKc.out _ hbel s HX.out.2.2.2.2.1 (J + k) (by rw [← HX.out.2.1]; omega)
          have hkey : s.ks[J + k]'(by rw [← HX.out.2.1]; omega) = (L[l + (d + k)]).1 := by
            have e1 : (skeys L)[l + (d + k)]? = some (L[l + (d + k)]).1 := by simp [skeys, List.getElem?_eq_getElem hlk]
            rw [e1] at hIx
            have e2 := Option.some.inj hIx
            rw [e2]
            simp only [HX.out.1]
          rw [hkey, ← Nat.add_assoc] at ck
          obtain ⟨⟨ky, vl⟩, hkv⟩ : ∃ p, p = L[l + (d + k)] := ⟨_, rfl⟩
          rw [← hkv] at ck lk hDk
          have hx := Lib.hid (Tryz.strings_HasPrefix ky x)
          have HD := Lib.hid hDk
          have HKD := Lib.hid hkD
          have hdk63 : d + k < 1000000 := by have := HNl.out.1; omega
          have hk63 : (k : Int) < 128 := by omega
          have hkn : (k : Int) < (n : Int) - (J : Int) := by omega
          have hkn2 : (k : Int) < ((n - J : Nat) : Int) := by omega
          have hbs := hbel.size
          have hfd := fieldE vl
          have hpd : hpre x (ky, vl) = Lib.hasPrefix ky.data.toList x.data.toList := rfl
          clear hDk hkv hk hpr hbel hIx hlk hkD hkey
          cases hpx : hpre x (ky, vl) with
          | true =>
            rw [hpd] at hpx
            have HPX := Lib.hid hpx
            rw [hpx] at hx
            clear hpd
            go_wp2_with (first | (go_at_call 56; refine (hx.out _).mono ?_; rintro e w3 ⟨rfl, hw3⟩; have hw4 := hw3.symm; clear hw3; subst hw4) | (at_builtin; refine wpList_append_own _ rfl _ _ _ rfl W.heap.size 65 i0 _ 2 32 Tryz.underlying36 hi hz0 hz1 hz2 rfl (by omega) _ (d + k) (pcs ((L.drop l).take (d + k))) rfl (hown.alloc _) ⟨wr.heap.size, 0, none⟩ 1 1 [.string ky, .string vl] rfl rfl (World.news_of_block (cs := #[.string ky, .string vl]) (t := 65) (fr := (0, 0)) (heap_alloc_new wr _)) (by simp [Value.oneCell']) (by unfold maxLen; omega) (by omega) (by simp; omega) ?_; intro v2 w5 hown2 hgrow _; have HB2 := Lib.hid (((HBl.out.alloc HBl.out.size (.cells #[.string ky, .string vl] 65)).grown hgrow (by simp only [World.size_alloc]; omega) (fun q hq => ((HO.out).lt q hq).1) : Below W.heap.size W w5)); have HO2 := Lib.hid hown2; clear hown2 hgrow hown))
            refine ⟨⟨k + 1, by omega, HKD.out, by simp, ?_, fun j hj hjk => ?_, HB2.out⟩, by simp [intOf]; omega⟩
            · have e : (L.drop l).take (d + (k + 1)) = (L.drop l).take (d + k) ++ [(ky, vl)] := by rw [← Nat.add_assoc, List.take_succ_eq_append_getElem HKD.out, HD.out HKD.out]
              rw [e, pcs_snoc]
              exact HO2.out
            · rcases (by omega : j < d + k ∨ j = d + k) with h1 | rfl
              · exact HPr.out j hj h1
              · rw [HD.out HKD.out]; exact HPX.out
          | false =>
            rw [hpd] at hpx
            rw [hpx] at hx
            go_wp2_with (go_at_call 56; refine (hx.out _).mono ?_; rintro e w3 ⟨rfl, hw3⟩; have hw4 := hw3.symm; clear hw3; subst hw4)
            go_ret
            have e : under L x = (L.drop l).take (d + k) := by rw [HS.out]; exact takeWhile_here _ _ _ (Nat.le_of_lt HKD.out) HPr.out (fun h => by rw [HD.out HKD.out, hpd]; exact hpx)
            refine ⟨⟨_, rfl, ?_⟩, HBl.out⟩
            rw [e, List.length_take, Nat.min_eq_left (Nat.le_of_lt HKD.out)]
            exact HO.out
        · have hkn : ¬ (k : Int) < ((n - J : Nat) : Int) := by omega
          obtain rfl : k = n - J := by omega
          have HEn := Lib.hid hk
          clear hk hpr hbel hown hkl hkm
          go_wp2
          refine ⟨⟨I + 1, 0, d + (n - J), by omega, by go_num, rfl, ?_, fun h => HNe.out _ (List.getElem_mem h), fun _ => rfl, HEn.out, HO.out, HPr.out, HBl.out⟩, by simp [intOf]; omega⟩
          have e1 := flat_take_succ hlt
          have e2 := HX.out.2.2.1
          have e3 : n = (G[I]).ks.length := by rw [HX.out.2.1, HX.out.1]
          omega
    · obtain rfl : I = G.length := by omega
      obtain rfl := hJ2 rfl
      have p1 : ¬ (G.length : Int) < (G.length : Int) := by omega
      have HV := Lib.hid (And.intro hown0 (And.intro hpr0 hb0))
      have hdl : d = (L.drop l).length := by have := HFa.out; have := HNl.out.2.1; rw [List.length_drop]; omega
      have HDl := Lib.hid hdl
      clear hI hpos hJ hJ2 hd hown0 hpr0 hb0 hdl
      go_wp2
      go_ret
      refine ⟨⟨_, rfl, ?_⟩, HV.out.2.2⟩
      have e : under L x = (L.drop l).take d := by rw [HS.out]; exact takeWhile_here _ _ _ (Nat.le_of_eq HDl.out) HV.out.2.1 (fun h => absurd h (by have := HDl.out; omega))
      rw [e, List.length_take, Nat.min_eq_left (Nat.le_of_eq HDl.out)]
      exact HV.out.1
/-- Under on a live store -/
theorem under_live (b : Nat) (F : List Nat) (L : SL) (q : Nat) (qs : List Value) (W : World) (h : StP W b F L q qs) (x : ByteArray) (hks : ∀ p ∈ L, p.1.size ≤ maxLen) (hN : L.length < 1000000) :
    Calls Tryz.prog 29 #[.pointer (some ⟨b, 0, none⟩), .string x] W fun e w' => UnPost L x W e w' := by
  by_cases hL : L = []
  · subst hL; exact under_none b F q qs W h x
  · exact under_some b F L q qs W h x hL hks hN
end Go.Proofs.YtoaepgiajooecaaGreat

namespace Go.Proofs.YtoaepgiajooecaaGreat
open Go.RowKit Go.Maps Go.Sort

theorem pcs_at : ∀ (l : SL) (j : Nat) (h : j < l.length), (pcs l)[j * 2]? = some (.string l[j].1) ∧ (pcs l)[j * 2 + 1]? = some (.string l[j].2)
  | [], j, h => absurd h (Nat.not_lt_zero _)
  | p :: r, 0, _ => ⟨rfl, rfl⟩
  | p :: r, j + 1, h => by
    have ih := pcs_at r j (by simpa using h)
    have e : pcs (p :: r) = .string p.1 :: .string p.2 :: pcs r := rfl
    rw [e]
    refine ⟨?_, ?_⟩
    · rw [show (j + 1) * 2 = j * 2 + 1 + 1 by omega, List.getElem?_cons_succ, List.getElem?_cons_succ]
      simpa using ih.1
    · rw [show (j + 1) * 2 + 1 = j * 2 + 1 + 1 + 1 by omega, List.getElem?_cons_succ, List.getElem?_cons_succ]
      simpa using ih.2
/-- a row of pairs that was made: how it is read -/
theorem row_pairs {w : World} {B : Nat} {v : Value} {l : SL} (h : w.ownsRow B 65 2 v l.length (pcs l)) :
    ∃ A c, v = .slice A l.length c ∧ (0 < l.length → ∃ g, A = some ⟨g, 0, none⟩ ∧ B ≤ g ∧ g < w.heap.size ∧ ∀ j (h : j < l.length), w.cell? ⟨g, j * 2, none⟩ = some (.string l[j].1) ∧ w.cell? ⟨g, j * 2 + 1, none⟩ = some (.string l[j].2)) := by
  rcases h.2 with ⟨rfl, h0⟩ | ⟨g, cap, cur, rfl, hb, hg, r⟩
  · exact ⟨none, 0, by rw [h0], fun hp => by omega⟩
  · exact ⟨_, cap, rfl, fun _ => ⟨g, rfl, hb, hp_lt hg, fun j hj => ⟨ownsRow_cell h rfl (pcs_at l j hj).1, ownsRow_cell h rfl (pcs_at l j hj).2⟩⟩⟩
end Go.Proofs.YtoaepgiajooecaaGreat
