/- What lies in blocks of types that no store has stays, whatever a store does. -/
import Derived.Test.YtbfmhafmncnhfaaG11
import Derived.Test.YtbfmhafmncnhfaaG20
import Derived.Test.YtbfmhafmncnhfaaG09
namespace Go.Proofs.Ytbfmhafmncnhfaa
open Go.RowKit Go.Maps Go.Sort

/-- what keeps every block of cells of one type -/
def KeepT (T : TypeId) (W W' : World) : Prop := W.heap.size ≤ W'.heap.size ∧ ∀ (k : Nat) (cs : Array Value) (fr : Nat × Nat), W.heap[k]? = some (Obj.cells cs T fr) → W'.heap[k]? = some (Obj.cells cs T fr)
theorem KeepT.refl (T : TypeId) (W : World) : KeepT T W W := ⟨Nat.le_refl _, fun _ _ _ h => h⟩
theorem KeepT.trans {T : TypeId} {A B C : World} (h : KeepT T A B) (k : KeepT T B C) : KeepT T A C := ⟨Nat.le_trans h.1 k.1, fun i cs fr hi => k.2 i cs fr (h.2 i cs fr hi)⟩
theorem KeepT.of_below {T : TypeId} {W W' : World} (h : Below W.heap.size W W') : KeepT T W W' := ⟨h.size, fun k cs fr hk => (h.block k (hp_lt hk)).trans hk⟩
theorem ownsRow_keepT {T : TypeId} {w w' : World} {B k n : Nat} {v : Value} {xs : List Value} (h : w.ownsRow B T k v n xs) (hk : KeepT T w w') : w'.ownsRow B T k v n xs := by
  refine ownsRow_same h fun g hg => ?_
  rcases h.2 with ⟨rfl, _⟩ | ⟨g', cap, cur, rfl, _, hh, _⟩
  · cases hg
  · cases hg
    exact (hk.2 _ _ _ hh).trans hh.symm
theorem ownsRow_typ {T : TypeId} {w : World} {B k n : Nat} {v : Value} {xs : List Value} (h : w.ownsRow B T k v n xs) {g : Nat} (hg : v.ownBlock = some g) : ∃ cs, w.heap[g]? = some (Obj.cells cs T (0, 0)) := by
  rcases h.2 with ⟨rfl, _⟩ | ⟨g', cap, cur, rfl, _, hh, _⟩
  · cases hg
  · cases hg
    exact ⟨_, hh⟩
/-- a type of which no block of a store is -/
structure Foreign (T : TypeId) : Prop where
  s : T ≠ 77
  b : T ≠ 83
  k : T ≠ 9
  c : T ≠ 87
theorem stp_blk {w : World} {b : Nat} {F : List Nat} {L : SL} {q : Nat} {qs : List Value} (h : StP w b F L q qs) : ∀ k ∈ F, (∃ es c, w.heap[k]? = some (Obj.map es c)) ∨ ∃ cs T, w.heap[k]? = some (Obj.cells cs T (0, 0)) ∧ ¬ Foreign T := by
  obtain ⟨bm, vb, vk, vq, rfl, hS⟩ := h
  intro k hk
  rcases (fpr_kfp _ _ _ _ _ _ _).1 hk with rfl | hk | hk
  · obtain ⟨D, ⟨es, clock, hb, _⟩, _⟩ := hS.m
    exact .inl ⟨_, _, hb⟩
  · obtain ⟨cs, T, hc, hT⟩ := hS.keys.ty hk
    exact .inr ⟨cs, T, hc, fun h => by rcases hT with e | e | e; exact h.s e; exact h.b e; exact h.k e⟩
  · obtain ⟨cs, hc⟩ := ownsRow_typ hS.kq hk
    exact .inr ⟨cs, _, hc, fun h => h.c rfl⟩
theorem stp_other {w : World} {b : Nat} {F : List Nat} {L : SL} {q : Nat} {qs : List Value} (h : StP w b F L q qs) {k : Nat} {cs : Array Value} {T : TypeId} {fr : Nat × Nat} (hk : w.heap[k]? = some (Obj.cells cs T fr)) (hT : Foreign T) : k ∉ F := fun hm => by
  rcases stp_blk h k hm with ⟨es, c, h1⟩ | ⟨cs', T', h1, h2⟩
  · rw [h1] at hk; cases hk
  · rw [h1] at hk; cases hk; exact h2 hT
theorem LiveTo.keepT {w W W' : World} {b : Nat} {F : List Nat} {L L' : SL} {q q' : Nat} {qs : List Value} (hs : SNew w W b F L q qs) (h : LiveTo w W W' b F L' q') {T : TypeId} (hT : Foreign T) : KeepT T W W' := by
  obtain ⟨_, _, _, _, _, ht, _⟩ := h
  exact ⟨ht.size, fun k cs fr hk => (ht.block k (hp_lt hk) (stp_other hs.s hk hT)).trans hk⟩
/-- a store lies as it lay where a block of another type is written -/
theorem SNew.other {w W W' : World} {b : Nat} {F : List Nat} {L : SL} {q : Nat} {qs : List Value} (h : SNew w W b F L q qs) (G : List Nat) (ht : Touch G W W') (hG : ∀ g ∈ G, w.heap.size ≤ g ∧ ∃ cs T fr, W.heap[g]? = some (Obj.cells cs T fr) ∧ Foreign T) : SNew w W' b F L q qs :=
  ⟨h.s.touch ht (fun k hk hm => by obtain ⟨_, cs, T, fr, h1, h2⟩ := hG k hm; exact stp_other h.s h1 h2 hk), h.f, h.l.trans (ht.below (fun k hk => (hG k hk).1) h.l.size)⟩
theorem KeepT.setOther {T T' : TypeId} {W : World} {g o : Nat} {cs : Array Value} {fr : Nat × Nat} (v : Value) (hg : W.heap[g]? = some (Obj.cells cs T' fr)) (hne : T ≠ T') : KeepT T W (W.setCell ⟨g, o, none⟩ v) := by
  refine ⟨by simp, fun k cs' fr' hk => ?_⟩
  have hk2 : k ≠ g := fun e => by subst e; rw [hg] at hk; cases hk; exact hne rfl
  rw [Below.heap_setCell _ _ _ _ hk2]
  exact hk
theorem KeepT.grown {T T' : TypeId} {W W' : World} {row : Option Nat} (hg : W.grownBy W' row) (hr : ∀ g, row = some g → ∃ cs fr, W.heap[g]? = some (Obj.cells cs T' fr)) (hne : T ≠ T') : KeepT T W W' :=
  ⟨hg.size, fun k cs fr hk => (hg.block k (hp_lt hk) (fun e => by
    obtain ⟨cs', fr', h1⟩ := hr k e.symm
    rw [hk] at h1; cases h1; exact hne rfl)).trans hk⟩
theorem Touch.keepT {F : List Nat} {W W' : World} {T : TypeId} (ht : Touch F W W') (hF : ∀ k ∈ F, ∀ cs fr, W.heap[k]? ≠ some (Obj.cells cs T fr)) : KeepT T W W' :=
  ⟨ht.size, fun k cs fr hk => (ht.block k (hp_lt hk) (fun hm => hF k hm cs fr hk)).trans hk⟩
/-- a row of ints in a block of its own stays -/
theorem il_touch {w W : World} {b : Nat} {F : List Nat} {L : SL} {q : Nat} {qs : List Value} (hs : SNew w W b F L q qs) {g : Nat} {cs : Array Value} (hg : W.heap[g]? = some (Obj.cells cs 3 (0, 0))) {n : Nat} {f : Nat → Int} (hl : Il W (some ⟨g, 0, none⟩) n f) (hT : Foreign 3) (W' : World) (ht : Touch F W W') : Il W' (some ⟨g, 0, none⟩) n f := by
  have he := ht.block g (hp_lt hg) (stp_other hs.s hg hT)
  refine ⟨hl.1, fun hn => ?_⟩
  obtain ⟨g', o, e, hlt, hc⟩ := hl.2 hn
  cases e
  refine ⟨g, 0, rfl, Nat.lt_of_lt_of_le hlt ht.size, fun i hi => ?_⟩
  rw [← hc i hi]
  simp only [World.cell?, he]
end Go.Proofs.Ytbfmhafmncnhfaa

namespace Go.Proofs.Ytbfmhafmncnhfaa
open Go.RowKit Go.Maps Go.Sort

theorem pre_ge : ∀ (k x : List UInt8), Lib.hasPrefix k x = true → ¬ k < x
  | _, [], _, h => List.not_lt_nil _ h
  | [], b :: x, hp, _ => by simp [Lib.hasPrefix] at hp
  | a :: k, b :: x, hp, h => by
    simp [Lib.hasPrefix] at hp
    obtain ⟨e, hp⟩ := hp
    subst e
    rcases List.cons_lt_cons_iff.1 h with h | ⟨_, h⟩
    · exact absurd h (UInt8.lt_irrefl _)
    · exact pre_ge k x (by simpa [Lib.hasPrefix] using hp) h
theorem pre_between : ∀ (x k k' : List UInt8), ¬ k < x → k < k' → Lib.hasPrefix k' x = true → Lib.hasPrefix k x = true
  | [], k, _, _, _, _ => by simp [Lib.hasPrefix]
  | b :: x, [], _, h, _, _ => absurd (List.nil_lt_cons _ _) h
  | b :: x, a :: k, [], _, _, hp => by simp [Lib.hasPrefix] at hp
  | b :: x, a :: k, c :: k', h, hl, hp => by
    simp [Lib.hasPrefix] at hp
    obtain ⟨e, hp⟩ := hp
    subst e
    have hba : ¬ a < b := fun h2 => h (List.cons_lt_cons_iff.2 (.inl h2))
    rcases List.cons_lt_cons_iff.1 hl with h2 | ⟨h2, h3⟩
    · exact absurd h2 hba
    · subst h2
      have := pre_between x k k' (fun h4 => h (List.cons_lt_cons_iff.2 (.inr ⟨rfl, h4⟩))) h3 (by simpa [Lib.hasPrefix] using hp)
      simpa [Lib.hasPrefix] using this
theorem tw_count (x : ByteArray) : ∀ D : SL, Rising (skeys D) → (∀ p ∈ D, ¬ p.1.data.toList < x.data.toList) → (D.takeWhile (hpre x)).length = D.countP (hpre x)
  | [], _, _ => rfl
  | p :: r, hr, hg => by
    have hr2 : Rising (skeys r) := (List.pairwise_cons.1 hr).2
    cases hp : hpre x p with
    | true =>
      rw [List.takeWhile_cons, hp, List.countP_cons_of_pos hp]
      simp only [if_true, List.length_cons]
      rw [tw_count x r hr2 (fun q hq => hg q (List.mem_cons_of_mem _ hq))]
    | false =>
      rw [List.takeWhile_cons, hp, List.countP_cons_of_neg (by rw [hp]; decide)]
      have : r.countP (hpre x) = 0 := List.countP_eq_zero.2 fun q hq h => by
        have hlt : p.1.data.toList < q.1.data.toList := (List.pairwise_cons.1 hr).1 q.1 (List.mem_map.2 ⟨q, hq, rfl⟩)
        have := pre_between x.data.toList p.1.data.toList q.1.data.toList (hg p (by simp)) hlt h
        unfold hpre at hp
        rw [hp] at this
        cases this
      rw [this]
      rfl
theorem under_count {L : SL} (hr : Rising (skeys L)) (x : ByteArray) : (under L x).length = L.countP (hpre x) := by
  obtain ⟨h1, h2⟩ := klo_parts x (skeys L) hr
  obtain ⟨m, em⟩ : ∃ m, m = klo (skeys L) x := ⟨_, rfl⟩
  unfold under
  rw [← em] at h1 h2 ⊢
  have hd : Rising (skeys (L.drop m)) := by
    unfold Rising skeys at hr ⊢
    rw [List.map_drop]
    exact hr.sublist (List.drop_sublist _ _)
  rw [tw_count x _ hd (fun p hp => h2 p.1 (by unfold skeys; rw [← List.map_drop]; exact List.mem_map.2 ⟨p, hp, rfl⟩))]
  conv => rhs; rw [← List.take_append_drop m L, List.countP_append]
  have : (L.take m).countP (hpre x) = 0 := List.countP_eq_zero.2 fun q hq h => pre_ge _ _ h (h1 q.1 (by unfold skeys; rw [← List.map_take]; exact List.mem_map.2 ⟨q, hq, rfl⟩))
  rw [this, Nat.zero_add]
theorem under_all (L : SL) : under L ⟨#[]⟩ = L := by
  have h0 : klo (skeys L) ⟨#[]⟩ = 0 := klo_zero fun y _ h => List.not_lt_nil _ h
  unfold under
  rw [h0, List.drop_zero]
  rw [takeWhile_here _ L L.length (Nat.le_refl _) (fun j hj _ => by unfold hpre; simp [Lib.hasPrefix]) (fun h => absurd h (Nat.lt_irrefl _)), List.take_length]
set_option maxRecDepth 100000 in
set_option maxHeartbeats 400000 in
/-- All on a live store -/
theorem all_live (b : Nat) (F : List Nat) (L : SL) (q : Nat) (qs : List Value) (W : World) (h : StP W b F L q qs) (hks : ∀ p ∈ L, p.1.size ≤ maxLen) (hN : L.length < 1000000) :
    Calls Try.prog 20 #[.pointer (some ⟨b, 0, none⟩)] W fun e w' => (∃ v, e = .returned v ∧ w'.ownsRow W.heap.size 43 2 v L.length (pcs L)) ∧ Below W.heap.size W w' := by
  have HU := under_live b F L q qs W h ⟨#[]⟩ hks hN
  unfold UnPost at HU
  rw [under_all] at HU
  have HU := Lib.hid HU
  clear h hks hN
  go_enter Try.func20, Try.ntmps20
  go_wp2_with (go_at_call 24; refine HU.out.mono ?_; rintro e w1 ⟨⟨v, rfl, hown⟩, hb⟩; have HO := Lib.hid (And.intro hown hb); clear hown hb)
  go_ret
  exact ⟨⟨v, rfl, HO.out.1⟩, HO.out.2⟩
end Go.Proofs.Ytbfmhafmncnhfaa

namespace Go.Proofs.Ytbfmhafmncnhfaa
open Go.RowKit Go.Maps Go.Sort

theorem sget_setL (L : SL) (k v k' : ByteArray) : sget (setL L k v) k' = if k' = k then some v else sget L k' := by
  unfold setL
  split
  · rename_i h
    split
    · rename_i e; rw [e, h]
    · rfl
  · exact sget_sset L k v k'
theorem setL_len (L : SL) (k v : ByteArray) : (setL L k v).length ≤ L.length + 1 := by
  unfold setL
  split
  · omega
  · unfold sset
    split
    · simp
    · simp; omega
set_option maxRecDepth 100000 in
set_option maxHeartbeats 2000000 in
theorem set_empty (b : Nat) (F : List Nat) (L : SL) (q : Nat) (qs : List Value) (v : ByteArray) (w : World) (h : StP w b F L q qs) :
    Calls Try.prog 22 #[.pointer (some ⟨b, 0, none⟩), .string ⟨#[]⟩, .string v] w fun e w' => e = .returned (.int .i64 2) ∧ w = w' := by
  have HM := Lib.hid (made_live b F L q qs w h)
  have hk1 : (⟨#[]⟩ : ByteArray).toList.isEmpty = true := by rw [Lib.toList_data]; rfl
  clear h
  go_enter Try.func22, Try.ntmps22
  go_wp2_with (go_at_call 18; refine HM.out.mono ?_; rintro e w1 ⟨rfl, rfl⟩)
  go_ret
  exact ⟨rfl, rfl⟩
/-- what Set makes of the entries -/
def setE (L : SL) (k v : ByteArray) : SL := if k = ⟨#[]⟩ then L else setL L k v
theorem SNew.setAny {w W : World} {b : Nat} {F : List Nat} {L : SL} {q : Nat} {qs : List Value} (h : SNew w W b F L q qs) (k v : ByteArray) (hk : k.size ≤ maxLen) (hv : v.size ≤ maxLen) (hN : L.length < 1000000) (hq : q < 1000000) :
    Calls Try.prog 22 #[.pointer (some ⟨b, 0, none⟩), .string k, .string v] W fun e W' => (∃ r, e = .returned (.int .i64 r)) ∧ LiveTo w W W' b F (setE L k v) (q + 1) := by
  unfold setE
  by_cases hk0 : k = ⟨#[]⟩
  · rw [if_pos hk0]
    subst hk0
    refine (set_empty b F L q qs v W h.s).mono ?_
    rintro e W' ⟨rfl, rfl⟩
    obtain ⟨F', q', qs', h1, h2, h3⟩ := h.start
    exact ⟨⟨2, rfl⟩, F', q', qs', h1, by omega, h3⟩
  · rw [if_neg hk0]
    refine (h.sets k v hk hv hk0 hN hq).mono ?_
    rintro e W' ⟨he, hl⟩
    exact ⟨⟨0, he⟩, hl⟩
end Go.Proofs.Ytbfmhafmncnhfaa
