/- A store that no call made: Made, Get; what stands on it: cell.Row, delay.Get, Of, split.Set, Get, walked. -/
import Derived.Test.YtedkhpnlhkjjgaaG02
import Derived.Test.YtedkhpnlhkjjgaaG03
import Derived.StringKeys
namespace Go.Proofs.Ytedkhpnlhkjjgaa
open Go.RowKit

theorem hp_lt {w : World} {p : Nat} {o : Obj} (h : w.heap[p]? = some o) : p < w.heap.size := (Array.getElem?_eq_some_iff.1 h).1
theorem hp_cell {w : World} {p i : Nat} {cs : Array Value} {t : TypeId} {fr : Nat × Nat} (h : w.heap[p]? = some (.cells cs t fr)) : w.cell? ⟨p, i, none⟩ = cs[i]? := by
  simp [World.cell?, h]
theorem hp_free {w : World} {p i : Nat} {cs : Array Value} {t : TypeId} (h : w.heap[p]? = some (.cells cs t (0, 0))) : w.frozen? ⟨p, i, none⟩ = false := by
  simp [World.frozen?, h]
/-- nil, or a store without entries -/
def SDead (w : World) (p : Value) : Prop :=
  p = .pointer none ∨ ∃ b, p = .pointer (some ⟨b, 0, none⟩) ∧ b < w.heap.size ∧ w.cell? ⟨b, 0, none⟩ = some (.map none)
theorem SDead.below {w w' : World} {p : Value} (h : SDead w p) (hb : Below w.heap.size w w') : SDead w' p := by
  rcases h with h | ⟨b, h1, h2, h3⟩
  · exact .inl h
  · exact .inr ⟨b, h1, Nat.lt_of_lt_of_le h2 hb.size, by rw [hb.cell (p := ⟨b, 0, none⟩) h2]; exact h3⟩
set_option maxRecDepth 100000 in
set_option maxHeartbeats 400000 in
theorem made_dead (p : Value) (w : World) (h : SDead w p) : Calls Try.prog 27 #[p] w fun e w' => e = .returned (.bool false) ∧ w = w' := by
  rcases h with rfl | ⟨b, rfl, h2, h3⟩
  · go_enter Try.func27, Try.ntmps27
    go_wp2
    go_ret
    exact ⟨rfl, rfl⟩
  · have hm := fun w => run_neq_map_nil (P := Try.prog) w 103 _ _ none Try.underlying103
    go_enter Try.func27, Try.ntmps27
    go_wp2
    go_ret
    exact ⟨rfl, rfl⟩
set_option maxRecDepth 100000 in
set_option maxHeartbeats 400000 in
theorem sget_dead (p : Value) (k : ByteArray) (w : World) (h : SDead w p) : Calls Try.prog 47 #[p, .string k] w fun e w' => e = .returned (.tuple #[.string { data := #[] }, .bool false]) ∧ w = w' := by
  have HM := Lib.hid (made_dead p w h)
  clear h
  go_enter Try.func47, Try.ntmps47
  go_wp2_with (go_at_call 27; refine HM.out.mono ?_; rintro e w1 ⟨rfl, rfl⟩)
  go_ret2
  exact ⟨rfl, rfl⟩
theorem nums_none (w : World) : Calls Try.prog 113 #[.string { data := #[] }] w fun e w' => e = .returned (.tuple #[.slice (some ⟨w.heap.size, 0, none⟩) 0 0, .bool true]) ∧ Below w.heap.size w w' := by
  refine (nums_walk { data := #[] } 0 w rfl (by omega)).mono ?_
  rintro e w' ⟨⟨_, he, _⟩ | ⟨⟨i, hi, _⟩, _⟩, hb⟩
  · exact ⟨he, hb⟩
  · omega
set_option maxRecDepth 100000 in
set_option maxHeartbeats 400000 in
theorem numbers_dead (p : Value) (k : ByteArray) (w : World) (h : SDead w p) : Calls Try.prog 111 #[.func (Fn.func 47) #[p] #[], .string k] w fun e w' => e = .returned (.slice (some ⟨w.heap.size, 0, none⟩) 0 0) ∧ Below w.heap.size w w' := by
  have HG := Lib.hid (sget_dead p k w h)
  have HN := Lib.hid (nums_none w)
  clear h
  go_enter Try.func111, Try.ntmps111
  go_wp2_with (first
    | (go_at_call 113; refine HN.out.mono ?_; rintro e w1 ⟨rfl, hb⟩; have HB := Lib.hid hb; clear hb)
    | (go_at_call 47; refine HG.out.mono ?_; rintro e w1 ⟨rfl, rfl⟩))
  go_ret
  exact ⟨rfl, HB.out⟩
set_option maxRecDepth 100000 in
set_option maxHeartbeats 400000 in
theorem row_dead (p : Value) (k : ByteArray) (w : World) (h : SDead w p) : Calls Try.prog 77 #[p, .string k] w fun e w' => e = .returned (.slice (some ⟨w.heap.size, 0, none⟩) 0 0) ∧ Below w.heap.size w w' := by
  have HN := Lib.hid (numbers_dead p k w h)
  clear h
  go_enter Try.func77, Try.ntmps77
  go_wp2_with (go_at_call 111; refine HN.out.mono ?_; rintro e w1 ⟨rfl, hb⟩; have HB := Lib.hid hb; clear hb)
  go_ret
  exact ⟨rfl, HB.out⟩
/-- delay's nothing -/
def dv0 : Value := .agg #[.bool false, .int .i64 0, .int .i64 0, .int .i64 0, .bool false]
set_option maxRecDepth 100000 in
set_option maxHeartbeats 400000 in
theorem dget_dead (p : Value) (t : Int) (A : Option Addr) (n c : Nat) (f : Nat → Int) (w : World) (h : SDead w p) (hl : Il w A n f) (hn : n ≤ 100) : Calls Try.prog 59 #[p, .int .i64 t, .slice A n c] w fun e w' => e = .returned dv0 ∧ Below w.heap.size w w' := by
  have hb0 := (Below.refl w.heap.size w).alloc (Nat.le_refl _) (.cells #[.bool false, .int .i64 0, .int .i64 0, .int .i64 0, .bool false] 100)
  have HB0 := Lib.hid hb0
  have HK := Lib.hid (key_walk t A n c f _ (hl.below hb0) hn)
  have HD := Lib.hid (h.below hb0)
  have r0 : (w.alloc (.cells #[.bool false, .int .i64 0, .int .i64 0, .int .i64 0, .bool false] 100)).heap[w.heap.size]? = some (.cells #[.bool false, .int .i64 0, .int .i64 0, .int .i64 0, .bool false] 100 (0, 0)) := heap_alloc_new _ _
  have R0 := Lib.hid r0
  have Z0 := Lib.hid (show w.heap.size < (w.alloc (.cells #[.bool false, .int .i64 0, .int .i64 0, .int .i64 0, .bool false] 100)).heap.size by simp)
  clear h hl hb0 r0
  unfold dv0
  go_enter Try.func59, Try.ntmps59
  go_wp2_with (first
    | (go_at_call 77; refine HR.out.mono ?_; rintro e w2 ⟨rfl, hb2⟩; have HB2 := Lib.hid (HB1.out.trans (hb2.mono HB1.out.size)); have r2 := (hb2.block w.heap.size (Nat.lt_of_lt_of_le Z0.out Z1.out)).trans R1.out; have c0 := (hp_cell (i := 0) r2).trans rfl; have g0 := hp_free (i := 0) r2; have c1 := (hp_cell (i := 1) r2).trans rfl; have g1 := hp_free (i := 1) r2; have c2 := (hp_cell (i := 2) r2).trans rfl; have g2 := hp_free (i := 2) r2; have c3 := (hp_cell (i := 3) r2).trans rfl; have g3 := hp_free (i := 3) r2; have c4 := (hp_cell (i := 4) r2).trans rfl; have g4 := hp_free (i := 4) r2; have Z2 := Lib.hid (hp_lt r2); clear hb2 r2)
    | (go_at_call 60; refine HK.out.mono ?_; rintro e w1 ⟨rfl, hb1⟩; have HR := Lib.hid (row_dead p (keyStr t f n) w1 (HD.out.below hb1)); have HB1 := Lib.hid (HB0.out.trans (hb1.mono HB0.out.size)); have R1 := Lib.hid ((hb1.block w.heap.size Z0.out).trans R0.out); have Z1 := Lib.hid hb1.size; clear hb1))
  refine bodyPost_ret (v := .agg #[.bool false, .int .i64 0, .int .i64 0, .int .i64 0, .bool false]) (by simp [results, Try.results59, go_sem, c0, c1, c2, c3, c4]) rfl ⟨rfl, ?_⟩
  exact ((((HB2.out.setCell (Nat.le_refl _) _).setCell (Nat.le_refl _) _).setCell (Nat.le_refl _) _).setCell (Nat.le_refl _) _).setCell (Nat.le_refl _) _
set_option maxRecDepth 100000 in
set_option maxHeartbeats 400000 in
theorem settle0 (b : Int) (w : World) : Calls Try.prog 107 #[dv0, .int .i64 b] w fun e w' => e = .returned dv0 ∧ Below w.heap.size w w' := by
  unfold dv0
  go_enter Try.func107, Try.ntmps107
  go_wp2
  refine bodyPost_ret (v := .agg #[.bool false, .int .i64 0, .int .i64 0, .int .i64 0, .bool false]) (by simp [results, Try.results107, go_sem]) rfl ⟨rfl, ?_⟩
  exact ((Below.refl w.heap.size w).alloc (Nat.le_refl _) _).alloc (by simp) _
set_option maxRecDepth 100000 in
set_option maxHeartbeats 400000 in
theorem of0 (b : Int) (w : World) : Calls Try.prog 58 #[dv0, .int .i64 b] w fun e w' => e = .returned (.tuple #[.int .i64 0, .bool false]) ∧ Below w.heap.size w w' := by
  have hb0 := (Below.refl w.heap.size w).alloc (Nat.le_refl _) (.cells #[.bool false, .int .i64 0, .int .i64 0, .int .i64 0, .bool false] 100)
  have HB0 := Lib.hid hb0
  have HS := settle0 b (w.alloc (.cells #[.bool false, .int .i64 0, .int .i64 0, .int .i64 0, .bool false] 100))
  unfold dv0 at HS ⊢
  have HSe := Lib.hid HS
  clear hb0 HS
  go_enter Try.func58, Try.ntmps58
  go_wp2_with (go_at_call 107; refine HSe.out.mono ?_; rintro e w1 ⟨rfl, hb1⟩; have HB1 := Lib.hid (HB0.out.trans (hb1.mono HB0.out.size)); clear hb1)
  all_goals
    go_region
    all_goals
      go_wp2
      go_ret2
      exact ⟨rfl, (HB1.out.alloc HB1.out.size _).drew⟩
def two2 (a b : Int) : Nat → Int
  | 0 => a
  | _ => b
theorem il2 (a b : Int) (w : World) (t : TypeId) (ha : a < 2 ^ 63) (hb : b < 2 ^ 63) : Il (w.alloc (.cells #[.int .i64 a, .int .i64 b] t)) (some ⟨w.heap.size, 0, none⟩) 2 (two2 a b) := by
  refine ⟨fun i => by unfold two2; split <;> assumption, fun _ => ⟨w.heap.size, 0, rfl, by simp, fun i hi => ?_⟩⟩
  rcases (by omega : i = 0 ∨ i = 1) with rfl | rfl
  · rw [World.cell?_alloc_new]; rfl
  · rw [World.cell?_alloc_new]; rfl
end Go.Proofs.Ytedkhpnlhkjjgaa

namespace Go.Proofs.Ytedkhpnlhkjjgaa
open Go.RowKit Go.Maps

/-- of the blocks that were there, only those of F may be other than they were -/
structure Touch (F : List Nat) (w w' : World) : Prop where
  os : w'.os = w.os
  tape : w'.tape = w.tape
  output : w'.output = w.output
  size : w.heap.size ≤ w'.heap.size
  block : ∀ k, k < w.heap.size → k ∉ F → w'.heap[k]? = w.heap[k]?
theorem Touch.refl (F : List Nat) (w : World) : Touch F w w := ⟨rfl, rfl, rfl, Nat.le_refl _, fun _ _ _ => rfl⟩
theorem Touch.of_below {F : List Nat} {w w' : World} (h : Below w.heap.size w w') : Touch F w w' := ⟨h.os, h.tape, h.output, h.size, fun k hk _ => h.block k hk⟩
theorem Touch.trans {F F' : List Nat} {a b c : World} (h : Touch F a b) (hF : ∀ k ∈ F', k ∈ F ∨ a.heap.size ≤ k) (h' : Touch F' b c) : Touch F a c :=
  ⟨h'.os.trans h.os, h'.tape.trans h.tape, h'.output.trans h.output, Nat.le_trans h.size h'.size, fun k hk hn => by
    have hk' : k ∉ F' := fun hm => by rcases hF k hm with h1 | h1; exact hn h1; omega
    exact (h'.block k (Nat.lt_of_lt_of_le hk h.size) hk').trans (h.block k hk hn)⟩
theorem Touch.below {F : List Nat} {w w' : World} {n : Nat} (h : Touch F w w') (hF : ∀ k ∈ F, n ≤ k) (hn : n ≤ w.heap.size) : Below n w w' :=
  ⟨h.os, h.tape, h.output, h.size, fun k hk => h.block k (by omega) (fun hm => by have := hF k hm; omega)⟩
theorem Touch.mono {F F' : List Nat} {w w' : World} (h : Touch F w w') (hF : ∀ k ∈ F, k ∈ F') : Touch F' w w' := ⟨h.os, h.tape, h.output, h.size, fun k hk hn => h.block k hk fun hm => hn (hF k hm)⟩
theorem Touch.grown {F : List Nat} {w w' : World} {row : Option Nat} (hg : w.grownBy w' row) (hr : ∀ k, row = some k → k ∈ F) : Touch F w w' :=
  ⟨hg.os, hg.tape, hg.output, hg.size, fun k hk hn => hg.block k hk fun e => hn (hr k e.symm)⟩
theorem Touch.setCell {F : List Nat} (w : World) (a : Addr) (u : Value) (h : a.block ∈ F) : Touch F w (w.setCell a u) :=
  ⟨rfl, rfl, rfl, by simp, fun k _ hn => Below.heap_setCell _ _ _ _ (fun e => hn (by rw [e]; exact h))⟩

theorem skeyed : Keyed Try.prog 9 := string_keyed Try.underlying9
/-- how an entry reads -/
def entR {H : Type} (v : Value) : Option (DataW H × List MemPlace) :=
  match v with
  | .agg cs => match cs.toList with
    | [.string s] => if s.size ≤ maxLen then some (.lit (.string s.data.toList), []) else none
    | _ => none
  | _ => none
theorem entR_mk {H : Type} {s : ByteArray} (h : s.size ≤ maxLen) : entR (H := H) (.agg #[.string s]) = some (.lit (.string s.data.toList), []) := by
  simp [entR, h]
theorem entR_inv {H : Type} {v : Value} {z : DataW H × List MemPlace} (h : entR v = some z) : ∃ s : ByteArray, v = .agg #[.string s] ∧ z = (.lit (.string s.data.toList), []) := by
  unfold entR at h
  split at h
  · rename_i cs
    split at h
    · rename_i s hs
      split at h
      · cases h
        refine ⟨s, ?_, rfl⟩
        have : cs = #[.string s] := Array.toList_inj.1 (by rw [hs])
        rw [this]
      · cases h
    · cases h
  · cases h
theorem zeroEntry (w : World) : (zeroValue 148).run Try.prog w = .ok (.agg #[.string { data := #[] }]) w := by kernel_rfl

/-- the map of a store: block bm reads as the entries L -/
def MapAt (w : World) (bm : Nat) (L : SL) : Prop := ∃ D : DataW Unit, w.ownsMap Try.prog 9 entR bm L.length D ∧ Rep D L
theorem ownsMap_size {H : Type} {w : World} {P : Program} {k : TypeId} {R : Value → Option (DataW H × List MemPlace)} {b n : Nat} {D : DataW H} (h : w.ownsMap P k R b n D) : w.ownsMap P k R b (Maps.size D) D := by
  obtain ⟨es, clock, hb, F, hs, hD⟩ := h
  refine ⟨es, clock, hb, F, ?_, hD⟩
  rw [hD, size_eq, length_sorted]
  simp
theorem MapAt.lt {w : World} {bm : Nat} {L : SL} (h : MapAt w bm L) : bm < w.heap.size := by obtain ⟨D, h1, _⟩ := h; exact h1.lt
theorem MapAt.same {w w' : World} {bm : Nat} {L : SL} (h : MapAt w bm L) (e : w'.heap[bm]? = w.heap[bm]?) : MapAt w' bm L := by
  obtain ⟨D, ⟨es, clock, hb, F, hs, hD⟩, hR⟩ := h
  exact ⟨D, ⟨es, clock, e.trans hb, F, hs, hD⟩, hR⟩
theorem keyOf_s {k : ByteArray} (h : k.size ≤ maxLen) : keyOf Try.prog 9 (.string k) = some (.string k.data.toList) := Go.WideMaps.keyOf_string_mk Try.underlying9 h
/-- 'm[k] = v' -/
theorem MapAt.put {w : World} {bm : Nat} {L : SL} (h : MapAt w bm L) (k v : ByteArray) (hk : k.size ≤ maxLen) (hv : v.size ≤ maxLen) (hn : L.length < maxLen) :
    ∃ w', (Instr.mapUpdate 103 (.map (some bm)) (.string k) (.agg #[.string v])).run Try.prog w = .ok () w' ∧ MapAt w' bm (sset L k v) ∧ w.grownBy w' (some bm) := by
  obtain ⟨D, ho, hR⟩ := h
  obtain ⟨w', hrun, ho', hg⟩ := ho.update skeyed Try.underlying103 hn (keyOf_s hk) (entR_mk hv)
  have hR' := hR.set k v
  exact ⟨w', hrun, ⟨_, by rw [← hR'.sz]; exact ownsMap_size ho', hR'⟩, hg⟩
/-- 'v, ok := m[k]' -/
theorem MapAt.look {w : World} {bm : Nat} {L : SL} (h : MapAt w bm L) (k : ByteArray) (hk : k.size ≤ maxLen) :
    (Instr.lookup 103 (.map (some bm)) (.string k) true).run Try.prog w = .ok (.tuple #[.agg #[.string ((sget L k).getD { data := #[] })], .bool (sget L k).isSome]) w := by
  obtain ⟨D, ho, hR⟩ := h
  obtain ⟨v, ps, hrun, hv⟩ := ho.look_ok skeyed Try.underlying103 (zeroEntry w) (entR_mk (s := { data := #[] }) (by decide)) (keyOf_s hk)
  obtain ⟨s, rfl, hz⟩ := entR_inv hv
  have e := hR.get (k := k) (s := s) (by have := congrArg Prod.fst hz; simpa using this)
  rw [hrun, hR.has, e]
/-- 'len(m)' -/
theorem MapAt.len {w : World} {bm : Nat} {L : SL} (h : MapAt w bm L) (ty : TypeId) : (Builtin.len_ #[103] ty #[.map (some bm)]).run Try.prog w = .ok (.int .i64 (L.length : Nat)) w := by
  obtain ⟨D, ho, hR⟩ := h
  rw [ho.len Try.underlying103 ty, hR.sz]
/-- the blocks of a store -/
def fpr (b bm : Nat) (vb vk vq : Value) (L : SL) : List Nat := b :: bm :: (vb.ownBlock.toList ++ (if L = [] then [] else vk.ownBlock.toList) ++ vq.ownBlock.toList)
/-- what lies in memory of a store: L its entries, q its changes, whose cells are qs -/
structure StM (w : World) (b bm : Nat) (vb vk vq : Value) (L : SL) (q : Nat) (qs : List Value) : Prop where
  r : w.heap[b]? = some (.cells #[.map (some bm), vb, vq] 107 (0, 0))
  m : MapAt w bm L
  kb : w.ownsRow 0 193 1 vb (if L = [] then 0 else 1) (if L = [] then [] else [vk])
  kk : L ≠ [] → w.ownsRow 0 9 1 vk L.length ((skeys L).map Value.string)
  kq : w.ownsRow 0 166 3 vq q qs
  so : Rising (skeys L)
  nd : (fpr b bm vb vk vq L).Nodup
theorem ownsRow_same {w w' : World} {base : Nat} {e : TypeId} {size : Nat} {v : Value} {n : Nat} {xs : List Value} (h : w.ownsRow base e size v n xs) (hs : ∀ g, v.ownBlock = some g → w'.heap[g]? = w.heap[g]?) : w'.ownsRow base e size v n xs := by
  obtain ⟨h1, h2⟩ := h
  refine ⟨h1, ?_⟩
  rcases h2 with h2 | ⟨g, cap, cur, rfl, hb, hg, hr⟩
  · exact .inl h2
  · exact .inr ⟨g, cap, cur, rfl, hb, (hs g rfl).trans hg, hr⟩
theorem ownsRow_blk {w : World} {base : Nat} {e : TypeId} {size : Nat} {v : Value} {n : Nat} {xs : List Value} (h : w.ownsRow base e size v n xs) : ∀ g, v.ownBlock = some g → g < w.heap.size := by
  intro g hg
  rcases h.2 with ⟨rfl, _⟩ | ⟨g', cap, cur, rfl, hb, hg', hr⟩
  · cases hg
  · cases hg; exact hp_lt hg'
theorem StM.lt {w : World} {b bm : Nat} {vb vk vq : Value} {L : SL} {q : Nat} {qs : List Value} (h : StM w b bm vb vk vq L q qs) : ∀ k ∈ fpr b bm vb vk vq L, k < w.heap.size := by
  intro k hk
  unfold fpr at hk
  simp only [List.mem_cons, List.mem_append, Option.mem_toList] at hk
  rcases hk with rfl | rfl | ((hk | hk) | hk)
  · exact hp_lt h.r
  · exact h.m.lt
  · exact ownsRow_blk h.kb k hk
  · split at hk
    · cases hk
    · rename_i hn
      exact ownsRow_blk (h.kk hn) k (by simpa using hk)
  · exact ownsRow_blk h.kq k hk
theorem StM.same {w w' : World} {b bm : Nat} {vb vk vq : Value} {L : SL} {q : Nat} {qs : List Value} (h : StM w b bm vb vk vq L q qs) (hs : ∀ k ∈ fpr b bm vb vk vq L, w'.heap[k]? = w.heap[k]?) : StM w' b bm vb vk vq L q qs := by
  have hm : ∀ k, (k = b ∨ k = bm ∨ vb.ownBlock = some k ∨ (L ≠ [] ∧ vk.ownBlock = some k) ∨ vq.ownBlock = some k) → w'.heap[k]? = w.heap[k]? := fun k hk => hs k (by
    unfold fpr
    simp only [List.mem_cons, List.mem_append, Option.mem_toList]
    rcases hk with h | h | h | ⟨hn, h⟩ | h
    · exact .inl h
    · exact .inr (.inl h)
    · exact .inr (.inr (.inl (.inl h)))
    · exact .inr (.inr (.inl (.inr (by rw [if_neg hn]; simpa using h))))
    · exact .inr (.inr (.inr h)))
  exact ⟨(hm b (.inl rfl)).trans h.r, h.m.same (hm bm (.inr (.inl rfl))), ownsRow_same h.kb fun g hg => hm g (.inr (.inr (.inl hg))), fun hn => ownsRow_same (h.kk hn) fun g hg => hm g (.inr (.inr (.inr (.inl ⟨hn, hg⟩)))), ownsRow_same h.kq fun g hg => hm g (.inr (.inr (.inr (.inr hg)))), h.so, h.nd⟩
theorem StM.below {w w' : World} {b bm : Nat} {vb vk vq : Value} {L : SL} {q : Nat} {qs : List Value} (h : StM w b bm vb vk vq L q qs) (hb : Below w.heap.size w w') : StM w' b bm vb vk vq L q qs :=
  h.same fun k hk => hb.block k (h.lt k hk)
theorem StM.touch {w w' : World} {b bm : Nat} {vb vk vq : Value} {L : SL} {q : Nat} {qs : List Value} {F : List Nat} (h : StM w b bm vb vk vq L q qs) (hb : Touch F w w') (hF : ∀ k ∈ fpr b bm vb vk vq L, k ∉ F) : StM w' b bm vb vk vq L q qs :=
  h.same fun k hk => hb.block k (h.lt k hk) (hF k hk)
end Go.Proofs.Ytedkhpnlhkjjgaa

namespace Go.Proofs.Ytedkhpnlhkjjgaa
open Go.RowKit Go.Maps

/-- a live store at b: F its blocks, L its entries, q its changes -/
def StP (w : World) (b : Nat) (F : List Nat) (L : SL) (q : Nat) (qs : List Value) : Prop := ∃ bm vb vk vq, F = fpr b bm vb vk vq L ∧ StM w b bm vb vk vq L q qs
theorem StP.below {w w' : World} {b : Nat} {F : List Nat} {L : SL} {q : Nat} {qs : List Value} (h : StP w b F L q qs) (hb : Below w.heap.size w w') : StP w' b F L q qs := by
  obtain ⟨bm, vb, vk, vq, hF, hM⟩ := h
  exact ⟨bm, vb, vk, vq, hF, hM.below hb⟩
theorem StP.touch {w w' : World} {b : Nat} {F G : List Nat} {L : SL} {q : Nat} {qs : List Value} (h : StP w b F L q qs) (hb : Touch G w w') (hF : ∀ k ∈ F, k ∉ G) : StP w' b F L q qs := by
  obtain ⟨bm, vb, vk, vq, rfl, hM⟩ := h
  exact ⟨bm, vb, vk, vq, rfl, hM.touch hb hF⟩
theorem StP.lt {w : World} {b : Nat} {F : List Nat} {L : SL} {q : Nat} {qs : List Value} (h : StP w b F L q qs) : ∀ k ∈ F, k < w.heap.size := by
  obtain ⟨bm, vb, vk, vq, rfl, hM⟩ := h
  exact hM.lt
theorem StP.row {w : World} {b : Nat} {F : List Nat} {L : SL} {q : Nat} {qs : List Value} (h : StP w b F L q qs) : ∃ bm vb vq, w.heap[b]? = some (.cells #[.map (some bm), vb, vq] 107 (0, 0)) := by
  obtain ⟨bm, vb, vk, vq, rfl, hM⟩ := h
  exact ⟨bm, vb, vq, hM.r⟩
set_option maxRecDepth 100000 in
set_option maxHeartbeats 400000 in
theorem new_walk (w : World) : Calls Try.prog 13 #[] w fun e w' => ∃ b F, e = .returned (.pointer (some ⟨b, 0, none⟩)) ∧ StP w' b F [] 0 [] ∧ (∀ k ∈ F, w.heap.size ≤ k) ∧ Below w.heap.size w w' := by
  have hmm := @run_makeMap Try.prog
  go_enter Try.func13, Try.ntmps13
  go_wp2
  go_ret
  refine ⟨_, _, rfl, ⟨w.heap.size, .slice none 0 0, .slice none 0 0, .slice none 0 0, rfl, ?_⟩, ?_, ?_⟩
  · refine ⟨by simpa using heap_alloc_new (w.alloc (.map #[] 0)) (.cells #[.map (some w.heap.size), .slice none 0 0, .slice none 0 0] 107), ?_, ⟨rfl, .inl ⟨rfl, rfl⟩⟩, fun h => absurd rfl h, ⟨rfl, .inl ⟨rfl, rfl⟩⟩, List.Pairwise.nil, ?_⟩
    · exact ⟨_, (World.ownsMap_made w _ _ _).alloc _, Rep.empty⟩
    · unfold fpr; simp [Value.ownBlock]
  · intro k hk
    unfold fpr at hk
    simp [Value.ownBlock] at hk
    omega
  · exact ((Below.refl _ _).alloc (Nat.le_refl _) _).alloc (by simp) _
set_option maxRecDepth 100000 in
set_option maxHeartbeats 400000 in
theorem made_live (b : Nat) (F : List Nat) (L : SL) (q : Nat) (qs : List Value) (w : World) (h : StP w b F L q qs) : Calls Try.prog 27 #[.pointer (some ⟨b, 0, none⟩)] w fun e w' => e = .returned (.bool true) ∧ w = w' := by
  obtain ⟨bm, vb, vq, hr⟩ := h.row
  have hm := fun w => run_neq_map_nil (P := Try.prog) w 103 _ _ (some bm) Try.underlying103
  have c0 := (hp_cell (i := 0) hr).trans rfl
  clear h hr
  go_enter Try.func27, Try.ntmps27
  go_wp2
  go_ret
  exact ⟨rfl, rfl⟩
set_option maxRecDepth 100000 in
set_option maxHeartbeats 400000 in
theorem sget_live (b : Nat) (F : List Nat) (L : SL) (q : Nat) (qs : List Value) (k : ByteArray) (w : World) (h : StP w b F L q qs) (hk : k.size ≤ maxLen) : Calls Try.prog 47 #[.pointer (some ⟨b, 0, none⟩), .string k] w fun e w' => e = .returned (.tuple #[.string ((sget L k).getD { data := #[] }), .bool (sget L k).isSome]) ∧ Below w.heap.size w w' := by
  have HM := Lib.hid (made_live b F L q qs w h)
  obtain ⟨bm, vb, vk, vq, rfl, hS⟩ := h
  have c0 := (hp_cell (i := 0) hS.r).trans rfl
  have hl := hS.m.look k hk
  obtain ⟨v, hv⟩ : ∃ v, v = (sget L k).getD { data := #[] } := ⟨_, rfl⟩
  obtain ⟨ok, hok⟩ : ∃ v, v = (sget L k).isSome := ⟨_, rfl⟩
  rw [← hv, ← hok] at hl ⊢
  clear hS hk hv hok
  go_enter Try.func47, Try.ntmps47
  go_wp2_with (go_at_call 27; refine HM.out.mono ?_; rintro e w1 ⟨rfl, rfl⟩)
  go_ret2
  exact ⟨rfl, (Below.refl _ _).alloc (Nat.le_refl _) _⟩
set_option maxRecDepth 100000 in
set_option maxHeartbeats 400000 in
theorem mark_live (b : Nat) (F : List Nat) (L : SL) (q : Nat) (qs : List Value) (w : World) (h : StP w b F L q qs) : Calls Try.prog 87 #[.pointer (some ⟨b, 0, none⟩)] w fun e w' => e = .returned (.int .i64 (q : Nat)) ∧ w = w' := by
  have HM := Lib.hid (made_live b F L q qs w h)
  obtain ⟨bm, vb, vk, vq, rfl, hS⟩ := h
  have c2 := (hp_cell (i := 2) hS.r).trans rfl
  obtain ⟨A, c, rfl⟩ : ∃ A c, vq = .slice A q c := by
    rcases hS.kq.2 with ⟨rfl, rfl⟩ | ⟨g, cap, cur, rfl, _⟩
    · exact ⟨_, _, rfl⟩
    · exact ⟨_, _, rfl⟩
  clear hS
  go_enter Try.func87, Try.ntmps87
  go_wp2_with (go_at_call 27; refine HM.out.mono ?_; rintro e w1 ⟨rfl, rfl⟩)
  go_ret
  exact ⟨rfl, rfl⟩
set_option maxRecDepth 100000 in
set_option maxHeartbeats 400000 in
theorem len_live (b : Nat) (F : List Nat) (L : SL) (q : Nat) (qs : List Value) (w : World) (h : StP w b F L q qs) : Calls Try.prog 26 #[.pointer (some ⟨b, 0, none⟩)] w fun e w' => e = .returned (.int .i64 (L.length : Nat)) ∧ w = w' := by
  have HM := Lib.hid (made_live b F L q qs w h)
  obtain ⟨bm, vb, vk, vq, rfl, hS⟩ := h
  have c0 := (hp_cell (i := 0) hS.r).trans rfl
  have hl := fun ty => hS.m.len ty
  obtain ⟨n, hn⟩ : ∃ n, n = L.length := ⟨_, rfl⟩
  rw [← hn] at hl ⊢
  clear hS hn
  go_enter Try.func26, Try.ntmps26
  go_wp2_with (go_at_call 27; refine HM.out.mono ?_; rintro e w1 ⟨rfl, rfl⟩)
  go_ret
  exact ⟨rfl, rfl⟩
end Go.Proofs.Ytedkhpnlhkjjgaa
