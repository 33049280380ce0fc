/- The document's store: Undo and Under. -/
import Derived.Test.YtffipojlpdphiaaG30
import Derived.Test.YtffipojlpdphiaaG24
import Derived.Test.YtffipojlpdphiaaG20
import Derived.Test.YtffipojlpdphiaaG23
import Derived.Test.YtffipojlpdphiaaG29
namespace Go.Proofs.Ytffipojlpdphiaa
open Go.RowKit Go.Maps Go.Sort

theorem own_cut {w : World} {B k g n m cap : Nat} {T : TypeId} {xs ys : List Value} (h : w.ownsRow B T k (.slice (some ⟨g, 0, none⟩) n cap) n (xs ++ ys)) (hx : xs.length = m * k) (hm : m ≤ n) : w.ownsRow B T k (.slice (some ⟨g, 0, none⟩) m cap) m xs := by
  rcases h.2 with ⟨h1, _⟩ | ⟨g', cap', cur, h1, hb, hg, hn, hc, hs, ht⟩
  · cases h1
  · cases h1
    refine ⟨hx, .inr ⟨g, cap, cur, rfl, hb, hg, by omega, hc, hs, ?_⟩⟩
    have := congrArg (List.take (m * k)) ht
    rw [List.take_take, Nat.min_eq_left (Nat.mul_le_mul_right k hm), List.take_left' hx] at this
    exact this
/-- the newest change is taken off -/
theorem past_cut {w W W0 : World} {m g cap : Nat} {L : SL} {c : Ch} {R : List Ch} (h : DS w W m L (c :: R)) {vL : Value} (h1 : W.heap[m]? = some (Obj.cells #[vL, .slice (some ⟨g, 0, none⟩) (R.length + 1) cap] 31 (0, 0))) (h0 : Below W.heap.size W W0) :
    DSTo w W (W0.setCell ⟨m, 1, none⟩ (.slice (some ⟨g, 0, none⟩) R.length cap)) m L R := by
  obtain ⟨vL', vP', h1', h2, h3⟩ := h.ex
  rw [h1] at h1'
  obtain ⟨rfl, rfl⟩ : vL = vL' ∧ Value.slice (some ⟨g, 0, none⟩) (R.length + 1) cap = vP' := by
    injection h1' with h1'
    injection h1' with e1 e2 e3
    have := congrArg Array.toList e1
    simp only [List.cons.injEq, and_true] at this
    exact this
  refine past_done h h1 h0 (W5 := W0) ⟨rfl, rfl, rfl, Nat.le_refl _, fun _ _ _ => rfl⟩ ?_
  rw [whs_cons] at h3
  have h4 : W0.ownsRow w.heap.size 189 3 (.slice (some ⟨g, 0, none⟩) (R.length + 1) cap) (R.length + 1) (whs R ++ wch c) := ownsRow_same h3 fun g' hg' => h0.block g' (ownsRow_blk h3 g' hg')
  exact own_cut h4 (whs_len R) (Nat.le_succ _)
/-- the row of changes, where there is one -/
theorem past_cells {w W : World} {m : Nat} {L : SL} {c : Ch} {R : List Ch} (h : DS w W m L (c :: R)) : ∃ vL g cap, W.heap[m]? = some (Obj.cells #[vL, .slice (some ⟨g, 0, none⟩) (R.length + 1) cap] 31 (0, 0)) ∧
    W.cell? ⟨g, R.length * 3, none⟩ = some (.string c.1) ∧ W.cell? ⟨g, R.length * 3 + 1, none⟩ = some (.string c.2.2) ∧ W.cell? ⟨g, R.length * 3 + 2, none⟩ = some (.bool c.2.1) ∧ R.length + 1 ≤ cap := by
  obtain ⟨vL, vP, h1, h2, h3⟩ := h.ex
  have h3' := h3
  rcases h3.2 with ⟨rfl, h0⟩ | ⟨g, cap, cur, rfl, hb, hg, hn, _⟩
  · cases h0
  · rw [whs_cons] at h3'
    have hl := whs_len R
    refine ⟨vL, g, cap, h1, ownsRow_cell h3' rfl ?_, ownsRow_cell h3' rfl ?_, ownsRow_cell h3' rfl ?_, hn⟩
    · rw [List.getElem?_append_right (by omega), hl, Nat.sub_self]; rfl
    · rw [List.getElem?_append_right (by omega), hl, Nat.add_sub_cancel_left]; rfl
    · rw [List.getElem?_append_right (by omega), hl, Nat.add_sub_cancel_left]; rfl
theorem cell_lt {w : World} {g i : Nat} {v : Value} (h : w.cell? ⟨g, i, none⟩ = some v) : g < w.heap.size := by
  by_cases hl : g < w.heap.size
  · exact hl
  · unfold World.cell? at h
    simp only at h
    rw [Array.getElem?_eq_none (by omega)] at h
    cases h
/-- how many changes there are -/
def plen (w : World) (m : Nat) : Nat := match w.cell? ⟨m, 1, none⟩ with | some (.slice _ n _) => n | _ => 0
theorem DS.plen {w W : World} {m : Nat} {L : SL} {R : List Ch} (h : DS w W m L R) : plen W m = R.length ∧ ∃ A C, W.cell? ⟨m, 1, none⟩ = some (.slice A R.length C) := by
  obtain ⟨vL, vP, h1, h2, h3⟩ := h.ex
  obtain ⟨A, C, rfl⟩ := row_any h3
  have := (hp_cell (i := 1) h1).trans rfl
  exact ⟨by unfold Go.Proofs.Ytffipojlpdphiaa.plen; rw [this]; rfl, A, C, this⟩
theorem undo1_len (L : SL) (c : Ch) : (undo1 L c).length ≤ L.length + 1 := by
  unfold undo1
  split
  · unfold sset
    split
    · rw [List.length_map]; omega
    · simp only [List.length_append, List.length_take, List.length_drop, List.length_cons, List.length_nil]; omega
  · have : (sdel L c.1).length ≤ L.length := List.length_filter_le _ _
    omega
theorem undo1_rise {L : SL} (h : Rising (skeys L)) (c : Ch) : Rising (skeys (undo1 L c)) := by
  unfold undo1
  split
  · exact rising_sset h _ _
  · exact rising_sdel h
end Go.Proofs.Ytffipojlpdphiaa

namespace Go.Proofs.Ytffipojlpdphiaa
open Go.RowKit Go.Maps Go.Sort

/-- the law's two variables tell what the entries have under the key -/
def KeepS (L : SL) (key want : ByteArray) (th : Bool) : Prop := (th = true ∧ sget L key = some want) ∨ (th = false ∧ want = ⟨#[]⟩ ∧ sget L key = none)
theorem mem_setE {L : SL} {k v : ByteArray} {p : ByteArray × ByteArray} (h : p ∈ setE L k v) : p ∈ L ∨ p.1 = k := by
  unfold setE at h
  split at h
  · exact .inl h
  · unfold setL at h
    split at h
    · exact .inl h
    · unfold sset at h
      split at h
      · obtain ⟨q, hq, rfl⟩ := List.mem_map.1 h
        split
        · exact .inr rfl
        · exact .inl hq
      · rcases List.mem_append.1 h with h | h
        · rcases List.mem_append.1 h with h | h
          · exact .inl (List.mem_of_mem_take h)
          · rw [List.mem_singleton.1 h]; exact .inr rfl
        · exact .inl (List.mem_of_mem_drop h)
theorem setE_len (L : SL) (k v : ByteArray) : (setE L k v).length ≤ L.length + 1 := by
  unfold setE
  split
  · omega
  · exact setL_len L k v
theorem KeepS.set {L : SL} {key v : ByteArray} (hne : key ≠ ⟨#[]⟩) : KeepS (setE L key v) key v true := by
  refine .inl ⟨rfl, ?_⟩
  unfold setE
  rw [if_neg hne, sget_setL, if_pos rfl]
theorem KeepS.other {L : SL} {key want k v : ByteArray} {th : Bool} (h : KeepS L key want th) (hne : k ≠ key ∨ key = ⟨#[]⟩) : KeepS (setE L k v) key want th := by
  have e : sget (setE L k v) key = sget L key := by
    unfold setE
    split
    · rfl
    · rename_i h0
      rw [sget_setL, if_neg]
      intro e
      rcases hne with h1 | h1
      · exact h1 e.symm
      · exact h0 (e.symm.trans h1)
  unfold KeepS at h ⊢
  rw [e]; exact h
theorem KeepS.del {L : SL} {key : ByteArray} : KeepS (sdel L key) key ⟨#[]⟩ false := .inr ⟨rfl, rfl, by rw [sget_sdel, if_pos rfl]⟩
theorem KeepS.delOther {L : SL} {key want k : ByteArray} {th : Bool} (h : KeepS L key want th) (hne : k ≠ key) : KeepS (sdel L k) key want th := by
  unfold KeepS at h ⊢
  rw [sget_sdel, if_neg (fun e => hne e.symm)]; exact h
theorem KeepS.get {L : SL} {key want : ByteArray} {th : Bool} (h : KeepS L key want th) : (sget L key).getD ⟨#[]⟩ = want ∧ (sget L key).isSome = th := by
  rcases h with ⟨h1, h2⟩ | ⟨h1, h2, h3⟩
  · rw [h2, h1]; exact ⟨rfl, rfl⟩
  · rw [h3, h1, h2]; exact ⟨rfl, rfl⟩
end Go.Proofs.Ytffipojlpdphiaa

namespace Go.Proofs.Ytffipojlpdphiaa
open Go.RowKit Go.Maps Go.Sort

/-- the sum of the lengths so far, as it wraps -/
def lacc (x1 x2 : Nat → ByteArray) : Nat → Int
  | 0 => 0
  | j + 1 => wrap64 (lacc x1 x2 j + wrap64 (((x1 j).size : Int) + ((x2 j).size : Int)))
/-- the law's world -/
structure SlW (w W : World) (b : Nat) (key want : ByteArray) (th : Bool) (c : Nat) (L : SL) : Prop where
  s : ∃ F q qs, SNew w W b F L q qs ∧ q ≤ c
  len : L.length ≤ c
  ks : ∀ p ∈ L, p.1.size ≤ maxLen
  k : KeepS L key want th
theorem SlW.below {w W W' : World} {b : Nat} {key want : ByteArray} {th : Bool} {c : Nat} {L : SL} (h : SlW w W b key want th c L) (hb : Below W.heap.size W W') : SlW w W' b key want th c L := by
  obtain ⟨F, q, qs, hs, hq⟩ := h.s
  exact ⟨⟨F, q, qs, hs.below hb, hq⟩, h.len, h.ks, h.k⟩
theorem SlW.l {w W : World} {b : Nat} {key want : ByteArray} {th : Bool} {c : Nat} {L : SL} (h : SlW w W b key want th c L) : Below w.heap.size w W := by
  obtain ⟨F, q, qs, hs, hq⟩ := h.s
  exact hs.l
theorem SlW.next {w W : World} {b : Nat} {key want : ByteArray} {th : Bool} {c : Nat} {L : SL} (h : SlW w W b key want th c L) : SlW w W b key want th (c + 1) L := by
  obtain ⟨F, q, qs, hs, hq⟩ := h.s
  exact ⟨⟨F, q, qs, hs, by omega⟩, by have := h.len; omega, h.ks, h.k⟩
/-- Set by it -/
theorem SlW.set {w W : World} {b : Nat} {key want : ByteArray} {th : Bool} {c : Nat} {L : SL} (h : SlW w W b key want th c L) (hc : c < 100000) (k v : ByteArray) (hk : k.size ≤ maxLen) (hv : v.size ≤ maxLen) :
    Calls Try.prog 163 #[.pointer (some ⟨b, 0, none⟩), .string k, .string v] W fun e W' => (∃ r, e = .returned (.int .i64 r)) ∧ (∀ want' th', KeepS (setE L k v) key want' th' → SlW w W' b key want' th' (c + 1) (setE L k v)) ∧ ∀ T, Foreign T → KeepT T W W' := by
  obtain ⟨F, q, qs, hs, hq⟩ := h.s
  have hl := h.len
  refine (hs.setAny k v hk hv (by omega) (by omega)).mono ?_
  rintro e W' ⟨he, hL⟩
  refine ⟨he, fun want' th' hk' => ?_, fun T hT => LiveTo.keepT hs hL hT⟩
  obtain ⟨F', q', qs', h1, h2, _⟩ := hL
  refine ⟨⟨F', q', qs', h1, by omega⟩, by have := setE_len L k v; omega, fun p hp => ?_, hk'⟩
  rcases mem_setE hp with h3 | h3
  · exact h.ks p h3
  · rw [h3]; exact hk
/-- Delete by it -/
theorem SlW.del {w W : World} {b : Nat} {key want : ByteArray} {th : Bool} {c : Nat} {L : SL} (h : SlW w W b key want th c L) (hc : c < 100000) (k : ByteArray) (hk : k.size ≤ maxLen) :
    Calls Try.prog 64 #[.pointer (some ⟨b, 0, none⟩), .string k] W fun e W' => (∃ r, e = .returned (.bool r)) ∧ (∀ want' th', KeepS (sdel L k) key want' th' → SlW w W' b key want' th' (c + 1) (sdel L k)) ∧ ∀ T, Foreign T → KeepT T W W' := by
  obtain ⟨F, q, qs, hs, hq⟩ := h.s
  have hl := h.len
  refine (hs.del k hk (by omega) (by omega)).mono ?_
  rintro e W' ⟨he, hL⟩
  refine ⟨⟨_, he⟩, fun want' th' hk' => ?_, fun T hT => LiveTo.keepT hs hL hT⟩
  obtain ⟨F', q', qs', h1, h2, _⟩ := hL
  refine ⟨⟨F', q', qs', h1, by omega⟩, by have : (sdel L k).length ≤ L.length := List.length_filter_le _ _; omega, fun p hp => h.ks p (List.mem_filter.1 hp).1, hk'⟩
theorem SlW.get {w W : World} {b : Nat} {key want : ByteArray} {th : Bool} {c : Nat} {L : SL} (h : SlW w W b key want th c L) (hk : key.size ≤ maxLen) :
    Calls Try.prog 28 #[.pointer (some ⟨b, 0, none⟩), .string key] W fun e W' => e = .returned (.tuple #[.string want, .bool th]) ∧ Below W.heap.size W W' := by
  obtain ⟨F, q, qs, hs, hq⟩ := h.s
  have := sget_live b F L q qs key W hs.s hk
  rw [h.k.get.1, h.k.get.2] at this
  exact this
end Go.Proofs.Ytffipojlpdphiaa
