/- The store: Undo of many changes, walked. -/
import Derived.Test.YtnjcnlbphaodcaaGreatG22
import Derived.Test.YtnjcnlbphaodcaaGreatG11
namespace Go.Proofs.YtnjcnlbphaodcaaGreat
open Go.RowKit Go.Maps Go.Sort

def UndPost (b : Nat) (F : List Nat) (L : SL) (R : List Ch) (m : Nat) (w : World) (e : Ending) (w' : World) : Prop :=
  e = .returned (.bool true) ∧ ∃ F', StP w' b F' (und L R (R.length - m)) m (chs (R.drop (R.length - m))) ∧ Touch F w w' ∧ ∀ k ∈ F', k ∈ F ∨ w.heap.size ≤ k
end Go.Proofs.YtnjcnlbphaodcaaGreat

namespace Go.Proofs.YtnjcnlbphaodcaaGreat
open Go.RowKit Go.Maps Go.Sort

/-- what Undo of a mark does to a store -/
def UndTo (b : Nat) (F : List Nat) (L : SL) (R : List Ch) (mark : Int) (w : World) (e : Ending) (w' : World) : Prop :=
  ∃ d, d = (if 0 ≤ mark ∧ mark ≤ (R.length : Int) then R.length - mark.toNat else 0) ∧ e = .returned (.bool (decide (0 ≤ mark ∧ mark ≤ (R.length : Int)))) ∧ ∃ F', StP w' b F' (und L R d) (R.drop d).length (chs (R.drop d)) ∧ Touch F w w' ∧ ∀ k ∈ F', k ∈ F ∨ w.heap.size ≤ k
end Go.Proofs.YtnjcnlbphaodcaaGreat

namespace Go.Proofs.YtnjcnlbphaodcaaGreat
open Go.RowKit Go.Maps Go.Sort

theorem sget_setL (L : SL) (k v k' : ByteArray) : sget (setL L k v) k' = if k' = k then some v else sget L k' := by
  unfold setL
  split
  · rename_i h
    split
    · rename_i e; rw [e, h]
    · rfl
  · exact sget_sset L k v k'
theorem setL_len (L : SL) (k v : ByteArray) : (setL L k v).length ≤ L.length + 1 := by
  unfold setL
  split
  · omega
  · unfold sset
    split
    · simp
    · simp; omega
set_option maxRecDepth 100000 in
set_option maxHeartbeats 2000000 in
theorem set_empty (b : Nat) (F : List Nat) (L : SL) (q : Nat) (qs : List Value) (v : ByteArray) (w : World) (h : StP w b F L q qs) :
    Calls Tryz.prog 60 #[.pointer (some ⟨b, 0, none⟩), .string ⟨#[]⟩, .string v] w fun e w' => e = .returned (.int .i64 2) ∧ w = w' := by
  have HM := Lib.hid (made_live b F L q qs w h)
  have hk1 : (⟨#[]⟩ : ByteArray).toList.isEmpty = true := by rw [Lib.toList_data]; rfl
  clear h
  go_enter Tryz.func60, Tryz.ntmps60
  go_wp2_with (go_at_call 15; refine HM.out.mono ?_; rintro e w1 ⟨rfl, rfl⟩)
  go_ret
  exact ⟨rfl, rfl⟩
/-- what Set makes of the entries -/
def setE (L : SL) (k v : ByteArray) : SL := if k = ⟨#[]⟩ then L else setL L k v
theorem SNew.setAny {w W : World} {b : Nat} {F : List Nat} {L : SL} {q : Nat} {qs : List Value} (h : SNew w W b F L q qs) (k v : ByteArray) (hk : k.size ≤ maxLen) (hv : v.size ≤ maxLen) (hN : L.length < 1000000) (hq : q < 1000000) :
    Calls Tryz.prog 60 #[.pointer (some ⟨b, 0, none⟩), .string k, .string v] W fun e W' => (∃ r, e = .returned (.int .i64 r)) ∧ LiveTo w W W' b F (setE L k v) (q + 1) := by
  unfold setE
  by_cases hk0 : k = ⟨#[]⟩
  · rw [if_pos hk0]
    subst hk0
    refine (set_empty b F L q qs v W h.s).mono ?_
    rintro e W' ⟨rfl, rfl⟩
    obtain ⟨F', q', qs', h1, h2, h3⟩ := h.start
    exact ⟨⟨2, rfl⟩, F', q', qs', h1, by omega, h3⟩
  · rw [if_neg hk0]
    refine (h.sets k v hk hv hk0 hN hq).mono ?_
    rintro e W' ⟨he, hl⟩
    exact ⟨⟨0, he⟩, hl⟩
end Go.Proofs.YtnjcnlbphaodcaaGreat
