/- octet.Hash and the document's, walked. -/
import Derived.Test.YtcodlbfomfjmfaaOd
namespace Go.Proofs.Ytcodlbfomfjmfaa
open Go.RowKit

theorem arr32 (w : World) (g : Nat → Nat) (cs : Array Value) (hcs : cs = (bys g 32).toArray) (hg : ∀ i, g i < 256) (t : TypeId) : Sl (w.alloc (.cells cs t)) (some ⟨w.heap.size, 0, none⟩) 32 g := by
  subst hcs
  refine Sl.of_arr hg (Arr.alloc_new w _ t fun i hi => ?_) (by simp)
  rw [List.getElem?_toArray]
  exact bys_get g hi
def HashPost (nb : Nat) (f g : Nat → Nat) (w : World) (e : Ending) (w' : World) : Prop :=
  (∃ v, e = .returned v ∧ w'.ownsRow w.heap.size 5 1 v (nb + 32) (bys (cat f nb g) (nb + 32))) ∧ Below w.heap.size w w'
set_option maxRecDepth 100000 in
set_option maxHeartbeats 400000 in
theorem ohash_walk (A : Option Addr) (nb c : Nat) (f g : Nat → Nat) (cs : Array Value) (w : World) (hcs : cs = (bys g 32).toArray) (hl : Sl w A nb f) (hA : A = none → nb = 0 ∧ c = 0) (hnb : nb ≤ 2 ^ 18) (hg : ∀ i, g i < 256) :
    Calls Try.prog 47 #[.slice A nb c, .agg cs] w (HashPost nb f g w) := by
  have h32 := arr32 w g cs hcs hg 44
  have HC0 := concat2_c A (some ⟨w.heap.size, 0, none⟩) nb 32 c 32 f g _ (hl.alloc _) h32 hA (fun h => by cases h) (by omega) (by omega) 33
  simp only [World.size_alloc] at HC0
  have HC := Lib.hid HC0
  clear hl hA h32 hg hcs HC0
  go_enter Try.func47, Try.ntmps47
  go_wp2_with (go_at_call 110; refine HC.out.mono ?_; rintro e w3 ⟨⟨v3, rfl, hv3⟩, hb3⟩)
  go_ret
  exact ⟨⟨_, rfl, own_base hv3 (by omega)⟩, ((Below.refl _ _).alloc (Nat.le_refl _) _).trans (hb3.mono (by omega))⟩
end Go.Proofs.Ytcodlbfomfjmfaa
