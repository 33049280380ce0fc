/- delay.Set of the document's example on an empty store; lives of layer 28. -/
import Derived.Test.YtfoppgbbjmoofaaTG
namespace Go.Proofs.Ytfoppgbbjmoofaa
open Go.RowKit Go.Maps

def L25 : SL := [(K25, rowV f25 5)]
theorem L25_get : sget L25 K25 = some (rowV f25 5) := by simp [L25, sget, keq_self]
theorem L25_set : setL [] K25 (rowV f25 5) = L25 := by
  unfold setL
  rw [if_neg (by simp [sget])]
  rfl
theorem il7 (w : World) : Il (w.alloc (.cells #[.int .i64 7] 3)) (some ⟨w.heap.size, 0, none⟩) 1 (fun _ => 7) :=
  ⟨fun _ => by decide, fun _ => ⟨w.heap.size, 0, rfl, by simp, fun i hi => by obtain rfl : i = 0 := (by omega); exact (World.cell?_alloc_at _ _ _ _ rfl).trans rfl⟩⟩
theorem SNew.al {w W : World} {b : Nat} {F : List Nat} {L : SL} {q : Nat} {qs : List Value} (h : SNew w W b F L q qs) (o : Obj) : SNew w (W.alloc o) b F L q qs := h.below ((Below.refl _ _).alloc (Nat.le_refl _) o)
end Go.Proofs.Ytfoppgbbjmoofaa
