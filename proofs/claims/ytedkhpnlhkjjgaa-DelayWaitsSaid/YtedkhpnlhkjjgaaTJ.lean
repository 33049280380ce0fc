/- The store: slices.Delete of one key of a row that the store owns. -/
import Derived.Test.YtedkhpnlhkjjgaaTI
namespace Go.Proofs.Ytedkhpnlhkjjgaa
open Go.RowKit Go.Maps Go.Sort

theorem strsOf_map (ks : List ByteArray) : ((Lib.strsOf (fun i => ks.getD i ⟨#[]⟩) ks.length).map encStr) = ks.map Value.string := by
  unfold Lib.strsOf
  rw [List.map_map]
  refine List.ext_getElem (by simp) fun i h1 h2 => ?_
  have hi : i < ks.length := by simpa using h2
  simp [encStr, List.getD, List.getElem?_eq_getElem hi]
theorem del_own (bk kc j : Nat) (ks : List ByteArray) (w : World) (hown : w.ownsRow 0 9 1 (.slice (some ⟨bk, 0, none⟩) ks.length kc) ks.length (ks.map Value.string)) (hj : j < ks.length) :
    Calls Try.prog 146 #[.slice (some ⟨bk, 0, none⟩) ks.length kc, .int .i64 (j : Nat), .int .i64 ((j + 1 : Nat) : Int)] w fun e w' => e = .returned (.slice (some ⟨bk, 0, none⟩) (ks.length - 1) kc) ∧
      w'.ownsRow 0 9 1 (.slice (some ⟨bk, 0, none⟩) (ks.length - 1) kc) (ks.length - 1) ((ks.take j ++ ks.drop (j + 1)).map Value.string) ∧ Touch [bk] w w' := by
  obtain ⟨cur, hg, hn, hc, hs, ht, hl⟩ := ownsRow_open hown
  have hcell : ∀ i, i < ks.length → w.cell? ⟨bk, 0 + i, none⟩ = some (.string (ks.getD i ⟨#[]⟩)) := by
    intro i hi
    rw [Nat.zero_add, hown.cellAt i (by omega), List.getElem?_map, List.getElem?_eq_getElem hi]
    simp [List.getD, List.getElem?_eq_getElem hi]
  refine (Try.slices_Delete_string_cells bk 0 ks.length kc j (j + 1) (fun i => ks.getD i ⟨#[]⟩) w hn (by unfold maxLen at hc; omega) (by omega) (by omega) hcell (fun i _ => hp_free hg)).mono ?_
  rintro e w' ⟨he, q, rfl⟩
  rw [show j + 1 - j = 1 by omega] at he
  have hvs : (((Lib.strsOf (fun i => ks.getD i ⟨#[]⟩) ks.length).take j ++ (Lib.strsOf (fun i => ks.getD i ⟨#[]⟩) ks.length).drop (j + 1) ++ List.replicate (j + 1 - j) []).map encStr) = (ks.take j ++ ks.drop (j + 1)).map Value.string ++ [.string ⟨#[]⟩] := by
    rw [show j + 1 - j = 1 by omega, List.map_append, List.map_append, List.map_take, List.map_drop, strsOf_map]
    simp [encStr, List.map_take, List.map_drop]
  rw [hvs]
  have hlen : ((ks.take j ++ ks.drop (j + 1)).map Value.string).length = ks.length - 1 := by
    simp
    omega
  refine ⟨he, ?_, ?_⟩
  · refine ownsRow_shut (heap_setCells_row _ _ (show (w.drewN q).heap[bk]? = _ from hg)) (by omega) hc (by rw [putA_size, hs]) ?_ (by rw [hlen]; omega)
    rw [putA_list _ _ _ (by rw [List.length_append, hlen]; simp; omega)]
    rw [List.take_zero, List.nil_append, List.append_assoc, Nat.mul_one]
    exact List.take_left' hlen
  · exact (show Touch [bk] w (w.drewN q) from ⟨rfl, rfl, rfl, Nat.le_refl _, fun _ _ _ => rfl⟩).trans (fun _ hk => .inl hk) (touch_setCells bk (by simp) _ _ _)
end Go.Proofs.Ytedkhpnlhkjjgaa
