/- The store: Delete of a key that is there, where others stay, walked. -/
import Derived.Test.YtedkhpnlhkjjgaaTL
namespace Go.Proofs.Ytedkhpnlhkjjgaa
open Go.RowKit Go.Maps Go.Sort

set_option maxRecDepth 100000 in
set_option maxHeartbeats 4000000 in
theorem del_some (b bm : Nat) (vb vk vq : Value) (L : SL) (q : Nat) (qs : List Value) (k old : ByteArray) (w : World) (h : StM w b bm vb vk vq L q qs) (hk : k.size ≤ maxLen) (hN : L.length ≤ 1000000) (hq : q < 1000000) (hin : sget L k = some old) (h2 : 2 ≤ L.length) :
    Calls Try.prog 76 #[.pointer (some ⟨b, 0, none⟩), .string k] w fun e w' => e = .returned (.bool true) ∧ ∃ F', StP w' b F' (sdel L k) (q + 1) (qs ++ chg k true old) ∧ Touch (fpr b bm vb vk vq L) w w' ∧ ∀ k ∈ F', k ∈ fpr b bm vb vk vq L ∨ w.heap.size ≤ k := by
  have hl := h.m.look k hk
  rw [hin] at hl
  replace hl : (Instr.lookup 103 (.map (some bm)) (.string k) true).run Try.prog w = .ok (.tuple #[.agg #[.string old], .bool true]) w := hl
  have c0 := (hp_cell (i := 0) h.r).trans rfl
  have lb := hp_lt h.r
  have HM := Lib.hid (made_live b _ L q qs w ⟨bm, vb, vk, vq, rfl, h⟩)
  obtain ⟨W, hW⟩ : ∃ W, W = w.alloc (.cells #[.string old] 148) := ⟨_, rfl⟩
  have hbW : Below w.heap.size w W := by rw [hW]; exact (Below.refl w.heap.size w).alloc (Nat.le_refl _) _
  have hSW := h.below hbW
  have hr7 : W.heap[w.heap.size]? = some (.cells #[.string old] 148 (0, 0)) := by rw [hW]; exact heap_alloc_new _ _
  obtain ⟨i0, hi, hz0, hz1, hz2⟩ := info_parts infoChange
  have Hh := Lib.hid (And.intro hq (And.intro hbW hSW))
  have HW := Lib.hid hW
  have d2 := (hp_cell (i := 2) hSW.r).trans rfl
  have d7 := (hp_cell (i := 0) hr7).trans rfl
  have lbW := hp_lt hSW.r
  have lwW := hp_lt hr7
  have HO := Lib.hid (fun (o : Obj) => show (W.drew.alloc o).ownsRow 0 166 3 vq q qs from ownsRow_same hSW.kq fun g hg => heap_alloc_old W.drew o (ownsRow_blk hSW.kq g hg))
  have HP := Lib.hid (fun (w' : World) (bm : Nat) (vb vk vq : Value) (q : Nat) (qs : List Value) (h' : StM w' b bm vb vk vq L q qs) => drop_some b bm vb vk vq L q qs k w' h' hk hN (by rw [hin]; rfl) h2)
  clear h hk hN hq hin h2 hW hbW hSW hr7
  go_enter Try.func76, Try.ntmps76
  go_upto_region 5 with (go_at_call 27; refine HM.out.mono ?_; rintro e w1 ⟨rfl, rfl⟩)
  rw [← HW.out]
  go_region_law (refine step_append_lies _ rfl (.tmp 24) (.tmp 29) 105 rfl 0 166 i0 _ 3 40 Try.underlying105 hi hz0 hz1 hz2 rfl (by decide) vq q qs (by simp [Act.eval]) (HO.out _) ⟨W.heap.size, 0, none⟩ 1 1 (chg k true old) (by simp [Act.eval]) rfl (chg_news W k old true) chg_one (by decide) (by have := Hh.out.1; unfold maxLen; omega) (by have := Hh.out.1; omega) (Nat.zero_le _) _ rfl ?_; intro g cap w5 hown hgrow hat hlt; have hr5 := chg_r Hh.out.2.2 hgrow; have e2 := (hp_cell (i := 2) hr5).trans rfl; have f2 := hp_free (i := 2) hr5; have HC := Lib.hid (chg_done Hh.out.2.2 hown hgrow (by simpa using hat)); clear hown hgrow hat hlt hr5)
  all_goals go_wp2_with (go_at_call 121; refine (HP.out _ bm vb vk _ (q + 1) _ HC.out.1).mono ?_; rintro e w6 ⟨rfl, vb', vk', hM, ht, hF⟩; have HM6 := Lib.hid (set_done Hh.out.2.1 HC.out.2.1 HC.out.2.2 hM ht hF); clear hM ht hF)
  all_goals go_ret
  all_goals exact ⟨rfl, HM6.out.2⟩
theorem SNew.del_some {w W : World} {b : Nat} {F : List Nat} {L : SL} {q : Nat} {qs : List Value} (h : SNew w W b F L q qs) (k old : ByteArray) (hk : k.size ≤ maxLen) (hin : sget L k = some old) (h2 : 2 ≤ L.length) (hN : L.length ≤ 1000000) (hq : q < 1000000) :
    Calls Try.prog 76 #[.pointer (some ⟨b, 0, none⟩), .string k] W fun e W' => e = .returned (.bool true) ∧ LiveTo w W W' b F (sdel L k) (q + 1) := by
  obtain ⟨bm, vb, vk, vq, hF, hM⟩ := h.s
  refine (_root_.Go.Proofs.Ytedkhpnlhkjjgaa.del_some b bm vb vk vq L q qs k old W hM hk hN hq hin h2).mono ?_
  rintro e W' ⟨he, F', hs, ht, hf⟩
  rw [← hF] at ht hf
  exact ⟨he, F', _, _, h.set hs ht hf, Nat.le_refl _, ht, hf⟩
end Go.Proofs.Ytedkhpnlhkjjgaa
