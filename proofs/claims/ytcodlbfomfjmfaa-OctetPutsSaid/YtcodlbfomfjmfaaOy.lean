/- A source's Hash, walked live. -/
import Derived.Test.YtcodlbfomfjmfaaOx
import Derived.Laws.CopyOwn
import Derived.Deep.RegionLaw
namespace Go.Proofs.Ytcodlbfomfjmfaa
open Go.RowKit

theorem z32_bys : z32 = (bys (fun _ => 0) 32).toArray := by kernel_rfl
theorem bys_all (g : Nat → Nat) (n : Nat) : (bys g n).toArray.all (·.oneCell') = true :=
  Array.all_eq_true_iff_forall_mem.2 (fun v hv => bys_one g n v (by simpa using hv))
theorem u8_size : (Try.prog.info? 5).map (·.size) = some 1 := by kernel_rfl
/-- what lay below B lies there still -/
theorem Src.far {w w' : World} {p B : Nat} {A : Option Addr} {n c : Nat} {f : Nat → Nat} {k e : Nat} (h : Src w p A n c f k e) (hb : Below B w w') (hp : p < B) (hA : ∀ a, A = some a → 0 < n → a.block < B) : Src w' p A n c f k e := by
  refine ⟨by rw [hb.block p hp]; exact h.heap, ⟨h.sl.small, fun hn => ?_⟩, h.le, h.cap, h.most, h.nil, h.apart⟩
  obtain ⟨g, o, e, hg, hc⟩ := h.sl.at_ hn
  refine ⟨g, o, e, Nat.lt_of_lt_of_le hg hb.size, fun i hi => ?_⟩
  have hgB : g < B := hA _ (by assumption) hn
  rw [hb.cell (p := ⟨g, o + i, none⟩) hgB]
  exact hc i hi
theorem Src.home {w : World} {p : Nat} {A : Option Addr} {n c : Nat} {f : Nat → Nat} {k e : Nat} (h : Src w p A n c f k e) : ∀ a, A = some a → 0 < n → a.block < w.heap.size := by
  intro a ha hn
  obtain ⟨g, o, e, hg, hc⟩ := h.sl.at_ hn
  rw [ha] at e
  cases e
  exact hg
theorem splice_all (z g : Nat → Nat) (n : Nat) : splice (bys z n) 0 (bys g n) = bys g n := by
  unfold splice
  rw [List.take_zero, List.nil_append, List.drop_eq_nil_of_le (by simp [bys_length]), List.append_nil]
theorem splice_nil {α : Type} (L : List α) (o : Nat) : splice L o [] = L := by simp [splice]
theorem hinfo (g : Nat → Nat) : (Try.prog.info? 44).map (·.size) = some (bys g 32).toArray.size := by
  rw [show (bys g 32).toArray.size = 32 by simp [bys_length]]; kernel_rfl
def HashGot (f : Nat → Nat) (n k : Nat) (g : Nat → Nat) (e k' : Nat) : Prop :=
  (n < k + 32 ∧ e = 3 ∧ g = fun _ => 0) ∨ (k + 32 ≤ n ∧ e = 0 ∧ (g = fun i => f (k + i)) ∧ k' = k + 32)
def LHashPost (w : World) (p : Nat) (A : Option Addr) (n c : Nat) (f : Nat → Nat) (k : Nat) (en : Ending) (w' : World) : Prop :=
  ∃ cs g e k', en = .returned (.agg cs) ∧ cs = (bys g 32).toArray ∧ HashGot f n k g e k' ∧ Src w' p A n c f k' e ∧ But w.heap.size p w w'
set_option maxRecDepth 100000 in
set_option maxHeartbeats 1000000 in
theorem lhash_err {w : World} {p : Nat} {A : Option Addr} {n c : Nat} {f : Nat → Nat} {k e : Nat} (h : Src w p A n c f k e) (he : e ≠ 0) : Calls Try.prog 60 #[.pointer (some ⟨p, 0, none⟩)] w fun en w' => en = .returned (.agg z32) ∧ Below w.heap.size w w' := by
  have HE := Lib.hid (err_live (h.below (hw32_below w)))
  have p1 : ¬ ((e : Int) = 0) := by omega
  clear h
  go_enter Try.func60, Try.ntmps60
  go_upto_region 4 with fail
  show Calls Try.prog _ _ (hw32 w) _
  refine HE.out.mono ?_
  rintro en w1 ⟨rfl, rfl⟩
  have R0 := Lib.hid (hw32_0 w)
  have R1 := Lib.hid (hw32_1 w)
  go_upto_region 4 with fail
  refine wp_region_lit (wpList_load_row rfl 44 (.tmp 3) rfl (w.heap.size + 1) rfl _ z32 (0, 0) _ R1.out Try.underlying44 rfl z32_info ?_)
  refine wpList_store_row rfl 44 (.tmp 2) (.tmp 13) rfl w.heap.size z32 rfl rfl _ z32 R0.out z32_info rfl z32_one ?_
  refine wpList_nil ?_
  go_wp2
  refine bodyPost_ret (v := .agg z32) (results_cell_row rfl _ _ w.heap.size 44 z32 (0, 0) _ rfl (setRow_heap _ _ z32 _ _ _ R0.out) Try.underlying44 rfl z32_info) rfl ⟨rfl, below_setRow (hw32_below w) (Nat.le_refl _) _⟩
set_option maxRecDepth 100000 in
set_option maxHeartbeats 2000000 in
theorem lhash_ok {w : World} {p : Nat} {A : Option Addr} {n c : Nat} {f : Nat → Nat} {k : Nat} (h : Src w p A n c f k 0) (hk : k + 32 ≤ n) : Calls Try.prog 60 #[.pointer (some ⟨p, 0, none⟩)] w (LHashPost w p A n c f k) := by
  have h0 := h.below (hw32_below w)
  have HE := Lib.hid (err_live h0)
  have HT := Lib.hid (take_ok (h0.below (Below.refl _ _).drew) 32 hk (.func (Fn.func 117) #[.pointer (some ⟨p, 0, none⟩)] #[]))
  have HP := Lib.hid h.lt
  have HH := Lib.hid h.home
  have Hk := Lib.hid hk
  clear h h0 hk
  go_enter Try.func60, Try.ntmps60
  go_upto_region 3 with fail
  show Calls Try.prog _ _ (hw32 w) _
  refine HE.out.mono ?_
  rintro en w1 ⟨rfl, rfl⟩
  go_upto_region 3 with fail
  have hpz : (hw32 w).drew.heap.size = w.heap.size + 2 := hw32_size w
  have HPZ := Lib.hid hpz
  clear hpz
  go_region_law (first
    | (go_simp; go_at_call 121; refine HT.out.mono ?_; rintro en w2 ⟨⟨A2, rfl, hs, hn, ha⟩, hS, hB2⟩; have HS2 := Lib.hid hs; have HSrc := Lib.hid hS; have HB2 := Lib.hid hB2; have R2 := Lib.hid ((hB2.block (w.heap.size + 1) (by rw [HPZ.out]; omega) (by have := HP.out; omega)).trans (hw32_1 w)); have R20 := Lib.hid ((hB2.block (w.heap.size) (by rw [HPZ.out]; omega) (by have := HP.out; omega)).trans (hw32_0 w)); clear hs hn ha hS hB2)
    | (refine step_copy_splice rfl (.tmp 7) (.tmp 11) 33 33 rfl 5 Try.underlying33 u8_size (some ⟨w.heap.size + 1, 0, none⟩) A2 32 32 32 32 (by simp [Act.eval]) (by simp [Act.eval]) (w.heap.size + 1) 0 (bys (fun _ => 0) 32) 44 (by rw [← z32_bys]; exact R2.out) (bys (fun i => f (k + i)) 32) (by simp [bys_length]) (fun _ => by obtain ⟨g, o, rfl, _, _⟩ := HS2.out.at_ (by omega); exact ⟨rfl, _, rfl, HS2.out.news⟩) (by simp [bys_length]) (bys_one _ _) (w.heap.size + 1) _ (Below.refl _ _) (Nat.le_refl _) ?_; intro w3 hg3 hb3))
  have r1 := hg3.out
  rw [splice_all] at r1
  obtain ⟨cs, hcs⟩ : ∃ cs, cs = (bys (fun i => f (k + i)) 32).toArray := ⟨_, rfl⟩
  have hi := hinfo (fun i => f (k + i))
  have hone := bys_all (fun i => f (k + i)) 32
  have hsz : z32.size = (bys (fun i => f (k + i)) 32).toArray.size := by simp [bys_length]; rfl
  rw [← hcs] at r1 hi hone hsz
  have R1 := Lib.hid r1
  have R0 := Lib.hid ((hb3.block w.heap.size (by omega)).trans R20.out)
  have HB3 := Lib.hid (hb3.mono (Nat.le_succ _))
  have Hi := Lib.hid hi
  have Hone := Lib.hid hone
  have Hsz := Lib.hid hsz
  have Hcs := Lib.hid hcs
  clear r1 hi hone hsz hg3 hb3 hcs R2 R20
  go_upto_region 4 with fail
  refine wp_region_lit (wpList_load_row rfl 44 (.tmp 3) rfl (w.heap.size + 1) rfl _ cs (0, 0) _ R1.out Try.underlying44 rfl Hi.out ?_)
  refine wpList_store_row rfl 44 (.tmp 2) (.tmp 13) rfl w.heap.size cs rfl rfl _ z32 R0.out Hi.out Hsz.out Hone.out ?_
  refine wpList_nil ?_
  go_wp2
  refine bodyPost_ret (v := .agg cs) (results_cell_row rfl _ _ w.heap.size 44 cs (0, 0) _ rfl (setRow_heap _ _ z32 _ _ _ R0.out) Try.underlying44 rfl Hi.out) rfl ?_
  have hz : w.heap.size ≤ (hw32 w).drew.heap.size := by rw [HPZ.out]; omega
  have hb4 := below_setRow (g := w.heap.size) HB3.out (Nat.le_refl _) cs
  refine ⟨cs, _, 0, k + 32, rfl, Hcs.out, .inr ⟨Hk.out, rfl, rfl, rfl⟩, HSrc.out.far hb4 HP.out HH.out, ?_⟩
  exact ((But.of_below (hw32_below w).drew).cons hz HB2.out).trans (But.of_below hb4)
set_option maxRecDepth 100000 in
set_option maxHeartbeats 2000000 in
theorem lhash_short {w : World} {p : Nat} {A : Option Addr} {n c : Nat} {f : Nat → Nat} {k : Nat} (h : Src w p A n c f k 0) (hk : n < k + 32) : Calls Try.prog 60 #[.pointer (some ⟨p, 0, none⟩)] w (LHashPost w p A n c f k) := by
  have h0 := h.below (hw32_below w)
  have HE := Lib.hid (err_live h0)
  have HT := Lib.hid (take_short (h0.below (Below.refl _ _).drew) 32 hk)
  have HP := Lib.hid h.lt
  have HH := Lib.hid h.home
  have Hk := Lib.hid hk
  unfold keepOf at HT
  clear h h0 hk
  go_enter Try.func60, Try.ntmps60
  go_upto_region 3 with fail
  show Calls Try.prog _ _ (hw32 w) _
  refine HE.out.mono ?_
  rintro en w1 ⟨rfl, rfl⟩
  go_upto_region 3 with fail
  have hpz : (hw32 w).drew.heap.size = w.heap.size + 2 := hw32_size w
  have HPZ := Lib.hid hpz
  clear hpz
  go_region_law (first
    | (go_simp; go_at_call 121; refine HT.out.mono ?_; rintro en w2 ⟨rfl, hS, hB2⟩; have HSrc := Lib.hid hS; have HB2 := Lib.hid hB2; have R2 := Lib.hid ((hB2.block (w.heap.size + 1) (by rw [HPZ.out]; omega) (by have := HP.out; omega)).trans (hw32_1 w)); have R20 := Lib.hid ((hB2.block (w.heap.size) (by rw [HPZ.out]; omega) (by have := HP.out; omega)).trans (hw32_0 w)); clear hS hB2)
    | (refine step_copy_splice rfl (.tmp 7) (.tmp 11) 33 33 rfl 5 Try.underlying33 u8_size (some ⟨w.heap.size + 1, 0, none⟩) none 32 32 0 0 (by simp [Act.eval]) (by simp [Act.eval]) (w.heap.size + 1) 0 (bys (fun _ => 0) 32) 44 (by rw [← z32_bys]; exact R2.out) [] rfl (fun h => absurd h (by simp)) (by simp [bys_length]) (by simp) (w.heap.size + 1) _ (Below.refl _ _) (Nat.le_refl _) ?_; intro w3 hg3 hb3))
  have r1 := hg3.out
  rw [splice_nil] at r1
  obtain ⟨cs, hcs⟩ : ∃ cs, cs = (bys (fun _ => 0) 32).toArray := ⟨_, rfl⟩
  have hi := hinfo (fun _ => 0)
  have hone := bys_all (fun _ => 0) 32
  have hsz : z32.size = (bys (fun _ => 0) 32).toArray.size := by simp [bys_length]; rfl
  rw [← hcs] at r1 hi hone hsz
  have R1 := Lib.hid r1
  have R0 := Lib.hid ((hb3.block w.heap.size (by omega)).trans R20.out)
  have HB3 := Lib.hid (hb3.mono (Nat.le_succ _))
  have Hi := Lib.hid hi
  have Hone := Lib.hid hone
  have Hsz := Lib.hid hsz
  have Hcs := Lib.hid hcs
  clear r1 hi hone hsz hg3 hb3 hcs R2 R20
  go_upto_region 4 with fail
  refine wp_region_lit (wpList_load_row rfl 44 (.tmp 3) rfl (w.heap.size + 1) rfl _ cs (0, 0) _ R1.out Try.underlying44 rfl Hi.out ?_)
  refine wpList_store_row rfl 44 (.tmp 2) (.tmp 13) rfl w.heap.size cs rfl rfl _ z32 R0.out Hi.out Hsz.out Hone.out ?_
  refine wpList_nil ?_
  go_wp2
  refine bodyPost_ret (v := .agg cs) (results_cell_row rfl _ _ w.heap.size 44 cs (0, 0) _ rfl (setRow_heap _ _ z32 _ _ _ R0.out) Try.underlying44 rfl Hi.out) rfl ?_
  have hz : w.heap.size ≤ (hw32 w).drew.heap.size := by rw [HPZ.out]; omega
  have hb4 := below_setRow (g := w.heap.size) HB3.out (Nat.le_refl _) cs
  refine ⟨cs, _, 3, k, rfl, Hcs.out, .inl ⟨Hk.out, rfl, rfl⟩, HSrc.out.far hb4 HP.out HH.out, ?_⟩
  exact ((But.of_below (hw32_below w).drew).cons hz HB2.out).trans (But.of_below hb4)
end Go.Proofs.Ytcodlbfomfjmfaa
