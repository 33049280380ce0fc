/- The document's Tree: Leaf, Node. -/
import Derived.Test.YtjemgoifemdoeaaMb
import Derived.Test.YtjemgoifemdoeaaMt
namespace Go.Proofs.Ytjemgoifemdoeaa
open Go.RowKit

theorem own_lit (w : World) (x : Value) : (w.alloc (.cells #[x] 5)).ownsRow w.heap.size 5 1 (.slice (some ⟨w.heap.size, 0, none⟩) 1 1) 1 [x] :=
  ⟨rfl, .inr ⟨w.heap.size, 1, #[x], rfl, Nat.le_refl _, heap_alloc_new _ _, Nat.le_refl _, by decide, rfl, rfl⟩⟩
theorem off_new {w : World} {p B n c : Nat} {v : Value} {l : List Value} {A : Option Addr} (h : TreeAt w p v l) (hB : B = w.heap.size + 1) {N : Nat} (ho : ∀ k, (Value.slice A n c).ownBlock = some k → B ≤ k ∧ k < N) : Off p v A := by
  rintro a rfl
  have h1 := (ho a.block rfl).1
  have h2 := h.lt
  exact ⟨by omega, fun e => absurd (h.own _ e).2 (by omega)⟩
theorem row_kept {p : Nat} {v v' : Value} {l : List Value} {w w2 w3 : World} (h : TreeAt w p v l) (hs : Sums p v v' w2 w3) (hlt : w.heap.size < w2.heap.size) : w3.heap[w.heap.size]? = w2.heap[w.heap.size]? :=
  hs.block _ hlt (by have := h.lt; omega) (fun e => absurd (h.own _ e).2 (by omega))
theorem own_kept {p : Nat} {v v' : Value} {l : List Value} {w w2 w3 : World} (h : TreeAt w p v l) (hs : Sums p v v' w2 w3) (hlt : w.heap.size < w2.heap.size) : v'.ownBlock ≠ some w.heap.size := by
  rcases hs.own with e | e
  · rw [e]; exact fun e2 => absurd (h.own _ e2).2 (by omega)
  · exact fun e2 => absurd (e _ e2) (by omega)
set_option maxRecDepth 100000 in
set_option maxHeartbeats 1000000 in
theorem tleaf_walk (k : Int) (p : Nat) (v : Value) (l : List Value) (A : Option Addr) (n c : Nat) (f : Nat → Nat) (w : World) (ht : TreeAt w p v l) (hlen : l.length ≤ 1048576) (hl : Sl w A n f) (hz : A = none → n = 0 ∧ c = 0) (hn : n ≤ 1048575) :
    Calls Try.prog 39 #[.pointer (some ⟨p, 0, none⟩), .int .i64 k, .slice A n c] w fun e w' => e = .returned (.agg (bys (leafV k n f) 32).toArray) ∧ ∃ v' l', TreeAt w' p v' l' ∧ l'.length ≤ l.length + 1 ∧ Sums p v v' w w' := by
  obtain ⟨w1, e1⟩ : ∃ w1, w1 = w.alloc (.cells h32 25) := ⟨_, rfl⟩
  have HS1 := Lib.hid (show w1.heap.size = w.heap.size + 1 by rw [e1]; simp)
  have HB1 := Lib.hid (show Below w.heap.size w w1 by rw [e1]; exact (Below.refl _ _).alloc (Nat.le_refl _) _)
  have R1 := Lib.hid (show w1.heap[w.heap.size]? = some (.cells h32 25 (0, 0)) by rw [e1]; exact heap_alloc_new _ _)
  have E1 := Lib.hid e1
  have HT := Lib.hid ht
  have HL := Lib.hid (hl.below HB1.out)
  have HZ := Lib.hid hz
  have hlt := ht.lt
  clear e1 ht hl hz
  by_cases hk : isK k
  · obtain ⟨cz, ecz⟩ : ∃ cz, cz = (bys (leafV k n f) 32).toArray := ⟨_, rfl⟩
    obtain ⟨i1, i2, i3⟩ := hash_out ecz
    have I1 := Lib.hid i1
    have I2 := Lib.hid i2
    have I3 := Lib.hid i3
    have HCL2 := Lib.hid (cat_lt (n := 1) (f := fun _ => 2) (g := f) (fun _ => by decide) HL.out.small)
    have HCL4 := Lib.hid (cat_lt (n := 1) (f := fun _ => 4) (g := f) (fun _ => by decide) HL.out.small)
    rw [← ecz]
    clear i1 i2 i3
    rcases hk with rfl | rfl
    · have HCZ := Lib.hid (show cz = (bys (shaF (1 + n) (cat (fun _ => 2) 1 f)) 32).toArray from by rw [ecz]; rfl)
      clear ecz
      go_enter Try.func39, Try.ntmps39
      go_upto_region 1 with fail
      show Code.wp _ _ _ _ (w.alloc (.cells h32 25))
      rw [← E1.out]
      go_wp2_with (at_builtin; refine wpList_append_bys rfl _ _ rfl w1.heap.size _ 1 (bys (fun _ => 2) 1) rfl (own_lit w1 _) A n c f rfl (HL.out.alloc _) HZ.out (by omega) (by simp) ?_; intro v2 w2 hv hg; rw [bys_cat] at hv; have HB2 := Lib.hid (show Below w1.heap.size w1 w2 from own_grown (own_lit w1 _) ((Below.refl _ _).alloc (Nat.le_refl _) _) hg (by simp)); have hlo := hv.lt; obtain ⟨A2, c2, rfl, hs2, hz2⟩ := own_sl hv HCL2.out; have HW2 := Lib.hid (show w.heap.size < w2.heap.size by have := HB2.out.size; have := HS1.out; omega); have HN := Lib.hid (tsum_walk p v l A2 (1 + n) c2 _ w2 (HT.out.below (HB1.out.trans (HB2.out.mono HB1.out.size))) hlen hs2 hz2 (by omega) (off_new HT.out HS1.out hlo)); clear hv hg hlo hs2 hz2)
      refine HN.out.mono ?_
      rintro e w3 ⟨rfl, v3, ht3, hs3⟩
      rw [← HCZ.out]
      have T3 := Lib.hid ht3
      have S3 := Lib.hid ((Sums.of_below (HB1.out.trans (HB2.out.mono HB1.out.size))).trans hs3)
      have R3 := Lib.hid ((row_kept HT.out hs3 HW2.out).trans ((HB2.out.block _ (row_lt R1.out)).trans R1.out))
      have V3 := Lib.hid (own_kept HT.out hs3 HW2.out)
      clear ht3 hs3
      go_wp2_with ((with_reducible refine wpList_store_row rfl 25 (.tmp 6) (.tmp 21) rfl w.heap.size cz ?_ ?_ 25 h32 ?_ ?_ ?_ ?_ ?_); (· rfl); (· rfl); (· exact R3.out); (· exact I1.out); (· exact I2.out); (· exact I3.out))
      exact bodyPost_ret (v := .agg cz) (results_cell_row rfl _ _ w.heap.size 25 cz (0, 0) _ rfl (setRow_heap _ _ h32 _ _ _ R3.out) Try.underlying25 rfl I1.out) rfl ⟨rfl, v3, _, T3.out.row (by omega) V3.out _, by simp, S3.out.row (Nat.le_refl _) _⟩
    · have HCZ := Lib.hid (show cz = (bys (shaF (1 + n) (cat (fun _ => 4) 1 f)) 32).toArray from by rw [ecz]; rfl)
      clear ecz
      go_enter Try.func39, Try.ntmps39
      go_upto_region 1 with fail
      show Code.wp _ _ _ _ (w.alloc (.cells h32 25))
      rw [← E1.out]
      go_wp2_with (at_builtin; refine wpList_append_bys rfl _ _ rfl w1.heap.size _ 1 (bys (fun _ => 4) 1) rfl (own_lit w1 _) A n c f rfl (HL.out.alloc _) HZ.out (by omega) (by simp) ?_; intro v2 w2 hv hg; rw [bys_cat] at hv; have HB2 := Lib.hid (show Below w1.heap.size w1 w2 from own_grown (own_lit w1 _) ((Below.refl _ _).alloc (Nat.le_refl _) _) hg (by simp)); have hlo := hv.lt; obtain ⟨A2, c2, rfl, hs2, hz2⟩ := own_sl hv HCL4.out; have HW2 := Lib.hid (show w.heap.size < w2.heap.size by have := HB2.out.size; have := HS1.out; omega); have HN := Lib.hid (tsum_walk p v l A2 (1 + n) c2 _ w2 (HT.out.below (HB1.out.trans (HB2.out.mono HB1.out.size))) hlen hs2 hz2 (by omega) (off_new HT.out HS1.out hlo)); clear hv hg hlo hs2 hz2)
      refine HN.out.mono ?_
      rintro e w3 ⟨rfl, v3, ht3, hs3⟩
      rw [← HCZ.out]
      have T3 := Lib.hid ht3
      have S3 := Lib.hid ((Sums.of_below (HB1.out.trans (HB2.out.mono HB1.out.size))).trans hs3)
      have R3 := Lib.hid ((row_kept HT.out hs3 HW2.out).trans ((HB2.out.block _ (row_lt R1.out)).trans R1.out))
      have V3 := Lib.hid (own_kept HT.out hs3 HW2.out)
      clear ht3 hs3
      go_wp2_with ((with_reducible refine wpList_store_row rfl 25 (.tmp 6) (.tmp 21) rfl w.heap.size cz ?_ ?_ 25 h32 ?_ ?_ ?_ ?_ ?_); (· rfl); (· rfl); (· exact R3.out); (· exact I1.out); (· exact I2.out); (· exact I3.out))
      exact bodyPost_ret (v := .agg cz) (results_cell_row rfl _ _ w.heap.size 25 cz (0, 0) _ rfl (setRow_heap _ _ h32 _ _ _ R3.out) Try.underlying25 rfl I1.out) rfl ⟨rfl, v3, _, T3.out.row (by omega) V3.out _, by simp, S3.out.row (Nat.le_refl _) _⟩
  · have h1 : (k == 1) = false := by rw [beq_eq_false_iff_ne]; exact fun e => hk (.inl e)
    have h2 : (k == 2) = false := by rw [beq_eq_false_iff_ne]; exact fun e => hk (.inr e)
    have h3 : (k != 1) = true := by simp only [bne, h1]; rfl
    have h4 : (k != 2) = true := by simp only [bne, h2]; rfl
    have hlv : leafV k n f = fun _ => 0 := by unfold leafV; rw [if_neg hk]
    rw [hlv]
    show Calls _ _ _ _ fun e w' => e = .returned (.agg h32) ∧ _
    have T1 := Lib.hid (HT.out.below HB1.out)
    clear hk hlv
    go_enter Try.func39, Try.ntmps39
    go_upto_region 1 with fail
    show Code.wp _ _ _ _ (w.alloc (.cells h32 25))
    rw [← E1.out]
    go_wp2_with ((with_reducible refine wpList_store_row rfl 25 (.tmp 6) (.tmp 13) rfl w.heap.size h32 ?_ ?_ 25 h32 ?_ ?_ ?_ ?_ ?_); (· rfl); (· rfl); (· exact R1.out); (· exact h32_info); (· rfl); (· exact bys_all _ _))
    exact bodyPost_ret (v := .agg h32) (results_cell_row rfl _ _ w.heap.size 25 h32 (0, 0) _ rfl (setRow_heap _ _ h32 _ _ _ R1.out) Try.underlying25 rfl h32_info) rfl ⟨rfl, v, _, T1.out.row (by omega) (fun e => absurd (HT.out.own _ e).2 (by omega)) _, by simp, (Sums.of_below HB1.out).row (Nat.le_refl _) _⟩

end Go.Proofs.Ytjemgoifemdoeaa
