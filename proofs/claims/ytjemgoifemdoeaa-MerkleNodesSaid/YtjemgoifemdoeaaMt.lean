/- The document's Tree: its sum, walked. -/
import Derived.Test.YtjemgoifemdoeaaMa
import Derived.Test.YtjemgoifemdoeaaRc
import Derived.Test.YtjemgoifemdoeaaAP
namespace Go.Proofs.Ytjemgoifemdoeaa
open Go.RowKit

/-- a Tree that lies at p, with the texts l (each a slice) in v -/
def TreeAt (w : World) (p : Nat) (v : Value) (l : List Value) : Prop :=
  w.heap[p]? = some (.cells #[v] 50 (0, 0)) ∧ w.ownsRow (p + 1) 22 1 v l.length l
theorem TreeAt.lt {w : World} {p : Nat} {v : Value} {l : List Value} (h : TreeAt w p v l) : p < w.heap.size := row_lt h.1
theorem TreeAt.own {w : World} {p : Nat} {v : Value} {l : List Value} (h : TreeAt w p v l) : ∀ k, v.ownBlock = some k → p + 1 ≤ k ∧ k < w.heap.size := h.2.lt
theorem TreeAt.below {w w' : World} {p : Nat} {v : Value} {l : List Value} (h : TreeAt w p v l) (hb : Below w.heap.size w w') : TreeAt w' p v l :=
  ⟨(hb.block _ h.lt).trans h.1, h.2.kept (row := none) ⟨hb.os, hb.tape, hb.output, hb.size, fun k hk _ => hb.block k hk⟩ (by rcases v.ownBlock with _ | _ <;> simp)⟩
/-- what a play that sums may have changed: the Tree's own blocks -/
structure Sums (p : Nat) (v v' : Value) (w w' : World) : Prop where
  os : w'.os = w.os
  tape : w'.tape = w.tape
  output : w'.output = w.output
  size : w.heap.size ≤ w'.heap.size
  block : ∀ k, k < w.heap.size → k ≠ p → v.ownBlock ≠ some k → w'.heap[k]? = w.heap[k]?
  own : v'.ownBlock = v.ownBlock ∨ ∀ k, v'.ownBlock = some k → w.heap.size ≤ k
theorem Sums.of_below {p : Nat} {v : Value} {w w' : World} (h : Below w.heap.size w w') : Sums p v v w w' :=
  ⟨h.os, h.tape, h.output, h.size, fun k hk _ _ => h.block k hk, .inl rfl⟩
theorem Sums.trans {p : Nat} {v v1 v2 : Value} {w w1 w2 : World} (h : Sums p v v1 w w1) (g : Sums p v1 v2 w1 w2) : Sums p v v2 w w2 := by
  refine ⟨g.os.trans h.os, g.tape.trans h.tape, g.output.trans h.output, Nat.le_trans h.size g.size, fun k hk hp hv => ?_, ?_⟩
  · refine (g.block k (Nat.lt_of_lt_of_le hk h.size) hp ?_).trans (h.block k hk hp hv)
    rcases h.own with e | e
    · rw [e]; exact hv
    · intro e2; exact absurd (e k e2) (by omega)
  · rcases g.own with e | e
    · rw [e]; exact h.own
    · exact .inr fun k hk => Nat.le_trans h.size (e k hk)
theorem Sums.below {p B : Nat} {v v' : Value} {w w' : World} (h : Sums p v v' w w') (hB : B ≤ p) (hp : p < w.heap.size) (hv : ∀ k, v.ownBlock = some k → B ≤ k) : Below B w w' :=
  ⟨h.os, h.tape, h.output, h.size, fun k hk => h.block k (by omega) (by omega) (fun e => absurd (hv k e) (by omega))⟩
theorem Sums.row {p q : Nat} {v v' : Value} {w w' : World} (h : Sums p v v' w w') (hq : w.heap.size ≤ q) (cs : Array Value) : Sums p v v' w (w'.setRow q cs) :=
  ⟨h.os, h.tape, h.output, by simpa using h.size, fun k hk hp hv => (setRow_other _ _ _ _ (by omega)).trans (h.block k hk hp hv), h.own⟩
theorem TreeAt.row {w : World} {p q : Nat} {v : Value} {l : List Value} (h : TreeAt w p v l) (hp : p ≠ q) (hv : v.ownBlock ≠ some q) (cs : Array Value) : TreeAt (w.setRow q cs) p v l :=
  ⟨(setRow_other _ _ _ _ hp).trans h.1, h.2.kept (row := some q) ⟨rfl, rfl, rfl, by simp, fun k _ hk => setRow_other _ _ _ _ (fun e => hk (by rw [e]))⟩ (.inr hv)⟩
/-- a slice that does not lie in the Tree's own blocks -/
def Off (p : Nat) (v : Value) (A : Option Addr) : Prop := ∀ a, A = some a → a.block ≠ p ∧ v.ownBlock ≠ some a.block
theorem Sl.sums {p : Nat} {v v' : Value} {w w' : World} {A : Option Addr} {n : Nat} {f : Nat → Nat} (h : Sl w A n f) (hs : Sums p v v' w w') (ho : Off p v A) : Sl w' A n f := by
  refine ⟨h.1, fun hn => ?_⟩
  obtain ⟨g, o, rfl, hg, hc⟩ := h.2 hn
  have hk := hs.block g hg (ho _ rfl).1 (ho _ rfl).2
  exact ⟨g, o, rfl, Nat.lt_of_lt_of_le hg hs.size, fun i hi => (World.cell?_of_block hk).trans (hc i hi)⟩
theorem oinfoSl : (Try.prog.info? 22).map (fun i => (i.zero, i.size, i.bytes)) = some (some (.slice none 0 0), 1, 24) := by kernel_rfl
set_option maxRecDepth 100000 in
set_option maxHeartbeats 1000000 in
theorem tsum_walk (p : Nat) (v : Value) (l : List Value) (A : Option Addr) (n c : Nat) (f : Nat → Nat) (w : World) (ht : TreeAt w p v l) (hlen : l.length ≤ 1048576) (hl : Sl w A n f) (hz : A = none → n = 0 ∧ c = 0) (hn : n ≤ 1048576) (hoff : Off p v A) :
    Calls Try.prog 68 #[.pointer (some ⟨p, 0, none⟩), .slice A n c] w fun e w' => e = .returned (.agg (bys (shaF n f) 32).toArray) ∧ ∃ v', TreeAt w' p v' (l ++ [.slice A n c]) ∧ Sums p v v' w w' := by
  obtain ⟨i0, hi, hz0, hz1, hz2⟩ := info_parts oinfoSl
  obtain ⟨w1, e1⟩ : ∃ w1, w1 = w.alloc (.cells h32 25) := ⟨_, rfl⟩
  have hs1 : w1.heap.size = w.heap.size + 1 := by rw [e1]; simp
  have HB1 := Lib.hid (show Below w.heap.size w w1 by rw [e1]; exact (Below.refl _ _).alloc (Nat.le_refl _) _)
  have R1 := Lib.hid (show w1.heap[w.heap.size]? = some (.cells h32 25 (0, 0)) by rw [e1]; exact heap_alloc_new _ _)
  have T1 := Lib.hid (ht.below HB1.out)
  have HL0 := Lib.hid hl
  have HF := Lib.hid hoff
  have HZ := Lib.hid hz
  have E1 := Lib.hid e1
  have hlt := ht.lt
  have hlt1 : p < w1.heap.size := by omega
  have HS1 := Lib.hid hs1
  have hown := Lib.hid ht.own
  have hc1 : w1.cell? ⟨p, 0, none⟩ = some v := by simp [World.cell?, T1.out.1]
  obtain ⟨cz, ecz⟩ : ∃ cz, cz = (bys (shaF n f) 32).toArray := ⟨_, rfl⟩
  obtain ⟨i1, i2, i3⟩ := hash_out ecz
  have I1 := Lib.hid i1
  have I2 := Lib.hid i2
  have I3 := Lib.hid i3
  have HCZ := Lib.hid ecz
  rw [← ecz]
  clear e1 hs1 ht hl hz hoff i1 i2 i3 ecz
  go_enter Try.func68, Try.ntmps68
  go_upto_region 1 with fail
  show Code.wp _ _ _ _ (w.alloc (.cells h32 25))
  rw [← E1.out]
  go_wp2_with (at_builtin; refine wpList_append_own_at _ rfl _ _ _ rfl (p + 1) 22 i0 _ 1 24 Try.underlying46 hi hz0 hz1 hz2 rfl (by omega) _ l.length l rfl (T1.out.2.alloc _) ⟨w1.heap.size, 0, none⟩ 1 1 [.slice A n c] rfl rfl (cell_one_new _ _ _) (by simp [Value.oneCell']) (by unfold maxLen; omega) (by omega) (by simp; omega) ?_)
  intro v' w2 hown2 hgrow hnil hat
  obtain ⟨A2, c2, rfl⟩ : ∃ A c, v' = .slice A (l.length + 1) c := by
    rcases hown2.2 with ⟨_, h⟩ | ⟨g, cap, cur, h, _⟩
    · omega
    · exact ⟨_, _, h⟩
  have HG := Lib.hid hgrow
  have HO := Lib.hid hown2
  have HA := Lib.hid hat
  have hpo : some p ≠ v.ownBlock := fun e => absurd (hown.out p e.symm).1 (by omega)
  have HPO := Lib.hid hpo
  have X2 := Lib.hid ((hgrow.block p (by simp; omega) hpo).trans ((heap_alloc_old _ _ hlt1).trans T1.out.1))
  have hc2 : w2.cell? ⟨p, 0, none⟩ = some v := by simp [World.cell?, X2.out]
  have hf2 : w2.frozen? ⟨p, 0, none⟩ = false := by simp [World.frozen?, X2.out]
  clear hown2 hgrow hat hnil hpo
  go_upto_region 2 with fail
  show Code.wp _ _ _ _ (w2.setCell ⟨p, 0, none⟩ (.slice A2 (l.length + 1) c2))
  rw [setCell_eq_setRow w2 p 0 #[v] 50 (0, 0) _ X2.out]
  obtain ⟨v2, ev2⟩ : ∃ v2, v2 = Value.slice A2 (l.length + 1) c2 := ⟨_, rfl⟩
  rw [← ev2] at HO HA ⊢
  clear hc2 hf2
  obtain ⟨w3, e3⟩ : ∃ w3, w3 = w2.setRow p (#[v].setIfInBounds 0 v2) := ⟨_, rfl⟩
  rw [← e3]
  have hsz2 : w.heap.size + 2 ≤ w2.heap.size := by have := HG.out.size; simp at this; have := HS1.out; omega
  have T3 := Lib.hid (show TreeAt w3 p v2 (l ++ [.slice A n c]) from by
    refine ⟨by rw [e3, setRow_heap _ _ _ _ _ _ X2.out]; rfl, ?_⟩
    rw [List.length_append, e3]
    exact HO.out.kept (row := some p) ⟨rfl, rfl, rfl, by simp, fun k _ hk => setRow_other _ _ _ _ (fun e => hk (by rw [e]))⟩ (.inr fun e => absurd (HO.out.lt p e).1 (by omega)))
  have S3 := Lib.hid (show Sums p v v2 w w3 from by
    rw [e3]
    refine ⟨HG.out.os.trans HB1.out.os, HG.out.tape.trans HB1.out.tape, HG.out.output.trans HB1.out.output, by simp; omega, fun k hk hp hv => ?_, ?_⟩
    · exact (setRow_other _ _ _ _ hp).trans ((HG.out.block k (by simp; have := HS1.out; omega) (Ne.symm hv)).trans ((heap_alloc_old _ _ (by have := HS1.out; omega)).trans (HB1.out.block k hk)))
    · rcases HA.out with e | e
      · exact .inl e
      · refine .inr fun k hk => ?_
        rw [e] at hk
        have := HS1.out
        injection hk with hk
        omega)
  have R3 := Lib.hid (show w3.heap[w.heap.size]? = some (.cells h32 25 (0, 0)) from by
    rw [e3]
    exact (setRow_other _ _ _ _ (by omega)).trans ((HG.out.block _ (by simp; have := HS1.out; omega) (fun e => absurd (hown.out _ e.symm).2 (by omega))).trans ((heap_alloc_old _ _ (row_lt R1.out)).trans R1.out)))
  have VQ := Lib.hid (show v2.ownBlock ≠ some w.heap.size from by
    rcases HA.out with e | e
    · rw [e]; exact fun e2 => absurd (hown.out _ e2).2 (by omega)
    · rw [e]; have := HS1.out; intro e2; injection e2 with e2; omega)
  have HSm := Lib.hid (rsum_walk w3 A n c f (HL0.out.sums S3.out HF.out) HZ.out hn)
  clear e3 ev2 hsz2
  go_wp2_with fail
  refine HSm.out.mono ?_
  rintro e w4 ⟨rfl, hb⟩
  rw [← HCZ.out]
  have HB4 := Lib.hid hb
  have R4 := Lib.hid ((hb.block _ (row_lt R3.out)).trans R3.out)
  clear hb
  go_wp2_with ((with_reducible refine wpList_store_row rfl 25 (.tmp 4) (.tmp 16) rfl w.heap.size cz ?_ ?_ 25 h32 ?_ ?_ ?_ ?_ ?_); (· rfl); (· rfl); (· exact R4.out); (· exact I1.out); (· exact I2.out); (· exact I3.out))
  exact bodyPost_ret (v := .agg cz) (results_cell_row rfl _ _ w.heap.size 25 cz (0, 0) _ rfl (setRow_heap _ _ h32 _ _ _ R4.out) Try.underlying25 rfl I1.out) rfl ⟨rfl, v2, (T3.out.below HB4.out).row (by omega) VQ.out _, (S3.out.trans (Sums.of_below HB4.out)).row (Nat.le_refl _) _⟩
end Go.Proofs.Ytjemgoifemdoeaa
