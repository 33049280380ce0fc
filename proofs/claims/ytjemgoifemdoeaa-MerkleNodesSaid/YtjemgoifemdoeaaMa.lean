/- merkle.Leaf, Node, Empty, walked. -/
import Derived.Test.YtjemgoifemdoeaaRb
namespace Go.Proofs.Ytjemgoifemdoeaa
open Go.RowKit

/-- a leaf's hash, a node's -/
def lf (k n : Nat) (f : Nat → Nat) : Nat → Nat := shaF (1 + n) (cat (fun _ => 2 * k) 1 f)
def nd (k : Nat) (a b : Nat → Nat) : Nat → Nat := shaF (1 + 32 + 32) (cat (cat (fun _ => 2 * k + 1) 1 a) (1 + 32) b)
theorem lf_lt (k n : Nat) (f : Nat → Nat) (i : Nat) : lf k n f i < 256 := shaF_lt _ _ _
theorem nd_lt (k : Nat) (a b : Nat → Nat) (i : Nat) : nd k a b i < 256 := shaF_lt _ _ _
/-- is it a kind? -/
def isK (k : Int) : Prop := k = 1 ∨ k = 2
instance (k : Int) : Decidable (isK k) := inferInstanceAs (Decidable (k = 1 ∨ k = 2))
def leafV (k : Int) (n : Nat) (f : Nat → Nat) : Nat → Nat := if isK k then lf k.toNat n f else fun _ => 0
def nodeV (k : Int) (a b : Nat → Nat) : Nat → Nat := if isK k then nd k.toNat a b else fun _ => 0
theorem leafV_lt (k : Int) (n : Nat) (f : Nat → Nat) (i : Nat) : leafV k n f i < 256 := by
  unfold leafV; split
  · exact lf_lt _ _ _ _
  · exact (by decide : 0 < 256)
theorem nodeV_lt (k : Int) (a b : Nat → Nat) (i : Nat) : nodeV k a b i < 256 := by
  unfold nodeV; split
  · exact nd_lt _ _ _ _
  · exact (by decide : 0 < 256)
set_option maxRecDepth 100000 in
theorem isKind_yes (k : Int) (h : isK k) (w : World) : Calls Try.prog 62 #[.int .i64 k] w fun e w' => e = .returned (.bool true) ∧ w = w' := by
  rcases h with rfl | rfl
  · go_enter Try.func62, Try.ntmps62
    go_wp2
    go_ret
    exact ⟨rfl, rfl⟩
  · go_enter Try.func62, Try.ntmps62
    go_wp2
    go_ret
    exact ⟨rfl, rfl⟩
set_option maxRecDepth 100000 in
theorem isKind_no (k : Int) (h : ¬ isK k) (w : World) : Calls Try.prog 62 #[.int .i64 k] w fun e w' => e = .returned (.bool false) ∧ w = w' := by
  have h1 : (k == 1) = false := by rw [beq_eq_false_iff_ne]; exact fun e => h (.inl e)
  have h2 : (k == 2) = false := by rw [beq_eq_false_iff_ne]; exact fun e => h (.inr e)
  clear h
  go_enter Try.func62, Try.ntmps62
  go_wp2
  go_ret
  exact ⟨rfl, rfl⟩
theorem h32_sz : h32.size = 32 := by kernel_rfl
/-- the result is a hash that lies in the block of noughts w.heap.size -/
theorem hash_out {cz : Array Value} {g : Nat → Nat} (h : cz = (bys g 32).toArray) : (Try.prog.info? 25).map (·.size) = some cz.size ∧ h32.size = cz.size ∧ cz.all (·.oneCell') = true := by
  refine ⟨?_, ?_, ?_⟩
  · rw [h, List.size_toArray, bys_length]; exact h32_info
  · rw [h, h32_sz, List.size_toArray, bys_length]
  · rw [h]; exact bys_all _ _
theorem one_sl (w : World) {x : Nat} (hx : x < 256) : Sl (w.alloc (.cells #[.int .u8 (x : Nat)] 5)) (some ⟨w.heap.size, 0, none⟩) 1 (fun _ => x) :=
  ⟨fun _ => hx, fun _ => ⟨w.heap.size, 0, rfl, by simp, fun i hi => by rw [World.cell?_alloc_new, show 0 + i = 0 by omega]; rfl⟩⟩
set_option maxRecDepth 100000 in
set_option maxHeartbeats 1000000 in
theorem leaf_walk (k : Int) (A : Option Addr) (n c : Nat) (f : Nat → Nat) (w : World) (hl : Sl w A n f) (hz : A = none → n = 0 ∧ c = 0) (hn : n ≤ 1048576) :
    Calls Try.prog 38 #[.int .i64 k, .slice A n c] w fun e w' => e = .returned (.agg (bys (leafV k n f) 32).toArray) ∧ Below w.heap.size w w' := by
  obtain ⟨w1, e1⟩ : ∃ w1, w1 = w.alloc (.cells h32 25) := ⟨_, rfl⟩
  have HB1 := Lib.hid (show Below w.heap.size w w1 by rw [e1]; exact (Below.refl _ _).alloc (Nat.le_refl _) _)
  have R1 := Lib.hid (show w1.heap[w.heap.size]? = some (.cells h32 25 (0, 0)) by rw [e1]; exact heap_alloc_new _ _)
  have E1 := Lib.hid e1
  clear e1
  by_cases hk : isK k
  · obtain ⟨kd, rfl, hkd⟩ : ∃ kd : Nat, k = (kd : Int) ∧ (kd = 1 ∨ kd = 2) := by
      rcases hk with rfl | rfl
      · exact ⟨1, rfl, .inl rfl⟩
      · exact ⟨2, rfl, .inr rfl⟩
    have HM := Lib.hid (isKind_yes (kd : Int) hk w1)
    have hlv : leafV (kd : Int) n f = lf kd n f := by unfold leafV; rw [if_pos hk, Int.toNat_natCast]
    rw [hlv]
    obtain ⟨b, eb⟩ : ∃ b, b = 2 * kd := ⟨_, rfl⟩
    have hb : b < 256 := by omega
    have hkd2 : kd ≤ 2 := by omega
    have v1 : 2 * (kd : Int) = (b : Int) := by omega
    have v2 : (b : Int) % 256 = (b : Int) := by omega
    have v3 : IntKind.u8.wrap (b : Int) = (b : Int) := by rw [IntKind.wrap_u8]; omega
    have HL1 := hl.below HB1.out
    have HC := Lib.hid (concat2_c (some ⟨w1.heap.size, 0, none⟩) A 1 n 1 c (fun _ => b) f (w1.alloc (.cells #[.int .u8 (b : Nat)] 5)) (one_sl w1 hb) (HL1.alloc _) (fun h => by cases h) hz (by decide) (by omega) 22)
    have hsz2 : (w1.alloc (.cells #[.int .u8 (b : Nat)] 5)).heap.size = w1.heap.size + 1 := by simp
    rw [hsz2] at HC
    have hcl := cat_lt (n := 1) (f := fun _ => b) (g := f) (fun _ => hb) hl.small
    have HCL := Lib.hid hcl
    obtain ⟨cz, ecz⟩ : ∃ cz, cz = (bys (lf kd n f) 32).toArray := ⟨_, rfl⟩
    obtain ⟨i1, i2, i3⟩ := hash_out ecz
    have I1 := Lib.hid i1
    have I2 := Lib.hid i2
    have I3 := Lib.hid i3
    have HCZ := Lib.hid (show cz = (bys (shaF (1 + n) (cat (fun _ => b) 1 f)) 32).toArray by rw [ecz, eb]; rfl)
    rw [← ecz]
    clear hk hl HL1 hcl i1 i2 i3 ecz eb hlv hkd hsz2
    go_enter Try.func38, Try.ntmps38
    go_wp2_with fail
    show Calls Try.prog _ _ (w.alloc (.cells h32 25)) _
    rw [← E1.out]
    refine HM.out.mono ?_
    rintro e _ ⟨rfl, rfl⟩
    go_wp2_with fail
    refine HC.out.mono ?_
    rintro e w3 ⟨⟨v, rfl, hv⟩, hb3⟩
    obtain ⟨A3, c3, rfl, hs3, hc3, hm3⟩ := own_sl2 hv HCL.out
    have HB3 := Lib.hid (HB1.out.trans (((Below.refl w1.heap.size w1).alloc (Nat.le_refl _) (.cells #[.int .u8 (b : Nat)] 5)).trans (hb3.mono (by simp)) |>.mono HB1.out.size))
    have HS := Lib.hid (sum_walk w3 A3 (1 + n) c3 _ hs3 hc3 hm3 (by omega))
    have R3 := Lib.hid ((hb3.block _ (Nat.lt_of_lt_of_le (row_lt R1.out) (by simp))).trans ((heap_alloc_old _ _ (row_lt R1.out)).trans R1.out))
    clear hv hb3 hs3 hc3 hm3
    go_wp2_with fail
    refine HS.out.mono ?_
    rintro e w4 ⟨rfl, hb4⟩
    rw [← HCZ.out]
    have HB4 := Lib.hid (HB3.out.trans (hb4.mono HB3.out.size))
    have R4 := Lib.hid ((hb4.block _ (row_lt R3.out)).trans R3.out)
    clear hb4
    go_wp2_with ((with_reducible refine wpList_store_row rfl 25 (.tmp 4) (.tmp 16) rfl w.heap.size cz ?_ ?_ 25 h32 ?_ ?_ ?_ ?_ ?_); (· rfl); (· rfl); (· exact R4.out); (· exact I1.out); (· exact I2.out); (· exact I3.out))
    exact bodyPost_ret (v := .agg cz) (results_cell_row rfl _ _ w.heap.size 25 cz (0, 0) _ rfl (setRow_heap _ _ h32 _ _ _ R4.out) Try.underlying25 rfl I1.out) rfl ⟨rfl, below_setRow HB4.out (Nat.le_refl _) _⟩
  · have HM := Lib.hid (isKind_no k hk w1)
    have hlv : leafV k n f = fun _ => 0 := by unfold leafV; rw [if_neg hk]
    rw [hlv]
    show Calls _ _ _ _ fun e w' => e = .returned (.agg h32) ∧ _
    clear hk hl hlv
    go_enter Try.func38, Try.ntmps38
    go_wp2_with fail
    show Calls Try.prog _ _ (w.alloc (.cells h32 25)) _
    rw [← E1.out]
    refine HM.out.mono ?_
    rintro e _ ⟨rfl, rfl⟩
    go_wp2_with ((with_reducible refine wpList_store_row rfl 25 (.tmp 4) (.tmp 8) rfl w.heap.size h32 ?_ ?_ 25 h32 ?_ ?_ ?_ ?_ ?_); (· rfl); (· rfl); (· exact R1.out); (· exact h32_info); (· rfl); (· exact bys_all _ _))
    exact bodyPost_ret (v := .agg h32) (results_cell_row rfl _ _ w.heap.size 25 h32 (0, 0) _ rfl (setRow_heap _ _ h32 _ _ _ R1.out) Try.underlying25 rfl h32_info) rfl ⟨rfl, below_setRow HB1.out (Nat.le_refl _) _⟩
set_option maxRecDepth 100000 in
set_option maxHeartbeats 1000000 in
theorem empty_walk (k : Int) (w : World) : Calls Try.prog 42 #[.int .i64 k] w fun e w' => e = .returned (.agg (bys (leafV k 0 (fun _ => 0)) 32).toArray) ∧ Below w.heap.size w w' := by
  obtain ⟨w1, e1⟩ : ∃ w1, w1 = w.alloc (.cells h32 25) := ⟨_, rfl⟩
  have HB1 := Lib.hid (show Below w.heap.size w w1 by rw [e1]; exact (Below.refl _ _).alloc (Nat.le_refl _) _)
  have R1 := Lib.hid (show w1.heap[w.heap.size]? = some (.cells h32 25 (0, 0)) by rw [e1]; exact heap_alloc_new _ _)
  have E1 := Lib.hid e1
  have HL := Lib.hid (leaf_walk k none 0 0 (fun _ => 0) w1 ⟨fun _ => (by decide : 0 < 256), fun h => absurd h (by omega)⟩ (fun _ => ⟨rfl, rfl⟩) (by omega))
  obtain ⟨cz, ecz⟩ : ∃ cz, cz = (bys (leafV k 0 (fun _ => 0)) 32).toArray := ⟨_, rfl⟩
  obtain ⟨i1, i2, i3⟩ := hash_out ecz
  have I1 := Lib.hid i1
  have I2 := Lib.hid i2
  have I3 := Lib.hid i3
  rw [← ecz] at HL ⊢
  clear e1 i1 i2 i3 ecz
  go_enter Try.func42, Try.ntmps42
  go_wp2_with fail
  show Calls Try.prog _ _ (w.alloc (.cells h32 25)) _
  rw [← E1.out]
  refine HL.out.mono ?_
  rintro e w4 ⟨rfl, hb4⟩
  have HB4 := Lib.hid (HB1.out.trans (hb4.mono HB1.out.size))
  have R4 := Lib.hid ((hb4.block _ (row_lt R1.out)).trans R1.out)
  clear hb4
  go_wp2_with ((with_reducible refine wpList_store_row rfl 25 (.tmp 2) (.tmp 4) rfl w.heap.size cz ?_ ?_ 25 h32 ?_ ?_ ?_ ?_ ?_); (· rfl); (· rfl); (· exact R4.out); (· exact I1.out); (· exact I2.out); (· exact I3.out))
  exact bodyPost_ret (v := .agg cz) (results_cell_row rfl _ _ w.heap.size 25 cz (0, 0) _ rfl (setRow_heap _ _ h32 _ _ _ R4.out) Try.underlying25 rfl I1.out) rfl ⟨rfl, below_setRow HB4.out (Nat.le_refl _) _⟩
end Go.Proofs.Ytjemgoifemdoeaa
