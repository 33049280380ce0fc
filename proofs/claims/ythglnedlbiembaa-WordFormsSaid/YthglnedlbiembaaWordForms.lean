/- tallagelaw01.WordForms, walked. -/
import Derived.Test.YthglnedlbiembaaF1
import Derived.Test.YthglnedlbiembaaF2
import Derived.Test.YthglnedlbiembaaF4
import Derived.Test.YthglnedlbiembaaF5
import Derived.Test.YthglnedlbiembaaF7
import Derived.Test.YthglnedlbiembaaBK
import Derived.Test.YthglnedlbiembaaUD
import Derived.Test.YthglnedlbiembaaLives1
import Derived.Test.YthglnedlbiembaaSPa
namespace Go.Proofs.Ythglnedlbiembaa
open Go.RowKit Go.Sort

theorem u8s_get (f : Nat → Nat) {k i : Nat} (h : i < k) : (u8s f k)[i]? = some (.int .u8 (f i : Nat)) := by simp [u8s, h]
theorem own32 {w : World} {B e : Nat} {v : Value} {f : Nat → Nat} (h : w.ownsRow B e 1 v 32 (u8s f 32)) : ∃ g cap, v = .slice (some ⟨g, 0, none⟩) 32 cap ∧ ∀ i, i < 32 → w.cell? ⟨g, i, none⟩ = some (.int .u8 (f i : Nat)) := by
  rcases h.2 with ⟨rfl, h0⟩ | ⟨b, cap, cur, rfl, hb, hh, r⟩
  · cases h0
  · exact ⟨b, cap, rfl, fun i hi => by rw [h.cellAt i (by omega), u8s_get f hi]⟩
theorem wpAnyH_strong {P : Program} {ops : Array Oper} {Q : Exit → Act → World → Prop} {md : Region.Mode} {S S' : World → Prop} (h : ∀ w, S' w → S w) : ∀ (fuel : Nat) (listed : Array Bool) (a : Act) (w : World), wpAnyH P md ops Q S' fuel listed a w → wpAnyH P md ops Q S fuel listed a w
  | 0, _, _, _, H => H
  | fuel + 1, _, _, _, H => ⟨H.1, fun i hi => wpOp_mono (fun a' w' h' => ⟨h _ h'.1, wpAnyH_strong h fuel _ a' w' h'.2⟩) (H.2 i hi)⟩
def bl32 (a : Nat) : List Int := (List.range 32).map fun i => ((byteAt a (31 - i) : Nat) : Int)
theorem bl32_get (a i : Nat) (h : i < 32) : (bl32 a).getD i 0 = ((byteAt a (31 - i) : Nat) : Int) := by
  unfold bl32
  simp [List.getD, h]
theorem s1_below {W w1 w2 : World} {a b g1 : Nat} (hB : Arr .u64 W b 4 (limb a)) (h : (w1.cell? ⟨b, 0, none⟩ = some (.int .u64 (limb a 0 : Nat)) ∧ w1.cell? ⟨b, 1, none⟩ = some (.int .u64 (limb a 1 : Nat)) ∧ w1.cell? ⟨b, 2, none⟩ = some (.int .u64 (limb a 2 : Nat)) ∧ w1.cell? ⟨b, 3, none⟩ = some (.int .u64 (limb a 3 : Nat)) ∧ Below W.heap.size W w1) ∧ Arr .u8 w1 g1 32 (fun i => byteAt a (31 - i))) (hb : Below w1.heap.size w1 w2) : (w2.cell? ⟨b, 0, none⟩ = some (.int .u64 (limb a 0 : Nat)) ∧ w2.cell? ⟨b, 1, none⟩ = some (.int .u64 (limb a 1 : Nat)) ∧ w2.cell? ⟨b, 2, none⟩ = some (.int .u64 (limb a 2 : Nat)) ∧ w2.cell? ⟨b, 3, none⟩ = some (.int .u64 (limb a 3 : Nat)) ∧ Below W.heap.size W w2) ∧ Arr .u8 w2 g1 32 (fun i => byteAt a (31 - i)) :=
  ⟨hldW hB (kpB (un_hldW h.1) hb), h.2.below hb (World.block_lt_of_cell? _ _ (h.2.cell 0 (by omega)))⟩
theorem s2_below {W w1 w2 : World} {a b g1 g2 : Nat} (hB : Arr .u64 W b 4 (limb a)) (h : ((w1.cell? ⟨b, 0, none⟩ = some (.int .u64 (limb a 0 : Nat)) ∧ w1.cell? ⟨b, 1, none⟩ = some (.int .u64 (limb a 1 : Nat)) ∧ w1.cell? ⟨b, 2, none⟩ = some (.int .u64 (limb a 2 : Nat)) ∧ w1.cell? ⟨b, 3, none⟩ = some (.int .u64 (limb a 3 : Nat)) ∧ Below W.heap.size W w1) ∧ Arr .u8 w1 g1 32 (fun i => byteAt a (31 - i))) ∧ ∀ i, i < 32 → w1.cell? ⟨g2, i, none⟩ = some (.int .u8 (byteAt a (31 - i) : Nat))) (hb : Below w1.heap.size w1 w2) : ((w2.cell? ⟨b, 0, none⟩ = some (.int .u64 (limb a 0 : Nat)) ∧ w2.cell? ⟨b, 1, none⟩ = some (.int .u64 (limb a 1 : Nat)) ∧ w2.cell? ⟨b, 2, none⟩ = some (.int .u64 (limb a 2 : Nat)) ∧ w2.cell? ⟨b, 3, none⟩ = some (.int .u64 (limb a 3 : Nat)) ∧ Below W.heap.size W w2) ∧ Arr .u8 w2 g1 32 (fun i => byteAt a (31 - i))) ∧ ∀ i, i < 32 → w2.cell? ⟨g2, i, none⟩ = some (.int .u8 (byteAt a (31 - i) : Nat)) :=
  ⟨s1_below hB h.1 hb, fun i hi => by rw [hb.cell (p := ⟨g2, i, none⟩) (World.block_lt_of_cell? _ _ (h.2 i hi))]; exact h.2 i hi⟩
set_option maxRecDepth 100000 in
set_option maxHeartbeats 80000000 in
theorem wordForms_of (a : Nat) (A : Option Addr) (nb c x y : Nat) (k1 k2 : Bool) (f : Nat → Nat) (s : ByteArray) (w : World) (ha : a < 2 ^ 256) (hl : Sl w A nb f) (hn : nb ≤ 200) (hs : s.size ≤ 200) 
    (HA0 : ∀ w, Sl w A nb f → Calls Try.prog 27 #[.slice A nb c] w fun e w' => e = .returned (.tuple #[U x, .bool k1]) ∧ Below w.heap.size w w') (HB0 : ∀ w, Sl w A nb f → Calls Try.prog 28 #[.slice A nb c] w fun e w' => e = .returned (.tuple #[U x, .bool k1]) ∧ Below w.heap.size w w') (HP0 : ∀ w, Calls Try.prog 29 #[.string s] w fun e w' => e = .returned (.tuple #[U y, .bool k2]) ∧ Below w.heap.size w w') (HQ0 : ∀ w, Calls Try.prog 30 #[.string s] w fun e w' => e = .returned (.tuple #[U y, .bool k2]) ∧ Below w.heap.size w w') :
    Calls Try.prog 4 #[U a, .slice A nb c, .string s] w fun e w' => e = .returned (.bool true) ∧ Below w.heap.size w w' := by
  have HA := Lib.hid HA0
  have HB := Lib.hid HB0
  have HP := Lib.hid HP0
  have HQ := Lib.hid HQ0
  have Ha := Lib.hid ha
  obtain ⟨i, hi⟩ : ∃ i, i = iv a := ⟨_, rfl⟩
  obtain ⟨ik, hik⟩ : ∃ i, i = decide (a < 2 ^ 63) := ⟨_, rfl⟩
  have Hiv := Lib.hid hi.symm
  have Hik := Lib.hid hik.symm
  have heq := eqU
  have hL := Lib.hid (limb_lt a 0)
  have q1 : ¬ (200 : Int) < nb := by omega
  have q2 : ¬ (200 : Int) < s.size := by omega
  have K0 := Lib.hid (Bk.push (t := 24) a (⟨fun p hp => (by cases hp), Below.refl _ _⟩ : Bk w w []))
  have hs0 := hl.below ((Below.refl _ _).alloc (Nat.le_refl _) (.cells #[.int .u64 (limb a 0 : Nat), .int .u64 (limb a 1 : Nat), .int .u64 (limb a 2 : Nat), .int .u64 (limb a 3 : Nat)] 24))
  clear HA0 HB0 HP0 HQ0 ha hi hik hn hs hl
  unfold U
  go_enter Try.func4, Try.ntmps4
  go_wp2_with (first
    | (go_at_call 32; refine (rint_walk a _ Ha.out).mono ?_; rintro e w6 ⟨rfl, hb6⟩; rw [Hiv.out, Hik.out]; have k6 := k5.call hb6; obtain ⟨⟨p0, p1, p2, p3⟩, p4⟩ := k6.cells w1.heap.size x (by simp); obtain ⟨⟨q0, q1, q2, q3⟩, q4⟩ := k6.cells w2.heap.size x (by simp); obtain ⟨⟨r0, r1, r2, r3⟩, r4⟩ := k6.cells w3.heap.size y (by simp); obtain ⟨⟨u0, u1, u2, u3⟩, u4⟩ := k6.cells w4.heap.size y (by simp); obtain ⟨⟨v0, v1, v2, v3⟩, v4⟩ := k6.cells w.heap.size a (by simp))
    | (go_at_call 31; refine (int_walk a _ Ha.out).mono ?_; rintro e w5 ⟨rfl, hb5⟩; rw [Hiv.out, Hik.out]; have k5 := k4.call hb5; obtain ⟨⟨t0, t1, t2, t3⟩, t4⟩ := k5.cells w.heap.size a (by simp))
    | (go_at_call 30; refine (HQ.out _).mono ?_; rintro e w4 ⟨rfl, hb4⟩; have k4 := Bk.push (t := 24) y (k3.call hb4); obtain ⟨⟨n0, n1, n2, n3⟩, n4⟩ := k4.cells w.heap.size a (by simp); unfold U)
    | (go_at_call 29; refine (HP.out _).mono ?_; rintro e w3 ⟨rfl, hb3⟩; have k3 := Bk.push (t := 24) y (k2.call hb3); unfold U)
    | (go_at_call 28; refine (HB.out _ hs1).mono ?_; rintro e w2 ⟨rfl, hb2⟩; have k2 := Bk.push (t := 24) x (k1.call hb2); unfold U)
    | (go_at_call 27; refine (HA.out _ hs0).mono ?_; rintro e w1 ⟨rfl, hb1⟩; have k1 := Bk.push (t := 24) x (K0.out.call hb1); have hs1 := (hs0.below hb1).below ((Below.refl _ _).alloc (Nat.le_refl _) (.cells #[.int .u64 (limb x 0 : Nat), .int .u64 (limb x 1 : Nat), .int .u64 (limb x 2 : Nat), .int .u64 (limb x 3 : Nat)] 24)); unfold U))
  obtain ⟨W, hW⟩ : ∃ W, W = w6 := ⟨_, rfl⟩
  rw [← hW] at k6
  rw [← hW]
  have HB6 := Lib.hid (k6.b (w.heap.size, a) (by simp)).a
  have HL6 := Lib.hid k6.l
  clear hW k6
  refine wp_region_held_drew (S := fun w' => w'.cell? ⟨w.heap.size, 0, none⟩ = some (.int .u64 (limb a 0 : Nat)) ∧ w'.cell? ⟨w.heap.size, 1, none⟩ = some (.int .u64 (limb a 1 : Nat)) ∧ w'.cell? ⟨w.heap.size, 2, none⟩ = some (.int .u64 (limb a 2 : Nat)) ∧ w'.cell? ⟨w.heap.size, 3, none⟩ = some (.int .u64 (limb a 3 : Nat)) ∧ Below W.heap.size W w') (by kernel_rfl) ?_ (fun hHeld => ?_)
  · exact hldW HB6.out (kpD (Below.refl _ _))
  refine wpAnyH_take (i := 0) (v := ?_) rfl (by kernel_rfl) (by kernel_rfl) (by kernel_rfl) (fun _ _ _ h => h) (Or.inl ⟨by rfl, ?_⟩) (by with_reducible assumption) ?_
  rotate_left
  · intro wz hSw
    (try dsimp only at hSw)
    go_simp
    (try with_reducible rfl)
  (try simp only [Act.put, List.setIfInBounds_toArray])
  refine wpAnyH_take (i := 3) (v := ?_) rfl (by kernel_rfl) (by kernel_rfl) (by kernel_rfl) (fun _ _ _ h => h) (Or.inl ⟨by rfl, ?_⟩) (by with_reducible assumption) ?_
  rotate_left
  · intro wz hSw
    (try dsimp only at hSw)
    go_simp
    (try with_reducible rfl)
  (try simp only [Act.put])
  refine wpAnyH_ready (rs := [1]) (by kernel_rfl) (by simp) ?_
  refine AllReadyH.cons rfl (fun K hK => ?_) AllReadyH.nil
  go_simp
  go_at_call 33
  refine (bytes_walk a _).mono ?_
  rintro e zz1 ⟨g1, rfl, hg1a, hg1b, hA1, hv1⟩
  have kk1 := kpB (un_hldW hHeld) hv1
  go_wp2_with fail
  refine hK.out _ _ ?_ (fun hHeld => ?_)
  · exact hldW HB6.out kk1
  clear hK K
  (try simp only [Act.put, List.setIfInBounds_toArray, List.set_cons_zero, List.set_cons_succ])
  refine wpAnyH_strong (S' := fun w' => (w'.cell? ⟨w.heap.size, 0, none⟩ = some (.int .u64 (limb a 0 : Nat)) ∧ w'.cell? ⟨w.heap.size, 1, none⟩ = some (.int .u64 (limb a 1 : Nat)) ∧ w'.cell? ⟨w.heap.size, 2, none⟩ = some (.int .u64 (limb a 2 : Nat)) ∧ w'.cell? ⟨w.heap.size, 3, none⟩ = some (.int .u64 (limb a 3 : Nat)) ∧ Below W.heap.size W w') ∧ Arr .u8 w' g1 32 (fun i => byteAt a (31 - i))) (fun w h => h.1) _ _ _ _ ?_
  have hH1 : (fun w' : World => (w'.cell? ⟨w.heap.size, 0, none⟩ = some (.int .u64 (limb a 0 : Nat)) ∧ w'.cell? ⟨w.heap.size, 1, none⟩ = some (.int .u64 (limb a 1 : Nat)) ∧ w'.cell? ⟨w.heap.size, 2, none⟩ = some (.int .u64 (limb a 2 : Nat)) ∧ w'.cell? ⟨w.heap.size, 3, none⟩ = some (.int .u64 (limb a 3 : Nat)) ∧ Below W.heap.size W w') ∧ Arr .u8 w' g1 32 (fun i => byteAt a (31 - i))) zz1 := ⟨hHeld, hA1⟩
  clear hHeld
  refine wpAnyH_take (i := 2) (v := ?_) rfl (by kernel_rfl) (by kernel_rfl) (by kernel_rfl) (fun _ _ _ h => h) (Or.inl ⟨by rfl, ?_⟩) (by with_reducible assumption) ?_
  rotate_left
  · intro wz hSw
    (try dsimp only at hSw)
    have hcv := run_convert_bytes_arg (P := Try.prog) wz 33 5 Try.underlying33 Try.underlying5 g1 0 32 32 (bl32 a) (by simp [bl32]) (fun i hi => by rw [Nat.zero_add, bl32_get a i hi]; exact hSw.2.cell i hi) 9 Try.underlying9
    go_simp
    (try with_reducible rfl)
  (try simp only [Act.put, List.setIfInBounds_toArray])
  refine wpAnyH_ready (rs := [4]) (by kernel_rfl) (by simp) ?_
  refine AllReadyH.cons rfl (fun K hK => ?_) AllReadyH.nil
  go_simp
  go_at_call 34
  refine (rbytes_walk a _).mono ?_
  rintro e zz4 ⟨⟨vb, rfl, hown⟩, hv2⟩
  obtain ⟨g2, cap2, rfl, hc2⟩ := own32 hown
  have kk2 := s1_below HB6.out hH1 hv2
  go_wp2_with fail
  refine hK.out _ _ ?_ (fun hHeld => ?_)
  · exact kk2
  clear hK K
  (try simp only [Act.put, List.setIfInBounds_toArray, List.set_cons_zero, List.set_cons_succ])
  refine wpAnyH_strong (S' := fun w' => ((w'.cell? ⟨w.heap.size, 0, none⟩ = some (.int .u64 (limb a 0 : Nat)) ∧ w'.cell? ⟨w.heap.size, 1, none⟩ = some (.int .u64 (limb a 1 : Nat)) ∧ w'.cell? ⟨w.heap.size, 2, none⟩ = some (.int .u64 (limb a 2 : Nat)) ∧ w'.cell? ⟨w.heap.size, 3, none⟩ = some (.int .u64 (limb a 3 : Nat)) ∧ Below W.heap.size W w') ∧ Arr .u8 w' g1 32 (fun i => byteAt a (31 - i))) ∧ ∀ i, i < 32 → w'.cell? ⟨g2, i, none⟩ = some (.int .u8 (byteAt a (31 - i) : Nat))) (fun w h => h.1) _ _ _ _ ?_
  have hH2 : (fun w' : World => ((w'.cell? ⟨w.heap.size, 0, none⟩ = some (.int .u64 (limb a 0 : Nat)) ∧ w'.cell? ⟨w.heap.size, 1, none⟩ = some (.int .u64 (limb a 1 : Nat)) ∧ w'.cell? ⟨w.heap.size, 2, none⟩ = some (.int .u64 (limb a 2 : Nat)) ∧ w'.cell? ⟨w.heap.size, 3, none⟩ = some (.int .u64 (limb a 3 : Nat)) ∧ Below W.heap.size W w') ∧ Arr .u8 w' g1 32 (fun i => byteAt a (31 - i))) ∧ ∀ i, i < 32 → w'.cell? ⟨g2, i, none⟩ = some (.int .u8 (byteAt a (31 - i) : Nat))) zz4 := ⟨hHeld, hc2⟩
  clear hHeld hH1 kk2
  refine wpAnyH_take (i := 5) (v := ?_) rfl (by kernel_rfl) (by kernel_rfl) (by kernel_rfl) (fun _ _ _ h => h) (Or.inl ⟨by rfl, ?_⟩) (by with_reducible assumption) ?_
  rotate_left
  · intro wz hSw
    (try dsimp only at hSw)
    have hcv := run_convert_bytes_arg (P := Try.prog) wz 33 5 Try.underlying33 Try.underlying5 g2 0 32 cap2 (bl32 a) (by simp [bl32]) (fun i hi => by rw [Nat.zero_add, bl32_get a i hi]; exact hSw.2 i hi) 9 Try.underlying9
    go_simp
    (try with_reducible rfl)
  (try simp only [Act.put, List.setIfInBounds_toArray])
  refine wpAnyH_take (i := 6) (v := ?_) rfl (by kernel_rfl) (by kernel_rfl) (by kernel_rfl) (fun _ _ _ h => h) (Or.inl ⟨by rfl, ?_⟩) (by with_reducible assumption) ?_
  rotate_left
  · intro wz hSw
    (try dsimp only at hSw)
    go_simp
    (try with_reducible rfl)
  (try simp only [Act.put])
  refine wpAnyH_take (i := 7) (v := ?_) rfl (by kernel_rfl) (by kernel_rfl) (by kernel_rfl) (fun _ _ _ h => h) (Or.inl ⟨by rfl, ?_⟩) (by with_reducible assumption) ?_
  rotate_left
  · intro wz hSw
    (try dsimp only at hSw)
    go_simp
    (try with_reducible rfl)
  (try simp only [Act.put])
  refine wpAnyH_take (i := 8) (v := ?_) rfl (by kernel_rfl) (by kernel_rfl) (by kernel_rfl) (fun _ _ _ h => h) (Or.inl ⟨by rfl, ?_⟩) (by with_reducible assumption) ?_
  rotate_left
  · intro wz hSw
    (try dsimp only at hSw)
    go_simp
    (try with_reducible rfl)
  (try simp only [Act.put])
  refine wpAnyH_take (i := 10) (v := ?_) rfl (by kernel_rfl) (by kernel_rfl) (by kernel_rfl) (fun _ _ _ h => h) (Or.inl ⟨by rfl, ?_⟩) (by with_reducible assumption) ?_
  rotate_left
  · intro wz hSw
    (try dsimp only at hSw)
    go_simp
    (try with_reducible rfl)
  (try simp only [Act.put])
  refine wpAnyH_ready (rs := [9]) (by kernel_rfl) (by simp) ?_
  refine AllReadyH.cons rfl (fun K hK => ?_) AllReadyH.nil
  go_simp
  go_at_call 35
  refine (text_walk a _ Ha.out).mono ?_
  rintro e zz9 ⟨j, rfl, j1, j2, j3, j4, hv9⟩
  have hK9 := s2_below HB6.out hH2 hv9
  go_wp2_with fail
  refine hK.out _ _ ?_ (fun hHeld => ?_)
  · exact hK9
  clear hK K
  (try simp only [Act.put, List.setIfInBounds_toArray, List.set_cons_zero, List.set_cons_succ])
  clear hHeld
  refine wpAnyH_ready (rs := [11]) (by kernel_rfl) (by simp) ?_
  refine AllReadyH.cons rfl (fun K hK => ?_) AllReadyH.nil
  go_simp
  go_at_call 36
  refine (rtext_walk a _ Ha.out).mono ?_
  rintro e zz11 ⟨j', rfl, j1', j2', j3', j4', hv11⟩
  obtain rfl : j' = j := text_one j1' j3' j4' j1 j3 j4
  have hK11 := s2_below HB6.out hK9 hv11
  go_wp2_with fail
  refine hK.out _ _ ?_ (fun hHeld => ?_)
  · exact hK11
  clear hK K
  (try simp only [Act.put, List.setIfInBounds_toArray, List.set_cons_zero, List.set_cons_succ])
  clear hHeld hK9 hH2
  refine wpAnyH_take (i := 12) (v := ?_) rfl (by kernel_rfl) (by kernel_rfl) (by kernel_rfl) (fun _ _ _ h => h) (Or.inl ⟨by rfl, ?_⟩) (by with_reducible assumption) ?_
  rotate_left
  · intro wz hSw
    (try dsimp only at hSw)
    go_simp
    (try with_reducible rfl)
  (try simp only [Act.put, List.setIfInBounds_toArray])
  refine wpAnyH_take (i := 13) (v := ?_) rfl (by kernel_rfl) (by kernel_rfl) (by kernel_rfl) (fun _ _ _ h => h) (Or.inl ⟨by rfl, ?_⟩) (by with_reducible assumption) ?_
  rotate_left
  · intro wz hSw
    (try dsimp only at hSw)
    go_simp
    (try with_reducible rfl)
  (try simp only [Act.put])
  refine wpAnyH_take (i := 14) (v := ?_) rfl (by kernel_rfl) (by kernel_rfl) (by kernel_rfl) (fun _ _ _ h => h) (Or.inl ⟨by rfl, ?_⟩) (by with_reducible assumption) ?_
  rotate_left
  · intro wz hSw
    (try dsimp only at hSw)
    go_simp
    (try with_reducible rfl)
  (try simp only [Act.put])
  refine wpAnyH_take (i := 15) (v := ?_) rfl (by kernel_rfl) (by kernel_rfl) (by kernel_rfl) (fun _ _ _ h => h) (Or.inl ⟨by rfl, ?_⟩) (by with_reducible assumption) ?_
  rotate_left
  · intro wz hSw
    (try dsimp only at hSw)
    go_simp
    (try with_reducible rfl)
  (try simp only [Act.put])
  refine wpAnyH_take (i := 17) (v := ?_) rfl (by kernel_rfl) (by kernel_rfl) (by kernel_rfl) (fun _ _ _ h => h) (Or.inl ⟨by rfl, ?_⟩) (by with_reducible assumption) ?_
  rotate_left
  · intro wz hSw
    (try dsimp only at hSw)
    go_simp
    (try with_reducible rfl)
  (try simp only [Act.put])
  refine wpAnyH_ready (rs := [16]) (by kernel_rfl) (by simp) ?_
  refine AllReadyH.cons rfl (fun K hK => ?_) AllReadyH.nil
  go_simp
  go_at_call 37
  refine (bits_c a _ Ha.out).mono ?_
  rintro e zz16 ⟨rfl, hv16⟩
  have hK16 := s2_below HB6.out hK11 hv16
  go_wp2_with fail
  refine hK.out _ _ ?_ (fun hHeld => ?_)
  · exact hK16
  clear hK K
  (try simp only [Act.put, List.setIfInBounds_toArray, List.set_cons_zero, List.set_cons_succ])
  clear hHeld hK11
  refine wpAnyH_ready (rs := [18]) (by kernel_rfl) (by simp) ?_
  refine AllReadyH.cons rfl (fun K hK => ?_) AllReadyH.nil
  go_simp
  go_at_call 38
  refine (rbits_walk a _ Ha.out).mono ?_
  rintro e zz18 ⟨rfl, hv18⟩
  have hK18 := s2_below HB6.out hK16 hv18
  go_wp2_with fail
  refine hK.out _ _ ?_ (fun hHeld => ?_)
  · exact hK18
  clear hK K
  (try simp only [Act.put, List.setIfInBounds_toArray, List.set_cons_zero, List.set_cons_succ])
  clear hHeld hK16
  refine wpAnyH_take (i := 19) (v := ?_) rfl (by kernel_rfl) (by kernel_rfl) (by kernel_rfl) (fun _ _ _ h => h) (Or.inl ⟨by rfl, ?_⟩) (by with_reducible assumption) ?_
  rotate_left
  · intro wz hSw
    (try dsimp only at hSw)
    go_simp
    (try with_reducible rfl)
  (try simp only [Act.put, List.setIfInBounds_toArray])
  refine wpAnyH_take (i := 20) (v := ?_) rfl (by kernel_rfl) (by kernel_rfl) (by kernel_rfl) (fun _ _ _ h => h) (Or.inl ⟨by rfl, ?_⟩) (by with_reducible assumption) ?_
  rotate_left
  · intro wz hSw
    (try dsimp only at hSw)
    go_simp
    (try with_reducible rfl)
  (try simp only [Act.put])
  refine wpAnyH_take (i := 21) (v := ?_) rfl (by kernel_rfl) (by kernel_rfl) (by kernel_rfl) (fun _ _ _ h => h) (Or.inl ⟨by rfl, ?_⟩) (by with_reducible assumption) ?_
  rotate_left
  · intro wz hSw
    (try dsimp only at hSw)
    go_simp
    (try with_reducible rfl)
  (try simp only [Act.put])
  refine wpAnyH_take (i := 22) (v := ?_) rfl (by kernel_rfl) (by kernel_rfl) (by kernel_rfl) (fun _ _ _ h => h) (Or.inl ⟨by rfl, ?_⟩) (by with_reducible assumption) ?_
  rotate_left
  · intro wz hSw
    (try dsimp only at hSw)
    go_simp
    (try with_reducible rfl)
  (try simp only [Act.put])
  refine wpAnyH_take (i := 23) (v := ?_) rfl (by kernel_rfl) (by kernel_rfl) (by kernel_rfl) (fun _ _ _ h => h) (Or.inl ⟨by rfl, ?_⟩) (by with_reducible assumption) ?_
  rotate_left
  · intro wz hSw
    (try dsimp only at hSw)
    go_simp
    (try with_reducible rfl)
  (try simp only [Act.put])
  refine wpAnyH_take (i := 25) (v := ?_) rfl (by kernel_rfl) (by kernel_rfl) (by kernel_rfl) (fun _ _ _ h => h) (Or.inl ⟨by rfl, ?_⟩) (by with_reducible assumption) ?_
  rotate_left
  · intro wz hSw
    (try dsimp only at hSw)
    go_simp
    (try with_reducible rfl)
  (try simp only [Act.put])
  refine wpAnyH_take (i := 26) (v := ?_) rfl (by kernel_rfl) (by kernel_rfl) (by kernel_rfl) (fun _ _ _ h => h) (Or.inl ⟨by rfl, ?_⟩) (by with_reducible assumption) ?_
  rotate_left
  · intro wz hSw
    (try dsimp only at hSw)
    go_simp
    (try with_reducible rfl)
  (try simp only [Act.put])
  refine wpAnyH_take (i := 27) (v := ?_) rfl (by kernel_rfl) (by kernel_rfl) (by kernel_rfl) (fun _ _ _ h => h) (Or.inl ⟨by rfl, ?_⟩) (by with_reducible assumption) ?_
  rotate_left
  · intro wz hSw
    (try dsimp only at hSw)
    go_simp
    (try with_reducible rfl)
  (try simp only [Act.put])
  refine wpAnyH_ready (rs := [24]) (by kernel_rfl) (by simp) ?_
  refine AllReadyH.cons rfl (fun K hK => ?_) AllReadyH.nil
  go_simp
  go_at_call 39
  refine (of_walk (limb a 0) _).mono ?_
  rintro e zz24 ⟨rfl, hv24⟩
  have hK24 := s2_below HB6.out hK18 hv24
  go_wp2_with fail
  refine hK.out _ _ ?_ (fun hHeld => ?_)
  · exact hK24
  clear hK K
  (try simp only [Act.put, List.setIfInBounds_toArray, List.set_cons_zero, List.set_cons_succ])
  clear hHeld hK18
  refine wpAnyH_take (i := 28) (v := ?_) rfl (by kernel_rfl) (by kernel_rfl) (by kernel_rfl) (fun _ _ _ h => h) (Or.inl ⟨by rfl, ?_⟩) (by with_reducible assumption) ?_
  rotate_left
  · intro wz hSw
    (try dsimp only at hSw)
    go_simp
    (try with_reducible rfl)
  (try simp only [Act.put, List.setIfInBounds_toArray])
  refine wpAnyH_take (i := 29) (v := ?_) rfl (by kernel_rfl) (by kernel_rfl) (by kernel_rfl) (fun _ _ _ h => h) (Or.inl ⟨by rfl, ?_⟩) (by with_reducible assumption) ?_
  rotate_left
  · intro wz hSw
    (try dsimp only at hSw)
    go_simp
    (try with_reducible rfl)
  (try simp only [Act.put])
  refine wpAnyH_take (i := 30) (v := ?_) rfl (by kernel_rfl) (by kernel_rfl) (by kernel_rfl) (fun _ _ _ h => h) (Or.inl ⟨by rfl, ?_⟩) (by with_reducible assumption) ?_
  rotate_left
  · intro wz hSw
    (try dsimp only at hSw)
    go_simp
    (try with_reducible rfl)
  (try simp only [Act.put])
  refine wpAnyH_ready (rs := [31]) (by kernel_rfl) (by simp) ?_
  refine AllReadyH.cons rfl (fun K hK => ?_) AllReadyH.nil
  go_simp
  go_at_call 26
  refine (lives1_walk _).mono ?_
  rintro e zz31 ⟨rfl, hv31⟩
  have hK31 := s2_below HB6.out hK24 hv31
  go_wp2_with fail
  refine hK.out _ _ ?_ (fun hHeld => ?_)
  · exact hK31
  clear hK K
  (try simp only [Act.put, List.setIfInBounds_toArray, List.set_cons_zero, List.set_cons_succ])
  clear hHeld hK24
  refine wpAnyH_take (i := 32) (v := ?_) rfl (by kernel_rfl) (by kernel_rfl) (by kernel_rfl) (fun _ _ _ h => h) (Or.inl ⟨by rfl, ?_⟩) (by with_reducible assumption) ?_
  rotate_left
  · intro wz hSw
    (try dsimp only at hSw)
    go_simp
    (try with_reducible rfl)
  show wpAnyH _ _ _ _ _ _ _ (Act.put _ (some 118) _) _
  (try simp only [Act.put, List.setIfInBounds_toArray, List.set_cons_zero, List.set_cons_succ])
  refine wpAnyH_take (i := 33) (v := ?_) rfl (by kernel_rfl) (by kernel_rfl) (by kernel_rfl) (fun _ _ _ h => h) (Or.inl ⟨by rfl, ?_⟩) (by with_reducible assumption) ?_
  rotate_left
  · intro wz hSw
    (try dsimp only at hSw)
    go_simp
    (try with_reducible rfl)
  show wpAnyH _ _ _ _ _ _ _ (Act.put _ (some 6) _) _
  (try simp only [Act.put, List.setIfInBounds_toArray, List.set_cons_zero, List.set_cons_succ])
  refine wpAnyH_done (by kernel_rfl) ?_ _
  go_wp2
  go_ret
  refine ⟨?_, HL6.out.trans ((un_hldW hK31.1.1).mono HL6.out.size)⟩
  first
    | rfl
    | (simp; done)
    | (simp at *; done)
end Go.Proofs.Ythglnedlbiembaa
