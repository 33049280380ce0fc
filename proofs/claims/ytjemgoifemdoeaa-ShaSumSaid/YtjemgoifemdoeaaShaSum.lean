/- The law ShaSum, walked from its box. -/
import Derived.Test.YtjemgoifemdoeaaRc
import Derived.Test.YtjemgoifemdoeaaRe
import Derived.Test.YtjemgoifemdoeaaHt
namespace Go.Proofs.Ytjemgoifemdoeaa
open Go.RowKit

theorem hx_run64 {v : Nat} (h : v < 16) (w : World) : (Instr.index 9 (.string { data := #[48, 49, 50, 51, 52, 53, 54, 55, 56, 57, 97, 98, 99, 100, 101, 102] }) (.int .i64 (v : Nat))).run Try.prog w = .ok (.int .u8 (hexc v : Nat)) w := by
  rcases (by omega : v = 0 ∨ v = 1 ∨ v = 2 ∨ v = 3 ∨ v = 4 ∨ v = 5 ∨ v = 6 ∨ v = 7 ∨ v = 8 ∨ v = 9 ∨ v = 10 ∨ v = 11 ∨ v = 12 ∨ v = 13 ∨ v = 14 ∨ v = 15) with rfl | rfl | rfl | rfl | rfl | rfl | rfl | rfl | rfl | rfl | rfl | rfl | rfl | rfl | rfl | rfl <;> kernel_rfl
/-- the last of the first k digits that c is -/
def dd (c : Nat) : Nat → Int
  | 0 => -1
  | k + 1 => if hexc k = c then (k : Int) else dd c k
theorem dd_dgI : ∀ c : Fin 256, dd c.val 16 = dgI c.val := by decide +kernel
theorem dd_ge (c : Nat) : ∀ k, -1 ≤ dd c k
  | 0 => by show (-1 : Int) ≤ -1; decide
  | k + 1 => by
    have := dd_ge c k
    simp only [dd]
    split <;> omega
theorem dd_lt (c : Nat) : ∀ k, dd c k < (k : Int)
  | 0 => by show (-1 : Int) < 0; decide
  | k + 1 => by
    have := dd_lt c k
    simp only [dd]
    split <;> omega
set_option maxRecDepth 100000 in
set_option maxHeartbeats 8000000 in
theorem shaSum_walk (A : Option Addr) (n c : Nat) (f : Nat → Nat) (s : ByteArray) (ch : Nat) (w : World) (hl : Sl w A n f) (hz : A = none → n = 0 ∧ c = 0) (hnc : n ≤ c) (hcm : c ≤ 9223372036854775807) (hch : ch < 256) :
    Calls Try.prog 3 #[.slice A n c, .string s, .int .u8 (ch : Nat)] w fun e w' => e = .returned (.bool true) ∧ Below w.heap.size w w' := by
  have HLv := Lib.hid (fun w => lives05_walk w)
  by_cases h0 : 500 < n
  · have p1 : (500 : Int) < n := by omega
    go_enter Try.func3, Try.ntmps3
    go_wp2_with (go_at_call 15; (with_reducible refine (HLv.out _).mono ?_); rintro e w9 ⟨rfl, hb9⟩)
    go_ret
    exact ⟨rfl, hb9⟩
  have p1 : ¬ (500 : Int) < n := by omega
  by_cases h1 : 200 < s.size
  · have p2 : (200 : Int) < s.size := by omega
    go_enter Try.func3, Try.ntmps3
    go_wp2_with (go_at_call 15; (with_reducible refine (HLv.out _).mono ?_); rintro e w9 ⟨rfl, hb9⟩)
    go_ret
    exact ⟨rfl, hb9⟩
  have p2 : ¬ (200 : Int) < s.size := by omega
  have hP : ∃ (cx : Array Value) (bx : Bool), (∀ W, Calls Try.prog 17 #[.string s] W fun e w' => e = .returned (.tuple #[.agg cx, .bool bx]) ∧ Below W.heap.size W w') ∧ (∀ W, Calls Try.prog 18 #[.string s] W fun e w' => e = .returned (.tuple #[.agg cx, .bool bx]) ∧ Below W.heap.size W w') ∧ ∃ g, cx = (bys g 32).toArray := by
    by_cases hok : okP s
    · refine ⟨(bys (prsF s) 32).toArray, true, fun W => (parse_walk s W).mono fun e w' ⟨he, hb⟩ => ?_, fun W => (rparse_walk s W (by omega)).mono fun e w' ⟨he, hb⟩ => ?_, _, rfl⟩ <;>
        (rcases he with ⟨_, he⟩ | ⟨hno, _⟩; exact ⟨he, hb⟩; exact absurd hok hno)
    · refine ⟨(bys (fun _ => 0) 32).toArray, false, fun W => (parse_walk s W).mono fun e w' ⟨he, hb⟩ => ?_, fun W => (rparse_walk s W (by omega)).mono fun e w' ⟨he, hb⟩ => ?_, _, rfl⟩ <;>
        (rcases he with ⟨hy, _⟩ | ⟨_, he⟩; exact absurd hy hok; exact ⟨he, hb⟩)
  obtain ⟨cx, bx, hP1, hP2, gx, ecx⟩ := hP
  have jinf : (Try.prog.info? 25).map (·.size) = some cx.size := by rw [ecx, List.size_toArray, bys_length]; exact h32_info
  have jone : cx.all (·.oneCell') = true := by rw [ecx]; exact bys_all _ _
  have jsz : h32.size = cx.size := by rw [ecx, h32_size, List.size_toArray, bys_length]
  have hsx : ∀ w, (Op.equalIn 10000 25 (.agg cx) (.agg cx)).run Try.prog w = .ok true w := fun w => by rw [ecx, hash_eq]; simp
  have HPs := Lib.hid hP1
  have HPr := Lib.hid hP2
  have HSm := Lib.hid (sum_walk w A n c f hl hnc hcm (by omega))
  have HHx := Lib.hid (fun w => hex_walk (shaF n f) (shaF_lt n f) w)
  have HRx := Lib.hid (fun w => rhex_walk (shaF n f) (shaF_lt n f) w)
  have HDg := Lib.hid (fun w => digit_walk ch hch w)
  have HL := Lib.hid hl
  have HZ := Lib.hid hz
  have hsz : ∀ w, (Op.equalIn 10000 25 (.agg (bys (shaF n f) 32).toArray) (.agg (bys (shaF n f) 32).toArray)).run Try.prog w = .ok true w := fun w => by rw [hash_eq]; simp
  have hinf : (Try.prog.info? 25).map (·.size) = some (bys (shaF n f) 32).toArray.size := by rw [List.size_toArray, bys_length]; exact h32_info
  have hone : (bys (shaF n f) 32).toArray.all (·.oneCell') = true := bys_all _ _
  have hszz : h32.size = (bys (shaF n f) 32).toArray.size := by rw [h32_size, List.size_toArray, bys_length]
  have HRs := Lib.hid (fun (Z : World) W (hb : Below Z.heap.size Z W) (hb0 : Below w.heap.size w Z) => rsum_walk W A n c f (hl.below (hb0.trans (hb.mono hb0.size))) hz (by omega))
  obtain ⟨tx, etx⟩ : ∃ tx, tx = txt (hexF (shaF n f)) 64 := ⟨_, rfl⟩
  rw [← etx] at HHx HRx
  obtain ⟨cz, ecz⟩ : ∃ cz, cz = (bys (shaF n f) 32).toArray := ⟨_, rfl⟩
  rw [← ecz] at HSm HHx HRx HRs hsz hinf hone hszz
  have HI := Lib.hid hinf
  have HO := Lib.hid hone
  have HS := Lib.hid hszz
  have JI := Lib.hid jinf
  have JO := Lib.hid jone
  have JS := Lib.hid jsz
  obtain ⟨dg, edg⟩ : ∃ dg, dg = dgI ch := ⟨_, rfl⟩
  rw [← edg] at HDg
  have HDD := Lib.hid (show dd ch 16 = dg by rw [edg]; exact dd_dgI ⟨ch, hch⟩)
  clear hP1 hP2 ecx jinf jone jsz hinf hone hszz hl hz etx ecz edg h0 h1
  go_enter Try.func3, Try.ntmps3
  go_wp2_with fail
  refine HSm.out.mono ?_
  rintro e w3 ⟨rfl, hb⟩
  have HB3 := Lib.hid hb
  clear hb
  go_upto_region 4 with ((with_reducible refine wpList_store_row rfl 25 (.tmp 7) (.tmp 24) rfl w3.heap.size cz ?_ ?_ 25 h32 ?_ ?_ ?_ ?_ ?_); (· rfl); (· rfl); (· exact heap_alloc_new _ _); (· exact HI.out); (· exact HS.out); (· exact HO.out))
  show Code.wp _ _ _ _ ((w3.alloc (.cells h32 25)).setRow w3.heap.size cz)
  obtain ⟨w4, e4⟩ : ∃ w4, w4 = (w3.alloc (.cells h32 25)).setRow w3.heap.size cz := ⟨_, rfl⟩
  rw [← e4]
  have h34 : Below w3.heap.size w3 w4 := by rw [e4]; exact below_setRow ((Below.refl _ _).alloc (Nat.le_refl _) _) (Nat.le_refl _) _
  have HB4 := Lib.hid (HB3.out.trans (h34.mono HB3.out.size))
  have X4 := Lib.hid (show w4.heap[w3.heap.size]? = some (.cells cz 25 (0, 0)) by rw [e4]; exact setRow_heap _ _ h32 _ _ _ (heap_alloc_new _ _))
  clear e4 h34
  go_wp2_with fail
  refine (HPs.out _).mono ?_
  rintro e w5 ⟨rfl, hb⟩
  have HB5 := Lib.hid (HB4.out.trans (hb.mono HB4.out.size))
  have X5 := Lib.hid ((hb.block _ (row_lt X4.out)).trans X4.out)
  clear hb
  go_upto_region 5 with ((with_reducible refine wpList_store_row rfl 25 (.tmp 8) (.tmp 28) rfl w5.heap.size cx ?_ ?_ 25 h32 ?_ ?_ ?_ ?_ ?_); (· rfl); (· rfl); (· exact heap_alloc_new _ _); (· exact JI.out); (· exact JS.out); (· exact JO.out))
  show Code.wp _ _ _ _ ((w5.alloc (.cells h32 25)).setRow w5.heap.size cx)
  obtain ⟨w6, e6⟩ : ∃ w6, w6 = (w5.alloc (.cells h32 25)).setRow w5.heap.size cx := ⟨_, rfl⟩
  rw [← e6]
  have h56 : Below w5.heap.size w5 w6 := by rw [e6]; exact below_setRow ((Below.refl _ _).alloc (Nat.le_refl _) _) (Nat.le_refl _) _
  have HB6 := Lib.hid (HB5.out.trans (h56.mono HB5.out.size))
  have X6 := Lib.hid ((h56.block _ (row_lt X5.out)).trans X5.out)
  have Y6 := Lib.hid (show w6.heap[w5.heap.size]? = some (.cells cx 25 (0, 0)) by rw [e6]; exact setRow_heap _ _ h32 _ _ _ (heap_alloc_new _ _))
  clear e6 h56
  go_wp2_with fail
  refine (HPr.out _).mono ?_
  rintro e w7 ⟨rfl, hb⟩
  have HB7 := Lib.hid (HB6.out.trans (hb.mono HB6.out.size))
  have X7 := Lib.hid ((hb.block _ (row_lt X6.out)).trans X6.out)
  have Y7 := Lib.hid ((hb.block _ (row_lt Y6.out)).trans Y6.out)
  clear hb
  go_upto_region 6 with ((with_reducible refine wpList_store_row rfl 25 (.tmp 10) (.tmp 33) rfl w7.heap.size cx ?_ ?_ 25 h32 ?_ ?_ ?_ ?_ ?_); (· rfl); (· rfl); (· exact heap_alloc_new _ _); (· exact JI.out); (· exact JS.out); (· exact JO.out))
  show Code.wp _ _ _ _ ((w7.alloc (.cells h32 25)).setRow w7.heap.size cx)
  obtain ⟨w9, e9⟩ : ∃ w9, w9 = (w7.alloc (.cells h32 25)).setRow w7.heap.size cx := ⟨_, rfl⟩
  rw [← e9]
  have h79 : Below w7.heap.size w7 w9 := by rw [e9]; exact below_setRow ((Below.refl _ _).alloc (Nat.le_refl _) _) (Nat.le_refl _) _
  have HB9 := Lib.hid (HB7.out.trans (h79.mono HB7.out.size))
  have X9 := Lib.hid ((h79.block _ (row_lt X7.out)).trans X7.out)
  have Y9 := Lib.hid ((h79.block _ (row_lt Y7.out)).trans Y7.out)
  have Z9 := Lib.hid (show w9.heap[w7.heap.size]? = some (.cells cx 25 (0, 0)) by rw [e9]; exact setRow_heap _ _ h32 _ _ _ (heap_alloc_new _ _))
  have HRs := Lib.hid (fun W (hb : Below w9.heap.size w9 W) => HRs.out w9 W hb HB9.out)
  clear e9 h79
  go_wp2
  go_loopw [12, 13] (fun d i wr => ∃ k : Nat, k ≤ 16 ∧ i = .int .i64 (k : Nat) ∧ d = .int .i64 (dd ch k) ∧ w9 = wr) (fun _ i _ => 16 - (intOf i).toNat)
  case atStart => exact ⟨0, by omega, rfl, rfl, rfl⟩
  case round =>
    obtain ⟨k, hk, rfl, rfl, rfl⟩ := hrel
    by_cases hlt : k < 16
    · have p3 : (k : Int) < 16 := by omega
      have r1 := hx_run64 hlt
      have d1 := dd_ge ch k
      have d2 := dd_lt ch k
      have HD := Lib.hid (show dd ch (k + 1) = if hexc k = ch then (k : Int) else dd ch k from rfl)
      obtain ⟨x, ex⟩ : ∃ x, x = hexc k := ⟨_, rfl⟩
      obtain ⟨y, ey⟩ : ∃ y, y = dd ch k := ⟨_, rfl⟩
      rw [← ex] at r1
      rw [← ex, ← ey] at HD
      rw [← ey] at d1 d2 ⊢
      clear ex ey
      by_cases hx : x = ch
      · have q1 : ((x : Int) == (ch : Int)) = true := by rw [hx]; exact beq_self_eq_true _
        have HD2 := Lib.hid (show dd ch (k + 1) = (k : Int) by rw [HD.out, if_pos hx])
        clear hx HD
        go_wp2
        exact ⟨⟨k + 1, by omega, by simp, by rw [HD2.out], by trivial⟩, by simp [intOf]; omega⟩
      · have q1 : ((x : Int) == (ch : Int)) = false := by rw [beq_eq_false_iff_ne]; omega
        have HD2 := Lib.hid (show dd ch (k + 1) = y by rw [HD.out, if_neg hx])
        clear hx HD
        go_wp2
        exact ⟨⟨k + 1, by omega, by simp, by rw [HD2.out], by trivial⟩, by simp [intOf]; omega⟩
    · obtain rfl : k = 16 := by omega
      have p3 : ¬ ((16 : Nat) : Int) < 16 := by omega
      rw [HDD.out]
      go_upto_region 12 with fail
      refine wp_region_held_drew (S := fun w' => Below w9.heap.size w9 w') (by kernel_rfl) ?_ (fun hHeld => ?_)
      · exact (Below.refl _ _).drew
      have HZ0 := Lib.hid (show Below w9.heap.size w9 w9.drew from (Below.refl _ _).drew)
      refine wpAnyH_take (i := 0) (v := .agg cz) rfl (by kernel_rfl) (by kernel_rfl) (by kernel_rfl) (fun _ _ _ h => h) (Or.inl ⟨by kernel_rfl, ?_⟩) (by with_reducible assumption) ?_
      · intro wz hSw
        (try dsimp only at hSw)
        exact exec_load_row 25 (.tmp 7) rfl w3.heap.size rfl 25 cz (0, 0) _ ((hSw.block _ (row_lt X9.out)).trans X9.out) Try.underlying25 rfl HI.out
      show wpAnyH _ _ _ _ _ _ _ (Act.put _ (some 44) _) _
      (try simp only [Act.put, List.setIfInBounds_toArray, List.set_cons_zero, List.set_cons_succ])
      refine wpAnyH_take (i := 1) (v := ?_) rfl (by kernel_rfl) (by kernel_rfl) (by kernel_rfl) (fun _ _ _ h => h) (Or.inl ⟨by kernel_rfl, ?_⟩) (by with_reducible assumption) ?_
      rotate_left
      · intro wz hSw
        (try dsimp only at hSw)
        go_simp
        (try with_reducible rfl)
      show wpAnyH _ _ _ _ _ _ _ (Act.put _ (some 45) _) _
      (try simp only [Act.put, List.setIfInBounds_toArray, List.set_cons_zero, List.set_cons_succ])
      refine wpAnyH_ready (rs := [2]) (by kernel_rfl) (by simp) ?_
      refine AllReadyH.cons rfl (fun K hK => ?_) AllReadyH.nil
      clear hHeld
      go_simp
      go_at_call 19
      refine (HRs.out _ HZ0.out).mono ?_
      rintro e z2 ⟨rfl, hb⟩
      have HZ2 := Lib.hid (HZ0.out.trans (hb.mono HZ0.out.size))
      clear hb
      go_wp2_with fail
      refine hK.out _ _ ?_ (fun hHeld => ?_)
      · exact HZ2.out
      clear hK K
      (try simp only [Act.put, List.setIfInBounds_toArray, List.set_cons_zero, List.set_cons_succ])
      refine wpAnyH_take (i := 3) (v := ?_) rfl (by kernel_rfl) (by kernel_rfl) (by kernel_rfl) (fun _ _ _ h => h) (Or.inl ⟨by kernel_rfl, ?_⟩) (by with_reducible assumption) ?_
      rotate_left
      · intro wz hSw
        (try dsimp only at hSw)
        go_simp
        (try with_reducible rfl)
      show wpAnyH _ _ _ _ _ _ _ (Act.put _ (some 47) _) _
      (try simp only [Act.put, List.setIfInBounds_toArray, List.set_cons_zero, List.set_cons_succ])
      refine wpAnyH_take (i := 4) (v := ?_) rfl (by kernel_rfl) (by kernel_rfl) (by kernel_rfl) (fun _ _ _ h => h) (Or.inl ⟨by kernel_rfl, ?_⟩) (by with_reducible assumption) ?_
      rotate_left
      · intro wz hSw
        (try dsimp only at hSw)
        go_simp
        (try with_reducible rfl)
      show wpAnyH _ _ _ _ _ _ _ (Act.put _ (some 48) _) _
      (try simp only [Act.put, List.setIfInBounds_toArray, List.set_cons_zero, List.set_cons_succ])
      refine wpAnyH_take (i := 5) (v := .agg cx) rfl (by kernel_rfl) (by kernel_rfl) (by kernel_rfl) (fun _ _ _ h => h) (Or.inl ⟨by kernel_rfl, ?_⟩) (by with_reducible assumption) ?_
      · intro wz hSw
        (try dsimp only at hSw)
        exact exec_load_row 25 (.tmp 8) rfl w5.heap.size rfl 25 cx (0, 0) _ ((hSw.block _ (row_lt Y9.out)).trans Y9.out) Try.underlying25 rfl JI.out
      show wpAnyH _ _ _ _ _ _ _ (Act.put _ (some 49) _) _
      (try simp only [Act.put, List.setIfInBounds_toArray, List.set_cons_zero, List.set_cons_succ])
      refine wpAnyH_take (i := 6) (v := .agg cx) rfl (by kernel_rfl) (by kernel_rfl) (by kernel_rfl) (fun _ _ _ h => h) (Or.inl ⟨by kernel_rfl, ?_⟩) (by with_reducible assumption) ?_
      · intro wz hSw
        (try dsimp only at hSw)
        exact exec_load_row 25 (.tmp 10) rfl w7.heap.size rfl 25 cx (0, 0) _ ((hSw.block _ (row_lt Z9.out)).trans Z9.out) Try.underlying25 rfl JI.out
      show wpAnyH _ _ _ _ _ _ _ (Act.put _ (some 50) _) _
      (try simp only [Act.put, List.setIfInBounds_toArray, List.set_cons_zero, List.set_cons_succ])
      refine wpAnyH_take (i := 7) (v := ?_) rfl (by kernel_rfl) (by kernel_rfl) (by kernel_rfl) (fun _ _ _ h => h) (Or.inl ⟨by kernel_rfl, ?_⟩) (by with_reducible assumption) ?_
      rotate_left
      · intro wz hSw
        (try dsimp only at hSw)
        go_simp
        (try with_reducible rfl)
      show wpAnyH _ _ _ _ _ _ _ (Act.put _ (some 51) _) _
      (try simp only [Act.put, List.setIfInBounds_toArray, List.set_cons_zero, List.set_cons_succ])
      refine wpAnyH_take (i := 8) (v := ?_) rfl (by kernel_rfl) (by kernel_rfl) (by kernel_rfl) (fun _ _ _ h => h) (Or.inl ⟨by kernel_rfl, ?_⟩) (by with_reducible assumption) ?_
      rotate_left
      · intro wz hSw
        (try dsimp only at hSw)
        go_simp
        (try with_reducible rfl)
      show wpAnyH _ _ _ _ _ _ _ (Act.put _ (some 52) _) _
      (try simp only [Act.put, List.setIfInBounds_toArray, List.set_cons_zero, List.set_cons_succ])
      refine wpAnyH_take (i := 9) (v := ?_) rfl (by kernel_rfl) (by kernel_rfl) (by kernel_rfl) (fun _ _ _ h => h) (Or.inl ⟨by kernel_rfl, ?_⟩) (by with_reducible assumption) ?_
      rotate_left
      · intro wz hSw
        (try dsimp only at hSw)
        go_simp
        (try with_reducible rfl)
      show wpAnyH _ _ _ _ _ _ _ (Act.put _ (some 53) _) _
      (try simp only [Act.put, List.setIfInBounds_toArray, List.set_cons_zero, List.set_cons_succ])
      refine wpAnyH_take (i := 10) (v := ?_) rfl (by kernel_rfl) (by kernel_rfl) (by kernel_rfl) (fun _ _ _ h => h) (Or.inl ⟨by kernel_rfl, ?_⟩) (by with_reducible assumption) ?_
      rotate_left
      · intro wz hSw
        (try dsimp only at hSw)
        go_simp
        (try with_reducible rfl)
      show wpAnyH _ _ _ _ _ _ _ (Act.put _ (some 54) _) _
      (try simp only [Act.put, List.setIfInBounds_toArray, List.set_cons_zero, List.set_cons_succ])
      refine wpAnyH_take (i := 11) (v := ?_) rfl (by kernel_rfl) (by kernel_rfl) (by kernel_rfl) (fun _ _ _ h => h) (Or.inl ⟨by kernel_rfl, ?_⟩) (by with_reducible assumption) ?_
      rotate_left
      · intro wz hSw
        (try dsimp only at hSw)
        go_simp
        (try with_reducible rfl)
      show wpAnyH _ _ _ _ _ _ _ (Act.put _ (some 55) _) _
      (try simp only [Act.put, List.setIfInBounds_toArray, List.set_cons_zero, List.set_cons_succ])
      refine wpAnyH_take (i := 12) (v := ?_) rfl (by kernel_rfl) (by kernel_rfl) (by kernel_rfl) (fun _ _ _ h => h) (Or.inl ⟨by kernel_rfl, ?_⟩) (by with_reducible assumption) ?_
      rotate_left
      · intro wz hSw
        (try dsimp only at hSw)
        go_simp
        (try with_reducible rfl)
      show wpAnyH _ _ _ _ _ _ _ (Act.put _ (some 56) _) _
      (try simp only [Act.put, List.setIfInBounds_toArray, List.set_cons_zero, List.set_cons_succ])
      refine wpAnyH_take (i := 13) (v := ?_) rfl (by kernel_rfl) (by kernel_rfl) (by kernel_rfl) (fun _ _ _ h => h) (Or.inl ⟨by kernel_rfl, ?_⟩) (by with_reducible assumption) ?_
      rotate_left
      · intro wz hSw
        (try dsimp only at hSw)
        go_simp
        (try with_reducible rfl)
      show wpAnyH _ _ _ _ _ _ _ (Act.put _ (some 57) _) _
      (try simp only [Act.put, List.setIfInBounds_toArray, List.set_cons_zero, List.set_cons_succ])
      refine wpAnyH_take (i := 14) (v := ?_) rfl (by kernel_rfl) (by kernel_rfl) (by kernel_rfl) (fun _ _ _ h => h) (Or.inl ⟨by kernel_rfl, ?_⟩) (by with_reducible assumption) ?_
      rotate_left
      · intro wz hSw
        (try dsimp only at hSw)
        go_simp
        (try with_reducible rfl)
      show wpAnyH _ _ _ _ _ _ _ (Act.put _ (some 58) _) _
      (try simp only [Act.put, List.setIfInBounds_toArray, List.set_cons_zero, List.set_cons_succ])
      refine wpAnyH_take (i := 15) (v := .agg cz) rfl (by kernel_rfl) (by kernel_rfl) (by kernel_rfl) (fun _ _ _ h => h) (Or.inl ⟨by kernel_rfl, ?_⟩) (by with_reducible assumption) ?_
      · intro wz hSw
        (try dsimp only at hSw)
        exact exec_load_row 25 (.tmp 7) rfl w3.heap.size rfl 25 cz (0, 0) _ ((hSw.block _ (row_lt X9.out)).trans X9.out) Try.underlying25 rfl HI.out
      show wpAnyH _ _ _ _ _ _ _ (Act.put _ (some 59) _) _
      (try simp only [Act.put, List.setIfInBounds_toArray, List.set_cons_zero, List.set_cons_succ])
      refine wpAnyH_take (i := 17) (v := .agg cz) rfl (by kernel_rfl) (by kernel_rfl) (by kernel_rfl) (fun _ _ _ h => h) (Or.inl ⟨by kernel_rfl, ?_⟩) (by with_reducible assumption) ?_
      · intro wz hSw
        (try dsimp only at hSw)
        exact exec_load_row 25 (.tmp 7) rfl w3.heap.size rfl 25 cz (0, 0) _ ((hSw.block _ (row_lt X9.out)).trans X9.out) Try.underlying25 rfl HI.out
      show wpAnyH _ _ _ _ _ _ _ (Act.put _ (some 61) _) _
      (try simp only [Act.put, List.setIfInBounds_toArray, List.set_cons_zero, List.set_cons_succ])
      refine wpAnyH_ready (rs := [16]) (by kernel_rfl) (by simp) ?_
      refine AllReadyH.cons rfl (fun K hK => ?_) AllReadyH.nil
      clear hHeld
      go_simp
      go_at_call 20
      refine (HHx.out _).mono ?_
      rintro e z16 ⟨rfl, hb⟩
      have HZ16 := Lib.hid (HZ2.out.trans (hb.mono HZ2.out.size))
      clear hb
      go_wp2_with fail
      refine hK.out _ _ ?_ (fun hHeld => ?_)
      · exact HZ16.out
      clear hK K
      (try simp only [Act.put, List.setIfInBounds_toArray, List.set_cons_zero, List.set_cons_succ])
      refine wpAnyH_ready (rs := [18]) (by kernel_rfl) (by simp) ?_
      refine AllReadyH.cons rfl (fun K hK => ?_) AllReadyH.nil
      clear hHeld
      go_simp
      go_at_call 21
      refine (HRx.out _).mono ?_
      rintro e z18 ⟨rfl, hb⟩
      have HZ18 := Lib.hid (HZ16.out.trans (hb.mono HZ16.out.size))
      clear hb
      go_wp2_with fail
      refine hK.out _ _ ?_ (fun hHeld => ?_)
      · exact HZ18.out
      clear hK K
      (try simp only [Act.put, List.setIfInBounds_toArray, List.set_cons_zero, List.set_cons_succ])
      refine wpAnyH_take (i := 19) (v := ?_) rfl (by kernel_rfl) (by kernel_rfl) (by kernel_rfl) (fun _ _ _ h => h) (Or.inl ⟨by kernel_rfl, ?_⟩) (by with_reducible assumption) ?_
      rotate_left
      · intro wz hSw
        (try dsimp only at hSw)
        go_simp
        (try with_reducible rfl)
      show wpAnyH _ _ _ _ _ _ _ (Act.put _ (some 63) _) _
      (try simp only [Act.put, List.setIfInBounds_toArray, List.set_cons_zero, List.set_cons_succ])
      refine wpAnyH_take (i := 20) (v := ?_) rfl (by kernel_rfl) (by kernel_rfl) (by kernel_rfl) (fun _ _ _ h => h) (Or.inl ⟨by kernel_rfl, ?_⟩) (by with_reducible assumption) ?_
      rotate_left
      · intro wz hSw
        (try dsimp only at hSw)
        go_simp
        (try with_reducible rfl)
      show wpAnyH _ _ _ _ _ _ _ (Act.put _ (some 64) _) _
      (try simp only [Act.put, List.setIfInBounds_toArray, List.set_cons_zero, List.set_cons_succ])
      refine wpAnyH_take (i := 21) (v := ?_) rfl (by kernel_rfl) (by kernel_rfl) (by kernel_rfl) (fun _ _ _ h => h) (Or.inl ⟨by kernel_rfl, ?_⟩) (by with_reducible assumption) ?_
      rotate_left
      · intro wz hSw
        (try dsimp only at hSw)
        go_simp
        (try with_reducible rfl)
      show wpAnyH _ _ _ _ _ _ _ (Act.put _ (some 65) _) _
      (try simp only [Act.put, List.setIfInBounds_toArray, List.set_cons_zero, List.set_cons_succ])
      refine wpAnyH_take (i := 22) (v := ?_) rfl (by kernel_rfl) (by kernel_rfl) (by kernel_rfl) (fun _ _ _ h => h) (Or.inl ⟨by kernel_rfl, ?_⟩) (by with_reducible assumption) ?_
      rotate_left
      · intro wz hSw
        (try dsimp only at hSw)
        go_simp
        (try with_reducible rfl)
      show wpAnyH _ _ _ _ _ _ _ (Act.put _ (some 66) _) _
      (try simp only [Act.put, List.setIfInBounds_toArray, List.set_cons_zero, List.set_cons_succ])
      refine wpAnyH_take (i := 24) (v := ?_) rfl (by kernel_rfl) (by kernel_rfl) (by kernel_rfl) (fun _ _ _ h => h) (Or.inl ⟨by kernel_rfl, ?_⟩) (by with_reducible assumption) ?_
      rotate_left
      · intro wz hSw
        (try dsimp only at hSw)
        go_simp
        (try with_reducible rfl)
      show wpAnyH _ _ _ _ _ _ _ (Act.put _ (some 68) _) _
      (try simp only [Act.put, List.setIfInBounds_toArray, List.set_cons_zero, List.set_cons_succ])
      refine wpAnyH_ready (rs := [23]) (by kernel_rfl) (by simp) ?_
      refine AllReadyH.cons rfl (fun K hK => ?_) AllReadyH.nil
      clear hHeld
      go_simp
      go_at_call 22
      refine (HDg.out _).mono ?_
      rintro e _ ⟨rfl, rfl⟩
      go_wp2_with fail
      refine hK.out _ _ ?_ (fun hHeld => ?_)
      · exact HZ18.out
      clear hK K
      (try simp only [Act.put, List.setIfInBounds_toArray, List.set_cons_zero, List.set_cons_succ])
      refine wpAnyH_take (i := 25) (v := ?_) rfl (by kernel_rfl) (by kernel_rfl) (by kernel_rfl) (fun _ _ _ h => h) (Or.inl ⟨by kernel_rfl, ?_⟩) (by with_reducible assumption) ?_
      rotate_left
      · intro wz hSw
        (try dsimp only at hSw)
        go_simp
        (try with_reducible rfl)
      show wpAnyH _ _ _ _ _ _ _ (Act.put _ (some 69) _) _
      (try simp only [Act.put, List.setIfInBounds_toArray, List.set_cons_zero, List.set_cons_succ])
      refine wpAnyH_take (i := 26) (v := ?_) rfl (by kernel_rfl) (by kernel_rfl) (by kernel_rfl) (fun _ _ _ h => h) (Or.inl ⟨by kernel_rfl, ?_⟩) (by with_reducible assumption) ?_
      rotate_left
      · intro wz hSw
        (try dsimp only at hSw)
        go_simp
        (try with_reducible rfl)
      show wpAnyH _ _ _ _ _ _ _ (Act.put _ (some 70) _) _
      (try simp only [Act.put, List.setIfInBounds_toArray, List.set_cons_zero, List.set_cons_succ])
      refine wpAnyH_take (i := 27) (v := ?_) rfl (by kernel_rfl) (by kernel_rfl) (by kernel_rfl) (fun _ _ _ h => h) (Or.inl ⟨by kernel_rfl, ?_⟩) (by with_reducible assumption) ?_
      rotate_left
      · intro wz hSw
        (try dsimp only at hSw)
        go_simp
        (try with_reducible rfl)
      show wpAnyH _ _ _ _ _ _ _ (Act.put _ (some 71) _) _
      (try simp only [Act.put, List.setIfInBounds_toArray, List.set_cons_zero, List.set_cons_succ])
      refine wpAnyH_ready (rs := [28]) (by kernel_rfl) (by simp) ?_
      refine AllReadyH.cons rfl (fun K hK => ?_) AllReadyH.nil
      clear hHeld
      go_simp
      go_at_call 15
      refine (HLv.out _).mono ?_
      rintro e z28 ⟨rfl, hb⟩
      have HZ28 := Lib.hid (HZ18.out.trans (hb.mono HZ18.out.size))
      clear hb
      go_wp2_with fail
      refine hK.out _ _ ?_ (fun hHeld => ?_)
      · exact HZ28.out
      clear hK K
      (try simp only [Act.put, List.setIfInBounds_toArray, List.set_cons_zero, List.set_cons_succ])
      refine wpAnyH_take (i := 29) (v := ?_) rfl (by kernel_rfl) (by kernel_rfl) (by kernel_rfl) (fun _ _ _ h => h) (Or.inl ⟨by kernel_rfl, ?_⟩) (by with_reducible assumption) ?_
      rotate_left
      · intro wz hSw
        (try dsimp only at hSw)
        go_simp
        (try with_reducible rfl)
      show wpAnyH _ _ _ _ _ _ _ (Act.put _ (some 73) _) _
      (try simp only [Act.put, List.setIfInBounds_toArray, List.set_cons_zero, List.set_cons_succ])
      refine wpAnyH_take (i := 30) (v := ?_) rfl (by kernel_rfl) (by kernel_rfl) (by kernel_rfl) (fun _ _ _ h => h) (Or.inl ⟨by kernel_rfl, ?_⟩) (by with_reducible assumption) ?_
      rotate_left
      · intro wz hSw
        (try dsimp only at hSw)
        go_simp
        (try with_reducible rfl)
      show wpAnyH _ _ _ _ _ _ _ (Act.put _ (some 6) _) _
      (try simp only [Act.put, List.setIfInBounds_toArray, List.set_cons_zero, List.set_cons_succ])
      refine wpAnyH_done (by kernel_rfl) ?_ _
      go_wp2
      go_ret
      exact ⟨rfl, HB9.out.trans (HZ28.out.mono HB9.out.size)⟩
end Go.Proofs.Ytjemgoifemdoeaa
