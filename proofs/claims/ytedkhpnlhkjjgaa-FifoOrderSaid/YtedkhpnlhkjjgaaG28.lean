/- bank.each with the closure that adds up, walked; Total on a dead store and on a live one. -/
import Derived.Test.YtedkhpnlhkjjgaaG27
import Derived.Test.YtedkhpnlhkjjgaaG21
import Derived.Test.YtedkhpnlhkjjgaaG22
namespace Go.Proofs.Ytedkhpnlhkjjgaa
open Go.RowKit Go.Maps Go.Sort

def amS (l : SL) : Nat := (l.map fun p => fbv p.2).sum
theorem amS_snoc (l : SL) (p : ByteArray × ByteArray) : amS (l ++ [p]) = amS l + fbv p.2 := by simp [amS]
def amT (R : Nat → SL) : Nat → Nat
  | 0 => 0
  | i + 1 => amT R i + amS (R i)
theorem amT_le (R : Nat → SL) {i m : Nat} (h : i ≤ m) : amT R i ≤ amT R m := by
  induction h with
  | refl => exact Nat.le_refl _
  | step _ ih => exact Nat.le_trans ih (Nat.le_add_right _ _)
theorem amS_take (l : SL) (j : Nat) (h : j < l.length) : amS (l.take (j + 1)) = amS (l.take j) + fbv l[j].2 := by
  rw [List.take_succ_eq_append_getElem h, amS_snoc]
theorem amS_take_le (l : SL) (j : Nat) : amS (l.take j) ≤ amS l := by
  have h := congrArg amS (List.take_append_drop j l)
  unfold amS at h ⊢
  rw [List.map_append, List.sum_append] at h
  omega
theorem pcs_at : ∀ (l : SL) (j : Nat) (h : j < l.length), (pcs l)[j * 2]? = some (.string l[j].1) ∧ (pcs l)[j * 2 + 1]? = some (.string l[j].2)
  | [], j, h => absurd h (Nat.not_lt_zero _)
  | p :: r, 0, _ => ⟨rfl, rfl⟩
  | p :: r, j + 1, h => by
    have ih := pcs_at r j (by simpa using h)
    have e : pcs (p :: r) = .string p.1 :: .string p.2 :: pcs r := rfl
    rw [e]
    refine ⟨?_, ?_⟩
    · rw [show (j + 1) * 2 = j * 2 + 1 + 1 by omega, List.getElem?_cons_succ, List.getElem?_cons_succ]
      simpa using ih.1
    · rw [show (j + 1) * 2 + 1 = j * 2 + 1 + 1 + 1 by omega, List.getElem?_cons_succ, List.getElem?_cons_succ]
      simpa using ih.2
/-- a row of pairs that was made: how it is read -/
theorem row_pairs {w : World} {B : Nat} {v : Value} {l : SL} (h : w.ownsRow B 184 2 v l.length (pcs l)) :
    ∃ A c, v = .slice A l.length c ∧ (0 < l.length → ∃ g, A = some ⟨g, 0, none⟩ ∧ B ≤ g ∧ g < w.heap.size ∧ ∀ j (h : j < l.length), w.cell? ⟨g, j * 2, none⟩ = some (.string l[j].1) ∧ w.cell? ⟨g, j * 2 + 1, none⟩ = some (.string l[j].2)) := by
  rcases h.2 with ⟨rfl, h0⟩ | ⟨g, cap, cur, rfl, hb, hg, r⟩
  · exact ⟨none, 0, by rw [h0], fun hp => by omega⟩
  · exact ⟨_, cap, rfl, fun _ => ⟨g, rfl, hb, hp_lt hg, fun j hj => ⟨ownsRow_cell h rfl (pcs_at l j hj).1, ownsRow_cell h rfl (pcs_at l j hj).2⟩⟩⟩
theorem cell_touch {F : List Nat} {w w' : World} {g o : Nat} {u : Value} (h : Touch F w w') (hg : g ∉ F) (hc : w.cell? ⟨g, o, none⟩ = some u) : w'.cell? ⟨g, o, none⟩ = some u := by
  have hl := World.block_lt_of_cell? _ _ hc
  rw [← hc]
  simp only [World.cell?, h.block g hl hg]
set_option maxRecDepth 100000 in
set_option maxHeartbeats 4000000 in
theorem each_walk (P : Option Addr) (bb m : Nat) (bs : Nat → ByteArray) (R : Nat → SL) (g6 g7 : Nat) (W : World) (hm : m ≤ 8) (hR : ∀ i, i < m → (R i).length ≤ 128)
    (hb : ∀ i, i < m → W.cell? ⟨bb, i, none⟩ = some (.string (bs i))) (hb6 : bb ≠ g6) (hb7 : bb ≠ g7) (hT : Tot W g6 g7 0) (hne : g6 ≠ g7) (hsum : amT R m < 2 ^ 256)
    (HU : ∀ i W', i < m → Touch [g6, g7] W W' → Calls Try.prog 124 #[.pointer P, .string (bs i)] W' fun e w' => (∃ v, e = .returned v ∧ w'.ownsRow W'.heap.size 184 2 v (R i).length (pcs (R i))) ∧ Below W'.heap.size W' w') :
    Calls Try.prog 95 #[.pointer P, .func (.func 96) #[] #[.pointer (some ⟨g7, 0, none⟩), .pointer (some ⟨g6, 0, none⟩)], .slice (some ⟨bb, 0, none⟩) m m] W fun e w' => e = .returned (.tuple #[]) ∧ Tot w' g6 g7 (amT R m) ∧ Touch [g6, g7] W w' := by
  have HUs := Lib.hid HU
  have HBs := Lib.hid hb
  have HSum := Lib.hid hsum
  have HRl := Lib.hid hR
  have HNE := Lib.hid hne
  have HBB := Lib.hid (show bb ∉ [g6, g7] by simp [hb6, hb7])
  have l6 := hp_lt hT.s
  have l7 := hp_lt hT.f
  have HT0 := Lib.hid hT
  have hM : (m : Int) ≤ 8 := by omega
  clear HU hb hsum hR hne hb6 hb7 hT
  go_enter Try.func95, Try.ntmps95
  go_wp2
  go_loopw [14] (fun x wr => ∃ i : Nat, i ≤ m ∧ x = .int .i64 (i : Nat) ∧ Tot wr g6 g7 (amT R i) ∧ Touch [g6, g7] W wr) (fun x _ => m - (intOf x).toNat)
  case atStart => exact ⟨0, Nat.zero_le _, rfl, HT0.out, Touch.refl _ _⟩
  case round =>
    obtain ⟨i, hi, rfl, htot, htch⟩ := hrel
    by_cases hlt : i < m
    · have p1 : (i : Int) < (m : Int) := by omega
      have cb := cell_touch htch HBB.out (HBs.out i hlt)
      have HU1 := Lib.hid (HUs.out i wr hlt htch)
      have HT1 := Lib.hid htot
      have HC1 := Lib.hid htch
      have hz := htch.size
      have HLT := Lib.hid hlt
      obtain ⟨bsi, ebs⟩ : ∃ x, x = bs i := ⟨_, rfl⟩
      rw [← ebs] at cb HU1
      have hrl := HRl.out i hlt
      have hsi : amT R i + amS (R i) < 2 ^ 256 := Nat.lt_of_le_of_lt (amT_le R (i := i + 1) (by omega)) HSum.out
      obtain ⟨l, el⟩ : ∃ l, l = R i := ⟨_, rfl⟩
      have EL := Lib.hid el
      rw [← el] at HU1 hrl hsi
      have HSI := Lib.hid hsi
      obtain ⟨n, en⟩ : ∃ n, n = l.length := ⟨_, rfl⟩
      have EN := Lib.hid en
      rw [← en] at hrl
      have hn8 : (n : Int) ≤ 128 := by omega
      clear htot htch hlt ebs el hsi en hi hrl
      go_upto_region 4 with (go_at_call 124; refine HU1.out.mono ?_; rintro e w2 ⟨⟨v, rfl, hv⟩, hb2⟩; obtain ⟨A, c, rfl, hcs⟩ := row_pairs hv; rw [← EN.out]; have HV := Lib.hid hcs; have H2 := Lib.hid hb2; clear hv hb2 hcs)
      go_loopw [22] (fun x wr2 => ∃ j : Nat, j ≤ n ∧ x = .int .i64 (j : Nat) ∧ Tot wr2 g6 g7 (amT R i + amS (l.take j)) ∧ Touch [g6, g7] w2 wr2) (fun x _ => n - (intOf x).toNat)
      case atStart => exact ⟨0, Nat.zero_le _, rfl, HT1.out.below H2.out, Touch.refl _ _⟩
      case round =>
        obtain ⟨j, hj, rfl, htot, htch⟩ := hrel
        by_cases hjn : j < n
        · have p2 : (j : Int) < (n : Int) := by omega
          have hjl : j < l.length := by have := EN.out; omega
          obtain ⟨g, rfl, hg1, hg2, hgc⟩ := HV.out (by omega)
          have hgn : g ∉ [g6, g7] := by simp; omega
          have ck := cell_touch htch hgn (hgc j hjl).1
          have cv := cell_touch htch hgn (hgc j hjl).2
          have hS : amT R i + amS (l.take j) + fbv l[j].2 < 2 ^ 256 := by
            have h1 := amS_take_le l (j + 1)
            rw [amS_take l j hjl] at h1
            have := HSI.out
            omega
          have hnx : amT R i + amS (l.take j) + fbv l[j].2 = amT R i + amS (l.take (j + 1)) := by rw [amS_take l j hjl, Nat.add_assoc]
          have HNX := Lib.hid hnx
          obtain ⟨ky, eky⟩ : ∃ x, x = l[j].1 := ⟨_, rfl⟩
          obtain ⟨vl, evl⟩ : ∃ x, x = l[j].2 := ⟨_, rfl⟩
          rw [← eky] at ck
          rw [← evl] at cv hS HNX
          obtain ⟨S, eS⟩ : ∃ S, S = amT R i + amS (l.take j) := ⟨_, rfl⟩
          rw [← eS] at hS htot HNX
          obtain ⟨a, ea⟩ : ∃ a, a = fbv vl := ⟨_, rfl⟩
          rw [← ea] at hS HNX
          obtain ⟨ok, eok⟩ : ∃ ok, ok = decide (vl.size = 32) := ⟨_, rfl⟩
          have hTA := fun W' => toAmount_walk vl a ok W' ea.symm eok.symm
          have hTl := fun W' (ht : Tot W' g6 g7 S) => tell_walk S a g6 g7 W' (by omega) hS ht HNE.out
          unfold U at hTA hTl
          have HTA := Lib.hid hTA
          have HTl := Lib.hid hTl
          have HTt := Lib.hid htot
          have HCt := Lib.hid htch
          clear hTA hTl htot htch eok ea eS evl eky hS hnx hgc hgn hjl hj
          go_wp2_with (first
            | (go_at_call 96; with_reducible refine (HTl.out _ (HTt.out.below (H4.out.alloc H4.out.size _))).mono ?_; rintro e w6 ⟨rfl, ht6, hc6⟩; have H6 := Lib.hid (And.intro ht6 ((HCt.out.trans (fun _ hk => .inl hk) (Touch.of_below (H4.out.alloc H4.out.size _))).trans (fun _ hk => .inl hk) hc6)); clear ht6 hc6)
            | (go_at_call 114; with_reducible refine (HTA.out _).mono ?_; rintro e w4 ⟨rfl, hb4⟩; have hbx := (Below.refl wr.heap.size wr).alloc (Nat.le_refl _) (.cells #[.string ky, .string vl] 184); have H4 := Lib.hid (hbx.trans (hb4.mono hbx.size)); clear hb4 hbx))
          refine ⟨⟨j + 1, by omega, by simp, ?_, H6.out.2⟩, by simp [intOf]; omega⟩
          rw [← HNX.out]
          exact H6.out.1
        · obtain rfl : j = n := by omega
          have p2 : ¬ (j : Int) < (j : Int) := by omega
          have e1 : amT R i + amS (l.take j) = amT R (i + 1) := by rw [EN.out, List.take_length, EL.out]; rfl
          rw [e1] at htot
          have H9 := Lib.hid (And.intro htot ((HC1.out.trans (fun _ hk => .inl hk) (Touch.of_below H2.out)).trans (fun _ hk => .inl hk) htch))
          clear htot htch e1
          go_wp2
          exact ⟨⟨i + 1, HLT.out, by simp, H9.out⟩, by simp [intOf]; omega⟩
    · obtain rfl : i = m := by omega
      have p1 : ¬ (i : Int) < (i : Int) := by omega
      have H9 := Lib.hid (And.intro htot htch)
      clear htot htch
      go_wp2
      go_end0
      exact ⟨rfl, H9.out⟩
/-- what Total is told: the four prefixes -/
def bgs (k1 k3 k4 k6 : ByteArray) : Nat → ByteArray
  | 0 => k1
  | 1 => k3
  | 2 => k4
  | _ => k6
set_option maxRecDepth 100000 in
set_option maxHeartbeats 4000000 in
theorem total_no (P : Option Addr) (t : Int) (w : World) (h : ¬ (1 ≤ t ∧ t ≤ 1000)) : Calls Try.prog 46 #[.pointer P, .int .i64 t] w fun e w' => e = .returned (.tuple #[U 0, .bool false]) ∧ Below w.heap.size w w' := by
  have hT := fun W => istok_any t W
  rw [decide_eq_false h] at hT
  have HT := Lib.hid hT
  have hb0 := (Below.refl w.heap.size w).alloc (Nat.le_refl _) (.cells #[.int .u64 0, .int .u64 0, .int .u64 0, .int .u64 0] 29)
  have r0 := heap_alloc_new w (.cells #[.int .u64 0, .int .u64 0, .int .u64 0, .int .u64 0] 29)
  have H0 := Lib.hid (And.intro hb0 r0)
  clear hb0 r0 hT h
  go_enter Try.func46, Try.ntmps46
  go_wp2_with (go_at_call 94; refine (HT.out _).mono ?_; rintro e w1 ⟨rfl, rfl⟩)
  obtain ⟨e0, e1, e2, e3⟩ := (arr_zero H0.out.2).cells4
  refine bodyPost_ret (v := .tuple #[.agg #[.int .u64 0, .int .u64 0, .int .u64 0, .int .u64 0], .bool false]) (by simp [results, Try.results46, go_sem, e0, e1, e2, e3]) rfl ⟨rfl, H0.out.1⟩
set_option maxRecDepth 100000 in
set_option maxHeartbeats 4000000 in
theorem total_yes (P : Option Addr) (t : Int) (w : World) (k1 k3 k4 k6 : ByteArray) (R : Nat → SL) (ht : 1 ≤ t ∧ t ≤ 1000) (h1 : keyStr 1 (fun _ => t) 1 = k1) (h3 : keyStr 3 (fun _ => t) 1 = k3) (h4 : keyStr 4 (fun _ => t) 1 = k4) (h6 : keyStr 6 (fun _ => t) 1 = k6) (hR : ∀ i, i < 4 → (R i).length ≤ 128) (hsum : amT R 4 < 2 ^ 256)
    (HU : ∀ (i : Nat) (W W' : World) (G : List Nat), i < 4 → Below w.heap.size w W → (∀ g ∈ G, w.heap.size ≤ g) → Touch G W W' → Calls Try.prog 124 #[.pointer P, .string (bgs k1 k3 k4 k6 i)] W' fun e w' => (∃ v, e = .returned v ∧ w'.ownsRow W'.heap.size 184 2 v (R i).length (pcs (R i))) ∧ Below W'.heap.size W' w') :
    Calls Try.prog 46 #[.pointer P, .int .i64 t] w fun e w' => e = .returned (.tuple #[U (amT R 4), .bool true]) ∧ Below w.heap.size w w' := by
  have hT := fun W => istok_any t W
  rw [decide_eq_true ht] at hT
  have HT := Lib.hid hT
  obtain ⟨W3, hW3⟩ : ∃ W3, W3 = ((w.alloc (.cells #[.int .u64 0, .int .u64 0, .int .u64 0, .int .u64 0] 29)).alloc (.cells #[.int .u64 0, .int .u64 0, .int .u64 0, .int .u64 0] 29)).alloc (.cells #[.bool true] 4) := ⟨_, rfl⟩
  have hb3 : Below w.heap.size w W3 := by rw [hW3]; exact (((Below.refl _ _).alloc (Nat.le_refl _) _).alloc (by simp) _).alloc (by simp; omega) _
  have hs3 : W3.heap.size = w.heap.size + 3 := by rw [hW3]; simp
  have r4 : W3.heap[w.heap.size]? = some (.cells #[.int .u64 0, .int .u64 0, .int .u64 0, .int .u64 0] 29 (0, 0)) := by
    rw [hW3]; exact (heap_alloc_old _ _ (by simp only [World.size_alloc]; omega)).trans ((heap_alloc_old _ _ (by simp only [World.size_alloc]; omega)).trans (heap_alloc_new _ _))
  have hTot : Tot W3 (w.heap.size + 1) (w.heap.size + 1 + 1) 0 := by
    have r6 := heap_alloc_new (w.alloc (.cells #[.int .u64 0, .int .u64 0, .int .u64 0, .int .u64 0] 29)) (.cells #[.int .u64 0, .int .u64 0, .int .u64 0, .int .u64 0] 29)
    rw [World.size_alloc] at r6
    have r7 := heap_alloc_new ((w.alloc (.cells #[.int .u64 0, .int .u64 0, .int .u64 0, .int .u64 0] 29)).alloc (.cells #[.int .u64 0, .int .u64 0, .int .u64 0, .int .u64 0] 29)) (.cells #[.bool true] 4)
    rw [World.size_alloc, World.size_alloc] at r7
    rw [hW3]
    exact ⟨(heap_alloc_old _ _ (by simp only [World.size_alloc]; omega)).trans r6, r7⟩
  have HEa := Lib.hid (fun (w8 : World) (hB8 : Below W3.heap.size W3 w8) => by
    have hsz := hB8.size
    have hb8 := hb3.trans (hB8.mono hb3.size)
    have hbx := hb8.alloc hb8.size (.cells #[.string k1, .string k3, .string k4, .string k6] 9)
    exact each_walk P w8.heap.size 4 (bgs k1 k3 k4 k6) R (w.heap.size + 1) (w.heap.size + 1 + 1) (w8.alloc (.cells #[.string k1, .string k3, .string k4, .string k6] 9)) (by omega) hR
      (fun i hi => by rcases (by omega : i = 0 ∨ i = 1 ∨ i = 2 ∨ i = 3) with rfl | rfl | rfl | rfl <;> exact (World.cell?_alloc_at _ _ _ _ rfl).trans rfl) (by omega) (by omega) (hTot.below (hB8.alloc hB8.size _)) (by omega) hsum
      (fun i W' hi ht => HU i _ W' _ hi hbx (by simp; omega) ht))
  have HK1 := Lib.hid (fun (W1 : World) => key_is 1 (some ⟨W1.heap.size, 0, none⟩) 1 1 (fun _ => t) k1 h1 _ (il1 t W1 3 (by omega)) (by omega))
  have HK6 := Lib.hid (fun (W1 : World) => key_is 6 (some ⟨W1.heap.size, 0, none⟩) 1 1 (fun _ => t) k6 h6 _ (il1 t W1 3 (by omega)) (by omega))
  have HK3 := Lib.hid (fun (W1 : World) => sink_is t k3 h3 W1 (by omega))
  have HK4 := Lib.hid (fun (W1 : World) => pool_is t k4 h4 W1 (by omega))
  have H3 := Lib.hid (And.intro hb3 (And.intro r4 hs3))
  have HW := Lib.hid hW3
  obtain ⟨N, hN⟩ : ∃ N, N = amT R 4 := ⟨_, rfl⟩
  rw [← hN] at HEa ⊢
  clear hT ht h1 h3 h4 h6 hR hsum HU hW3 hb3 hs3 r4 hTot hN
  go_enter Try.func46, Try.ntmps46
  go_upto_region 5 with (go_at_call 94; refine (HT.out _).mono ?_; rintro e w1 ⟨rfl, rfl⟩)
  rw [← HW.out]
  clear HW
  go_upto_region 6 with (first
    | (go_at_call 95; with_reducible refine (HEa.out _ B7.out).mono ?_; rintro e w8 ⟨rfl, ht8, hc8⟩; have H8 := Lib.hid (And.intro ht8 ((Touch.of_below (F := [w.heap.size + 1, w.heap.size + 1 + 1]) (B7.out.alloc B7.out.size (.cells #[.string k1, .string k3, .string k4, .string k6] 9))).trans (fun _ hk => .inl hk) hc8)); clear ht8 hc8)
    | (go_at_call 60; have g5 := B6; clear g5; with_reducible refine (HK6.out _).mono ?_; rintro e w7 ⟨rfl, hb7⟩; have hbx := B6.out.alloc B6.out.size (.cells #[.int .i64 t] 3); have B7 := Lib.hid (hbx.trans (hb7.mono hbx.size)); clear hb7 hbx)
    | (go_at_call 38; with_reducible refine (HK4.out _).mono ?_; rintro e w6 ⟨rfl, hb6⟩; have B6 := Lib.hid (B5.out.trans (hb6.mono B5.out.size)); clear hb6)
    | (go_at_call 36; with_reducible refine (HK3.out _).mono ?_; rintro e w5 ⟨rfl, hb5⟩; have B5 := Lib.hid (B4.out.trans (hb5.mono B4.out.size)); clear hb5)
    | (go_at_call 60; with_reducible refine (HK1.out _).mono ?_; rintro e w4 ⟨rfl, hb4⟩; have hbx := (Below.refl W3.heap.size W3).alloc (Nat.le_refl _) (.cells #[.int .i64 t] 3); have B4 := Lib.hid (hbx.trans (hb4.mono hbx.size)); clear hb4 hbx))
  have hb8 : Below w.heap.size w w8 := by
    have hsz := H3.out.2.2
    have hx := H8.out.2.below (n := w.heap.size) (fun k hk => by rcases List.mem_cons.1 hk with rfl | hk; omega; rcases List.mem_cons.1 hk with rfl | hk; omega; cases hk) H3.out.1.size
    exact H3.out.1.trans hx
  have hr4 : w8.heap[w.heap.size]? = some (.cells #[.int .u64 0, .int .u64 0, .int .u64 0, .int .u64 0] 29 (0, 0)) :=
    (H8.out.2.block _ (hp_lt H3.out.2.1) (by simp; omega)).trans H3.out.2.1
  have H9 := Lib.hid (And.intro hr4 hb8)
  have hT8 := H8.out.1
  have c0 := (hp_cell (i := 0) hT8.s).trans rfl
  have c1 := (hp_cell (i := 1) hT8.s).trans rfl
  have c2 := (hp_cell (i := 2) hT8.s).trans rfl
  have c3 := (hp_cell (i := 3) hT8.s).trans rfl
  have c7 := (hp_cell (i := 0) hT8.f).trans rfl
  have d0 := (hp_cell (i := 0) hr4).trans rfl
  have d1 := (hp_cell (i := 1) hr4).trans rfl
  have d2 := (hp_cell (i := 2) hr4).trans rfl
  have d3 := (hp_cell (i := 3) hr4).trans rfl
  have f0 := hp_free (i := 0) hr4
  have f1 := hp_free (i := 1) hr4
  have f2 := hp_free (i := 2) hr4
  have f3 := hp_free (i := 3) hr4
  clear hT8 hr4 hb8
  go_region
  all_goals go_wp2
  all_goals obtain ⟨e0, e1, e2, e3⟩ := (((arr_zero H9.out.1).put4 (n := N)).drew).cells4
  all_goals exact bodyPost_ret (v := .tuple #[.agg #[.int .u64 (limb N 0 : Nat), .int .u64 (limb N 1 : Nat), .int .u64 (limb N 2 : Nat), .int .u64 (limb N 3 : Nat)], .bool true]) (by simp [results, Try.results46, go_sem, e0, e1, e2, e3]) rfl ⟨rfl, (below_set4 H9.out.2 (Nat.le_refl _)).drew⟩
end Go.Proofs.Ytedkhpnlhkjjgaa

namespace Go.Proofs.Ytedkhpnlhkjjgaa
open Go.RowKit Go.Maps Go.Sort Go.Shelf
attribute [local go_sem] Oper.semAt_some
attribute [local go_sem] run_store_fn

theorem KeepT.putObj {T : TypeId} (W : World) (l : Nat) (o o' : Obj) (hl : W.heap[l]? = some o) (hc : o.isCells = false) : KeepT T W (W.putObj l o') := by
  refine ⟨(grownBy_putObj' W l o').size, fun k cs fr hk => ((grownBy_putObj' W l o').block k (hp_lt hk) fun e => ?_).trans hk⟩
  cases e
  rw [hl] at hk
  cases hk
  cases hc
theorem nums_rowT {f : Nat → Int} {n : Nat} (w : World) (hn : n ≤ 100) (hf : ∀ i, i < n → 0 ≤ f i ∧ f i < 2 ^ 63) : Calls Try.prog 113 #[.string (rowV f n)] w fun e w' => e = .returned (.tuple #[.slice (some ⟨w.heap.size, 0, none⟩) n n, .bool true]) ∧ (∀ i, i < n → w'.cell? ⟨w.heap.size, i, none⟩ = some (.int .i64 (f i))) ∧ (∃ cs, w'.heap[w.heap.size]? = some (Obj.cells cs 3 (0, 0))) ∧ Below w.heap.size w w' := by
  have hch : ∀ i, i < n → chunk (rowV f n) i = (f i).toNat := fun i hi => chunk_tl (f := f) (n := n) rfl hi (hf i hi).2
  refine (nums_walk (rowV f n) n w (by rw [rowV_size]) hn).mono ?_
  rintro e w' ⟨⟨_, he, hr⟩ | ⟨⟨i, hi, hne⟩, _⟩, hb⟩
  · refine ⟨he, fun i hi => ?_, ownsRow_typ hr rfl, hb⟩
    rw [hr.cellAt i (by omega)]
    have h0 := (hf i hi).1
    have e1 : (((f i).toNat : Nat) : Int) = f i := by omega
    simp [i64n, hi, hch i hi, e1]
  · have := (hf i hi).2
    rw [hch i hi] at hne
    omega
/-- a row that comes: its key, where its numbers lie, how many -/
structure DRow where
  k : ByteArray
  g : Nat
  n : Nat
def DRow.encs (x : DRow) : Array Value := #[.string x.k, .slice (some ⟨x.g, 0, none⟩) x.n x.n]
/-- row i, in a world: its key and its numbers -/
structure DHas (key : Nat → ByteArray) (n : Nat → Nat) (f : Nat → Nat → Int) (B i : Nat) (x : DRow) (W : World) : Prop where
  k : x.k = key i
  n : x.n = n i
  at_ : ∀ t, t < x.n → W.cell? ⟨x.g, t, none⟩ = some (.int .i64 (f i t))
  ty : ∃ cs, W.heap[x.g]? = some (Obj.cells cs 3 (0, 0))
  ge : B ≤ x.g
  pos : 1 ≤ x.n
theorem DHas.keep {key : Nat → ByteArray} {n : Nat → Nat} {f : Nat → Nat → Int} {B i : Nat} {x : DRow} {W W' : World} (h : DHas key n f B i x W) (hk : KeepT 3 W W') : DHas key n f B i x W' := by
  obtain ⟨cs, hc⟩ := h.ty
  have hc' := hk.2 _ _ _ hc
  exact ⟨h.k, h.n, fun t ht => by rw [← h.at_ t ht]; simp only [World.cell?, hc, hc'], ⟨cs, hc'⟩, h.ge, h.pos⟩
/-- what is known of it where it comes -/
def DTold (N : Nat) (key : Nat → ByteArray) (n : Nat → Nat) (f : Nat → Nat → Int) (B : Nat) (pre : List DRow) (x : DRow) (W : World) : Prop := pre.length < N ∧ DHas key n f B pre.length x W
theorem DTold.putObj {N : Nat} {key : Nat → ByteArray} {n : Nat → Nat} {f : Nat → Nat → Int} {B : Nat} {pre : List DRow} {x : DRow} {W : World} (h : DTold N key n f B pre x W) {l : Nat} {o : Obj} (o' : Obj) (hl : W.heap[l]? = some o) (hc : o.isCells = false) : DTold N key n f B pre x (W.putObj l o') :=
  ⟨h.1, h.2.keep (KeepT.putObj W l o o' hl hc)⟩
set_option maxRecDepth 100000 in
set_option maxHeartbeats 4000000 in
theorem duer_tells (m : Nat) (P : Option Addr) (K0 : ByteArray) (b1 b2 N : Nat) (U : SL) (key : Nat → ByteArray) (bj : Nat → Int) (jj : Nat → Int) (n : Nat → Nat) (f : Nat → Nat → Int) (w0 : World)
    (h1 : w0.cell? ⟨b1, 0, none⟩ = some (.pointer P)) (h2 : w0.cell? ⟨b2, 0, none⟩ = some (.string K0)) (hU : ∀ i (h : i < U.length), U[i] = (key i, rowV (f i) (n i))) (hN : U.length = N) (hN9 : N ≤ 1000000)
    (hkey : ∀ i, i < N → keyStr 26 (two2 (bj i) (jj i)) 2 = key i ∧ (0 ≤ bj i ∧ bj i < 2 ^ 63) ∧ (0 ≤ jj i ∧ jj i < 2 ^ 63)) (hn : ∀ i, i < N → 1 ≤ n i ∧ n i ≤ 100) (hf : ∀ i, i < N → ∀ t, t < n i → 0 ≤ f i t ∧ f i t < 2 ^ 63)
    (HU : ∀ W, Below w0.heap.size w0 W → Calls Try.prog 124 #[.pointer P, .string K0] W fun e w' => (∃ v, e = .returned v ∧ w'.ownsRow W.heap.size 184 2 v U.length (pcs U)) ∧ Below W.heap.size W w') :
    SeqTells Fence.wide (m + 1) Try.prog 123 #[.pointer (some ⟨b1, 0, none⟩), .pointer (some ⟨b2, 0, none⟩)] DRow.encs (KeepT 184) (DTold N key n f w0.heap.size) (fun xs => xs.length = N) (fun pre => pre.length ≤ N) w0 := by
  intro l J Jx W hW hJ hJx hY h0
  have c1 := hW.cell (p := ⟨b1, 0, none⟩) (World.block_lt_of_cell? _ _ h1) |>.trans h1
  have c2 := hW.cell (p := ⟨b2, 0, none⟩) (World.block_lt_of_cell? _ _ h2) |>.trans h2
  have HUs := Lib.hid (HU W hW)
  have HYs := Lib.hid hY
  have HJs := Lib.hid hJ
  have HJ0 := Lib.hid h0
  have HU0 := Lib.hid hU
  have HK := Lib.hid hkey
  have Hn := Lib.hid hn
  have Hf := Lib.hid hf
  have HN := Lib.hid hN
  have HWs := Lib.hid hW.size
  have hN' : (U.length : Int) ≤ 1000000 := by omega
  clear hY hJ hJx h0 hU hkey hn hf hN hN9 HU hW h1 h2
  refine callsIn_of_wp Try.func123 rfl trivial ?_ rfl
  simp only [Try.ntmps123, List.size_toArray, List.length_cons, List.length_nil, Nat.reduceAdd, Nat.reduceSub, Array.replicate_succ, Array.replicate_zero, List.push_toArray, List.append_toArray, List.nil_append, List.cons_append]
  gi_wp2_with (refine ⟨trivial, ?_⟩; gi_at_call 124; refine (callsIn_wide.2 HUs.out).mono ?_; rintro e w1 ⟨⟨v, rfl, hv⟩, hb1⟩; obtain ⟨A, c, rfl, _⟩ := row_pairs hv; have HV := Lib.hid hv; have HB1 := Lib.hid hb1; clear hv hb1)
  gi_loopw [15] (fun i wr => ∃ pre : List DRow, pre.length ≤ N ∧ i = .int .i64 (pre.length : Nat) ∧ J pre wr ∧ wr.ownsRow W.heap.size 184 2 (.slice A U.length c) U.length (pcs U) ∧ w0.heap.size ≤ wr.heap.size) (fun i _ => N - (intOf i).toNat)
  case atStart => exact ⟨[], Nat.zero_le _, rfl, HJs.out _ _ _ HJ0.out HB1.out, HV.out, Nat.le_trans HWs.out HB1.out.size⟩
  case round =>
    obtain ⟨pre, hpl, rfl, hJp, hown, hsz⟩ := hrel
    have HJp := Lib.hid hJp
    have HO := Lib.hid hown
    have HS := Lib.hid hsz
    clear hJp hsz
    by_cases hlt : pre.length < N
    · have hltU : pre.length < U.length := by have := HN.out; omega
      have p1 : (pre.length : Int) < (U.length : Int) := by omega
      obtain ⟨A', c', e, hr⟩ := row_pairs hown
      cases e
      obtain ⟨g, rfl, _, hg, hc⟩ := hr (by omega)
      obtain ⟨d0, d1⟩ := hc _ hltU
      rw [HU0.out _ hltU] at d0 d1
      simp only at d0 d1
      have hKj := HK.out _ hlt
      have hnj := Hn.out _ hlt
      have hfj := Hf.out _ hlt
      obtain ⟨kj, ekj⟩ : ∃ z, z = key pre.length := ⟨_, rfl⟩
      obtain ⟨nj, enj⟩ : ∃ z, z = n pre.length := ⟨_, rfl⟩
      obtain ⟨fj, efj⟩ : ∃ z, z = f pre.length := ⟨_, rfl⟩
      rw [← ekj] at d0 hKj
      rw [← enj] at d1 hnj hfj
      rw [← efj] at d1 hfj
      obtain ⟨vj, evj⟩ : ∃ z, z = rowV fj nj := ⟨_, rfl⟩
      rw [← evj] at d1
      have HNm := Lib.hid (fun w => show Calls Try.prog 113 #[.string vj] w fun e w' => e = .returned (.tuple #[.slice (some ⟨w.heap.size, 0, none⟩) nj nj, .bool true]) ∧ (∀ i, i < nj → w'.cell? ⟨w.heap.size, i, none⟩ = some (.int .i64 (fj i))) ∧ (∃ cs, w'.heap[w.heap.size]? = some (Obj.cells cs 3 (0, 0))) ∧ Below w.heap.size w w' from by rw [evj]; exact nums_rowT w hnj.2 hfj)
      have HPl := Lib.hid (fun w => place_is _ _ kj hKj.1 hKj.2.1 hKj.2.2 w)
      have p2 : ¬ (nj : Int) = 0 := by omega
      have p3 : ((nj : Int) == 0) = false := by simpa using p2
      have HE := Lib.hid (And.intro ekj (And.intro enj (And.intro efj hnj)))
      have HB0 := Lib.hid ((Below.refl wr.heap.size wr).alloc (Nat.le_refl _) (.cells #[.string kj, .string vj] 184))
      have r0 := heap_alloc_new wr (.cells #[.string kj, .string vj] 184)
      have R0 := Lib.hid r0
      clear hown hr hc hKj hnj hfj ekj enj efj evj r0
      gi_wp2_with (refine ⟨trivial, ?_⟩; first
        | (gi_at_call 79; refine (callsIn_wide.2 (HPl.out _)).mono ?_; rintro e w3 ⟨rfl, hb3⟩; have B3 := Lib.hid (B2.out.trans (hb3.mono B2.out.size)); have c3 := (hp_cell (i := 0) ((hb3.block _ (hp_lt R2.out)).trans R2.out)).trans rfl; obtain ⟨fn, tmps, assign, body, hy, hR⟩ := HYs.out pre ⟨kj, wr.heap.size + 1, nj⟩ w3 (HJs.out _ _ _ HJp.out B3.out) ⟨hlt, HE.out.1, HE.out.2.1, fun t ht => (hb3.cell (p := ⟨wr.heap.size + 1, t, none⟩) (by obtain ⟨_, hz⟩ := Z2.out; exact hp_lt hz)).trans (by rw [← HE.out.2.2.1]; exact HC2.out t ht), by obtain ⟨cs, hz⟩ := Z2.out; exact ⟨cs, (hb3.block _ (hp_lt hz)).trans hz⟩, by have := HS.out; show w0.heap.size ≤ wr.heap.size + 1; omega, HE.out.2.2.2.1⟩; have hR' := Lib.hid hR; clear hR hb3; dsimp only [DRow.encs] at hy)
        | (gi_at_call 113; with_reducible refine (callsIn_wide.2 (HNm.out _)).mono ?_; rintro e w2 ⟨rfl, hc2, hz2, hb2⟩; rw [World.size_alloc] at hc2 hz2; have B2 := Lib.hid (HB0.out.trans (hb2.mono HB0.out.size)); have HC2 := Lib.hid hc2; have Z2 := Lib.hid hz2; have r2 := (hb2.block _ (hp_lt R0.out)).trans R0.out; have c2 := (hp_cell (i := 0) r2).trans rfl; have R2 := Lib.hid r2; clear hc2 hz2 hb2 r2))
      refine hR'.out.mono ?_
      rintro e W3 (⟨rfl, hJ3, hk3⟩ | ⟨rfl, hJx3⟩)
      · gi_wp2
        go_roundw
        case rel => exact ⟨pre ++ [⟨kj, wr.heap.size + 1, nj⟩], by simp; omega, by simp, hJ3, ownsRow_keepT (ownsRow_keepT HO.out (KeepT.of_below B3.out)) hk3, Nat.le_trans HS.out (Nat.le_trans B3.out.size hk3.1)⟩
        case measure => simp [intOf]; omega
      · gi_wp2
        refine bodyPost_ret (results_none rfl _ _ _) rfl ?_
        exact ⟨⟨_, rfl⟩, .inr ⟨pre ++ [⟨kj, wr.heap.size + 1, nj⟩], by simp; omega, hJx3⟩⟩
    · have p1 : ¬ (pre.length : Int) < (U.length : Int) := by have := HN.out; omega
      clear hown
      gi_wp2
      go_end0
      exact ⟨⟨_, rfl⟩, .inl ⟨pre, by omega, HJp.out⟩⟩
end Go.Proofs.Ytedkhpnlhkjjgaa

namespace Go.Proofs.Ytedkhpnlhkjjgaa
open Go.RowKit Go.Maps Go.Sort

theorem stp_book {w : World} {b : Nat} {F : List Nat} {L : SL} {q : Nat} {qs : List Value} (h : StP w b F L q qs) {k : Nat} {o : Obj} (hk : w.heap[k]? = some o) (ho : isBook o = true) : k ∉ F := fun hm => by
  rcases stp_blk h k hm with ⟨es, c, h1⟩ | ⟨cs', T', h1, h2⟩
  · rw [h1] at hk; cases hk; cases ho
  · rw [h1] at hk; cases hk; cases ho
theorem SNew.book {w W : World} {b : Nat} {F : List Nat} {L : SL} {q : Nat} {qs : List Value} (h : SNew w W b F L q qs) {l : Nat} {o : Obj} (o' : Obj) (hl : W.heap[l]? = some o) (ho : isBook o = true) (hw : w.heap.size ≤ l) : SNew w (W.putObj l o') b F L q qs := by
  have ht : Touch [l] W (W.putObj l o') := Touch.grown (grownBy_putObj' W l o') (fun k e => by cases e; simp)
  have h1 : ∀ k ∈ F, k ∉ [l] := fun k hk hm => by
    obtain rfl : k = l := by simpa using hm
    exact stp_book h.s hl ho hk
  have h2 : ∀ k ∈ [l], w.heap.size ≤ k := fun k hk => by
    obtain rfl : k = l := by simpa using hk
    exact hw
  exact ⟨h.s.touch ht h1, h.f, h.l.trans (ht.below h2 h.l.size)⟩
end Go.Proofs.Ytedkhpnlhkjjgaa
