/- bank.each with the closure that adds up, walked; Total on a dead store and on a live one. -/
import Derived.Test.YtffipojlpdphiaaG25
import Derived.Test.YtffipojlpdphiaaG24
import Derived.Test.YtffipojlpdphiaaG19
import Derived.Test.YtffipojlpdphiaaG21
import Derived.Test.YtffipojlpdphiaaG20
import Derived.Test.YtffipojlpdphiaaG08
namespace Go.Proofs.Ytffipojlpdphiaa
open Go.RowKit Go.Maps Go.Sort

def amS (l : SL) : Nat := (l.map fun p => fbv p.2).sum
theorem amS_snoc (l : SL) (p : ByteArray × ByteArray) : amS (l ++ [p]) = amS l + fbv p.2 := by simp [amS]
def amT (R : Nat → SL) : Nat → Nat
  | 0 => 0
  | i + 1 => amT R i + amS (R i)
theorem amT_le (R : Nat → SL) {i m : Nat} (h : i ≤ m) : amT R i ≤ amT R m := by
  induction h with
  | refl => exact Nat.le_refl _
  | step _ ih => exact Nat.le_trans ih (Nat.le_add_right _ _)
theorem amS_take (l : SL) (j : Nat) (h : j < l.length) : amS (l.take (j + 1)) = amS (l.take j) + fbv l[j].2 := by
  rw [List.take_succ_eq_append_getElem h, amS_snoc]
theorem amS_take_le (l : SL) (j : Nat) : amS (l.take j) ≤ amS l := by
  have h := congrArg amS (List.take_append_drop j l)
  unfold amS at h ⊢
  rw [List.map_append, List.sum_append] at h
  omega
theorem cell_touch {F : List Nat} {w w' : World} {g o : Nat} {u : Value} (h : Touch F w w') (hg : g ∉ F) (hc : w.cell? ⟨g, o, none⟩ = some u) : w'.cell? ⟨g, o, none⟩ = some u := by
  have hl := World.block_lt_of_cell? _ _ hc
  rw [← hc]
  simp only [World.cell?, h.block g hl hg]
set_option maxRecDepth 100000 in
set_option maxHeartbeats 4000000 in
theorem each_walk (P : Option Addr) (bb m : Nat) (bs : Nat → ByteArray) (R : Nat → SL) (g6 g7 : Nat) (W : World) (hm : m ≤ 8) (hR : ∀ i, i < m → (R i).length ≤ 1000000)
    (hb : ∀ i, i < m → W.cell? ⟨bb, i, none⟩ = some (.string (bs i))) (hb6 : bb ≠ g6) (hb7 : bb ≠ g7) (hT : Tot W g6 g7 0) (hne : g6 ≠ g7) (hsum : amT R m < 2 ^ 256)
    (HU : ∀ i W', i < m → Touch [g6, g7] W W' → Calls Try.prog 79 #[.pointer P, .string (bs i)] W' fun e w' => (∃ v, e = .returned v ∧ w'.ownsRow W'.heap.size 137 2 v (R i).length (pcs (R i))) ∧ Below W'.heap.size W' w') :
    Calls Try.prog 92 #[.pointer P, .func (.func 93) #[] #[.pointer (some ⟨g7, 0, none⟩), .pointer (some ⟨g6, 0, none⟩)], .slice (some ⟨bb, 0, none⟩) m m] W fun e w' => e = .returned (.tuple #[]) ∧ Tot w' g6 g7 (amT R m) ∧ Touch [g6, g7] W w' := by
  have HUs := Lib.hid HU
  have HBs := Lib.hid hb
  have HSum := Lib.hid hsum
  have HRl := Lib.hid hR
  have HNE := Lib.hid hne
  have HBB := Lib.hid (show bb ∉ [g6, g7] by simp [hb6, hb7])
  have l6 := hp_lt hT.s
  have l7 := hp_lt hT.f
  have HT0 := Lib.hid hT
  have hM : (m : Int) ≤ 8 := by omega
  clear HU hb hsum hR hne hb6 hb7 hT
  go_enter Try.func92, Try.ntmps92
  go_wp2
  go_loopw [14] (fun x wr => ∃ i : Nat, i ≤ m ∧ x = .int .i64 (i : Nat) ∧ Tot wr g6 g7 (amT R i) ∧ Touch [g6, g7] W wr) (fun x _ => m - (intOf x).toNat)
  case atStart => exact ⟨0, Nat.zero_le _, rfl, HT0.out, Touch.refl _ _⟩
  case round =>
    obtain ⟨i, hi, rfl, htot, htch⟩ := hrel
    by_cases hlt : i < m
    · have p1 : (i : Int) < (m : Int) := by omega
      have cb := cell_touch htch HBB.out (HBs.out i hlt)
      have HU1 := Lib.hid (HUs.out i wr hlt htch)
      have HT1 := Lib.hid htot
      have HC1 := Lib.hid htch
      have hz := htch.size
      have HLT := Lib.hid hlt
      obtain ⟨bsi, ebs⟩ : ∃ x, x = bs i := ⟨_, rfl⟩
      rw [← ebs] at cb HU1
      have hrl := HRl.out i hlt
      have hsi : amT R i + amS (R i) < 2 ^ 256 := Nat.lt_of_le_of_lt (amT_le R (i := i + 1) (by omega)) HSum.out
      obtain ⟨l, el⟩ : ∃ l, l = R i := ⟨_, rfl⟩
      have EL := Lib.hid el
      rw [← el] at HU1 hrl hsi
      have HSI := Lib.hid hsi
      obtain ⟨n, en⟩ : ∃ n, n = l.length := ⟨_, rfl⟩
      have EN := Lib.hid en
      rw [← en] at hrl
      have hn8 : (n : Int) ≤ 1000000 := by omega
      clear htot htch hlt ebs el hsi en hi hrl
      go_upto_region 4 with (go_at_call 79; refine HU1.out.mono ?_; rintro e w2 ⟨⟨v, rfl, hv⟩, hb2⟩; obtain ⟨A, c, rfl, hcs⟩ := row_pairs hv; rw [← EN.out]; have HV := Lib.hid hcs; have H2 := Lib.hid hb2; clear hv hb2 hcs)
      go_loopw [22] (fun x wr2 => ∃ j : Nat, j ≤ n ∧ x = .int .i64 (j : Nat) ∧ Tot wr2 g6 g7 (amT R i + amS (l.take j)) ∧ Touch [g6, g7] w2 wr2) (fun x _ => n - (intOf x).toNat)
      case atStart => exact ⟨0, Nat.zero_le _, rfl, HT1.out.below H2.out, Touch.refl _ _⟩
      case round =>
        obtain ⟨j, hj, rfl, htot, htch⟩ := hrel
        by_cases hjn : j < n
        · have p2 : (j : Int) < (n : Int) := by omega
          have hjl : j < l.length := by have := EN.out; omega
          obtain ⟨g, rfl, hg1, hg2, hgc⟩ := HV.out (by omega)
          have hgn : g ∉ [g6, g7] := by simp; omega
          have ck := cell_touch htch hgn (hgc j hjl).1
          have cv := cell_touch htch hgn (hgc j hjl).2
          have hS : amT R i + amS (l.take j) + fbv l[j].2 < 2 ^ 256 := by
            have h1 := amS_take_le l (j + 1)
            rw [amS_take l j hjl] at h1
            have := HSI.out
            omega
          have hnx : amT R i + amS (l.take j) + fbv l[j].2 = amT R i + amS (l.take (j + 1)) := by rw [amS_take l j hjl, Nat.add_assoc]
          have HNX := Lib.hid hnx
          obtain ⟨ky, eky⟩ : ∃ x, x = l[j].1 := ⟨_, rfl⟩
          obtain ⟨vl, evl⟩ : ∃ x, x = l[j].2 := ⟨_, rfl⟩
          rw [← eky] at ck
          rw [← evl] at cv hS HNX
          obtain ⟨S, eS⟩ : ∃ S, S = amT R i + amS (l.take j) := ⟨_, rfl⟩
          rw [← eS] at hS htot HNX
          obtain ⟨a, ea⟩ : ∃ a, a = fbv vl := ⟨_, rfl⟩
          rw [← ea] at hS HNX
          obtain ⟨ok, eok⟩ : ∃ ok, ok = decide (vl.size = 32) := ⟨_, rfl⟩
          have hTA := fun W' => toAmount_walk vl a ok W' ea.symm eok.symm
          have hTl := fun W' (ht : Tot W' g6 g7 S) => tell_walk S a g6 g7 W' (by omega) hS ht HNE.out
          unfold U at hTA hTl
          have HTA := Lib.hid hTA
          have HTl := Lib.hid hTl
          have HTt := Lib.hid htot
          have HCt := Lib.hid htch
          clear hTA hTl htot htch eok ea eS evl eky hS hnx hgc hgn hjl hj
          go_wp2_with (first
            | (go_at_call 93; with_reducible refine (HTl.out _ (HTt.out.below (H4.out.alloc H4.out.size _))).mono ?_; rintro e w6 ⟨rfl, ht6, hc6⟩; have H6 := Lib.hid (And.intro ht6 ((HCt.out.trans (fun _ hk => .inl hk) (Touch.of_below (H4.out.alloc H4.out.size _))).trans (fun _ hk => .inl hk) hc6)); clear ht6 hc6)
            | (go_at_call 154; with_reducible refine (HTA.out _).mono ?_; rintro e w4 ⟨rfl, hb4⟩; have hbx := (Below.refl wr.heap.size wr).alloc (Nat.le_refl _) (.cells #[.string ky, .string vl] 137); have H4 := Lib.hid (hbx.trans (hb4.mono hbx.size)); clear hb4 hbx))
          refine ⟨⟨j + 1, by omega, by simp, ?_, H6.out.2⟩, by simp [intOf]; omega⟩
          rw [← HNX.out]
          exact H6.out.1
        · obtain rfl : j = n := by omega
          have p2 : ¬ (j : Int) < (j : Int) := by omega
          have e1 : amT R i + amS (l.take j) = amT R (i + 1) := by rw [EN.out, List.take_length, EL.out]; rfl
          rw [e1] at htot
          have H9 := Lib.hid (And.intro htot ((HC1.out.trans (fun _ hk => .inl hk) (Touch.of_below H2.out)).trans (fun _ hk => .inl hk) htch))
          clear htot htch e1
          go_wp2
          exact ⟨⟨i + 1, HLT.out, by simp, H9.out⟩, by simp [intOf]; omega⟩
    · obtain rfl : i = m := by omega
      have p1 : ¬ (i : Int) < (i : Int) := by omega
      have H9 := Lib.hid (And.intro htot htch)
      clear htot htch
      go_wp2
      go_end0
      exact ⟨rfl, H9.out⟩
/-- what Total is told: the four prefixes -/
def bgs (k1 k3 k4 k6 : ByteArray) : Nat → ByteArray
  | 0 => k1
  | 1 => k3
  | 2 => k4
  | _ => k6
set_option maxRecDepth 100000 in
set_option maxHeartbeats 4000000 in
theorem total_no (P : Option Addr) (t : Int) (w : World) (h : ¬ (1 ≤ t ∧ t ≤ 1000)) : Calls Try.prog 27 #[.pointer P, .int .i64 t] w fun e w' => e = .returned (.tuple #[U 0, .bool false]) ∧ Below w.heap.size w w' := by
  have hT := fun W => istok_any t W
  rw [decide_eq_false h] at hT
  have HT := Lib.hid hT
  have hb0 := (Below.refl w.heap.size w).alloc (Nat.le_refl _) (.cells #[.int .u64 0, .int .u64 0, .int .u64 0, .int .u64 0] 52)
  have r0 := heap_alloc_new w (.cells #[.int .u64 0, .int .u64 0, .int .u64 0, .int .u64 0] 52)
  have H0 := Lib.hid (And.intro hb0 r0)
  clear hb0 r0 hT h
  go_enter Try.func27, Try.ntmps27
  go_wp2_with (go_at_call 91; refine (HT.out _).mono ?_; rintro e w1 ⟨rfl, rfl⟩)
  obtain ⟨e0, e1, e2, e3⟩ := (arr_zero H0.out.2).cells4
  refine bodyPost_ret (v := .tuple #[.agg #[.int .u64 0, .int .u64 0, .int .u64 0, .int .u64 0], .bool false]) (by simp [results, Try.results27, go_sem, e0, e1, e2, e3]) rfl ⟨rfl, H0.out.1⟩
set_option maxRecDepth 100000 in
set_option maxHeartbeats 4000000 in
theorem total_yes (P : Option Addr) (t : Int) (w : World) (k1 k3 k4 k6 : ByteArray) (R : Nat → SL) (ht : 1 ≤ t ∧ t ≤ 1000) (h1 : keyStr 1 (fun _ => t) 1 = k1) (h3 : keyStr 3 (fun _ => t) 1 = k3) (h4 : keyStr 4 (fun _ => t) 1 = k4) (h6 : keyStr 6 (fun _ => t) 1 = k6) (hR : ∀ i, i < 4 → (R i).length ≤ 1000000) (hsum : amT R 4 < 2 ^ 256)
    (HU : ∀ (i : Nat) (W W' : World) (G : List Nat), i < 4 → Below w.heap.size w W → (∀ g ∈ G, w.heap.size ≤ g) → Touch G W W' → Calls Try.prog 79 #[.pointer P, .string (bgs k1 k3 k4 k6 i)] W' fun e w' => (∃ v, e = .returned v ∧ w'.ownsRow W'.heap.size 137 2 v (R i).length (pcs (R i))) ∧ Below W'.heap.size W' w') :
    Calls Try.prog 27 #[.pointer P, .int .i64 t] w fun e w' => e = .returned (.tuple #[U (amT R 4), .bool true]) ∧ Below w.heap.size w w' := by
  have hT := fun W => istok_any t W
  rw [decide_eq_true ht] at hT
  have HT := Lib.hid hT
  obtain ⟨W3, hW3⟩ : ∃ W3, W3 = ((w.alloc (.cells #[.int .u64 0, .int .u64 0, .int .u64 0, .int .u64 0] 52)).alloc (.cells #[.int .u64 0, .int .u64 0, .int .u64 0, .int .u64 0] 52)).alloc (.cells #[.bool true] 4) := ⟨_, rfl⟩
  have hb3 : Below w.heap.size w W3 := by rw [hW3]; exact (((Below.refl _ _).alloc (Nat.le_refl _) _).alloc (by simp) _).alloc (by simp; omega) _
  have hs3 : W3.heap.size = w.heap.size + 3 := by rw [hW3]; simp
  have r4 : W3.heap[w.heap.size]? = some (.cells #[.int .u64 0, .int .u64 0, .int .u64 0, .int .u64 0] 52 (0, 0)) := by
    rw [hW3]; exact (heap_alloc_old _ _ (by simp only [World.size_alloc]; omega)).trans ((heap_alloc_old _ _ (by simp only [World.size_alloc]; omega)).trans (heap_alloc_new _ _))
  have hTot : Tot W3 (w.heap.size + 1) (w.heap.size + 1 + 1) 0 := by
    have r6 := heap_alloc_new (w.alloc (.cells #[.int .u64 0, .int .u64 0, .int .u64 0, .int .u64 0] 52)) (.cells #[.int .u64 0, .int .u64 0, .int .u64 0, .int .u64 0] 52)
    rw [World.size_alloc] at r6
    have r7 := heap_alloc_new ((w.alloc (.cells #[.int .u64 0, .int .u64 0, .int .u64 0, .int .u64 0] 52)).alloc (.cells #[.int .u64 0, .int .u64 0, .int .u64 0, .int .u64 0] 52)) (.cells #[.bool true] 4)
    rw [World.size_alloc, World.size_alloc] at r7
    rw [hW3]
    exact ⟨(heap_alloc_old _ _ (by simp only [World.size_alloc]; omega)).trans r6, r7⟩
  have HEa := Lib.hid (fun (w8 : World) (hB8 : Below W3.heap.size W3 w8) => by
    have hsz := hB8.size
    have hb8 := hb3.trans (hB8.mono hb3.size)
    have hbx := hb8.alloc hb8.size (.cells #[.string k1, .string k3, .string k4, .string k6] 9)
    exact each_walk P w8.heap.size 4 (bgs k1 k3 k4 k6) R (w.heap.size + 1) (w.heap.size + 1 + 1) (w8.alloc (.cells #[.string k1, .string k3, .string k4, .string k6] 9)) (by omega) hR
      (fun i hi => by rcases (by omega : i = 0 ∨ i = 1 ∨ i = 2 ∨ i = 3) with rfl | rfl | rfl | rfl <;> exact (World.cell?_alloc_at _ _ _ _ rfl).trans rfl) (by omega) (by omega) (hTot.below (hB8.alloc hB8.size _)) (by omega) hsum
      (fun i W' hi ht => HU i _ W' _ hi hbx (by simp; omega) ht))
  have HK1 := Lib.hid (fun (W1 : World) => key_is 1 (some ⟨W1.heap.size, 0, none⟩) 1 1 (fun _ => t) k1 h1 _ (il1 t W1 3 (by omega)) (by omega))
  have HK6 := Lib.hid (fun (W1 : World) => key_is 6 (some ⟨W1.heap.size, 0, none⟩) 1 1 (fun _ => t) k6 h6 _ (il1 t W1 3 (by omega)) (by omega))
  have HK3 := Lib.hid (fun (W1 : World) => sink_is t k3 h3 W1 (by omega))
  have HK4 := Lib.hid (fun (W1 : World) => pool_is t k4 h4 W1 (by omega))
  have H3 := Lib.hid (And.intro hb3 (And.intro r4 hs3))
  have HW := Lib.hid hW3
  obtain ⟨N, hN⟩ : ∃ N, N = amT R 4 := ⟨_, rfl⟩
  rw [← hN] at HEa ⊢
  clear hT ht h1 h3 h4 h6 hR hsum HU hW3 hb3 hs3 r4 hTot hN
  go_enter Try.func27, Try.ntmps27
  go_upto_region 5 with (go_at_call 91; refine (HT.out _).mono ?_; rintro e w1 ⟨rfl, rfl⟩)
  rw [← HW.out]
  clear HW
  go_upto_region 6 with (first
    | (go_at_call 92; with_reducible refine (HEa.out _ B7.out).mono ?_; rintro e w8 ⟨rfl, ht8, hc8⟩; have H8 := Lib.hid (And.intro ht8 ((Touch.of_below (F := [w.heap.size + 1, w.heap.size + 1 + 1]) (B7.out.alloc B7.out.size (.cells #[.string k1, .string k3, .string k4, .string k6] 9))).trans (fun _ hk => .inl hk) hc8)); clear ht8 hc8)
    | (go_at_call 72; have g5 := B6; clear g5; with_reducible refine (HK6.out _).mono ?_; rintro e w7 ⟨rfl, hb7⟩; have hbx := B6.out.alloc B6.out.size (.cells #[.int .i64 t] 3); have B7 := Lib.hid (hbx.trans (hb7.mono hbx.size)); clear hb7 hbx)
    | (go_at_call 96; with_reducible refine (HK4.out _).mono ?_; rintro e w6 ⟨rfl, hb6⟩; have B6 := Lib.hid (B5.out.trans (hb6.mono B5.out.size)); clear hb6)
    | (go_at_call 95; with_reducible refine (HK3.out _).mono ?_; rintro e w5 ⟨rfl, hb5⟩; have B5 := Lib.hid (B4.out.trans (hb5.mono B4.out.size)); clear hb5)
    | (go_at_call 72; with_reducible refine (HK1.out _).mono ?_; rintro e w4 ⟨rfl, hb4⟩; have hbx := (Below.refl W3.heap.size W3).alloc (Nat.le_refl _) (.cells #[.int .i64 t] 3); have B4 := Lib.hid (hbx.trans (hb4.mono hbx.size)); clear hb4 hbx))
  have hb8 : Below w.heap.size w w8 := by
    have hsz := H3.out.2.2
    have hx := H8.out.2.below (n := w.heap.size) (fun k hk => by rcases List.mem_cons.1 hk with rfl | hk; omega; rcases List.mem_cons.1 hk with rfl | hk; omega; cases hk) H3.out.1.size
    exact H3.out.1.trans hx
  have hr4 : w8.heap[w.heap.size]? = some (.cells #[.int .u64 0, .int .u64 0, .int .u64 0, .int .u64 0] 52 (0, 0)) :=
    (H8.out.2.block _ (hp_lt H3.out.2.1) (by simp; omega)).trans H3.out.2.1
  have H9 := Lib.hid (And.intro hr4 hb8)
  have hT8 := H8.out.1
  have c0 := (hp_cell (i := 0) hT8.s).trans rfl
  have c1 := (hp_cell (i := 1) hT8.s).trans rfl
  have c2 := (hp_cell (i := 2) hT8.s).trans rfl
  have c3 := (hp_cell (i := 3) hT8.s).trans rfl
  have c7 := (hp_cell (i := 0) hT8.f).trans rfl
  have d0 := (hp_cell (i := 0) hr4).trans rfl
  have d1 := (hp_cell (i := 1) hr4).trans rfl
  have d2 := (hp_cell (i := 2) hr4).trans rfl
  have d3 := (hp_cell (i := 3) hr4).trans rfl
  have f0 := hp_free (i := 0) hr4
  have f1 := hp_free (i := 1) hr4
  have f2 := hp_free (i := 2) hr4
  have f3 := hp_free (i := 3) hr4
  clear hT8 hr4 hb8
  go_region
  all_goals go_wp2
  all_goals obtain ⟨e0, e1, e2, e3⟩ := (((arr_zero H9.out.1).put4 (n := N)).drew).cells4
  all_goals exact bodyPost_ret (v := .tuple #[.agg #[.int .u64 (limb N 0 : Nat), .int .u64 (limb N 1 : Nat), .int .u64 (limb N 2 : Nat), .int .u64 (limb N 3 : Nat)], .bool true]) (by simp [results, Try.results27, go_sem, e0, e1, e2, e3]) rfl ⟨rfl, (below_set4 H9.out.2 (Nat.le_refl _)).drew⟩
end Go.Proofs.Ytffipojlpdphiaa

namespace Go.Proofs.Ytffipojlpdphiaa
open Go.RowKit Go.Maps Go.Sort

theorem u8_inj {a b : Nat} (ha : a < 256) (hb : b < 256) (h : UInt8.ofNat a = UInt8.ofNat b) : a = b := by
  have := congrArg UInt8.toNat h
  simpa [Nat.mod_eq_of_lt ha, Nat.mod_eq_of_lt hb] using this
theorem kdata {t : Nat} {f : Nat → Int} {n : Nat} (h1 : 1 ≤ t) (h2 : t ≤ 255) (hf : ∀ i, i < n → 0 ≤ f i) : (keyStr t f n).data.toList = u8l (t :: tl f 0 n) := by
  rw [keyStr_yes h1 h2 hf, ← Lib.toList_data]
  exact strOfNums_u8l _
theorem tl_len8 (f : Nat → Int) : ∀ n, (tl f 0 n).length = 8 * n
  | 0 => rfl
  | n + 1 => by rw [tl_snoc, List.length_append, tl_len8 f n]; simp [kb8]; omega
theorem tl_take (f : Nat → Int) (m : Nat) : ∀ n, m ≤ n → (tl f 0 n).take (8 * m) = tl f 0 m
  | 0, h => by obtain rfl : m = 0 := by omega
               rfl
  | n + 1, h => by
    rcases Nat.lt_or_ge m (n + 1) with h1 | h1
    · rw [tl_snoc, List.take_append_of_le_length (by rw [tl_len8]; omega)]
      exact tl_take f m n (by omega)
    · obtain rfl : m = n + 1 := by omega
      rw [List.take_of_length_le (by rw [tl_len8]; omega)]
theorem tl_inj {f g : Nat → Int} {n : Nat} (hf : ∀ i, i < n → 0 ≤ f i ∧ f i < 2 ^ 63) (hg : ∀ i, i < n → 0 ≤ g i ∧ g i < 2 ^ 63) (h : u8l (tl f 0 n) = u8l (tl g 0 n)) : ∀ i, i < n → f i = g i := by
  intro i hi
  have h1 := chunk_tl (v := ⟨(u8l (tl f 0 n)).toArray⟩) (f := f) (n := n) rfl hi (hf i hi).2
  have h2 := chunk_tl (v := ⟨(u8l (tl f 0 n)).toArray⟩) (f := g) (n := n) h hi (hg i hi).2
  have := (hf i hi).1
  have := (hg i hi).1
  omega
theorem tl_congr {f g : Nat → Int} : ∀ {n : Nat}, (∀ i, i < n → f i = g i) → tl f 0 n = tl g 0 n
  | 0, _ => rfl
  | n + 1, h => by rw [tl_snoc, tl_snoc, tl_congr (fun i hi => h i (by omega)), Nat.zero_add, h n (by omega)]
/-- one key begins with another, of fewer numbers -/
theorem key_prefix {t s : Nat} {f g : Nat → Int} {n m : Nat} (ht : 1 ≤ t ∧ t ≤ 255) (hs : 1 ≤ s ∧ s ≤ 255) (hf : ∀ i, i < n → 0 ≤ f i ∧ f i < 2 ^ 63) (hg : ∀ i, i < m → 0 ≤ g i ∧ g i < 2 ^ 63) (hmn : m ≤ n) (v : ByteArray) :
    hpre (keyStr s g m) (keyStr t f n, v) = true ↔ t = s ∧ ∀ i, i < m → f i = g i := by
  unfold hpre Lib.hasPrefix
  rw [kdata ht.1 ht.2 (fun i hi => (hf i hi).1), kdata hs.1 hs.2 (fun i hi => (hg i hi).1), List.isPrefixOf_iff_prefix, List.prefix_iff_eq_take]
  have e : (u8l (t :: tl f 0 n)).take (u8l (s :: tl g 0 m)).length = UInt8.ofNat t :: u8l (tl f 0 m) := by
    have hl : (u8l (s :: tl g 0 m)).length = 8 * m + 1 := by simp [u8l, tl_len8]
    rw [hl]
    show (UInt8.ofNat t :: u8l (tl f 0 n)).take (8 * m + 1) = _
    rw [List.take_succ_cons]
    unfold u8l
    rw [← List.map_take, tl_take f m n hmn]
  rw [e]
  show UInt8.ofNat s :: u8l (tl g 0 m) = UInt8.ofNat t :: u8l (tl f 0 m) ↔ _
  constructor
  · intro h
    injection h with h1 h2
    exact ⟨(u8_inj (by omega) (by omega) h1).symm, fun i hi => (tl_inj (fun i hi => hg i hi) (fun i hi => hf i (by omega)) h2 i hi).symm⟩
  · rintro ⟨rfl, h⟩
    rw [tl_congr h]
theorem key_size {t : Nat} {f : Nat → Int} {n : Nat} (ht : 1 ≤ t ∧ t ≤ 255) (hf : ∀ i, i < n → 0 ≤ f i) : (keyStr t f n).size = 8 * n + 1 := by
  have h := congrArg List.length (kdata ht.1 ht.2 hf)
  have e : (u8l (t :: tl f 0 n)).length = 8 * n + 1 := by simp [u8l, tl_len8]
  rw [e] at h
  simpa using h
theorem key_ne {t : Nat} {f : Nat → Int} {n : Nat} (ht : 1 ≤ t ∧ t ≤ 255) (hf : ∀ i, i < n → 0 ≤ f i) : keyStr t f n ≠ ⟨#[]⟩ := by
  intro e
  have := key_size ht hf
  rw [e] at this
  have h0 : (⟨#[]⟩ : ByteArray).size = 0 := rfl
  omega
theorem key_inj {t s : Nat} {f g : Nat → Int} {n m : Nat} (ht : 1 ≤ t ∧ t ≤ 255) (hs : 1 ≤ s ∧ s ≤ 255) (hf : ∀ i, i < n → 0 ≤ f i ∧ f i < 2 ^ 63) (hg : ∀ i, i < m → 0 ≤ g i ∧ g i < 2 ^ 63) (h : keyStr t f n = keyStr s g m) :
    t = s ∧ n = m ∧ ∀ i, i < n → f i = g i := by
  have hsz := congrArg ByteArray.size h
  rw [key_size ht (fun i hi => (hf i hi).1), key_size hs (fun i hi => (hg i hi).1)] at hsz
  obtain rfl : n = m := by omega
  have hp := (key_prefix ht hs hf hg (Nat.le_refl _) ⟨#[]⟩).1 (by rw [h]; unfold hpre Lib.hasPrefix; rw [List.isPrefixOf_iff_prefix]; exact List.prefix_rfl)
  exact ⟨hp.1, rfl, hp.2⟩
/-! ### sums -/
/-- the sum of the amounts whose keys begin with x -/
def sumU (L : SL) (x : ByteArray) : Nat := amS (L.filter (hpre x))
theorem sumU_under {L : SL} (hr : Rising (skeys L)) (x : ByteArray) : amS (under L x) = sumU L x := by rw [under_filter hr]; rfl
theorem amS_app (a b : SL) : amS (a ++ b) = amS a + amS b := by simp [amS]
theorem sumU_app (a b : SL) (x : ByteArray) : sumU (a ++ b) x = sumU a x + sumU b x := by unfold sumU; rw [List.filter_append, amS_app]
theorem sumU_one (p : ByteArray × ByteArray) (x : ByteArray) : sumU [p] x = if hpre x p = true then fbv p.2 else 0 := by
  unfold sumU
  by_cases h : hpre x p = true
  · rw [if_pos h, List.filter_cons, if_pos h]; simp [amS]
  · rw [if_neg h, List.filter_cons, if_neg h]; simp [amS]
/-- the amount at a key, whatever stands there -/
def amt (L : SL) (k : ByteArray) : Nat := fbv ((sget L k).getD ⟨#[]⟩)
theorem fbv_nil : fbv ⟨#[]⟩ = 0 := by decide
theorem fbv_lt (s : ByteArray) : fbv s < 2 ^ 256 := by
  unfold fbv
  split
  · exact bnum_lt (sb_lt s) 32
  · decide
theorem amt_lt (L : SL) (k : ByteArray) : amt L k < 2 ^ 256 := fbv_lt _
theorem hpre_key (x k v v' : ByteArray) : hpre x (k, v) = hpre x (k, v') := rfl
/-- the list, parted at a key that stands there or not -/
theorem sumU_parts {L : SL} (hr : Rising (skeys L)) (k x : ByteArray) : sumU L x = sumU (L.take (klo (skeys L) k)) x + (if hpre x (k, ⟨#[]⟩) = true then amt L k else 0) + sumU (L.drop (if (sget L k).isSome = true then klo (skeys L) k + 1 else klo (skeys L) k)) x := by
  cases hs : (sget L k).isSome with
  | false =>
    have h0 : amt L k = 0 := by
      unfold amt
      have hn : sget L k = none := by
        cases h : sget L k with
        | none => rfl
        | some _ => rw [h] at hs; cases hs
      rw [hn]
      exact fbv_nil
    rw [h0]
    simp only [Bool.false_eq_true, if_false, ite_self, Nat.add_zero]
    rw [← sumU_app, List.take_append_drop]
  | true =>
    obtain ⟨h1, h2, h3⟩ := sdel_parts k L hr hs
    simp only [if_true]
    generalize hK : klo (skeys L) k = K at *
    have hk : (L[K]).1 = k := by
      unfold skeys at h2
      rw [List.getElem?_map, List.getElem?_eq_getElem h1] at h2
      exact Option.some.inj h2
    have hv : sget L k = some (L[K]).2 := by
      have := sget_at L hr _ h1
      rwa [hk] at this
    have ha : amt L k = fbv (L[K]).2 := by unfold amt; rw [hv]; rfl
    conv => lhs; rw [← List.take_append_drop K L, List.drop_eq_getElem_cons h1]
    rw [sumU_app, show (L[K] :: L.drop (K + 1)) = [L[K]] ++ L.drop (K + 1) from rfl, sumU_app, sumU_one, ha, ← Nat.add_assoc]
    congr 3
    unfold hpre
    rw [hk]
theorem sumU_sset {L : SL} (hr : Rising (skeys L)) (k v x : ByteArray) : sumU (sset L k v) x + (if hpre x (k, ⟨#[]⟩) = true then amt L k else 0) = sumU L x + (if hpre x (k, ⟨#[]⟩) = true then fbv v else 0) := by
  rw [sumU_parts hr k x, sset_parts hr, sumU_app, sumU_app, sumU_one, hpre_key x k v ⟨#[]⟩]
  simp only
  omega
theorem sumU_sdel {L : SL} (hr : Rising (skeys L)) (k x : ByteArray) : sumU (sdel L k) x + (if hpre x (k, ⟨#[]⟩) = true then amt L k else 0) = sumU L x := by
  rw [sumU_parts hr k x, sdel_parts2 hr, sumU_app]
  omega
theorem sumU_setA {L : SL} (hr : Rising (skeys L)) (k x : ByteArray) (a : Nat) (ha : a < 2 ^ 256) : sumU (setA L k a) x + (if hpre x (k, ⟨#[]⟩) = true then amt L k else 0) = sumU L x + (if hpre x (k, ⟨#[]⟩) = true then a else 0) := by
  unfold setA
  by_cases h0 : a = 0
  · rw [if_pos h0, sumU_sdel hr, h0]
    simp
  · rw [if_neg h0]
    unfold setL
    by_cases hs : sget L k = some (amtStr a)
    · rw [if_pos hs]
      have : amt L k = a := by unfold amt; rw [hs]; exact amt_fbv a ha
      rw [this]
    · rw [if_neg hs, sumU_sset hr, amt_fbv a ha]
theorem amt_setA (L : SL) (k k' : ByteArray) (a : Nat) (ha : a < 2 ^ 256) : amt (setA L k a) k' = if k' = k then a else amt L k' := by
  unfold setA amt
  by_cases h0 : a = 0
  · rw [if_pos h0, sget_sdel]
    by_cases hk : k' = k
    · rw [if_pos hk, if_pos hk, h0]; exact fbv_nil
    · rw [if_neg hk, if_neg hk]
  · rw [if_neg h0, sget_setL]
    by_cases hk : k' = k
    · rw [if_pos hk, if_pos hk]; exact amt_fbv a ha
    · rw [if_neg hk, if_neg hk]
theorem setA_le (L : SL) (k : ByteArray) (a : Nat) : (setA L k a).length ≤ L.length + 1 := by
  unfold setA
  split
  · have : (sdel L k).length ≤ L.length := List.length_filter_le _ _
    omega
  · exact setL_len _ _ _
theorem rising_setA {L : SL} (hr : Rising (skeys L)) (k : ByteArray) (a : Nat) : Rising (skeys (setA L k a)) := by
  unfold setA
  split
  · exact rising_sdel hr
  · unfold setL
    split
    · exact hr
    · exact rising_sset hr k _
theorem sget_setA (L : SL) (k k' : ByteArray) (a : Nat) : sget (setA L k a) k' = if k' = k then (if a = 0 then none else some (amtStr a)) else sget L k' := by
  unfold setA
  by_cases h0 : a = 0
  · rw [if_pos h0, if_pos h0, sget_sdel]
  · rw [if_neg h0, if_neg h0, sget_setL]
theorem mem_setA {L : SL} {k : ByteArray} {a : Nat} {p : ByteArray × ByteArray} (hr : Rising (skeys L)) (h : p ∈ setA L k a) : p ∈ L ∨ (p = (k, amtStr a) ∧ a ≠ 0) := by
  unfold setA at h
  by_cases h0 : a = 0
  · rw [if_pos h0] at h
    exact .inl (List.mem_filter.1 h).1
  · rw [if_neg h0] at h
    unfold setL at h
    split at h
    · exact .inl h
    · rw [sset_parts hr] at h
      rcases List.mem_append.1 h with h | h
      · rcases List.mem_append.1 h with h | h
        · exact .inl (List.mem_of_mem_take h)
        · exact .inr ⟨by simpa using h, h0⟩
      · exact .inl (List.mem_of_mem_drop h)
theorem SzOk.setA {L : SL} (h : SzOk L) {k : ByteArray} {a : Nat} (hk : k.size ≤ maxLen) : SzOk (setA L k a) := by
  unfold Go.Proofs.Ytffipojlpdphiaa.setA
  split
  · exact h.sdel k
  · unfold setL
    split
    · exact h
    · exact h.sset hk (by rw [amtStr_size]; decide)
end Go.Proofs.Ytffipojlpdphiaa

namespace Go.Proofs.Ytffipojlpdphiaa
open Go.RowKit Go.Maps Go.Sort

abbrev kA (t a : Int) : ByteArray := keyStr 1 (two2 t a) 2
abbrev kS (t : Int) : ByteArray := keyStr 2 (fun _ => t) 1
abbrev kP (t : Int) : ByteArray := keyStr 1 (fun _ => t) 1
def okT (t : Int) : Prop := 1 ≤ t ∧ t ≤ 1000
def okA (a : Int) : Prop := 1 ≤ a ∧ a ≤ 4294967295
theorem two2_in {t a : Int} (ht : okT t) (ha : okA a) : ∀ i, i < 2 → 0 ≤ two2 t a i ∧ two2 t a i < 2 ^ 63 := by
  unfold okT at ht
  unfold okA at ha
  intro i hi
  rcases (by omega : i = 0 ∨ i = 1) with rfl | rfl
  · show 0 ≤ t ∧ t < 2 ^ 63; omega
  · show 0 ≤ a ∧ a < 2 ^ 63; omega
theorem one_in {t : Int} (ht : okT t) : ∀ i, i < 1 → 0 ≤ (fun _ : Nat => t) i ∧ (fun _ : Nat => t) i < 2 ^ 63 := by
  unfold okT at ht
  intro i _
  show 0 ≤ t ∧ t < 2 ^ 63
  omega
theorem pre_acc {t t' a : Int} (ht : okT t) (ht' : okT t') (ha : okA a) (v : ByteArray) : hpre (kP t) (kA t' a, v) = true ↔ t' = t := by
  refine (key_prefix (t := 1) (s := 1) (by omega) (by omega) (two2_in ht' ha) (one_in ht) (by omega) v).trans ⟨fun h => h.2 0 (by omega), fun h => ⟨rfl, fun i hi => ?_⟩⟩
  obtain rfl : i = 0 := by omega
  exact h
theorem pre_acc_no {s : Nat} {t t' a : Int} (hs : 1 ≤ s ∧ s ≤ 255) (h1 : s ≠ 1) (ht : okT t) (ht' : okT t') (ha : okA a) (v : ByteArray) : hpre (keyStr (s : Int) (fun _ => t) 1) (kA t' a, v) = false := by
  rw [Bool.eq_false_iff]
  intro h
  exact h1 ((key_prefix (t := 1) (s := s) (by omega) hs (two2_in ht' ha) (one_in ht) (by omega) v).1 h).1.symm
theorem pre_sup_no {s : Nat} {t t' : Int} (hs : 1 ≤ s ∧ s ≤ 255) (h1 : s ≠ 2) (ht : okT t) (ht' : okT t') (v : ByteArray) : hpre (keyStr (s : Int) (fun _ => t) 1) (kS t', v) = false := by
  rw [Bool.eq_false_iff]
  intro h
  exact h1 ((key_prefix (t := 2) (s := s) (by omega) hs (one_in ht') (one_in ht) (by omega) v).1 h).1.symm
theorem kA_inj {t t' a a' : Int} (ht : okT t) (ht' : okT t') (ha : okA a) (ha' : okA a') (h : kA t a = kA t' a') : t = t' ∧ a = a' := by
  have := (key_inj (t := 1) (s := 1) (by omega) (by omega) (two2_in ht ha) (two2_in ht' ha') h).2.2
  exact ⟨this 0 (by omega), this 1 (by omega)⟩
theorem kS_inj {t t' : Int} (ht : okT t) (ht' : okT t') (h : kS t = kS t') : t = t' := (key_inj (t := 2) (s := 2) (by omega) (by omega) (one_in ht) (one_in ht') h).2.2 0 (by omega)
theorem kS_kA {t t' a : Int} (ht : okT t) (ht' : okT t') (ha : okA a) : kS t ≠ kA t' a := fun h => by
  have := (key_inj (t := 2) (s := 1) (by omega) (by omega) (one_in ht) (two2_in ht' ha) h).1
  omega
theorem kA_ne {t a : Int} (ht : okT t) (ha : okA a) : kA t a ≠ ⟨#[]⟩ := key_ne (t := 1) (by omega) (fun i hi => (two2_in ht ha i hi).1)
theorem kS_ne {t : Int} (ht : okT t) : kS t ≠ ⟨#[]⟩ := key_ne (t := 2) (by omega) (fun i hi => (one_in ht i hi).1)
theorem kA_size (t a : Int) : (kA t a).size ≤ maxLen := by have := keyStr_size 1 (two2 t a) 2; show (keyStr 1 (two2 t a) 2).size ≤ maxLen; unfold maxLen; omega
theorem kS_size (t : Int) : (kS t).size ≤ maxLen := by have := keyStr_size 2 (fun _ => t) 1; show (keyStr 2 (fun _ => t) 1).size ≤ maxLen; unfold maxLen; omega
/-- an entry of the bank -/
def BKey (p : ByteArray × ByteArray) : Prop := (∃ t a n, okT t ∧ okA a ∧ (n < 2 ^ 256 ∧ n ≠ 0) ∧ p = (kA t a, amtStr n)) ∨ ∃ t n, okT t ∧ (n < 2 ^ 256 ∧ n ≠ 0) ∧ p = (kS t, amtStr n)
structure BM (L : SL) : Prop where
  r : Rising (skeys L)
  z : SzOk L
  sh : ∀ p ∈ L, BKey p
  inv : ∀ t, okT t → amt L (kS t) = sumU L (kP t) ∧ sumU L (kP t) ≤ MOST
theorem BM.nil : BM [] := ⟨List.Pairwise.nil, fun p hp => (by cases hp), fun p hp => (by cases hp), fun t _ => ⟨by unfold amt; exact fbv_nil, Nat.zero_le _⟩⟩
theorem sget_mem {L : SL} {k v : ByteArray} (h : sget L k = some v) : (k, v) ∈ L := by
  unfold sget at h
  cases hf : L.find? (fun p => keq p.1 k) with
  | none => rw [hf] at h; cases h
  | some p =>
    rw [hf] at h
    have h1 := List.mem_of_find?_eq_some hf
    have h2 := List.find?_some hf
    have h3 : p.2 = v := Option.some.inj h
    rw [← keq_iff.1 h2, ← h3]
    exact h1
theorem BM.at_ {L : SL} (h : BM L) (K : ByteArray) : amtAt L K (amt L K) := by
  unfold amt amtAt
  cases hs : sget L K with
  | none => exact .inl ⟨fbv_nil, rfl⟩
  | some v =>
    right
    obtain ⟨n, hn, hv⟩ : ∃ n, n < 2 ^ 256 ∧ v = amtStr n := by
      rcases h.sh _ (sget_mem hs) with ⟨t, a, n, _, _, hn, e⟩ | ⟨t, n, _, hn, e⟩
      · cases e; exact ⟨n, hn.1, rfl⟩
      · cases e; exact ⟨n, hn.1, rfl⟩
    rw [hv]
    show some (amtStr n) = some (amtStr (fbv (amtStr n)))
    rw [amt_fbv n hn]
theorem BM.some {L : SL} (h : BM L) {K v : ByteArray} (hs : sget L K = some v) : v = amtStr (amt L K) ∧ amt L K ≠ 0 := by
  obtain ⟨n, hn, hv⟩ : ∃ n, (n < 2 ^ 256 ∧ n ≠ 0) ∧ v = amtStr n := by
    rcases h.sh _ (sget_mem hs) with ⟨t, a, n, _, _, hn, e⟩ | ⟨t, n, _, hn, e⟩
    · cases e; exact ⟨n, hn, rfl⟩
    · cases e; exact ⟨n, hn, rfl⟩
  have e : amt L K = n := by unfold amt; rw [hs, hv]; exact amt_fbv n hn.1
  rw [e]
  exact ⟨hv, hn.2⟩
theorem amt_le_sumU {L : SL} (hr : Rising (skeys L)) {k x : ByteArray} (h : hpre x (k, ⟨#[]⟩) = true) : amt L k ≤ sumU L x := by
  have := sumU_setA hr k x 0 (by decide)
  rw [if_pos h, if_pos h] at this
  omega
theorem amt_two_le {L : SL} (hr : Rising (skeys L)) {k k' x : ByteArray} (hne : k' ≠ k) (h : hpre x (k, ⟨#[]⟩) = true) (h' : hpre x (k', ⟨#[]⟩) = true) : amt L k + amt L k' ≤ sumU L x := by
  have h1 := sumU_setA hr k x 0 (by decide)
  rw [if_pos h, if_pos h] at h1
  have h2 := amt_le_sumU (rising_setA hr k 0) h'
  rw [amt_setA L k k' 0 (by decide), if_neg hne] at h2
  omega
/-- what Mint leaves -/
theorem BM.mint {L : SL} (h : BM L) {t a : Int} (ht : okT t) (ha : okA a) (n : Nat) (hn : amt L (kS t) + n ≤ MOST) : BM (setA (setA L (kS t) (amt L (kS t) + n)) (kA t a) (amt L (kA t a) + n)) ∧ amt L (kA t a) + n ≤ MOST ∧ amt (setA L (kS t) (amt L (kS t) + n)) (kA t a) = amt L (kA t a) := by
  have hm := MOST_lt
  have hi := h.inv t ht
  have hb : amt L (kA t a) ≤ sumU L (kP t) := amt_le_sumU h.r ((pre_acc ht ht ha _).2 rfl)
  have hB : amt L (kA t a) + n ≤ MOST := by omega
  have hSn : amt L (kS t) + n < 2 ^ 256 := by omega
  have hBn : amt L (kA t a) + n < 2 ^ 256 := by omega
  obtain ⟨S, eS⟩ : ∃ S, S = amt L (kS t) := ⟨_, rfl⟩
  obtain ⟨B, eB⟩ : ∃ B, B = amt L (kA t a) := ⟨_, rfl⟩
  rw [← eS] at hn hSn hi ⊢
  rw [← eB] at hB hBn hb ⊢
  have hr1 := rising_setA h.r (kS t) (S + n)
  have e1 : amt (setA L (kS t) (S + n)) (kA t a) = B := by rw [amt_setA _ _ _ _ hSn, if_neg (fun e => kS_kA ht ht ha e.symm), eB]
  refine ⟨⟨rising_setA hr1 _ _, (h.z.setA (kS_size t)).setA (kA_size t a), fun p hp => ?_, fun t' ht' => ?_⟩, hB, e1⟩
  · rcases mem_setA hr1 hp with hp | ⟨rfl, h9⟩
    · rcases mem_setA h.r hp with hp | ⟨rfl, h0⟩
      · exact h.sh p hp
      · exact .inr ⟨t, S + n, ht, ⟨hSn, h0⟩, rfl⟩
    · exact .inl ⟨t, a, B + n, ht, ha, ⟨hBn, h9⟩, rfl⟩
  · have s1 := sumU_setA h.r (kS t) (kP t') (S + n) hSn
    have hq : hpre (kP t') (kS t, ⟨#[]⟩) = false := pre_sup_no (s := 1) (by omega) (by omega) ht' ht _
    rw [if_neg (by rw [hq]; decide), if_neg (by rw [hq]; decide)] at s1
    have s2 := sumU_setA hr1 (kA t a) (kP t') (B + n) hBn
    rw [e1] at s2
    have hi' := h.inv t' ht'
    rw [amt_setA _ _ _ _ hBn, if_neg (kS_kA ht' ht ha), amt_setA _ _ _ _ hSn]
    by_cases e : t = t'
    · subst e
      have hp := (pre_acc (v := ⟨#[]⟩) ht ht ha).2 rfl
      rw [if_pos hp, if_pos hp] at s2
      rw [if_pos rfl]
      omega
    · have hp : ¬ hpre (kP t') (kA t a, ⟨#[]⟩) = true := fun hh => e ((pre_acc ht' ht ha _).1 hh)
      rw [if_neg hp, if_neg hp] at s2
      rw [if_neg (fun hh => e (kS_inj ht' ht hh).symm)]
      omega
/-- what Pay leaves -/
theorem BM.pay {L : SL} (h : BM L) {t a c : Int} (ht : okT t) (ha : okA a) (hc : okA c) (hne : a ≠ c) (n : Nat) (hn : n ≤ amt L (kA t a)) :
    BM (setA (setA L (kA t c) (amt L (kA t c) + n)) (kA t a) (amt L (kA t a) - n)) ∧ amt L (kA t c) + n ≤ MOST ∧ amt (setA L (kA t c) (amt L (kA t c) + n)) (kA t a) = amt L (kA t a) ∧
      setA (setA L (kA t a) (amt L (kA t a) - n)) (kA t c) (amt L (kA t c) + n) = setA (setA L (kA t c) (amt L (kA t c) + n)) (kA t a) (amt L (kA t a) - n) := by
  have hm := MOST_lt
  have hi := h.inv t ht
  have hk : kA t c ≠ kA t a := fun e => hne (kA_inj ht ht hc ha e).2.symm
  have h2 := amt_two_le h.r hk ((pre_acc ht ht ha ⟨#[]⟩).2 rfl) ((pre_acc ht ht hc ⟨#[]⟩).2 rfl)
  have hX := amt_lt L (kA t a)
  obtain ⟨X, eX⟩ : ∃ X, X = amt L (kA t a) := ⟨_, rfl⟩
  obtain ⟨Y, eY⟩ : ∃ Y, Y = amt L (kA t c) := ⟨_, rfl⟩
  rw [← eX] at hn h2 hX ⊢
  rw [← eY] at h2 ⊢
  have hYn : Y + n ≤ MOST := by omega
  have hY2 : Y + n < 2 ^ 256 := by omega
  have hX2 : X - n < 2 ^ 256 := by omega
  have hr1 := rising_setA h.r (kA t c) (Y + n)
  have e1 : amt (setA L (kA t c) (Y + n)) (kA t a) = X := by rw [amt_setA _ _ _ _ hY2, if_neg (fun e => hk e.symm), eX]
  refine ⟨⟨rising_setA hr1 _ _, (h.z.setA (kA_size t c)).setA (kA_size t a), fun p hp => ?_, fun t' ht' => ?_⟩, hYn, e1, ?_⟩
  · rcases mem_setA hr1 hp with hp | ⟨rfl, h9⟩
    · rcases mem_setA h.r hp with hp | ⟨rfl, h0⟩
      · exact h.sh p hp
      · exact .inl ⟨t, c, Y + n, ht, hc, ⟨hY2, h0⟩, rfl⟩
    · exact .inl ⟨t, a, X - n, ht, ha, ⟨hX2, h9⟩, rfl⟩
  · have s1 := sumU_setA h.r (kA t c) (kP t') (Y + n) hY2
    have s2 := sumU_setA hr1 (kA t a) (kP t') (X - n) hX2
    rw [e1] at s2
    rw [← eY] at s1
    have hi' := h.inv t' ht'
    rw [amt_setA _ _ _ _ hX2, if_neg (kS_kA ht' ht ha), amt_setA _ _ _ _ hY2, if_neg (kS_kA ht' ht hc)]
    by_cases e : t = t'
    · subst e
      have hp := (pre_acc (v := ⟨#[]⟩) ht ht ha).2 rfl
      have hp2 := (pre_acc (v := ⟨#[]⟩) ht ht hc).2 rfl
      rw [if_pos hp, if_pos hp] at s2
      rw [if_pos hp2, if_pos hp2] at s1
      omega
    · have hp : ¬ hpre (kP t') (kA t a, ⟨#[]⟩) = true := fun hh => e ((pre_acc ht' ht ha _).1 hh)
      have hp2 : ¬ hpre (kP t') (kA t c, ⟨#[]⟩) = true := fun hh => e ((pre_acc ht' ht hc _).1 hh)
      rw [if_neg hp, if_neg hp] at s2
      rw [if_neg hp2, if_neg hp2] at s1
      omega
  · refine sl_ext _ _ (rising_setA (rising_setA h.r _ _) _ _) (rising_setA hr1 _ _) fun k => ?_
    rw [sget_setA, sget_setA, sget_setA, sget_setA]
    by_cases h1 : k = kA t c
    · rw [if_pos h1, if_neg (fun e => hk (h1.symm.trans e)), if_pos h1]
    · rw [if_neg h1, if_neg h1]
/-- the sum of the four tables is that of the accounts -/
theorem filter_no {L : SL} {x : ByteArray} (h : ∀ p ∈ L, hpre x p = false) : L.filter (hpre x) = [] := List.filter_eq_nil_iff.2 fun p hp hh => by rw [h p hp] at hh; cases hh
theorem BM.no {L : SL} (h : BM L) {s : Nat} {t : Int} (hs : 1 ≤ s ∧ s ≤ 255) (h1 : s ≠ 1) (h2 : s ≠ 2) (ht : okT t) : L.filter (hpre (keyStr (s : Int) (fun _ => t) 1)) = [] := by
  refine filter_no fun p hp => ?_
  rcases h.sh p hp with ⟨t', a, n, ht', ha, _, rfl⟩ | ⟨t', n, ht', _, rfl⟩
  · exact pre_acc_no hs h1 ht ht' ha _
  · exact pre_sup_no hs h2 ht ht' _
theorem BM.total {L : SL} (h : BM L) {t : Int} (ht : okT t) : amT (fun i => L.filter (hpre (bgs (keyStr 1 (fun _ => t) 1) (keyStr 3 (fun _ => t) 1) (keyStr 4 (fun _ => t) 1) (keyStr 6 (fun _ => t) 1) i))) 4 = sumU L (kP t) := by
  show 0 + amS (L.filter (hpre (keyStr 1 (fun _ => t) 1))) + amS (L.filter (hpre (keyStr 3 (fun _ => t) 1))) + amS (L.filter (hpre (keyStr 4 (fun _ => t) 1))) + amS (L.filter (hpre (keyStr 6 (fun _ => t) 1))) = _
  have e3 : L.filter (hpre (keyStr 3 (fun _ => t) 1)) = [] := h.no (s := 3) (by omega) (by omega) (by omega) ht
  have e4 : L.filter (hpre (keyStr 4 (fun _ => t) 1)) = [] := h.no (s := 4) (by omega) (by omega) (by omega) ht
  have e6 : L.filter (hpre (keyStr 6 (fun _ => t) 1)) = [] := h.no (s := 6) (by omega) (by omega) (by omega) ht
  rw [e3, e4, e6]
  show 0 + sumU L (kP t) + 0 + 0 + 0 = _
  omega
end Go.Proofs.Ytffipojlpdphiaa
