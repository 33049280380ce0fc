/- The laws of layer 11: light of any row of pushes; what a checkpoint's keys are. -/
import Derived.Test.YtedkhpnlhkjjgaaG30
import Derived.Test.YtedkhpnlhkjjgaaG25
import Derived.Deep.Cut
import Derived.Deep.CutBlock
import Derived.Test.YtedkhpnlhkjjgaaG28
namespace Go.Proofs.Ytedkhpnlhkjjgaa
open Go.RowKit Go.Maps Go.Sort

set_option maxRecDepth 100000 in
set_option maxHeartbeats 1000000 in
/-- light of any row of acts -/
theorem light11_rows (A : Option Addr) (N C : Nat) (A0 : Nat → Option Addr) (k0 c0 : Nat → Nat) (x1 : Nat → Int) (a2 : Nat → Nat) (w : World) (hr : RowsV w A N 6 (fun i => [.slice (A0 i) (k0 i) (c0 i), .int .i64 (x1 i), .int .u64 (limb (a2 i) 0 : Nat), .int .u64 (limb (a2 i) 1 : Nat), .int .u64 (limb (a2 i) 2 : Nat), .int .u64 (limb (a2 i) 3 : Nat)])) (hN : (N : Int) ≤ 9223372036854775807) (hk : ∀ i, i < N → (k0 i : Int) ≤ 9223372036854775807)
    (B : Bool) (hB : B = true ↔ N ≤ 100 ∧ ∀ i, i < N → k0 i ≤ 5) :
    Calls Try.prog 11 #[.slice A N C] w fun e w' => e = .returned (.bool B) ∧ Below w.heap.size w w' := by
  have HB := Lib.hid hB
  have HR := Lib.hid hr
  have HK := Lib.hid hk
  clear hB hr hk
  by_cases h1 : N ≤ 100
  · have p1 : ¬ (100 : Int) < (N : Int) := by omega
    have h1' : (N : Int) ≤ 100 := by omega
    go_enter Try.func11, Try.ntmps11
    go_wp2
    go_loopw [10] (fun i wr => ∃ j : Nat, j ≤ N ∧ i = .int .i64 (j : Nat) ∧ Below w.heap.size w wr ∧ ∀ t, t < j → k0 t ≤ 5) (fun i _ => N - (intOf i).toNat)
    case atStart => exact ⟨0, by omega, rfl, Below.refl _ _, fun t h => absurd h (by omega)⟩
    case round =>
      obtain ⟨j, hj, rfl, hb, h5⟩ := hrel
      have HBl := Lib.hid hb
      have H5 := Lib.hid h5
      by_cases hlt : j < N
      · have p2 : (j : Int) < (N : Int) := by omega
        obtain ⟨g, o, rfl, hg, hc⟩ := (HR.out.below hb) (by omega)
        have d0 := hc j hlt 0 _ rfl
        have d1 := hc j hlt 1 _ rfl
        have d2 := hc j hlt 2 _ rfl
        have d3 := hc j hlt 3 _ rfl
        have d4 := hc j hlt 4 _ rfl
        have d5 := hc j hlt 5 _ rfl
        simp only [Nat.add_zero] at d0
        have hkj := HK.out j hlt
        obtain ⟨kj, ekj⟩ : ∃ z, z = k0 j := ⟨_, rfl⟩
        rw [← ekj] at d0 hkj
        have HE := Lib.hid ekj
        clear hb h5 hc ekj
        by_cases hn5 : kj ≤ 5
        · have p3 : ¬ (5 : Int) < (kj : Int) := by omega
          go_wp2
          exact ⟨⟨j + 1, by omega, by go_num, HBl.out.alloc HBl.out.size _, fun t ht => by
            rcases (by omega : t < j ∨ t = j) with h | rfl
            · exact H5.out t h
            · rw [← HE.out]; exact hn5⟩, by simp [intOf]; omega⟩
        · have p3 : (5 : Int) < (kj : Int) := by omega
          have e0 : B = false := by
            cases hBv : B with
            | false => rfl
            | true => exact absurd ((HB.out.1 hBv).2 j hlt) (by rw [← HE.out]; exact hn5)
          subst e0
          go_wp2
          go_ret
          exact ⟨rfl, HBl.out.alloc HBl.out.size _⟩
      · obtain rfl : j = N := by omega
        have e0 : B = true := HB.out.2 ⟨h1, H5.out⟩
        subst e0
        clear hb h5
        go_wp2
        go_ret
        exact ⟨rfl, HBl.out⟩
  · have p1 : (100 : Int) < (N : Int) := by omega
    have e0 : B = false := by
      cases hBv : B with
      | false => rfl
      | true => exact absurd (HB.out.1 hBv).1 h1
    subst e0
    go_enter Try.func11, Try.ntmps11
    go_wp2
    go_ret
    exact ⟨rfl, Below.refl _ _⟩
/-- the history of the laws: table 9, id [1] -/
def hK0 : ByteArray := keyStr 9 (fun _ => 1) 1
def hKp (k : Int) : ByteArray := keyStr 9 (icat (fun _ => 1) 1 fun _ => k) (1 + 1)
theorem hKp_last : ∀ k : Fin 128, (hKp (k.val : Int)).size = 17 ∧ (hKp (k.val : Int)).get! 16 = UInt8.ofNat k.val := by decide +kernel
theorem hKeysOk : KeysOk hK0 hKp := by
  have e0 : hK0.size = 9 := by decide +kernel
  have en : hKp (-1) = ⟨#[]⟩ := by decide +kernel
  refine ⟨⟨by rw [e0]; decide, fun e => by rw [e] at e0; exact absurd e0 (by decide)⟩, fun k hk => ?_, ⟨by rw [en]; decide, by rw [en]; intro e; rw [← e] at e0; exact absurd e0 (by decide)⟩, fun j k hj hk he => ?_⟩
  · have h := (hKp_last ⟨k, hk⟩).1
    simp only at h
    refine ⟨by rw [h]; decide, fun e => ?_, fun e => ?_, fun e => ?_⟩
    · rw [e] at h; exact absurd h (by decide)
    · rw [e, e0] at h; exact absurd h (by decide)
    · rw [e, en] at h; exact absurd h (by decide)
  · have h1 := (hKp_last ⟨j, hj⟩).2
    have h2 := (hKp_last ⟨k, hk⟩).2
    simp only at h1 h2
    rw [he, h2] at h1
    have := congrArg UInt8.toNat h1
    simp at this
    omega
end Go.Proofs.Ytedkhpnlhkjjgaa

namespace Go.Proofs.Ytedkhpnlhkjjgaa
open Go.RowKit Go.Maps Go.Sort

/-- what the law's variables say, beside the checkpoints -/
structure HtI (m : Nat) (rx ra : Nat → Nat) (blk : Int) (wv nv : Nat) (th so : Bool) (last : Int) : Prop where
  at_ : AtR m rx ra blk wv th
  hso : so = decide (0 < m)
  hnv : 0 < m → nv = ra (m - 1)
  hlast : last = if m = 0 then 0 else (rx (m - 1) : Int)
  bw : wv < 2 ^ 256
  bn : nv < 2 ^ 256
theorem HtI.start (rx ra : Nat → Nat) (blk : Int) : HtI 0 rx ra blk 0 0 false false 0 :=
  ⟨.inl ⟨rfl, rfl, fun j h => absurd h (by omega)⟩, rfl, fun h => absurd h (by omega), rfl, by decide, by decide⟩
theorem HtI.bad {m : Nat} {rx ra : Nat → Nat} {blk : Int} {wv nv : Nat} {th so : Bool} {last p : Int} {a : Nat} {r : Int} {m' : Nat} {rx' ra' : Nat → Nat} (h : HtI m rx ra blk wv nv th so last) (hp : PushR m rx ra p a r m' rx' ra') (hr : r ≠ 0) :
    m' = m ∧ rx' = rx ∧ ra' = ra ∧ ¬ (last ≤ p ∧ p ≤ 1099511627776) ∧ (r = 2 ∨ r = 10) := by
  have hl := h.hlast
  rcases hp with ⟨h1, h2, h3, h4, h5⟩ | ⟨hb, ⟨h1, h2, h3, h4, h5, h6⟩ | ⟨h1, _⟩ | ⟨h1, _⟩ | ⟨h1, _⟩⟩
  · refine ⟨h3, h4, h5, fun hh => ?_, .inl h1⟩
    have : 0 ≤ last := by rw [hl]; split <;> omega
    omega
  · refine ⟨h4, h5, h6, fun hh => ?_, .inr h1⟩
    rw [if_neg (by omega)] at hl
    omega
  · exact absurd h1 hr
  · exact absurd h1 hr
  · exact absurd h1 hr
theorem HtI.ok {m : Nat} {rx ra : Nat → Nat} {blk : Int} {wv nv : Nat} {th so : Bool} {last p : Int} {a : Nat} {m' : Nat} {rx' ra' : Nat → Nat} (h : HtI m rx ra blk wv nv th so last) (hp : PushR m rx ra p a 0 m' rx' ra') (ha : a < 2 ^ 256) (hinc : ∀ j k, j < k → k < m → rx j < rx k) :
    (last ≤ p ∧ p ≤ 1099511627776) ∧ m' ≤ m + 1 ∧ HtI m' rx' ra' blk (if p ≤ blk then a else wv) a (if p ≤ blk then true else th) true (if so = false ∨ a ≠ nv ∨ p = last then p else last) := by
  have hl := h.hlast
  have hso := h.hso
  have hat : AtR m rx ra blk wv th := h.at_
  have bwv : (if p ≤ blk then a else wv) < 2 ^ 256 := by split; exact ha; exact h.bw
  rcases hp with ⟨h1, _⟩ | ⟨hb, ⟨h1, _⟩ | ⟨_, h2, h3, h4, rfl, rfl, rfl⟩ | ⟨_, h2, h3, rfl, rfl, rfl⟩ | ⟨_, h2, rfl, rfl, rfl⟩⟩
  · omega
  · omega
  · -- it stays
    rw [if_neg (by omega)] at hl
    refine ⟨by omega, by omega, ⟨?_, by simp; omega, fun _ => h4.symm, ?_, bwv, ha⟩⟩
    · by_cases hpb : p ≤ blk
      · rw [if_pos hpb, if_pos hpb]
        exact .inr ⟨m' - 1, by omega, rfl, h4.symm, by omega, fun j hj hjm => absurd hj (by omega)⟩
      · rw [if_neg hpb, if_neg hpb]; exact hat
    · rw [if_neg (by omega : ¬ m' = 0)]
      have e1 : nv = a := by rw [h.hnv h2]; exact h4
      have e2 : so = true := by rw [hso]; simp; omega
      rw [if_neg (by rw [e1, e2]; simp; omega)]
      exact hl
  · -- the last one once more
    rw [if_neg (by omega)] at hl
    refine ⟨by omega, by omega, ⟨?_, by simp; omega, fun _ => by unfold updN; rw [if_pos rfl], ?_, bwv, ha⟩⟩
    · by_cases hpb : p ≤ blk
      · rw [if_pos hpb, if_pos hpb]
        exact .inr ⟨m' - 1, by omega, rfl, by unfold updN; rw [if_pos rfl], by omega, fun j hj hjm => absurd hj (by omega)⟩
      · rw [if_neg hpb, if_neg hpb]
        rcases hat with hh | ⟨k, k1, k2, k3, k4, k5⟩
        · exact .inl hh
        · have hk : k ≠ m' - 1 := fun e => by rw [e] at k4; omega
          exact .inr ⟨k, k1, k2, by unfold updN; rw [if_neg hk]; exact k3, k4, k5⟩
    · rw [if_neg (by omega : ¬ m' = 0), if_pos (.inr (.inr (by omega)))]
      omega
  · -- one more
    have hlast : last ≤ p := by
      rw [hl]
      split
      · exact hb.1
      · rcases h2 with h2 | ⟨h2, _⟩
        · omega
        · omega
    refine ⟨⟨hlast, hb.2⟩, Nat.le_refl _, ⟨?_, by simp, fun _ => by unfold updN; rw [if_pos (by omega)], ?_, bwv, ha⟩⟩
    · by_cases hpb : p ≤ blk
      · rw [if_pos hpb, if_pos hpb]
        exact .inr ⟨m, by omega, rfl, by unfold updN; rw [if_pos rfl], by unfold updN; rw [if_pos rfl]; omega, fun j hj hjm => absurd hj (by omega)⟩
      · rw [if_neg hpb, if_neg hpb]
        rcases hat with ⟨g1, g2, g3⟩ | ⟨k, k1, k2, k3, k4, k5⟩
        · refine .inl ⟨g1, g2, fun j hj => ?_⟩
          unfold updN
          by_cases e : j = m
          · rw [if_pos e]; omega
          · rw [if_neg e]; exact g3 j (by omega)
        · refine .inr ⟨k, by omega, k2, by unfold updN; rw [if_neg (by omega)]; exact k3, by unfold updN; rw [if_neg (by omega)]; exact k4, fun j hj hjm => ?_⟩
          unfold updN
          by_cases e : j = m
          · rw [if_pos e]; omega
          · rw [if_neg e]; exact k5 j hj (by omega)
    · rw [if_neg (by omega : ¬ m + 1 = 0)]
      have hc : so = false ∨ a ≠ nv ∨ p = last := by
        rcases h2 with h2 | ⟨h2, h3⟩
        · left; rw [hso]; simp; omega
        · by_cases hm : m = 0
          · left; rw [hso]; simp; omega
          · right; left; rw [h.hnv (by omega)]; exact fun e => h3 e.symm
      rw [if_pos hc]
      unfold updN
      rw [if_pos (by omega)]
      omega
theorem AtR.one {m : Nat} {rx ra : Nat → Nat} {blk : Int} {a a' : Nat} {o o' : Bool} (h : AtR m rx ra blk a o) (h' : AtR m rx ra blk a' o') : a = a' ∧ o = o' := by
  rcases h with ⟨h1, h2, h3⟩ | ⟨k, k1, k2, k3, k4, k5⟩
  · rcases h' with ⟨g1, g2, _⟩ | ⟨k, k1, _, _, k4, _⟩
    · exact ⟨by omega, by rw [h1, g1]⟩
    · have := h3 k k1; omega
  · rcases h' with ⟨g1, g2, g3⟩ | ⟨i, i1, i2, i3, i4, i5⟩
    · have := g3 k k1; omega
    · obtain rfl : k = i := by
        rcases Nat.lt_trichotomy k i with h | h | h
        · have := k5 i h i1; omega
        · exact h
        · have := i5 k h k1; omega
      exact ⟨by rw [k3, i3], by rw [k2, i2]⟩
theorem fU : Foreign 29 := ⟨by decide, by decide, by decide, by decide⟩
theorem fPush : Foreign 32 := ⟨by decide, by decide, by decide, by decide⟩
theorem fInt : Foreign 3 := ⟨by decide, by decide, by decide, by decide⟩
/-- the law's world: the store, and the boxes of two amounts -/
structure HtW (w W : World) (b g c m : Nat) (rx ra : Nat → Nat) (wv nv : Nat) : Prop where
  s : HisS w W b hK0 hKp c m rx ra
  a : W.heap[g]? = some (.cells #[.int .u64 (limb wv 0 : Nat), .int .u64 (limb wv 1 : Nat), .int .u64 (limb wv 2 : Nat), .int .u64 (limb wv 3 : Nat)] 29 (0, 0))
  n : W.heap[g + 1]? = some (.cells #[.int .u64 (limb nv 0 : Nat), .int .u64 (limb nv 1 : Nat), .int .u64 (limb nv 2 : Nat), .int .u64 (limb nv 3 : Nat)] 29 (0, 0))
  ge : w.heap.size ≤ g
theorem HtW.below {w W W' : World} {b g c m : Nat} {rx ra : Nat → Nat} {wv nv : Nat} (h : HtW w W b g c m rx ra wv nv) (hb : Below W.heap.size W W') : HtW w W' b g c m rx ra wv nv :=
  ⟨h.s.below hb, (hb.block _ (hp_lt h.a)).trans h.a, (hb.block _ (hp_lt h.n)).trans h.n, h.ge⟩
def set4U (W : World) (g a : Nat) : World := (((W.setCell ⟨g, 0, none⟩ (.int .u64 (limb a 0 : Nat))).setCell ⟨g, 1, none⟩ (.int .u64 (limb a 1 : Nat))).setCell ⟨g, 2, none⟩ (.int .u64 (limb a 2 : Nat))).setCell ⟨g, 3, none⟩ (.int .u64 (limb a 3 : Nat))
theorem HtW.setN {w W : World} {b g c m : Nat} {rx ra : Nat → Nat} {wv nv : Nat} (h : HtW w W b g c m rx ra wv nv) (a : Nat) : HtW w (set4U W (g + 1) a) b g c m rx ra wv a :=
  ⟨h.s.other [g + 1] (touch_set4 (by simp)) (fun k hk => by obtain rfl : k = g + 1 := (by simpa using hk); exact ⟨by have := h.ge; omega, _, _, _, h.n, fU⟩), set4_far _ _ _ _ (by omega) h.a, set4_row _ _ _ _ h.n, h.ge⟩
theorem HtW.setA {w W : World} {b g c m : Nat} {rx ra : Nat → Nat} {wv nv : Nat} (h : HtW w W b g c m rx ra wv nv) (a : Nat) : HtW w (set4U W g a) b g c m rx ra a nv :=
  ⟨h.s.other [g] (touch_set4 (by simp)) (fun k hk => by obtain rfl : k = g := (by simpa using hk); exact ⟨h.ge, _, _, _, h.a, fU⟩), set4_row _ _ _ _ h.a, set4_far _ _ _ _ (by omega) h.n, h.ge⟩
end Go.Proofs.Ytedkhpnlhkjjgaa

namespace Go.Proofs.Ytedkhpnlhkjjgaa
open Go.RowKit Go.Maps Go.Sort

def akey (A : List (Nat × Nat × Nat)) (i : Nat) : ByteArray := (dent (A.getD i (0, 0, 0))).1
def abj (A : List (Nat × Nat × Nat)) (i : Nat) : Int := ((A.getD i (0, 0, 0)).1 : Nat)
def ajj (A : List (Nat × Nat × Nat)) (i : Nat) : Int := ((A.getD i (0, 0, 0)).2.1 : Nat)
def af (A : List (Nat × Nat × Nat)) (i : Nat) : Nat → Int := two2 ((A.getD i (0, 0, 0)).1 : Nat) ((A.getD i (0, 0, 0)).2.2 : Nat)
theorem agetD {A : List (Nat × Nat × Nat)} {i : Nat} (h : i < A.length) : A.getD i (0, 0, 0) = A[i] := by simp [List.getD, List.getElem?_eq_getElem h]
def Sml (A : List (Nat × Nat × Nat)) : Prop := ∀ p ∈ A, p.1 < 256 ∧ p.2.1 < 256 ∧ p.2.2 < 256
theorem dRows {A : List (Nat × Nat × Nat)} (hA : Sml A) : DueRows (A.map dent) A.length (akey A) (abj A) (ajj A) (fun _ => 2) (af A) where
  len := by simp
  at_ := fun i h => by
    have h' : i < A.length := by simpa using h
    unfold akey af
    rw [agetD h', List.getElem_map]
    rfl
  hk := fun i h => by
    have := hA _ (List.getElem_mem h)
    unfold akey abj ajj
    rw [agetD h]
    exact ⟨rfl, by omega, by omega⟩
  hn := fun i h => by omega
  hf := fun i h t ht => by
    have := hA _ (List.getElem_mem h)
    unfold af
    rw [agetD h]
    rcases (by omega : t = 0 ∨ t = 1) with rfl | rfl
    · show 0 ≤ ((A[i].1 : Nat) : Int) ∧ ((A[i].1 : Nat) : Int) < 2 ^ 63; omega
    · show 0 ≤ ((A[i].2.2 : Nat) : Int) ∧ ((A[i].2.2 : Nat) : Int) < 2 ^ 63; omega
theorem dlt_ne {x y : Nat × Nat × Nat} (h : dLt x y) (hx : x.1 < 256 ∧ x.2.1 < 256 ∧ x.2.2 < 256) (hy : y.1 < 256 ∧ y.2.1 < 256 ∧ y.2.2 < 256) : (dent x).1 ≠ (dent y).1 := by
  refine lt_ne ?_
  rw [show (dent x).1.data.toList = kL x.1 x.2.1 from kr_list _ _ hx.1 hx.2.1, show (dent y).1.data.toList = kL y.1 y.2.1 from kr_list _ _ hy.1 hy.2.1]
  refine (kL_lt hx.1 hx.2.1 hy.1 hy.2.1).2 ?_
  rcases h with h | ⟨h1, h2, _⟩
  · exact .inl h
  · exact .inr ⟨h1, h2⟩
theorem dent_neC {x : Nat × Nat × Nat} (hx : x.1 < 256 ∧ x.2.1 < 256 ∧ x.2.2 < 256) : (dent x).1 ≠ kC := by
  refine lt_ne ?_
  rw [show (dent x).1.data.toList = kL x.1 x.2.1 from kr_list _ _ hx.1 hx.2.1, kC_list]
  exact kL_ltC _ _
theorem adels {A : List (Nat × Nat × Nat)} (hA : Sml A) (hp : A.Pairwise dLt) (n : Nat) : ∀ M, M ≤ A.length → dels (A.map dent ++ ocnt n) (akey A) M = (A.drop M).map dent ++ ocnt n
  | 0, _ => by rw [List.drop_zero]; rfl
  | M + 1, h => by
    have hM : M < A.length := by omega
    show sdel (dels (A.map dent ++ ocnt n) (akey A) M) (akey A M) = _
    rw [adels hA hp n M (by omega), List.drop_eq_getElem_cons hM, List.map_cons, List.cons_append]
    have ek : akey A M = (dent A[M]).1 := by unfold akey; rw [agetD hM]
    rw [ek]
    have hpw := (List.pairwise_cons.1 (by rw [← List.drop_eq_getElem_cons hM]; exact hp.sublist (List.drop_sublist _ _) : (A[M] :: A.drop (M + 1)).Pairwise dLt)).1
    have hs := hA _ (List.getElem_mem hM)
    refine sdel_first (v := (dent A[M]).2) fun q hq => ?_
    rcases List.mem_append.1 hq with h | h
    · obtain ⟨y, hy, rfl⟩ := List.mem_map.1 h
      exact (dlt_ne (hpw y hy) hs (hA y (List.mem_of_mem_drop hy))).symm
    · rw [ocnt_key h]; exact (dent_neC hs).symm
theorem ocnt_int {A : List (Nat × Nat × Nat)} (hA : Sml A) (n : Nat) : intAt (A.map dent ++ ocnt n) kC n := by
  have hne : ∀ q ∈ A.map dent, q.1 ≠ kC := map_dent fun p hp => dent_neC (hA p hp)
  unfold ocnt
  split
  · rename_i h
    refine .inl ⟨h, ?_⟩
    rw [List.append_nil]; exact sget_not hne
  · refine .inr ?_
    have h0 := sget_not hne
    unfold sget at h0 ⊢
    rw [Option.map_eq_none_iff] at h0
    rw [List.find?_append, h0]
    simp [keq_self]
theorem dR_sml {bl : Nat → Nat} {i lo hi : Nat} (hh : hi ≤ 256) (hi2 : i ≤ 80) : Sml (dR bl i lo hi) := fun p hp => by
  have := dR_mem hp
  omega
theorem dS_sml {bl : Nat → Nat} {i v : Nat} (hv : v < 256) (hi2 : i ≤ 80) : Sml (dS bl i v) := fun p hp => by
  obtain ⟨h1, h2, h3, _⟩ := dS_mem hp
  rw [dS_len] at h2
  have := dcol_len bl i v
  omega
theorem dR_pw2 (bl : Nat → Nat) (i : Nat) {lo hi : Nat} (h : lo ≤ hi) : (dR bl i lo hi).Pairwise dLt := by
  obtain ⟨d, rfl⟩ : ∃ d, hi = lo + d := ⟨hi - lo, by omega⟩
  exact dR_pw bl i lo d
/-- what is left, when the rows up to hi are taken -/
theorem take_left {bl : Nat → Nat} {i lo hi M : Nat} (hi2 : i ≤ 80) (h1 : lo ≤ hi) (h2 : hi ≤ 256) (hM : M = (dR bl i lo hi).length) :
    (if M = 0 then dL bl i lo else if ((dR bl i lo 256).length : Int) - (M : Int) < 1 then sdel (dels (dL bl i lo) (akey (dR bl i lo 256)) M) kC else setL (dels (dL bl i lo) (akey (dR bl i lo 256)) M) kC (numStr (((dR bl i lo 256).length : Int) - (M : Int)))) = dL bl i hi := by
  have hsp := dR_split bl i h1 h2
  have hlen : (dR bl i lo 256).length = M + (dR bl i hi 256).length := by rw [hsp, List.length_append, hM]
  have hdrop : (dR bl i lo 256).drop M = dR bl i hi 256 := by rw [hsp, hM, List.drop_left]
  have hd := adels (dR_sml (bl := bl) (i := i) (lo := lo) (Nat.le_refl 256) hi2) (dR_pw2 bl i (by omega : lo ≤ 256)) (dR bl i lo 256).length M (by omega)
  rw [hdrop] at hd
  have hne : ∀ q ∈ (dR bl i hi 256).map dent, q.1.data.toList < kC.data.toList := map_dent fun p hp => dent_ltC (Nat.le_refl _) hi2 hp
  split
  · rename_i h0
    have e : dR bl i lo hi = [] := List.length_eq_zero_iff.1 (by omega)
    unfold dL
    rw [hsp, e, List.nil_append]
  · rename_i h0
    unfold dL
    rw [hd]
    split
    · rename_i h3
      have e : (dR bl i hi 256).length = 0 := by omega
      have e2 := List.length_eq_zero_iff.1 e
      rw [e2]
      unfold ocnt
      rw [if_neg (by omega)]
      exact sdel_last (A := []) (fun p hp => by cases hp)
    · rename_i h3
      rw [show ((dR bl i lo 256).length : Int) - (M : Int) = (((dR bl i hi 256).length : Nat) : Int) by omega]
      exact ocnt_set _ _ _ (by omega) hne
/-- how many are taken -/
theorem take_count {bl : Nat → Nat} {i lo hi M : Nat} {now : Nat} (h1 : lo ≤ hi) (h2 : hi = min (now + 1) 256) (hN : M ≤ (dR bl i lo 256).length) (hle : ∀ k, k < M → abj (dR bl i lo 256) k ≤ (now : Int)) (hend : M = (dR bl i lo 256).length ∨ (now : Int) < abj (dR bl i lo 256) M) : M = (dR bl i lo hi).length := by
  have hsp := dR_split bl i h1 (by omega : hi ≤ 256)
  rcases Nat.lt_trichotomy M (dR bl i lo hi).length with h | h | h
  · have hl : (dR bl i lo 256).length = (dR bl i lo hi).length + (dR bl i hi 256).length := by rw [hsp, List.length_append]
    rcases hend with e | e
    · omega
    · unfold abj at e
      rw [agetD (by omega)] at e
      have e3 : (dR bl i lo 256)[M]'(by omega) = (dR bl i lo hi)[M] := by
        simp only [hsp]
        exact List.getElem_append_left h
      rw [e3] at e
      have := (dR_mem (List.getElem_mem h)).1
      omega
  · exact h
  · have hl : (dR bl i lo 256).length = (dR bl i lo hi).length + (dR bl i hi 256).length := by rw [hsp, List.length_append]
    have e := hle _ h
    unfold abj at e
    rw [agetD (by omega)] at e
    have e3 : (dR bl i lo 256)[(dR bl i lo hi).length]'(by omega) = (dR bl i hi 256)[0]'(by omega) := by
      simp only [hsp]
      rw [List.getElem_append_right (Nat.le_refl _)]
      simp
    rw [e3] at e
    have := (dR_mem (List.getElem_mem (l := dR bl i hi 256) (n := 0) (by omega))).1
    omega
end Go.Proofs.Ytedkhpnlhkjjgaa
