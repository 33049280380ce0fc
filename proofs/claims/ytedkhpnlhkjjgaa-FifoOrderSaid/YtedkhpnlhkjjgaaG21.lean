/- due.Add on a live store, where nothing is due at the block. -/
import Derived.Test.YtedkhpnlhkjjgaaG20
import Derived.Test.YtedkhpnlhkjjgaaG15
import Derived.Test.YtedkhpnlhkjjgaaG18
import Derived.RangeFuncWrites
namespace Go.Proofs.Ytedkhpnlhkjjgaa
open Go.RowKit Go.Maps Go.Sort
attribute [local go_sem] Oper.semAt_some
attribute [local go_sem] run_store_fn

set_option maxRecDepth 100000 in
set_option maxHeartbeats 400000 in
theorem dueadd_live {w W : World} {b : Nat} {F : List Nat} {L : SL} {q : Nat} {qs : List Value} (h : SNew w W b F L q qs) (blk : Int) (K0 K1 T : ByteArray) (hb0 : 0 ≤ blk) (hb1 : blk ≤ 1099511627776) (hK0 : keyStr 26 (fun _ => blk) 1 = K0) (hK1 : keyStr 26 (two2 blk 0) 2 = K1) (hT : keyStr 27 (fun _ => 0) 0 = T)
    (hu : under L K0 = []) (A : Option Addr) (n c : Nat) (f : Nat → Int) (hl : Il W A n f) (hn0 : 1 ≤ n) (hn : n ≤ 100) (hf : ∀ i, i < n → 0 ≤ f i) (m : Nat) (hm : intAt (setL L K1 (rowV f n)) T m) (hm2 : m + 1 < 2 ^ 63)
    (hk1 : K1.size ≤ maxLen) (hk10 : K1 ≠ ⟨#[]⟩) (hkt : T.size ≤ maxLen) (hkt0 : T ≠ ⟨#[]⟩) (hks : ∀ p ∈ L, p.1.size ≤ maxLen) (hN : L.length < 128) (hN1 : (setL L K1 (rowV f n)).length < 128) (hq : q + 2 < 1000000) :
    Calls Try.prog 29 #[.pointer (some ⟨b, 0, none⟩), .int .i64 blk, .slice A n c] W fun e W' => e = .returned (.int .i64 0) ∧ LiveTo w W W' b F (setL (setL L K1 (rowV f n)) T (numStr ((m : Int) + 1))) (q + 2) := by
  refine (callsIn_wide (n := 3)).1 ?_
  have h1 : 1 ≤ 3 := by omega
  have hwW := h.l.size
  have hFl : ∀ k ∈ F, k < W.heap.size := fun k hk => h.s.lt k hk
  have HM := Lib.hid (fun (W1 : World) (hb : Below W.heap.size W W1) => made_live b F L q qs W1 (h.below hb).s)
  have HG := Lib.hid (fun (W1 : World) (hb : Below W.heap.size W W1) => fgood_walk A n c f W1 (hl.below hb) hn0 hn hf)
  have HA := Lib.hid (fun w => rows_walk (some ⟨b, 0, none⟩) K0 w)
  have HK0 := Lib.hid (fun W1 => key_is 26 (some ⟨W1.heap.size, 0, none⟩) 1 1 (fun _ => blk) K0 hK0 _ (il1 blk W1 3 (by omega)) (by omega))
  have HK1 := Lib.hid (fun W1 => key_is 26 (some ⟨W1.heap.size, 0, none⟩) 2 2 (two2 blk 0) K1 hK1 _ (il2 blk 0 W1 3 (by omega) (by omega)) (by omega))
  have HT := Lib.hid (fun w => tbl_is 27 T hT w)
  have HU := Lib.hid (fun (W1 : World) (hb : Below W.heap.size W W1) => (under_live b F L q qs W1 (h.below hb).s K0 hks hN).mono (R' := fun e w' => (∃ A c, e = .returned (.slice A 0 c)) ∧ Below W1.heap.size W1 w') fun e w' hh => by
    obtain ⟨⟨v, he, hv⟩, hb⟩ := hh
    rw [hu] at hv
    refine ⟨?_, hb⟩
    rcases hv.2 with ⟨rfl, _⟩ | ⟨g, cap, cur, rfl, _⟩
    · exact ⟨none, 0, he⟩
    · exact ⟨_, cap, he⟩)
  have HS := Lib.hid (fun (W1 : World) (hb : Below W.heap.size W W1) => (csetRow_set (h.below hb) K1 A n c f (hl.below hb) hn0 hn hf hk1 hk10 hN (by omega)).mono (R' := fun e W' => e = .returned (.tuple #[]) ∧ LiveTo w W1 W' b F (setL L K1 (rowV f n)) (q + 1)) fun e w' hh => ⟨hh.1, hh.2⟩)
  have HX := Lib.hid (fun (W1 W2 : World) (hl2 : LiveTo w W1 W2 b F (setL L K1 (rowV f n)) (q + 1)) => hl2.seq 1 (fun F1 qa qsa hs hqa => cnext_walk hs T m hkt hkt0 hm hm2 hN1 (by omega)))
  have x0 := (Below.refl W.heap.size W).alloc (Nat.le_refl _) (.cells #[.int .i64 0] 33)
  have x2 := (x0.alloc (by simp only [World.size_alloc]; omega) (.cells #[.int .i64 0] 3)).alloc (by simp only [World.size_alloc]; omega) (.cells #[.func (.func 79) #[] #[]] 127)
  have x3 := x2.alloc (by simp only [World.size_alloc]; omega) (.cells #[.int .i64 blk] 3)
  have r0 := (heap_alloc_old ((W.alloc (.cells #[.int .i64 0] 33)).alloc (.cells #[.int .i64 0] 3)) (.cells #[.func (.func 79) #[] #[]] 127) (r := W.heap.size) (by simp only [World.size_alloc]; omega)).trans ((heap_alloc_old (W.alloc (.cells #[.int .i64 0] 33)) (.cells #[.int .i64 0] 3) (by simp only [World.size_alloc]; omega)).trans (heap_alloc_new W (.cells #[.int .i64 0] 33)))
  have r1 : (((W.alloc (.cells #[.int .i64 0] 33)).alloc (.cells #[.int .i64 0] 3)).alloc (.cells #[.func (.func 79) #[] #[]] 127)).heap[W.heap.size + 1]? = some (.cells #[.int .i64 0] 3 (0, 0)) := by
    have h := heap_alloc_new (W.alloc (.cells #[.int .i64 0] 33)) (.cells #[.int .i64 0] 3)
    rw [World.size_alloc] at h
    exact (heap_alloc_old _ _ (by simp only [World.size_alloc]; omega)).trans h
  have R0 := Lib.hid (And.intro x0 (And.intro x3 (And.intro ((heap_alloc_old _ (.cells #[.int .i64 blk] 3) (hp_lt r0)).trans r0) ((heap_alloc_old _ (.cells #[.int .i64 blk] 3) (hp_lt r1)).trans r1))))
  have hk0 := HK0.out (((W.alloc (.cells #[.int .i64 0] 33)).alloc (.cells #[.int .i64 0] 3)).alloc (.cells #[.func (.func 79) #[] #[]] 127))
  simp only [World.size_alloc] at hk0
  have HK0x := Lib.hid hk0
  clear hk0
  have HwF := Lib.hid (And.intro hwW hFl)
  have p1 : ¬ blk < 0 := by omega
  have p2 : ¬ 1099511627776 < blk := by omega
  obtain ⟨l1, el1⟩ : ∃ z, z = setL L K1 (rowV f n) := ⟨_, rfl⟩
  rw [← el1] at HS HX ⊢
  obtain ⟨l2, el2⟩ : ∃ z, z = setL l1 T (numStr ((m : Int) + 1)) := ⟨_, rfl⟩
  rw [← el2]
  have HE2 := Lib.hid el2
  clear h hb0 hb1 hK0 hK1 hT hu hl hn0 hn hf hm hm2 hk1 hk10 hkt hkt0 hks hN hN1 hq hwW hFl x0 x2 x3 r0 r1 el1 el2
  refine callsIn_of_wp_marks Try.func29 rfl trivial ?_ rfl
  simp only [Try.ntmps29, List.size_toArray, List.length_cons, List.length_nil, Nat.reduceAdd, Nat.reduceSub, Array.replicate_succ, Array.replicate_zero, List.push_toArray, List.append_toArray, List.nil_append, List.cons_append]
  gi_wp2_with (refine ⟨trivial, ?_⟩; first
    | (gi_at_call 80; with_reducible refine (callsIn_wide.2 (HA.out _)).mono ?_; rintro e w2 ⟨rfl, hb, hc1, hc2, hz⟩)
    | (gi_at_call 60; with_reducible refine (callsIn_wide.2 HK0x.out).mono ?_; rintro e w1 ⟨rfl, hb1⟩)
    | (gi_at_call 21; with_reducible refine (callsIn_wide.2 (HG.out _ R0.out.1)).mono ?_; rintro e w0 ⟨rfl, rfl⟩)
    | (gi_at_call 27; with_reducible refine (callsIn_wide.2 (HM.out _ R0.out.1)).mono ?_; rintro e w0 ⟨rfl, rfl⟩))
  obtain ⟨_, x3, r0, r1⟩ := R0.out
  have hb2 := (x3.trans (hb1.mono (by omega))).trans (hb.mono (by have := hb1.size; simp only [World.size_alloc] at this; omega))
  have hs1 := hb1.size
  simp only [World.size_alloc] at hs1
  have q0 := (hb.block _ (by omega)).trans ((hb1.block _ (by omega)).trans r0)
  have q1 := (hb.block _ (by omega)).trans ((hb1.block _ (by omega)).trans r1)
  have HS2 := Lib.hid (And.intro hb2 (And.intro q0 q1))
  refine wpIn_rangeFunc_dead h1 rfl (enters_of Try.func123 (by kernel_rfl) rfl) (fun l W' hW => duer_none (some ⟨b, 0, none⟩) K0 l _ _ W' ((hW.cell (by rw [hz]; show _ < _; simp only []; omega)).trans hc1) ((hW.cell (by rw [hz]; show _ < _; simp only []; omega)).trans hc2) (HU.out W' (HS2.out.1.trans (hW.mono HS2.out.1.size)))) ?_
  clear hb hc1 hc2 hz hb2 q0 q1 hb1 x3 r0 r1 hs1 HK0x HK0
  rintro D W3 hD hW hK
  have q0 := (hW.block _ (hp_lt HS2.out.2.1)).trans HS2.out.2.1
  have q1 := (hW.block _ (hp_lt HS2.out.2.2)).trans HS2.out.2.2
  have hb3 := HS2.out.1.trans (hW.mono HS2.out.1.size)
  have hD' := Nat.le_trans HS2.out.1.size hD
  have HQ := Lib.hid (And.intro q0 (And.intro hD' (And.intro hb3 hK)))
  have HD := Lib.hid (show D < W3.heap.size from hp_lt hK)
  have HnD := Lib.hid (show W.heap.size < D from Nat.lt_of_lt_of_le (hp_lt HS2.out.2.1) hD)
  have c1 := (hp_cell (i := 0) q1).trans rfl
  have HZ := Lib.hid (fun (w5 w8 : World) (hb5 : Below W3.heap.size W3 w5) (h8 : LiveTo w w5 w8 b F (setL l1 T (numStr ((m : Int) + 1))) (q + 1 + 1)) => show w8.heap[W.heap.size]? = some (.cells #[.int .i64 0] 33 (0, 0)) ∧ w8.heap[D]? = some (.deferred (some [])) from by
    obtain ⟨_, _, _, _, _, ht, _⟩ := h8
    have hn := HnD.out
    exact ⟨(ht.block W.heap.size (Nat.lt_of_lt_of_le (hp_lt q0) hb5.size) (fun hm => Nat.lt_irrefl _ (HwF.out.2 _ hm))).trans ((hb5.block _ (hp_lt q0)).trans q0), (ht.block D (Nat.lt_of_lt_of_le HD.out hb5.size) (fun hm => by have := HwF.out.2 _ hm; omega)).trans ((hb5.block _ HD.out).trans hK)⟩)
  clear q0 q1 hD hD' hW hK hb3
  gi_wp2_with (refine ⟨trivial, ?_⟩; first
    | (gi_at_call 63; with_reducible refine (callsIn_wide.2 (HX.out _ _ H7.out)).mono ?_; rintro e w8 ⟨rfl, h8⟩; have HR := Lib.hid (HZ.out w5 w8 B5.out h8); have H8 := Lib.hid h8; have e0 := (hp_cell (i := 0) HR.out.1).trans rfl; have g0 := hp_free (i := 0) HR.out.1; clear h8)
    | (gi_at_call 81; with_reducible refine (callsIn_wide.2 (HT.out _)).mono ?_; rintro e w7 ⟨rfl, hb7⟩; have H7 := Lib.hid (H6.out.post hb7); clear hb7)
    | (gi_at_call 71; with_reducible refine (callsIn_wide.2 (HS.out _ H5.out)).mono ?_; rintro e w6 ⟨rfl, h6⟩; have H6 := Lib.hid h6; clear h6)
    | (gi_at_call 60; with_reducible refine (callsIn_wide.2 (HK1.out _)).mono ?_; rintro e w5 ⟨rfl, hb5⟩; have hbx := (Below.refl W3.heap.size W3).alloc (Nat.le_refl _) (.cells #[.int .i64 blk, .int .i64 0] 3); have B5 := Lib.hid (hbx.trans (hb5.mono hbx.size)); have H5 := Lib.hid (HQ.out.2.2.1.trans (B5.out.mono HQ.out.2.2.1.size)); clear hb5 hbx))
  have h8 := H8.out
  obtain ⟨r8, k8⟩ := HR.out
  have nD : W.heap.size ≠ D := by have := HnD.out; omega
  obtain ⟨W9, hW9⟩ : ∃ W9, W9 = w8.setCell ⟨W.heap.size, 0, none⟩ (.int .i64 0) := ⟨_, rfl⟩
  have k9 : W9.heap[D]? = some (.deferred (some [])) := by rw [hW9, Below.heap_setCell _ _ _ _ (Ne.symm nD)]; exact k8
  have r9 : W9.heap[W.heap.size]? = some (.cells #[.int .i64 0] 33 (0, 0)) := by rw [hW9]; exact heap_setCell_row r8 (.int .i64 0)
  have t9 : Touch [W.heap.size, D] w8 W9 := by rw [hW9]; exact Touch.setCell _ _ _ (by simp)
  rw [← hW9]
  refine ⟨by simp, .inl ⟨_, _, rfl, run_takeDeferred k9, ?_⟩⟩
  have g9 := ((grownBy_putObj' W9 D (.deferred none)).block _ (hp_lt r9) (fun e => nD (by cases e; rfl))).trans r9
  have e9 := (hp_cell (i := 0) g9).trans rfl
  have tA : Touch [W.heap.size, D] w8 (W9.putObj D (.deferred none)) := t9.trans (fun _ hk => .inl hk) (Touch.grown (grownBy_putObj' W9 D (.deferred none)) (fun k e => by cases e; simp))
  refine ⟨.int .i64 0, by simp [results, Try.results29, go_sem, e9], rfl, ?_⟩
  rw [HE2.out]
  exact h8.own HwF.out.1 HwF.out.2 H5.out [W.heap.size, D] (fun g hg => by
    have h5 := B5.out.size
    have hz := HD.out
    have hn := HnD.out
    rcases List.mem_cons.1 hg with rfl | hg
    · exact ⟨Nat.le_refl _, by omega⟩
    · obtain rfl : g = D := by simpa using hg
      exact ⟨by omega, by omega⟩) tA
end Go.Proofs.Ytedkhpnlhkjjgaa

namespace Go.Proofs.Ytedkhpnlhkjjgaa
open Go.RowKit Go.Maps Go.Sort

set_option maxRecDepth 100000 in
set_option maxHeartbeats 1000000 in
theorem place_is (blk j : Int) (K : ByteArray) (hK : keyStr 26 (two2 blk j) 2 = K) (h0 : 0 ≤ blk ∧ blk < 2 ^ 63) (h1 : 0 ≤ j ∧ j < 2 ^ 63) (w : World) :
    Calls Try.prog 79 #[.string K] w fun e w' => e = .returned (.tuple #[.int .i64 blk, .int .i64 j, .bool true]) ∧ Below w.heap.size w w' := by
  have hP := parse_key_c 26 (two2 blk j) 2 w (by omega) (by omega) (by omega) (fun i _ => by unfold two2; split <;> omega) (fun i => by unfold two2; split <;> omega)
  rw [show ((26 : Nat) : Int) = 26 from rfl, hK] at hP
  have HP := Lib.hid hP
  clear hP hK h0 h1
  go_enter Try.func79, Try.ntmps79
  go_wp2_with (go_at_call 122; refine HP.out.mono ?_; rintro e w1 ⟨⟨A, c, rfl, hl⟩, hb1⟩; obtain ⟨g, o, rfl, _, hc⟩ := hl.at_ (by omega); have d0 := hc 0 (by omega); have d1 := hc 1 (by omega); simp only [two2, Nat.add_zero] at d0 d1; have HB1 := Lib.hid hb1; clear hb1 hl hc)
  all_goals go_region
  all_goals go_wp2
  all_goals exact bodyPost_ret (v := .tuple #[.int .i64 blk, .int .i64 j, .bool true]) (by simp [results, Try.results79, go_sem]) rfl ⟨rfl, HB1.out.drew⟩
end Go.Proofs.Ytedkhpnlhkjjgaa

namespace Go.Proofs.Ytedkhpnlhkjjgaa
open Go.RowKit

/-- the two kinds of blocks that a loop keeps its books in -/
def isBook : Obj → Bool
  | .loop _ => true
  | .deferred _ => true
  | _ => false
theorem isBook_cells {o : Obj} (h : isBook o = true) : o.isCells = false := by cases o <;> first | rfl | cases h
theorem isBook_walk {o : Obj} (h : isBook o = true) : o.isWalk = false := by cases o <;> first | rfl | cases h
/-- what abides new blocks, and the books of loops that began behind B -/
structure Stays {β : Type} (B : Nat) (I : β → World → Prop) : Prop where
  new : ∀ s W W', I s W → Below W.heap.size W W' → I s W'
  put : ∀ s W (l : Nat) (o o' : Obj), I s W → B ≤ l → W.heap[l]? = some o → isBook o = true → I s (W.putObj l o')
theorem Stays.alloc {β : Type} {B : Nat} {I : β → World → Prop} (h : Stays B I) {s : β} {W : World} (o : Obj) (hs : I s W) : I s (W.alloc o) := h.new s W _ hs ((Below.refl _ _).alloc (Nat.le_refl _) o)
/-- what a body keeps: the books of loops that began behind B -/
structure KeepBook (B : Nat) (W W' : World) : Prop where
  size : W.heap.size ≤ W'.heap.size
  same : ∀ (k : Nat) (o : Obj), B ≤ k → W.heap[k]? = some o → isBook o = true → W'.heap[k]? = some o
theorem KeepBook.of_below {B : Nat} {W W' : World} (h : Below W.heap.size W W') : KeepBook B W W' := ⟨h.size, fun k o _ hk _ => (h.block k (Array.getElem?_eq_some_iff.1 hk).1).trans hk⟩
theorem KeepBook.trans {B : Nat} {X Y Z : World} (h : KeepBook B X Y) (k : KeepBook B Y Z) : KeepBook B X Z := ⟨Nat.le_trans h.size k.size, fun i o hB hi ho => k.same i o hB (h.same i o hB hi ho) ho⟩
/-- how a body may be left -/
def bookPost {α : Type} (B : Nat) (Kp : World → World → Prop) (I : List α → World → Prop) (Ix : Code → List α → World → Prop) (xs : List α) (W : World) : Exit → Act → World → Prop
  | .normal, _, W' => KeepBook B W W' ∧ Kp W W' ∧ I xs W'
  | .ret, _, W' => KeepBook B W W' ∧ Ix .ret xs W'
  | .exit id, _, W' => KeepBook B W W' ∧ Ix (.exit id) xs W'
  | .goto t, _, W' => KeepBook B W W' ∧ Ix (.goto t) xs W'
  | .panic _, _, _ => False
  | .outgrown, _, _ => False
/-- an iterator's word: at each yield the part x (encs x its values) is such that G pre x holds there -/
def SeqTells {α : Type} (F : Fence) (n : Nat) (P : Program) (g : Nat) (lb : Array Value) (encs : α → Array Value) (Kp : World → World → Prop) (G : List α → α → World → Prop) (S Sp : List α → Prop) (w : World) : Prop :=
  ∀ (l : Nat) (J Jx : List α → World → Prop) (W : World), Below w.heap.size w W → (∀ s A B, J s A → Below A.heap.size A B → J s B) → (∀ s A B, Jx s A → Below A.heap.size A B → Jx s B) →
    (∀ pre x W1, J pre W1 → G pre x W1 → YieldAt F (n - 1) P l (encs x) W1 fun e W' =>
      (e = .returned (.bool true) ∧ J (pre ++ [x]) W' ∧ Kp W1 W') ∨ (e = .returned (.bool false) ∧ Jx (pre ++ [x]) W')) →
    J [] W →
    CallsIn F n P g (#[.func (.yield l) #[] #[]] ++ lb) W fun e W' => (∃ v, e = .returned v) ∧ ((∃ xs, S xs ∧ J xs W') ∨ (∃ pre, Sp pre ∧ Jx pre W'))

/-- the two blocks of a loop's own: its record at l, in state st with the jump j, and the block at d for deferred calls -/
def Book (mk : LoopState → Option Code → Loop) (d : Nat) (st : LoopState) (j : Option Code) (W : World) : Prop :=
  W.heap[d + 1]? = some (.loop (mk st j)) ∧ W.heap[d]? = some (.deferred (some []))
theorem Book.lt {mk : LoopState → Option Code → Loop} {d : Nat} {st : LoopState} {j : Option Code} {W : World} (h : Book mk d st j W) : d + 1 < W.heap.size := (Array.getElem?_eq_some_iff.1 h.1).1
theorem Book.turn {mk : LoopState → Option Code → Loop} {d : Nat} {st : LoopState} {j : Option Code} {W : World} (h : Book mk d st j W) (st' : LoopState) (j' : Option Code) : Book mk d st' j' (W.putObj (d + 1) (.loop (mk st' j'))) :=
  ⟨World.putObj_heap_same h.lt, (World.putObj_heap_other (by omega)).trans h.2⟩
theorem Book.from {mk : LoopState → Option Code → Loop} {d B : Nat} {st : LoopState} {j : Option Code} {W W' : World} (h : Book mk d st j W) (hB : B ≤ d) (k : KeepBook B W W') : Book mk d st j W' :=
  ⟨k.same _ _ (by omega) h.1 rfl, k.same _ _ hB h.2 rfl⟩
theorem Book.below {mk : LoopState → Option Code → Loop} {d : Nat} {st : LoopState} {j : Option Code} {A B : World} (h : Book mk d st j A) (hb : Below A.heap.size A B) : Book mk d st j B :=
  ⟨(hb.block _ (Array.getElem?_eq_some_iff.1 h.1).1).trans h.1, (hb.block _ (Array.getElem?_eq_some_iff.1 h.2).1).trans h.2⟩

variable {F : Fence} {n : Nat} {P : Program}
set_option maxHeartbeats 1000000 in
theorem wpIn_rangeFunc_tells {α : Type} {g : Operand} {ps : Array Tmp} {assign body : Code} {Q : Exit → Act → World → Prop} {a : Act} {w : World}
    (hro : F.round = none) (h1 : 1 ≤ n) {gf : Nat} {lb : Array Value} (hg : a.eval g = .func (.func gf) #[] lb) (hFg : F.fn gf) (eg : ∀ args w, (callFunc gf args).run P w = .ok (.enter gf args) w)
    {encs : α → Array Value} {Kp : World → World → Prop} {G : List α → α → World → Prop} {S Sp : List α → Prop} {w0 : World} (hseq : SeqTells F (n - 1) P gf lb encs Kp G S Sp w0)
    (hKt : ∀ {A B C : World}, Kp A B → Kp B C → Kp A C) (hKb : ∀ (W : World) (l : Nat) (o o' : Obj), w.heap.size ≤ l → W.heap[l]? = some o → isBook o = true → Kp W (W.putObj l o')) (hb0 : Below w0.heap.size w0 w) (hps : ∀ x, (encs x).size = ps.size)
    (hGb : ∀ pre x (W : World) (l : Nat) (o o' : Obj), G pre x W → w.heap.size ≤ l → W.heap[l]? = some o → isBook o = true → G pre x (W.putObj l o'))
    (I : List α → World → Prop) (Ix : Code → List α → World → Prop) (hI : Stays w.heap.size I) (hIx : ∀ c, Stays w.heap.size (Ix c)) (h0 : I [] w) (a₁ : α → Act)
    (hassign : ∀ (l : Nat) (x : α) (W : World) (K : Act → World → Prop), K (a₁ x) W →
      assign.wpIn (F.inRound l) (n - 1 - 1) P (Exit.then K (fun _ _ _ => False)) { tmps := (ps.zip (encs x)).foldl (fun t (p, v) => t.setIfInBounds p v) a.tmps, defers := [] } W)
    (hbody : ∀ (l : Nat) (pre : List α) (x : α) (W : World), w.heap.size ≤ l → (∃ o : Obj, W.heap[l]? = some o ∧ isBook o = true) → I pre W → G pre x W → body.wpIn (F.inRound l) (n - 1 - 1) P (bookPost w.heap.size Kp I Ix (pre ++ [x]) W) (a₁ x) W)
    (hdone : ∀ (D : Nat) (xs : List α) (W : World), w.heap.size ≤ D → S xs → I xs W → W.heap[D]? = some (.deferred (some [])) → Q .normal { a with defers := { target := .collected D, args := #[] } :: a.defers } W)
    (hstop : ∀ (D : Nat) (c : Code) (pre : List α) (W : World), w.heap.size ≤ D → Sp pre → Ix c pre W → W.heap[D]? = some (.deferred (some [])) → c.wpIn F n P Q { a with defers := { target := .collected D, args := #[] } :: a.defers } W) :
    (Code.rangeFunc g ps assign body).wpIn F n P Q a w := by
  refine wpIn_rangeFunc fun fn hfn => ?_
  rw [hro]
  let mk : LoopState → Option Code → Loop := fun st j => { state := st, pending := j, fn, tmps := a.tmps, params := ps, assign, body, defers := w.heap.size }
  obtain ⟨V, hV⟩ : ∃ V, (w.alloc (.deferred (some []))).alloc (.loop (mk .ready none)) = V := ⟨_, rfl⟩
  have hVs : V.heap.size = w.heap.size + 2 := by rw [← hV]; simp
  have hbook : Book mk w.heap.size .ready none V := by
    rw [← hV]
    refine ⟨?_, (Below.heap_alloc _ _ _ (by simp)).trans (World.alloc_heap_new w _)⟩
    have := World.alloc_heap_new (w.alloc (.deferred (some []))) (.loop (mk .ready none))
    rwa [World.size_alloc] at this
  have hIV : I [] V := by rw [← hV]; exact hI.alloc _ (hI.alloc _ h0)
  have hbV : Below w0.heap.size w0 V := by
    rw [← hV]; exact (hb0.alloc hb0.size _).alloc (by have := hb0.size; simp only [World.size_alloc]; omega) _
  refine ⟨w.heap.size + 1, [{ target := .collected w.heap.size, args := #[] }], V, { target := .fn (.func gf) lb, args := #[.func (.yield (w.heap.size + 1)) #[] #[]] }, V, gf, #[.func (.yield (w.heap.size + 1)) #[] #[]] ++ lb, V, ?_, ?_, ?_, ?_, fun _ => h1, ?_⟩
  · rw [← hV]; exact run_enterLoop_outer _ _ _ _ _
  · simp only [resolve, hg]; simp [go_sem]
  · intro f' hf'; simp [Target.leads] at hf'; subst hf'; exact hFg
  · simp [invoke, go_sem, eg]
  have hJ : ∀ s A B, (I s A ∧ Book mk w.heap.size .ready none A) → Below A.heap.size A B → (I s B ∧ Book mk w.heap.size .ready none B) := fun s A B h hb => ⟨hI.new s A B h.1 hb, h.2.below hb⟩
  have hJx : ∀ s A B, (∃ c, Ix c s A ∧ Book mk w.heap.size .done (some c) A) → Below A.heap.size A B → (∃ c, Ix c s B ∧ Book mk w.heap.size .done (some c) B) := fun s A B h hb => by
    obtain ⟨c, hc, hk⟩ := h
    exact ⟨c, (hIx c).new s A B hc hb, hk.below hb⟩
  refine (hseq (w.heap.size + 1) (fun pre W => I pre W ∧ Book mk w.heap.size .ready none W) (fun pre W => ∃ c, Ix c pre W ∧ Book mk w.heap.size .done (some c) W) V hbV hJ hJx ?_ ⟨hIV, hbook⟩).mono ?_
  · rintro pre x W ⟨hi, hb⟩ hG
    have hl := hb.1
    have hy := run_yield (P := P) (args := encs x) hl (hps x)
    refine ⟨fn, _, assign, body, hy, roundIn_of_wpIn hfn (hassign _ x W _ ⟨_, run_beginRound hl rfl, ?_⟩)⟩
    obtain ⟨W2, hW2⟩ : ∃ W2, W.putObj (w.heap.size + 1) (.loop (mk .busy none)) = W2 := ⟨_, rfl⟩
    have hb2 : Book mk w.heap.size .busy none W2 := by rw [← hW2]; exact hb.turn _ _
    have hk2 : Kp W W2 := by rw [← hW2]; exact hKb _ _ _ _ (by omega) hl rfl
    have hi2 : I pre W2 := by rw [← hW2]; exact hI.put _ _ _ _ _ hi (by omega) hl rfl
    have hG2 : G pre x W2 := by rw [← hW2]; exact hGb _ _ _ _ _ _ hG (by omega) hl rfl
    show Code.wpIn _ _ _ _ _ _ (W.putObj (w.heap.size + 1) (.loop (mk .busy none)))
    rw [hW2]
    have fin : ∀ (j : Option Code) (W3 : World), KeepBook w.heap.size W2 W3 →
        (Instr.endRound (w.heap.size + 1) j).run P W3 = .ok (.bool j.isNone) (W3.putObj (w.heap.size + 1) (.loop (mk (if j.isNone then .ready else .done) j))) ∧
        W3.heap[w.heap.size + 1]? = some (.loop (mk .busy none)) ∧ Book mk w.heap.size (if j.isNone then .ready else .done) j (W3.putObj (w.heap.size + 1) (.loop (mk (if j.isNone then .ready else .done) j))) := fun j W3 hk3 => by
      have hb3 := hb2.from (Nat.le_refl _) hk3
      exact ⟨run_endRound (P := P) j hb3.1, hb3.1, hb3.turn _ _⟩
    refine wpIn_mono (hbody _ pre x W2 (by omega) ⟨_, hb2.1, rfl⟩ hi2 hG2) ?_
    rintro e a3 W3 hp
    cases e with
    | normal =>
      obtain ⟨hk3, hkp3, hi3⟩ := hp
      obtain ⟨hr, hl3, hb4⟩ := fin none W3 hk3
      exact ⟨_, _, hr, .inl ⟨rfl, ⟨hI.put _ _ _ _ _ hi3 (by omega) hl3 rfl, hb4⟩, hKt (hKt hk2 hkp3) (hKb _ _ _ _ (by omega) hl3 rfl)⟩⟩
    | ret =>
      obtain ⟨hr, hl3, hb4⟩ := fin (some .ret) W3 hp.1
      exact ⟨_, _, hr, .inr ⟨rfl, .ret, (hIx _).put _ _ _ _ _ hp.2 (by omega) hl3 rfl, hb4⟩⟩
    | exit id =>
      obtain ⟨hr, hl3, hb4⟩ := fin (some (.exit id)) W3 hp.1
      exact ⟨_, _, hr, .inr ⟨rfl, .exit id, (hIx _).put _ _ _ _ _ hp.2 (by omega) hl3 rfl, hb4⟩⟩
    | goto t =>
      obtain ⟨hr, hl3, hb4⟩ := fin (some (.goto t)) W3 hp.1
      exact ⟨_, _, hr, .inr ⟨rfl, .goto t, (hIx _).put _ _ _ _ _ hp.2 (by omega) hl3 rfl, hb4⟩⟩
    | panic ch => exact hp.elim
    | outgrown => exact hp.elim
  · rintro e W2 ⟨⟨v, rfl⟩, (⟨xs, hS, hi, hb⟩ | ⟨pre, hSp, c, hi, hb⟩)⟩
    · exact ⟨none, _, run_endLoop (P := P) hb.1 (by simp [mk]), hdone _ xs _ (Nat.le_refl _) hS (hI.put _ _ _ _ _ hi (by omega) hb.1 rfl) ((World.putObj_heap_other (by omega)).trans hb.2)⟩
    · exact ⟨some c, _, run_endLoop (P := P) hb.1 (by simp [mk]), hstop _ c pre _ (Nat.le_refl _) hSp ((hIx c).put _ _ _ _ _ hi (by omega) hb.1 rfl) ((World.putObj_heap_other (by omega)).trans hb.2)⟩
end Go.Proofs.Ytedkhpnlhkjjgaa
