/- The law FifoOrder: light of any row of acts; its world. -/
import Derived.Test.YtedkhpnlhkjjgaaG34
import Derived.Test.YtedkhpnlhkjjgaaG01
import Derived.Test.YtedkhpnlhkjjgaaG29
namespace Go.Proofs.Ytedkhpnlhkjjgaa
open Go.RowKit Go.Maps Go.Sort

set_option maxRecDepth 100000 in
set_option maxHeartbeats 1000000 in
/-- light of any row of acts -/
theorem light12_rows (A : Option Addr) (N C : Nat) (p0 : Nat → Bool) (A0 : Nat → Option Addr) (k0 c0 : Nat → Nat) (A1 : Nat → Option Addr) (k1 c1 : Nat → Nat) (w : World) (hr : RowsV w A N 3 (fun i => [.bool (p0 i), .slice (A0 i) (k0 i) (c0 i), .slice (A1 i) (k1 i) (c1 i)])) (hN : (N : Int) ≤ 9223372036854775807) (hk : ∀ i, i < N → (k0 i : Int) ≤ 9223372036854775807 ∧ (k1 i : Int) ≤ 9223372036854775807)
    (B : Bool) (hB : B = true ↔ N ≤ 200 ∧ ∀ i, i < N → k0 i ≤ 5 ∧ k1 i ≤ 10) :
    Calls Try.prog 18 #[.slice A N C] w fun e w' => e = .returned (.bool B) ∧ Below w.heap.size w w' := by
  have HB := Lib.hid hB
  have HR := Lib.hid hr
  have HK := Lib.hid hk
  clear hB hr hk
  by_cases h1 : N ≤ 200
  · have p1 : ¬ (200 : Int) < (N : Int) := by omega
    have h1' : (N : Int) ≤ 200 := by omega
    go_enter Try.func18, Try.ntmps18
    go_wp2
    go_loopw [10] (fun i wr => ∃ j : Nat, j ≤ N ∧ i = .int .i64 (j : Nat) ∧ Below w.heap.size w wr ∧ ∀ t, t < j → k0 t ≤ 5 ∧ k1 t ≤ 10) (fun i _ => N - (intOf i).toNat)
    case atStart => exact ⟨0, by omega, rfl, Below.refl _ _, fun t h => absurd h (by omega)⟩
    case round =>
      obtain ⟨j, hj, rfl, hb, h5⟩ := hrel
      have HBl := Lib.hid hb
      have H5 := Lib.hid h5
      by_cases hlt : j < N
      · have p2 : (j : Int) < (N : Int) := by omega
        obtain ⟨g, o, rfl, hg, hc⟩ := (HR.out.below hb) (by omega)
        have d0 := hc j hlt 0 _ rfl
        have d1 := hc j hlt 1 _ rfl
        have d2 := hc j hlt 2 _ rfl
        simp only [Nat.add_zero] at d0
        have hkj := HK.out j hlt
        obtain ⟨kj, ekj⟩ : ∃ z, z = k0 j := ⟨_, rfl⟩
        obtain ⟨lj, elj⟩ : ∃ z, z = k1 j := ⟨_, rfl⟩
        rw [← ekj, ← elj] at hkj
        rw [← ekj] at d1
        rw [← elj] at d2
        have hkj1 := hkj.1
        have hkj2 := hkj.2
        have HE := Lib.hid (And.intro ekj elj)
        clear hb h5 hc ekj elj hkj
        by_cases hn5 : kj ≤ 5
        · have p3 : ¬ (5 : Int) < (kj : Int) := by omega
          by_cases hn10 : lj ≤ 10
          · have p4 : ¬ (10 : Int) < (lj : Int) := by omega
            go_wp2
            exact ⟨⟨j + 1, by omega, by go_num, HBl.out.alloc HBl.out.size _, fun t ht => by
              rcases (by omega : t < j ∨ t = j) with h | rfl
              · exact H5.out t h
              · rw [← HE.out.1, ← HE.out.2]; exact ⟨hn5, hn10⟩⟩, by simp [intOf]; omega⟩
          · have p4 : (10 : Int) < (lj : Int) := by omega
            have e0 : B = false := by
              cases hBv : B with
              | false => rfl
              | true => exact absurd ((HB.out.1 hBv).2 j hlt).2 (by rw [← HE.out.2]; exact hn10)
            subst e0
            go_wp2
            go_ret
            exact ⟨rfl, HBl.out.alloc HBl.out.size _⟩
        · have p3 : (5 : Int) < (kj : Int) := by omega
          have e0 : B = false := by
            cases hBv : B with
            | false => rfl
            | true => exact absurd ((HB.out.1 hBv).2 j hlt).1 (by rw [← HE.out.1]; exact hn5)
          subst e0
          go_wp2
          go_ret
          exact ⟨rfl, HBl.out.alloc HBl.out.size _⟩
      · obtain rfl : j = N := by omega
        have e0 : B = true := HB.out.2 ⟨h1, H5.out⟩
        subst e0
        clear hb h5
        go_wp2
        go_ret
        exact ⟨rfl, HBl.out⟩
  · have p1 : (200 : Int) < (N : Int) := by omega
    have e0 : B = false := by
      cases hBv : B with
      | false => rfl
      | true => exact absurd (HB.out.1 hBv).1 h1
    subst e0
    go_enter Try.func18, Try.ntmps18
    go_wp2
    go_ret
    exact ⟨rfl, Below.refl _ _⟩
theorem fInt : Foreign 3 := ⟨by decide, by decide, by decide, by decide⟩
theorem fIl : Foreign 30 := ⟨by decide, by decide, by decide, by decide⟩
theorem fAct12 : Foreign 46 := ⟨by decide, by decide, by decide, by decide⟩
theorem FqS.l {w W : World} {b x : Nat} {R : List QRow} {c : Nat} (h : FqS w W b x R c) : Below w.heap.size w W := by
  obtain ⟨F, q, qs, hs, hq⟩ := h.s
  exact hs.l
theorem FqS.mono {w W : World} {b x : Nat} {R : List QRow} {c c' : Nat} (h : FqS w W b x R c) (hc : c ≤ c') : FqS w W b x R c' := by
  obtain ⟨F, q, qs, hs, hq⟩ := h.s
  exact ⟨⟨F, q, qs, hs, by omega⟩, h.ok, h.x0⟩
theorem FqS.start {w W : World} {b : Nat} {F : List Nat} {qs : List Value} (h : SNew w W b F [] 0 qs) : FqS w W b 0 [] 0 :=
  ⟨⟨F, 0, qs, h, Nat.le_refl _⟩, fun _ h => (by cases h), fun _ => rfl⟩
/-- the row of the law's rows grows: the queue stays -/
theorem FqS.gq {w W W' : World} {b x : Nat} {R : List QRow} {c : Nat} {T : TypeId} {v : Value} {xs : List Value} (h : FqS w W b x R c) (hq : Gq W w.heap.size T v xs) (hT : Foreign T) (hg : W.grownBy W' v.ownBlock) : FqS w W' b x R c := by
  obtain ⟨F, q, qs, hs, hc⟩ := h.s
  refine ⟨⟨F, q, qs, hs.other v.ownBlock.toList (Touch.grown hg (fun k hk => by rw [hk]; simp)) (fun g hm => ?_), hc⟩, h.ok, h.x0⟩
  rcases hq.at_ with ⟨rfl, _⟩ | ⟨g', o, c', cs, rfl, _, hB, hh, _⟩
  · simp [Value.ownBlock] at hm
  · obtain rfl : g = g' := by simpa [Value.ownBlock] using hm
    exact ⟨hB, cs, T, (0, 0), hh, hT⟩
/-- a row that the law keeps: where it lies, its room, the row -/
structure QIn where
  A : Option Addr
  c : Nat
  r : QRow
def QIn.val (t : QIn) : Value := .slice t.A t.r.n t.c
/-- the law's world -/
structure FoW (w W : World) (b x j : Nat) (v : Value) (I : List QIn) : Prop where
  s : FqS w W b x (I.map QIn.r) (2 * j)
  q : Gq W w.heap.size 30 v (I.map QIn.val)
  il : ∀ t ∈ I, Il w t.A t.r.n t.r.f
  xj : x + I.length ≤ j
theorem FoW.below {w W W' : World} {b x j : Nat} {v : Value} {I : List QIn} (h : FoW w W b x j v I) (hb : Below W.heap.size W W') : FoW w W' b x j v I :=
  ⟨h.s.below hb, h.q.keep (KeepT.of_below hb), h.il, h.xj⟩
theorem FoW.next {w W : World} {b x j : Nat} {v : Value} {I : List QIn} (h : FoW w W b x j v I) : FoW w W b x (j + 1) v I :=
  ⟨h.s.mono (by omega), h.q, h.il, by have := h.xj; omega⟩
theorem FoW.form {w W : World} {b x j : Nat} {v : Value} {I : List QIn} (h : FoW w W b x j v I) : ∃ A c, v = .slice A I.length c := by
  obtain ⟨A, c, e, _⟩ := h.q.form
  exact ⟨A, c, by rw [e]; simp⟩
/-- what is pushed stands behind the others -/
theorem FoW.push {w W W5 W6 W7 : World} {b x j : Nat} {v v' : Value} {I : List QIn} (h : FoW w W b x j v I) (t : QIn) (hs : FqS w W5 b x (I.map QIn.r ++ [t.r]) (2 * j + 2)) (hk : KeepT 30 W W5) (hb : Below W5.heap.size W5 W6) (hq : Gq W7 w.heap.size 30 v' (I.map QIn.val ++ [t.val])) (hg : W6.grownBy W7 v.ownBlock) (hl : Il w t.A t.r.n t.r.f) : FoW w W7 b x (j + 1) v' (I ++ [t]) := by
  have e1 : (I ++ [t]).map QIn.r = I.map QIn.r ++ [t.r] := by simp
  have e2 : (I ++ [t]).map QIn.val = I.map QIn.val ++ [t.val] := by simp
  refine ⟨?_, by rw [e2]; exact hq, fun u hu => ?_, ?_⟩
  · rw [e1]
    exact ((hs.mono (c' := 2 * (j + 1)) (by omega)).below hb).gq ((h.q.keep hk).keep (KeepT.of_below hb)) fIl hg
  · rcases List.mem_append.1 hu with h1 | h1
    · exact h.il u h1
    · obtain rfl : u = t := by simpa using h1
      exact hl
  · have := h.xj
    simp; omega
/-- the first one goes -/
theorem FoW.pop {w W W5 : World} {b x j : Nat} {v v' : Value} {t : QIn} {I : List QIn} (h : FoW w W b x j v (t :: I)) (hs : FqS w W5 b (if I.length = 0 then 0 else x + 1) (I.map QIn.r) (2 * j + 2)) (hq : Gq W5 w.heap.size 30 v' (I.map QIn.val)) : FoW w W5 b (if I.length = 0 then 0 else x + 1) (j + 1) v' I :=
  ⟨hs.mono (by omega), hq, fun u hu => h.il u (List.mem_cons_of_mem _ hu), by have := h.xj; simp at this; split <;> omega⟩
theorem il_pop {W : World} {G n : Nat} {f : Nat → Int} (hm : ∀ i, f i < 2 ^ 63) (hg : G < W.heap.size) (hc : ∀ i, i < n → W.cell? ⟨G, i, none⟩ = some (.int .i64 (f i))) : Il W (some ⟨G, 0, none⟩) n f :=
  ⟨hm, fun _ => ⟨G, 0, rfl, hg, fun i hi => by rw [Nat.zero_add]; exact hc i hi⟩⟩
theorem same_fo {f : FuncId} {args : Array Value} {w : World} {v : Value} (h : Calls Try.prog f args w fun e w' => e = .returned v ∧ w = w') : Calls Try.prog f args w fun e w' => e = .returned v ∧ w' = w := h.mono fun _ _ h => ⟨h.1, h.2.symm⟩
theorem row_of {w : World} {A : Option Addr} {n : Nat} {f : Nat → Int} (hl : Il w A n f) (hn : n ≤ 10) (hg : gd f n) : QRow.Ok ⟨n, f⟩ := ⟨hg.1, by show n ≤ 100; omega, fun i hi => ⟨hg.2 i hi, hl.most i⟩⟩
end Go.Proofs.Ytedkhpnlhkjjgaa

namespace Go.Proofs.Ytedkhpnlhkjjgaa
open Go.RowKit Go.Maps Go.Sort Go.Shelf
attribute [local go_sem] Oper.semAt_some
attribute [local go_sem] run_store_fn

/-- First's boxes -/
structure FsI (W : World) (x : Int) (y : Bool) (V : World) : Prop where
  l : Below W.heap.size W V
  a : V.heap[W.heap.size]? = some (Obj.cells #[.int .i64 x] 3 (0, 0))
  c : V.heap[W.heap.size + 1]? = some (Obj.cells #[.bool y] 4 (0, 0))
  f : V.heap[W.heap.size + 1 + 1]? = some (Obj.cells #[.func (.func 79) #[] #[]] 127 (0, 0))
theorem FsI.keep {W : World} {x : Int} {y : Bool} {V V' : World} (h : FsI W x y V) (hb : Below V.heap.size V V') : FsI W x y V' :=
  ⟨h.l.trans (hb.mono h.l.size), (hb.block _ (hp_lt h.a)).trans h.a, (hb.block _ (hp_lt h.c)).trans h.c, (hb.block _ (hp_lt h.f)).trans h.f⟩
theorem FsI.put {W : World} {x : Int} {y : Bool} {V : World} (h : FsI W x y V) {l : Nat} {o : Obj} (o' : Obj) (hl : V.heap[l]? = some o) (ho : isBook o = true) (hB : W.heap.size ≤ l) : FsI W x y (V.putObj l o') := by
  have hk := KeepT.putObj (T := 3) V l o o' hl (isBook_cells ho)
  refine ⟨h.l.trans (Touch.below (F := [l]) (Touch.grown (grownBy_putObj' V l o') (fun k e => by cases e; simp)) (fun k hk => ?_) h.l.size), (KeepT.putObj V l o o' hl (isBook_cells ho)).2 _ _ _ h.a, (KeepT.putObj V l o o' hl (isBook_cells ho)).2 _ _ _ h.c, (KeepT.putObj V l o o' hl (isBook_cells ho)).2 _ _ _ h.f⟩
  obtain rfl : k = l := by simpa using hk
  exact hB
theorem FsI.set {W : World} {x : Int} {y : Bool} {V : World} (h : FsI W x y V) (x' : Int) (y' : Bool) : FsI W x' y' ((V.setCell ⟨W.heap.size, 0, none⟩ (.int .i64 x')).setCell ⟨W.heap.size + 1, 0, none⟩ (.bool y')) ∧ ∀ B, KeepBook B V ((V.setCell ⟨W.heap.size, 0, none⟩ (.int .i64 x')).setCell ⟨W.heap.size + 1, 0, none⟩ (.bool y')) := by
  refine ⟨⟨(h.l.setCell (Nat.le_refl _) _).setCell (Nat.le_succ _) _, ?_, ?_, ?_⟩, fun B => ⟨by simp, fun k o _ hk ho => ?_⟩⟩
  · rw [Below.heap_setCell _ _ _ _ (by simp)]
    exact heap_setCell_row h.a (.int .i64 x')
  · refine heap_setCell_row ?_ (.bool y') (cur := #[.bool y])
    rw [Below.heap_setCell _ _ _ _ (by simp)]
    exact h.c
  · rw [Below.heap_setCell _ _ _ _ (by show W.heap.size + 1 + 1 ≠ W.heap.size + 1; omega), Below.heap_setCell _ _ _ _ (by show W.heap.size + 1 + 1 ≠ W.heap.size; omega)]
    exact h.f
  · have n0 : k ≠ W.heap.size := fun e => by subst e; rw [h.a] at hk; cases hk; cases ho
    have n1 : k ≠ W.heap.size + 1 := fun e => by subst e; rw [h.c] at hk; cases hk; cases ho
    rw [Below.heap_setCell _ _ _ _ n1, Below.heap_setCell _ _ _ _ n0]
    exact hk
set_option maxRecDepth 100000 in
set_option maxHeartbeats 4000000 in
theorem duefirst_live {w W : World} {b : Nat} {F : List Nat} {L : SL} {q : Nat} {qs : List Value} (h : SNew w W b F L q qs) (K : ByteArray) (hK : keyStr 26 (fun _ => 0) 0 = K)
    (N : Nat) (key : Nat → ByteArray) (bj jj : Nat → Int) (n : Nat → Nat) (f : Nat → Nat → Int) (hU : DueRows (under L K) N key bj jj n f) (hks : ∀ p ∈ L, p.1.size ≤ maxLen) (hL : L.length < 128) (hN : 1 ≤ N) :
    Calls Try.prog 78 #[.pointer (some ⟨b, 0, none⟩)] W fun e W' => e = .returned (.tuple #[.int .i64 (bj 0), .bool true]) ∧ Below W.heap.size W W' := by
  refine (callsIn_wide (n := 3)).1 ?_
  have h1 : 1 ≤ 3 := by omega
  have HA := Lib.hid (fun w => rows_walk (some ⟨b, 0, none⟩) K w)
  have HTb := Lib.hid (fun w => tbl_is 26 K hK w)
  have HUn := Lib.hid (fun (W1 : World) (hb : Below W.heap.size W W1) => under_live b F L q qs W1 (h.below hb).s K hks hL)
  have hb0 := (((Below.refl W.heap.size W).alloc (Nat.le_refl _) (.cells #[.int .i64 0] 3)).alloc (by simp) (.cells #[.bool false] 4)).alloc (by simp only [World.size_alloc]; omega) (.cells #[.func (.func 79) #[] #[]] 127)
  have hI0 : FsI W 0 false (((W.alloc (.cells #[.int .i64 0] 3)).alloc (.cells #[.bool false] 4)).alloc (.cells #[.func (.func 79) #[] #[]] 127)) := by
    refine ⟨hb0, (heap_alloc_old _ _ (by simp only [World.size_alloc]; omega)).trans ((heap_alloc_old _ _ (by simp only [World.size_alloc]; omega)).trans (heap_alloc_new _ _)), ?_, ?_⟩
    · have h := heap_alloc_new (W.alloc (.cells #[.int .i64 0] 3)) (.cells #[.bool false] 4)
      rw [World.size_alloc] at h
      exact (heap_alloc_old _ _ (by simp only [World.size_alloc]; omega)).trans h
    · have h := heap_alloc_new ((W.alloc (.cells #[.int .i64 0] 3)).alloc (.cells #[.bool false] 4)) (.cells #[.func (.func 79) #[] #[]] 127)
      rw [World.size_alloc, World.size_alloc] at h
      exact h
  have HI0 := Lib.hid hI0
  have HP := Lib.hid (And.intro hU (And.intro hL hN))
  clear hU hK hks hL hN hb0 hI0 h
  refine callsIn_of_wp_marks Try.func78 rfl trivial ?_ rfl
  simp only [Try.ntmps78, List.size_toArray, List.length_cons, List.length_nil, Nat.reduceAdd, Nat.reduceSub, Array.replicate_succ, Array.replicate_zero, List.push_toArray, List.append_toArray, List.nil_append, List.cons_append]
  gi_wp2_with (refine ⟨trivial, ?_⟩; first | (gi_at_call 80; refine (callsIn_wide.2 (HA.out _)).mono ?_; rintro e w2 ⟨rfl, hb, hc1, hc2, hz⟩) | (gi_at_call 81; refine (callsIn_wide.2 (HTb.out _)).mono ?_; rintro e w1 ⟨rfl, hb1⟩))
  have hI2 := (HI0.out.keep hb1).keep hb
  have HI2 := Lib.hid hI2
  obtain ⟨hU, hL, hN⟩ := HP.out
  refine wpIn_rangeFunc_tells (α := DRow) (F := Fence.wide) (encs := DRow.encs) (Kp := KeepT 184) (G := DTold N key n f w2.heap.size) (w0 := w2) rfl h1 rfl trivial (enters_of Try.func123 (by kernel_rfl) rfl)
      (duer_tells 1 (some ⟨b, 0, none⟩) K w1.heap.size (w1.heap.size + 1) N (under L K) key bj jj n f w2 hc1 hc2 hU.at_ hU.len (by rw [← hU.len]; exact Nat.le_trans (under_len L K) (by omega)) hU.hk hU.hn hU.hf (fun W1 hb => HUn.out W1 (hI2.l.trans (hb.mono hI2.l.size))))
      (fun h k => h.trans k) (fun V l o o' _ hl ho => KeepT.putObj V l o o' hl (isBook_cells ho)) (Below.refl _ _) (fun _ => rfl) (fun pre x V l o o' hG _ hl ho => hG.putObj o' hl (isBook_cells ho))
      (fun xs V => xs = [] ∧ FsI W 0 false V) (fun c xs V => c = Code.ret ∧ FsI W (bj 0) true V) ⟨fun xs V V' h hb => ⟨h.1, h.2.keep hb⟩, fun xs V l o o' h hl hlo ho => ⟨h.1, h.2.put o' hlo ho (Nat.le_trans hI2.l.size hl)⟩⟩
      (fun c => ⟨fun xs V V' h hb => ⟨h.1, h.2.keep hb⟩, fun xs V l o o' h hl hlo ho => ⟨h.1, h.2.put o' hlo ho (Nat.le_trans hI2.l.size hl)⟩⟩) ⟨rfl, hI2⟩ (fun x => { tmps := #[.pointer (some ⟨b, 0, none⟩), undef, .pointer (some ⟨W.heap.size, 0, none⟩), .pointer (some ⟨W.heap.size + 1, 0, none⟩), .pointer (some ⟨W.heap.size + 1 + 1, 0, none⟩), .string x.k, undef, undef, undef, .pointer (some ⟨b, 0, none⟩), .string K, .func (.func 123) #[] #[.pointer (some ⟨w1.heap.size, 0, none⟩), .pointer (some ⟨w1.heap.size + 1, 0, none⟩)], .string x.k, .slice (some ⟨x.g, 0, none⟩) x.n x.n, undef, undef, undef, undef, undef, undef, undef, undef, undef], defers := [] }) ?_ ?_ ?_ ?_
  · intro l x V Kc hKc
    unfold DRow.encs
    gi_wp2
    exact hKc
  · rintro l pre x V hl hbk ⟨rfl, hI⟩ ⟨hlt, hx⟩
    have HI := Lib.hid hI
    have hkj := hU.hk 0 hlt
    have e1 := hx.k
    simp only [List.length_nil] at e1
    obtain ⟨xk, exk⟩ : ∃ z, z = x.k := ⟨_, rfl⟩
    rw [← exk] at e1
    have HPl := Lib.hid (fun w => place_is _ _ xk (by rw [e1]; exact hkj.1) hkj.2.1 hkj.2.2 w)
    obtain ⟨bjj, ebj⟩ : ∃ z, z = bj 0 := ⟨_, rfl⟩
    rw [← ebj] at HPl ⊢
    have cB := (hp_cell (i := 0) hI.f).trans rfl
    have HH := Lib.hid hl
    clear hI hx hkj e1 hU hL hN hb1 hb hc1 hc2 hz ebj hI2 hlt hbk hl
    (try dsimp only)
    rw [← exk]
    clear exk
    gi_wp2_with (refine ⟨trivial, ?_⟩; gi_at_call 79; refine (CallsIn.inRound l (callsIn_wide.2 (HPl.out _))).mono ?_; rintro e w5 ⟨rfl, hb5⟩; have B5 := Lib.hid hb5; have I5 := HI.out.keep hb5; have ca := (hp_cell (i := 0) I5.a).trans rfl; have cc := (hp_cell (i := 0) I5.c).trans rfl; have fa := hp_free (i := 0) I5.a; have fc := hp_free (i := 0) I5.c; have HI5 := Lib.hid I5; clear hb5 I5)
    obtain ⟨a1, a2⟩ := HI5.out.set bjj true
    exact ⟨(KeepBook.of_below B5.out).trans (a2 _), rfl, a1⟩
  · rintro D xs V hD hS ⟨rfl, _⟩ hK
    exact absurd hS (by simp; omega)
  · rintro D c xs V hD _ ⟨rfl, hI⟩ hK
    have n0 : W.heap.size ≠ D := fun e => by have := hp_lt HI2.out.a; omega
    have n1 : W.heap.size + 1 ≠ D := fun e => by have := hp_lt HI2.out.c; omega
    have HIx := Lib.hid hI
    have HK := Lib.hid hK
    have HD := Lib.hid hD
    clear hI hK hD hU hL hN hb1 hb hc1 hc2 hz hI2
    gi_wp2
    refine ⟨by simp, .inl ⟨_, _, rfl, run_takeDeferred HK.out, ?_⟩⟩
    have hI := HIx.out.put (.deferred none) HK.out rfl (Nat.le_trans HI2.out.l.size HD.out)
    have e0 := (hp_cell (i := 0) hI.a).trans rfl
    have e1 := (hp_cell (i := 0) hI.c).trans rfl
    exact ⟨.tuple #[.int .i64 (bj 0), .bool true], by simp [results, Try.results78, go_sem, e0, e1], rfl, hI.l⟩
set_option maxRecDepth 100000 in
set_option maxHeartbeats 2000000 in
/-- rows that are alike, by the document's Rows -/
theorem rows12_true (A1 A2 : Option Addr) (N q1 q2 : Nat) (B1 B2 : Nat → Option Addr) (n c1 c2 : Nat → Nat) (f : Nat → Nat → Int) (w : World) (hN : N ≤ 1000000)
    (h1 : 0 < N → ∃ g o, A1 = some ⟨g, o, none⟩ ∧ g < w.heap.size ∧ ∀ i, i < N → w.cell? ⟨g, o + i, none⟩ = some (.slice (B1 i) (n i) (c1 i)))
    (h2 : 0 < N → ∃ g o, A2 = some ⟨g, o, none⟩ ∧ g < w.heap.size ∧ ∀ i, i < N → w.cell? ⟨g, o + i, none⟩ = some (.slice (B2 i) (n i) (c2 i)))
    (hn : ∀ i, i < N → n i ≤ 100) (ha : ∀ i, i < N → Il w (B1 i) (n i) (f i)) (hb : ∀ i, i < N → Il w (B2 i) (n i) (f i)) :
    Calls Try.prog 24 #[.slice A1 N q1, .slice A2 N q2] w fun e w' => e = .returned (.bool true) ∧ Below w.heap.size w w' := by
  have H1 := Lib.hid h1
  have H2 := Lib.hid h2
  have HN := Lib.hid hn
  have HA := Lib.hid ha
  have HB := Lib.hid hb
  have hNI : (N : Int) ≤ 1000000 := by omega
  clear h1 h2 hn ha hb
  go_enter Try.func24, Try.ntmps24
  go_wp2
  go_loopw [13] (fun i wr => ∃ j : Nat, j ≤ N ∧ i = .int .i64 (j : Nat) ∧ Below w.heap.size w wr) (fun i _ => N - (intOf i).toNat)
  case atStart => exact ⟨0, Nat.zero_le _, rfl, Below.refl _ _⟩
  case round =>
    obtain ⟨j, hj, rfl, hbl⟩ := hrel
    have HBl := Lib.hid hbl
    by_cases hlt : j < N
    · have p1 : (j : Int) < (N : Int) := by omega
      obtain ⟨g1, o1, rfl, hg1, hc1⟩ := H1.out (by omega)
      obtain ⟨g2, o2, rfl, hg2, hc2⟩ := H2.out (by omega)
      have d1 := (hbl.cell (p := ⟨g1, o1 + j, none⟩) hg1).trans (hc1 j hlt)
      have d2 := (hbl.cell (p := ⟨g2, o2 + j, none⟩) hg2).trans (hc2 j hlt)
      have HI := Lib.hid (fun (W : World) (hW : Below wr.heap.size wr W) => ints_walk (B1 j) (B2 j) (n j) (n j) (c1 j) (c2 j) (f j) (f j) W (((HA.out j hlt).below hbl).below hW) (((HB.out j hlt).below hbl).below hW) (HN.out j hlt) ⟨rfl, fun _ _ => rfl⟩)
      have F1 := fun (dq : Nat) (osq : Array Obj) => cell_regrown (w := wr) d1 dq osq
      have F2 := fun (dq : Nat) (osq : Array Obj) => cell_regrown (w := wr) d2 dq osq
      have HIr := Lib.hid (fun (dq : Nat) (osq : Array Obj) => HI.out (grow (redrawn wr dq) osq) (below_regrown wr dq osq))
      clear hbl hc1 hc2 d1 d2
      go_wp2
      refine wp_region_quiet_below (by kernel_rfl) (by kernel_rfl) ?_
      repeat (quiet_step ((go_at_call 23; with_reducible exact Calls.regrown_of (HIr.out _ _))))
      refine wpQuiet_nil ?_
      intro _ hw'
      obtain ⟨⟨dq, osq⟩, hw''⟩ := hw'
      subst hw''
      have HL := Lib.hid (HBl.out.trans ((below_regrown wr dq osq).mono HBl.out.size))
      clear F1 F2 HIr
      go_wp2
      exact ⟨⟨j + 1, by omega, by go_num, HL.out⟩, by simp [intOf]; omega⟩
    · obtain rfl : j = N := by omega
      have p1 : ¬ (j : Int) < (j : Int) := by omega
      clear hbl
      go_wp2
      go_ret
      exact ⟨rfl, HBl.out⟩
end Go.Proofs.Ytedkhpnlhkjjgaa

namespace Go.Proofs.Ytedkhpnlhkjjgaa
open Go.RowKit Go.Maps Go.Sort

theorem fo_head {w : World} {B : Nat} {T : TypeId} {g o n c : Nat} {u : Value} {xs : List Value} (h : Gq w B T (.slice (some ⟨g, o, none⟩) n c) (u :: xs)) (h0 : 0 < (u :: xs).length) : w.cell? ⟨g, o, none⟩ = some u := by
  obtain ⟨_, g', o', e, _, _, hc⟩ := h.cells h0
  cases e
  exact hc 0 u rfl
theorem fo_rows {w W : World} {b x j : Nat} {V : Option Addr} {cV : Nat} {I : List QIn} {B B0 : Nat} {v : Value} {xs : List DRow} (hxl : xs.length = (I.map QIn.r).length) (hown : W.ownsRow B 30 1 v (I.map QIn.r).length (xs.map DRow.val)) (hfr : FRow W B0 (qrn (I.map QIn.r)) (qrf (I.map QIn.r)) xs) (h : FoW w W b x j (.slice V I.length cV) I) (hN : I.length ≤ 1000000) :
    ∃ A q, v = .slice A I.length q ∧ Calls Try.prog 24 #[.slice A I.length q, .slice V I.length cV] W fun e w' => e = .returned (.bool true) ∧ Below W.heap.size W w' := by
  rw [List.length_map] at hxl hown
  have hI : ∀ i (hi : i < I.length), I.getD i ⟨none, 0, ⟨1, fun _ => 0⟩⟩ = I[i] := fun i hi => by rw [List.getD_eq_getElem?_getD, List.getElem?_eq_getElem hi]; rfl
  have hX : ∀ i (hi : i < xs.length), xs.getD i ⟨⟨#[]⟩, 0, 0⟩ = xs[i] := fun i hi => by rw [List.getD_eq_getElem?_getD, List.getElem?_eq_getElem hi]; rfl
  have hR : ∀ i (hi : i < I.length), (I.map QIn.r).getD i ⟨1, fun _ => 0⟩ = I[i].r := fun i hi => by rw [List.getD_eq_getElem?_getD, List.getElem?_eq_getElem (by simpa using hi)]; simp
  have hn : ∀ i (hi : i < I.length), qrn (I.map QIn.r) i = I[i].r.n := fun i hi => by unfold qrn; rw [hR i hi]
  have hf : ∀ i (hi : i < I.length), qrf (I.map QIn.r) i = I[i].r.f := fun i hi => by unfold qrf; rw [hR i hi]
  obtain ⟨A, q, rfl⟩ : ∃ A q, v = .slice A I.length q := by
    rcases hown.2 with ⟨h1, h0⟩ | ⟨g, cap, cur, h1, _⟩
    · exact ⟨none, 0, by rw [h1, h0]⟩
    · exact ⟨_, _, h1⟩
  refine ⟨A, q, rfl, rows12_true A V I.length q cV (fun i => some ⟨(xs.getD i ⟨⟨#[]⟩, 0, 0⟩).g, 0, none⟩) (fun i => (I.getD i ⟨none, 0, ⟨1, fun _ => 0⟩⟩).A) (qrn (I.map QIn.r)) (qrn (I.map QIn.r)) (fun i => (I.getD i ⟨none, 0, ⟨1, fun _ => 0⟩⟩).c) (qrf (I.map QIn.r)) W hN (fun h0 => ?_) (fun h0 => ?_) (fun i hi => ?_) (fun i hi => ?_) (fun i hi => ?_)⟩
  · rcases hown.2 with ⟨h1, h2⟩ | ⟨g, cap, cur, h1, hb, hh, _⟩
    · omega
    · cases h1
      refine ⟨g, 0, rfl, hp_lt hh, fun i hi => ?_⟩
      rw [Nat.zero_add, hX i (by omega), hn i hi]
      have hr := (hfr.r i (by omega)).1
      rw [hn i hi] at hr
      rw [hown.cellAt i (by simp; omega)]
      simp [DRow.val, hr, show i < xs.length by omega]
  · obtain ⟨_, g, o, e, _, hg, hc⟩ := h.q.cells (by simpa using h0)
    refine ⟨g, o, e, hg, fun i hi => ?_⟩
    rw [hI i hi, hn i hi]
    exact hc i _ (by simp [hi, QIn.val])
  · rw [hn i hi]; exact (h.s.ok _ (List.mem_map_of_mem (List.getElem_mem hi))).n2
  · have hr := hfr.r i (by omega)
    rw [hn i hi, hf i hi] at hr
    rw [hX i (by omega), hn i hi, hf i hi]
    obtain ⟨cs, hcs⟩ := hr.2.2.1
    exact il_pop (h.il _ (List.getElem_mem hi)).most (hp_lt hcs) hr.2.1
  · rw [hI i hi, hn i hi, hf i hi]
    exact (h.il _ (List.getElem_mem hi)).below h.s.l
theorem below_sz {k : Nat} {W W' : World} (h : Below k W W') (e : k = W.heap.size) : Below W.heap.size W W' := e ▸ h
set_option maxRecDepth 100000 in
set_option maxHeartbeats 16000000 in
theorem fifoOrder_go (A : Option Addr) (N C : Nat) (p0 : Nat → Bool) (A0 : Nat → Option Addr) (k0 c0 : Nat → Nat) (A1 : Nat → Option Addr) (k1 c1 : Nat → Nat) (f1 : Nat → Nat → Int) (mo : Nat) (w : World) (hr : RowsV w A N 3 (fun i => [.bool (p0 i), .slice (A0 i) (k0 i) (c0 i), .slice (A1 i) (k1 i) (c1 i)]))
    (hN : N ≤ 200) (hk : ∀ i, i < N → k0 i ≤ 5 ∧ k1 i ≤ 10) (hl : ∀ i, i < N → Il w (A1 i) (k1 i) (f1 i)) (hmo : mo < 256) :
    Calls Try.prog 5 #[.int .u8 (mo : Nat), .slice A N C] w fun e w' => e = .returned (.bool true) ∧ Below w.heap.size w w' := by
  have HL1 := Lib.hid (light12_rows A N C p0 A0 k0 c0 A1 k1 c1 w hr (by omega) (fun i hi => by have := hk i hi; omega) true ⟨fun _ => ⟨hN, hk⟩, fun _ => rfl⟩)
  have HR := Lib.hid hr
  have HL := Lib.hid hl
  have HK := Lib.hid hk
  have HNn := Lib.hid hN
  have hN' : (N : Int) ≤ 200 := by omega
  clear hr hk hN hl
  obtain ⟨i0, hi, hz0, hz1, hz2⟩ := info_parts infoIs
  obtain ⟨n, hn⟩ : ∃ n : Nat, n = 1 + mo % 9 := ⟨_, rfl⟩
  have nI : (n : Int) = 1 + ((mo : Int).tmod 9) := by rw [hn]; have : ((mo : Int).tmod 9) = ((mo % 9 : Nat) : Int) := rfl; rw [this]; omega
  have n1 : (1 : Int) ≤ (n : Int) := by omega
  have n9 : (n : Int) ≤ 9 := by omega
  clear hn
  go_enter Try.func5, Try.ntmps5
  go_wp2_with (first
    | (go_at_call 13; with_reducible refine (SNew.new w _ H1.out).mono ?_; rintro e w3 ⟨b, F1, rfl, hs1, _, _⟩; have H3 := Lib.hid hs1; clear hs1)
    | (go_at_call 18; with_reducible refine HL1.out.mono ?_; rintro e w1 ⟨rfl, hb1⟩; have H1 := Lib.hid hb1; clear hb1))
  go_loopw [7, 24] (fun v i wr => ∃ (j x : Nat) (I : List QIn), j ≤ N ∧ i = .int .i64 (j : Nat) ∧ FoW w wr b x j v I ∧ (I.length : Int) ≤ n) (fun _ i _ => N - (intOf i).toNat)
  case atStart => exact ⟨0, 0, [], by omega, rfl, ⟨FqS.start H3.out, Gq.nil _ _ _, fun t h => (by cases h), by simp⟩, by simp⟩
  case round =>
    obtain ⟨j, x, I, hj, rfl, hw, hIn⟩ := hrel
    have en : 1 + (mo : Int) % 9 = (n : Int) := by rw [nI]; rfl
    rw [en]
    clear en nI
    have HW := Lib.hid hw
    obtain ⟨V, cV, rfl⟩ := hw.form
    by_cases hlt : j < N
    · have p2 : (j : Int) < (N : Int) := by omega
      obtain ⟨g, o, rfl, hg, hc⟩ := (HR.out.below hw.s.l) (by omega)
      have d0 := hc j hlt 0 _ rfl
      have d1 := hc j hlt 1 _ rfl
      have d2 := hc j hlt 2 _ rfl
      simp only [Nat.add_zero] at d0
      have hlj := HL.out j hlt
      have hk10 := (HK.out j hlt).2
      obtain ⟨B, eB⟩ : ∃ z, z = A1 j := ⟨_, rfl⟩
      obtain ⟨m, em⟩ : ∃ z, z = k1 j := ⟨_, rfl⟩
      obtain ⟨cB, ec⟩ : ∃ z, z = c1 j := ⟨_, rfl⟩
      obtain ⟨f, ef⟩ : ∃ z, z = f1 j := ⟨_, rfl⟩
      obtain ⟨pp, ep⟩ : ∃ z, z = p0 j := ⟨_, rfl⟩
      rw [← ep] at d0
      rw [← eB, ← em, ← ec] at d2
      rw [← eB, ← em, ← ef] at hlj
      rw [← em] at hk10
      have hxj := hw.xj
      have HX := Lib.hid (And.intro hlj (And.intro hk10 (And.intro hxj hIn)))
      have hmI : (m : Int) ≤ 10 := by omega
      have hI1 : (I.length : Int) ≤ 9 := by omega
      clear eB em ec ef ep hc hxj
      cases pp
      · have hbx := (Below.refl wr.heap.size wr).alloc (Nat.le_refl _) (.cells #[.bool false, .slice (A0 j) (k0 j) (c0 j), .slice B m cB] 46)
        have hby := hbx.alloc hbx.size (.cells #[.int .i64 1] 3)
        have hpx : ((wr.alloc (.cells #[.bool false, .slice (A0 j) (k0 j) (c0 j), .slice B m cB] 46)).alloc (.cells #[.int .i64 1] 3)).heap[wr.heap.size]? = some (.cells #[.bool false, .slice (A0 j) (k0 j) (c0 j), .slice B m cB] 46 (0, 0)) := (heap_alloc_old _ _ (by simp)).trans (heap_alloc_new wr _)
        have hin := heap_alloc_new (wr.alloc (.cells #[.bool false, .slice (A0 j) (k0 j) (c0 j), .slice B m cB] 46)) (.cells #[.int .i64 1] 3)
        have hil := il1 1 (wr.alloc (.cells #[.bool false, .slice (A0 j) (k0 j) (c0 j), .slice B m cB] 46)) 3 (by decide)
        have hIl := hlj.below (hw.s.l.trans (hby.mono hw.s.l.size))
        have hW2 := hw.below hby
        have hTo := fun F L q qs (hs : SNew w _ b F L q qs) W' ht => il_touch hs hin hil fInt W' ht
        have Hpx := Lib.hid hpx
        have HW2 := Lib.hid hW2
        by_cases hgd : gd f m
        · have hrow := row_of hlj hk10 hgd
          have hGd : ∀ W, Below w.heap.size w W → Calls Try.prog 21 #[.slice B m cB] W fun e w' => e = .returned (.bool true) ∧ W = w' := fun W hW => by
            have := fgood_any B m cB f W (hlj.below hW) (by omega)
            rwa [decide_eq_true hgd] at this
          have HG := Lib.hid hGd
          have HRw := Lib.hid hrow
          by_cases hfull : I.length < n
          · have hP := fq_push hW2.s (by have := HNn.out; omega) (by rw [List.length_map]; omega) (by rw [List.length_map]; have := HX.out.2.2.1; have := HNn.out; omega) (some ⟨(wr.alloc (.cells #[.bool false, .slice (A0 j) (k0 j) (c0 j), .slice B m cB] 46)).heap.size, 0, none⟩) 1 hTo (fun h => by cases h) (n : Nat) (by rw [List.length_map]; omega) ⟨m, f⟩ hrow B cB hIl
            simp only [World.size_alloc] at hP
            have HP := Lib.hid hP
            have q1 : (I.length : Int) < (n : Int) := by omega
            clear hw hbx hby hpx hin hil hIl hW2 hTo hgd hrow hGd hP hlj hfull
            go_upto_region 11 with (go_at_call 20; refine HP.out.mono ?_; rintro e w5 ⟨rfl, hs5, hk5⟩; have H5 := Lib.hid (And.intro hs5 hk5); have r5 := (hk5 _ fAct12).2 _ _ _ Hpx.out; have y0 := (hp_cell (i := 0) r5).trans rfl; have y1 := (hp_cell (i := 1) r5).trans rfl; have y2 := (hp_cell (i := 2) r5).trans rfl; clear hs5 hk5 r5)
            have hq5 := HW2.out.q.keep (H5.out.2 _ fIl)
            have HQ5 := Lib.hid hq5
            have sz5 : wr.heap.size < w5.heap.size := hp_lt ((H5.out.2 _ fAct12).2 _ _ _ Hpx.out)
            go_wp2_with (first
              | (go_at_call 21; refine (HG.out _ H5.out.1.l).mono ?_; rintro e w6 ⟨rfl, rfl⟩)
              | (at_builtin; refine wpList_append_gq _ rfl _ _ _ rfl 30 i0 _ 24 Try.underlying44 hi hz0 hz1 hz2 rfl w.heap.size _ (I.map QIn.val) rfl (HQ5.out.keep (KeepT.of_below ((Below.refl _ _).alloc (Nat.le_refl _) _))) (by have := H5.out.1.l.size; simp; omega) ⟨w5.heap.size, 0, none⟩ 1 (.slice B m cB) rfl (World.cell?_alloc_at _ _ _ _ rfl) rfl (by rw [List.length_map]; unfold maxLen; omega) (by rw [List.length_map]; omega) ?_; intro v7 w7 hq7 hg7; have H7 := Lib.hid (And.intro hq7 hg7); clear hq7 hg7))
            exact ⟨⟨j + 1, x, I ++ [⟨B, cB, ⟨m, f⟩⟩], by omega, by go_num, HW2.out.push ⟨B, cB, ⟨m, f⟩⟩ H5.out.1 (H5.out.2 _ fIl) ((Below.refl _ _).alloc (Nat.le_refl _) _) H7.out.1 H7.out.2 HX.out.1, by simp; omega⟩, by simp [intOf]; omega⟩
          · have hP := fq_full hW2.s (by rw [List.length_map]; omega) (by rw [List.length_map]; have := HX.out.2.2.1; have := HNn.out; omega) (some ⟨(wr.alloc (.cells #[.bool false, .slice (A0 j) (k0 j) (c0 j), .slice B m cB] 46)).heap.size, 0, none⟩) 1 hTo (fun h => by cases h) (n : Nat) (by rw [List.length_map]; omega) n1 B m cB f hIl hgd.1 (by omega) hgd.2
            simp only [World.size_alloc] at hP
            have HP := Lib.hid hP
            have q1 : ¬ (I.length : Int) < (n : Int) := by omega
            clear hw hbx hby hpx hin hil hIl hW2 hTo hgd hrow hGd hP hlj hfull
            go_upto_region 11 with (go_at_call 20; refine HP.out.mono ?_; rintro e w5 ⟨rfl, hb5'⟩; have hb5 := below_sz hb5' (by simp only [World.size_alloc]); have H5 := Lib.hid (And.intro (HW2.out.below hb5) ((hb5.block _ (hp_lt Hpx.out)).trans Hpx.out)); have r5 := (hb5.block _ (hp_lt Hpx.out)).trans Hpx.out; have y0 := (hp_cell (i := 0) r5).trans rfl; have y1 := (hp_cell (i := 1) r5).trans rfl; have y2 := (hp_cell (i := 2) r5).trans rfl; clear hb5 hb5' r5)
            go_wp2_with (go_at_call 21; refine (HG.out _ H5.out.1.s.l).mono ?_; rintro e w6 ⟨rfl, rfl⟩)
            exact ⟨⟨j + 1, x, I, by omega, by go_num, H5.out.1.next, HX.out.2.2.2⟩, by simp [intOf]; omega⟩
        · have hGd : ∀ W, Below w.heap.size w W → Calls Try.prog 21 #[.slice B m cB] W fun e w' => e = .returned (.bool false) ∧ W = w' := fun W hW => by
            have := fgood_any B m cB f W (hlj.below hW) (by omega)
            rwa [decide_eq_false hgd] at this
          have HG := Lib.hid hGd
          have hP := fq_bad hW2.s (some ⟨(wr.alloc (.cells #[.bool false, .slice (A0 j) (k0 j) (c0 j), .slice B m cB] 46)).heap.size, 0, none⟩) 1 hTo (fun h => by cases h) (n : Nat) n1 B m cB f hIl (by omega) hgd
          simp only [World.size_alloc] at hP
          have HP := Lib.hid hP
          clear hw hbx hby hpx hin hil hIl hW2 hTo hgd hGd hP hlj
          go_upto_region 11 with (go_at_call 20; refine HP.out.mono ?_; rintro e w5 ⟨rfl, hb5'⟩; have hb5 := below_sz hb5' (by simp only [World.size_alloc]); have H5 := Lib.hid (And.intro (HW2.out.below hb5) ((hb5.block _ (hp_lt Hpx.out)).trans Hpx.out)); have r5 := (hb5.block _ (hp_lt Hpx.out)).trans Hpx.out; have y0 := (hp_cell (i := 0) r5).trans rfl; have y1 := (hp_cell (i := 1) r5).trans rfl; have y2 := (hp_cell (i := 2) r5).trans rfl; clear hb5 hb5' r5)
          go_wp2_with (go_at_call 21; refine (HG.out _ H5.out.1.s.l).mono ?_; rintro e w6 ⟨rfl, rfl⟩)
          exact ⟨⟨j + 1, x, I, by omega, by go_num, H5.out.1.next, HX.out.2.2.2⟩, by simp [intOf]; omega⟩
      · have hbx := (Below.refl wr.heap.size wr).alloc (Nat.le_refl _) (.cells #[.bool true, .slice (A0 j) (k0 j) (c0 j), .slice B m cB] 46)
        have hby := hbx.alloc hbx.size (.cells #[.int .i64 1] 3)
        have hin := heap_alloc_new (wr.alloc (.cells #[.bool true, .slice (A0 j) (k0 j) (c0 j), .slice B m cB] 46)) (.cells #[.int .i64 1] 3)
        have hil := il1 1 (wr.alloc (.cells #[.bool true, .slice (A0 j) (k0 j) (c0 j), .slice B m cB] 46)) 3 (by decide)
        have hW2 := hw.below hby
        have hTo := fun F L q qs (hs : SNew w _ b F L q qs) W' ht => il_touch hs hin hil fInt W' ht
        have HW2 := Lib.hid hW2
        cases I with
        | nil =>
          have hP := fq_none hW2.s (some ⟨(wr.alloc (.cells #[.bool true, .slice (A0 j) (k0 j) (c0 j), .slice B m cB] 46)).heap.size, 0, none⟩) 1 hil (fun h => by cases h)
          simp only [World.size_alloc] at hP
          have HP := Lib.hid hP
          simp only [List.length_nil]
          clear hw hbx hby hin hil hW2 hTo hP hlj
          go_wp2_with (go_at_call 22; refine HP.out.mono ?_; rintro e w5 ⟨rfl, hb5'⟩; have hb5 := below_sz hb5' (by simp only [World.size_alloc]); have H5 := Lib.hid (HW2.out.below hb5); clear hb5 hb5')
          exact ⟨⟨j + 1, x, [], by omega, by go_num, H5.out.next, by simp⟩, by simp [intOf]; omega⟩
        | cons t I =>
          have hP := fq_pop hW2.s (by have := HNn.out; omega) (by rw [List.length_map]; simp at hI1; omega) (by rw [List.length_map]; have h9 := HX.out.2.2.1; have := HNn.out; simp only [List.length_cons] at h9; omega) (some ⟨(wr.alloc (.cells #[.bool true, .slice (A0 j) (k0 j) (c0 j), .slice B m cB] 46)).heap.size, 0, none⟩) 1 hTo (fun h => by cases h)
          simp only [World.size_alloc, List.length_map] at hP
          have HP := Lib.hid hP
          obtain ⟨tA, tc, ⟨tn, tf⟩⟩ := t
          have hcl := hw.q.cells (by simp)
          obtain ⟨_, gv, ov, rfl, hgB, hgl, hcs⟩ := hcl
          have hil9 := hw.il ⟨tA, tc, ⟨tn, tf⟩⟩ (by simp)
          have hr9 : tn ≤ 100 := (HW2.out.s.ok ⟨tn, tf⟩ (by simp)).n2
          obtain ⟨_, hcV, hq1, hq2⟩ := Gq.cut (n := I.length) HW2.out.q
          simp only [List.length_cons] at hI1 ⊢
          obtain ⟨L, eL⟩ : ∃ z, z = I.length := ⟨_, rfl⟩
          rw [← eL] at HP hI1 hcV hq2 ⊢
          have HLe := Lib.hid eL
          have HI9 := Lib.hid (And.intro hil9 hr9)
          have HQ := Lib.hid (And.intro hq1 hq2)
          clear hw hbx hby hin hil hW2 hTo hP hlj hil9 hr9 hcs hq1 hq2 eL hgl hgB
          have s1 : (L : Int) + 1 ≤ (cV : Int) := by omega
          have s2 : L + 1 ≤ cV := hcV
          have s3 : (1 : Int) ≤ (L : Int) + 1 := by omega
          have s4 : 0 < (L : Int) + 1 := by omega
          by_cases hc1 : cV = 1
          · subst hc1
            obtain rfl : L = 0 := by omega
            go_upto_region 16 with (go_at_call 22; refine HP.out.mono ?_; rintro e w5 ⟨⟨G, rfl, hcG, hG⟩, hs5, hk5⟩; have H5 := Lib.hid (And.intro hs5 hk5); have hq5 := HW2.out.q.keep (hk5 _ fIl); have cv := (fo_head hq5 (by simp)); have HI5 := Lib.hid (And.intro (il_pop HI9.out.1.most hG hcG) (HI9.out.1.below hs5.l)); clear hs5 hk5 hcG hG hq5)
            go_wp2_with (go_at_call 23; refine (ints_walk (some ⟨G, 0, none⟩) tA tn tn tn tc tf tf w5 HI5.out.1 HI5.out.2 HI9.out.2 ⟨rfl, fun _ _ => rfl⟩).mono ?_; rintro e w6 ⟨rfl, hb6⟩; have H6 := Lib.hid hb6; clear hb6)
            exact ⟨⟨j + 1, _, I, by omega, by go_num, (HW2.out.pop (by rw [← HLe.out]; exact H5.out.1) ((HQ.out.1 trivial).keep (H5.out.2 _ fIl))).below H6.out, by rw [← HLe.out]; simp⟩, by simp [intOf]; omega⟩
          · have s5 : (1 : Int) < (cV : Int) := by omega
            have s6 : 1 < cV := by omega
            have s7 : ¬ (cV : Int) = 1 := by omega
            have s8 : ¬ cV = 1 := by omega
            clear hc1
            go_upto_region 16 with (go_at_call 22; refine HP.out.mono ?_; rintro e w5 ⟨⟨G, rfl, hcG, hG⟩, hs5, hk5⟩; have H5 := Lib.hid (And.intro hs5 hk5); have hq5 := HW2.out.q.keep (hk5 _ fIl); have cv := (fo_head hq5 (by simp)); have HI5 := Lib.hid (And.intro (il_pop HI9.out.1.most hG hcG) (HI9.out.1.below hs5.l)); clear hs5 hk5 hcG hG hq5)
            go_wp2_with (go_at_call 23; refine (ints_walk (some ⟨G, 0, none⟩) tA tn tn tn tc tf tf w5 HI5.out.1 HI5.out.2 HI9.out.2 ⟨rfl, fun _ _ => rfl⟩).mono ?_; rintro e w6 ⟨rfl, hb6⟩; have H6 := Lib.hid hb6; clear hb6)
            exact ⟨⟨j + 1, _, I, by omega, by go_num, (HW2.out.pop (by rw [← HLe.out]; exact H5.out.1) (HQ.out.2.keep (H5.out.2 _ fIl))).below H6.out, by have h := HX.out.2.2.2; simp only [List.length_cons] at h; rw [← HLe.out] at h ⊢; omega⟩, by simp [intOf]; omega⟩
    · obtain rfl : j = N := by omega
      have p2 : ¬ (j : Int) < (j : Int) := by omega
      have hby := (Below.refl wr.heap.size wr).alloc (Nat.le_refl _) (.cells #[.int .i64 1] 3)
      have hil := il1 1 wr 3 (by decide)
      have hW2 := hw.below hby
      have hI9 : I.length ≤ 9 := by omega
      have hA := fq_all hW2.s (by rw [List.length_map]; omega) (by rw [List.length_map]; have := hw.xj; have := HNn.out; omega) (some ⟨wr.heap.size, 0, none⟩) 1 hil (fun h => by cases h)
      have HA := Lib.hid hA
      have HW2 := Lib.hid hW2
      have HI9 := Lib.hid hI9
      clear hw hby hil hW2 hA hI9 hIn
      have HL12 := Lib.hid lives12_walk
      go_upto_region 23 with (first
        | (go_at_call 24; refine HRw.out.mono ?_; rintro e w6 ⟨rfl, hb6⟩; have H6 := Lib.hid (H5.out.below hb6); clear hb6)
        | (go_at_call 25; refine HA.out.mono ?_; rintro e w5 ⟨⟨B5, v5, xs, rfl, hxl, hown, hfr⟩, hb5'⟩; have hb5 := below_sz hb5' (by simp only [World.size_alloc]); have h5 := HW2.out.below hb5; obtain ⟨A5, q5, rfl, hRw⟩ := fo_rows hxl hown hfr h5 (by have := HI9.out; omega); have H5 := Lib.hid h5; have HRw := Lib.hid hRw; clear hb5 hb5' h5 hRw hfr hown hxl))
      have m9 : (I.length : Int) ≤ 9 := by have := HI9.out; omega
      obtain ⟨M, eM⟩ : ∃ z, z = I.length := ⟨_, rfl⟩
      rw [← eM] at m9 ⊢
      have HM := Lib.hid eM
      clear eM HA HRw
      go_wp2
      go_loopw [100] (fun i wz => ∃ (k x' : Nat), k ≤ M ∧ i = .int .i64 (k : Nat) ∧ FqS w wz b x' ((I.drop k).map QIn.r) (2 * j + 2 * k) ∧ x' + (I.drop k).length ≤ j) (fun i _ => M - (intOf i).toNat)
      case atStart => exact ⟨0, x, by omega, rfl, H6.out.s, H6.out.xj⟩
      case round =>
        obtain ⟨k, x', hk, rfl, hs, hx'⟩ := hrel
        by_cases hlt2 : k < M
        · have p3 : (k : Int) < (M : Int) := by omega
          have hd : I.drop k = I[k]'(by have := HM.out; omega) :: I.drop (k + 1) := List.drop_eq_getElem_cons _
          rw [hd, List.map_cons] at hs
          rw [hd, List.length_cons] at hx'
          have hdl : (I.drop (k + 1)).length ≤ 9 := by rw [List.length_drop]; have := HI9.out; omega
          have hby := (Below.refl wr.heap.size wr).alloc (Nat.le_refl _) (.cells #[.int .i64 1] 3)
          have hin := heap_alloc_new wr (.cells #[.int .i64 1] 3)
          have hil := il1 1 wr 3 (by decide)
          have hP := fq_pop (hs.below hby) (by have := HNn.out; have := HI9.out; have := HM.out; omega) (by rw [List.length_map]; omega) (by rw [List.length_map]; have := HNn.out; omega) (some ⟨wr.heap.size, 0, none⟩) 1 (fun F L q qs hs W' ht => il_touch hs hin hil fInt W' ht) (fun h => by cases h)
          rw [List.length_map] at hP
          have HP := Lib.hid hP
          have HX2 := Lib.hid hx'
          clear hs hx' hd hdl hby hin hil hP
          go_wp2_with (go_at_call 22; refine HP.out.mono ?_; rintro e w7 ⟨⟨G, rfl, _, _⟩, hs7, _⟩; have H7 := Lib.hid hs7; clear hs7)
          exact ⟨⟨k + 1, _, by omega, by go_num, H7.out, by have := HX2.out; split <;> omega⟩, by simp [intOf]; omega⟩
        · obtain rfl : k = M := by omega
          have p3 : ¬ (k : Int) < (k : Int) := by omega
          have hd : I.drop k = [] := List.drop_eq_nil_of_le (by have := HM.out; omega)
          rw [hd, List.map_nil] at hs
          have HS := Lib.hid hs
          clear hs hx' hd
          go_wp2_with (first
            | (go_at_call 19; refine (HL12.out _).mono ?_; rintro e w9 ⟨rfl, hb9⟩; have H9 := Lib.hid hb9; clear hb9)
            | (go_at_call 27; refine (fq_made HS.out).mono ?_; rintro e w8 ⟨rfl, rfl⟩)
            | (go_at_call 26; refine (fq_len0 HS.out).mono ?_; rintro e w8 ⟨rfl, rfl⟩))
          go_ret
          exact ⟨rfl, HS.out.l.trans (H9.out.mono HS.out.l.size)⟩
end Go.Proofs.Ytedkhpnlhkjjgaa
