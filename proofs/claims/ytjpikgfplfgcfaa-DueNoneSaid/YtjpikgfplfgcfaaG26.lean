/- bank: tokens, places, and the closure that adds up. -/
import Derived.Test.YtjpikgfplfgcfaaG25
import Derived.Test.YtjpikgfplfgcfaaG13
import Derived.Test.YtjpikgfplfgcfaaG15
import Derived.Test.YtjpikgfplfgcfaaG20
namespace Go.Proofs.Ytjpikgfplfgcfaa
open Go.RowKit Go.Maps Go.Sort

/-! ### the sum -/
theorem set4_row {w : World} {g : Nat} {t : TypeId} {a b c d : Value} (x0 x1 x2 x3 : Value) (h : w.heap[g]? = some (.cells #[a, b, c, d] t (0, 0))) :
    ((((w.setCell ⟨g, 0, none⟩ x0).setCell ⟨g, 1, none⟩ x1).setCell ⟨g, 2, none⟩ x2).setCell ⟨g, 3, none⟩ x3).heap[g]? = some (.cells #[x0, x1, x2, x3] t (0, 0)) :=
  heap_setCell_row (heap_setCell_row (heap_setCell_row (heap_setCell_row h x0) x1) x2) x3
/-- the two boxes of Total: the sum so far, and that it fits -/
structure Tot (w : World) (g6 g7 S : Nat) : Prop where
  s : w.heap[g6]? = some (.cells #[.int .u64 (limb S 0 : Nat), .int .u64 (limb S 1 : Nat), .int .u64 (limb S 2 : Nat), .int .u64 (limb S 3 : Nat)] 62 (0, 0))
  f : w.heap[g7]? = some (.cells #[.bool true] 4 (0, 0))
theorem Tot.below {w w' : World} {g6 g7 S : Nat} (h : Tot w g6 g7 S) (hb : Below w.heap.size w w') : Tot w' g6 g7 S := ⟨(hb.block _ (hp_lt h.s)).trans h.s, (hb.block _ (hp_lt h.f)).trans h.f⟩
theorem set4_far {w : World} {g g' : Nat} (x0 x1 x2 x3 : Value) (hne : g ≠ g') {o : Obj} (h : w.heap[g']? = some o) :
    ((((w.setCell ⟨g, 0, none⟩ x0).setCell ⟨g, 1, none⟩ x1).setCell ⟨g, 2, none⟩ x2).setCell ⟨g, 3, none⟩ x3).heap[g']? = some o := by
  rw [Below.heap_setCell _ _ _ _ hne.symm, Below.heap_setCell _ _ _ _ hne.symm, Below.heap_setCell _ _ _ _ hne.symm, Below.heap_setCell _ _ _ _ hne.symm]
  exact h
end Go.Proofs.Ytjpikgfplfgcfaa

namespace Go.Proofs.Ytjpikgfplfgcfaa
open Go.RowKit Go.Maps Go.Sort

def amS (l : SL) : Nat := (l.map fun p => fbv p.2).sum
theorem amS_snoc (l : SL) (p : ByteArray × ByteArray) : amS (l ++ [p]) = amS l + fbv p.2 := by simp [amS]
def amT (R : Nat → SL) : Nat → Nat
  | 0 => 0
  | i + 1 => amT R i + amS (R i)
theorem amT_le (R : Nat → SL) {i m : Nat} (h : i ≤ m) : amT R i ≤ amT R m := by
  induction h with
  | refl => exact Nat.le_refl _
  | step _ ih => exact Nat.le_trans ih (Nat.le_add_right _ _)
theorem amS_take (l : SL) (j : Nat) (h : j < l.length) : amS (l.take (j + 1)) = amS (l.take j) + fbv l[j].2 := by
  rw [List.take_succ_eq_append_getElem h, amS_snoc]
theorem amS_take_le (l : SL) (j : Nat) : amS (l.take j) ≤ amS l := by
  have h := congrArg amS (List.take_append_drop j l)
  unfold amS at h ⊢
  rw [List.map_append, List.sum_append] at h
  omega
theorem pcs_at : ∀ (l : SL) (j : Nat) (h : j < l.length), (pcs l)[j * 2]? = some (.string l[j].1) ∧ (pcs l)[j * 2 + 1]? = some (.string l[j].2)
  | [], j, h => absurd h (Nat.not_lt_zero _)
  | p :: r, 0, _ => ⟨rfl, rfl⟩
  | p :: r, j + 1, h => by
    have ih := pcs_at r j (by simpa using h)
    have e : pcs (p :: r) = .string p.1 :: .string p.2 :: pcs r := rfl
    rw [e]
    refine ⟨?_, ?_⟩
    · rw [show (j + 1) * 2 = j * 2 + 1 + 1 by omega, List.getElem?_cons_succ, List.getElem?_cons_succ]
      simpa using ih.1
    · rw [show (j + 1) * 2 + 1 = j * 2 + 1 + 1 + 1 by omega, List.getElem?_cons_succ, List.getElem?_cons_succ]
      simpa using ih.2
/-- a row of pairs that was made: how it is read -/
theorem row_pairs {w : World} {B : Nat} {v : Value} {l : SL} (h : w.ownsRow B 43 2 v l.length (pcs l)) :
    ∃ A c, v = .slice A l.length c ∧ (0 < l.length → ∃ g, A = some ⟨g, 0, none⟩ ∧ B ≤ g ∧ g < w.heap.size ∧ ∀ j (h : j < l.length), w.cell? ⟨g, j * 2, none⟩ = some (.string l[j].1) ∧ w.cell? ⟨g, j * 2 + 1, none⟩ = some (.string l[j].2)) := by
  rcases h.2 with ⟨rfl, h0⟩ | ⟨g, cap, cur, rfl, hb, hg, r⟩
  · exact ⟨none, 0, by rw [h0], fun hp => by omega⟩
  · exact ⟨_, cap, rfl, fun _ => ⟨g, rfl, hb, hp_lt hg, fun j hj => ⟨ownsRow_cell h rfl (pcs_at l j hj).1, ownsRow_cell h rfl (pcs_at l j hj).2⟩⟩⟩
theorem cell_touch {F : List Nat} {w w' : World} {g o : Nat} {u : Value} (h : Touch F w w') (hg : g ∉ F) (hc : w.cell? ⟨g, o, none⟩ = some u) : w'.cell? ⟨g, o, none⟩ = some u := by
  have hl := World.block_lt_of_cell? _ _ hc
  rw [← hc]
  simp only [World.cell?, h.block g hl hg]
/-- what Total is told: the four prefixes -/
def bgs (k1 k3 k4 k6 : ByteArray) : Nat → ByteArray
  | 0 => k1
  | 1 => k3
  | 2 => k4
  | _ => k6
end Go.Proofs.Ytjpikgfplfgcfaa

namespace Go.Proofs.Ytjpikgfplfgcfaa
open Go.RowKit Go.Maps Go.Sort Go.Shelf
attribute [local go_sem] Oper.semAt_some
attribute [local go_sem] run_store_fn

/-- what keeps every block of cells of one type -/
def KeepT (T : TypeId) (W W' : World) : Prop := W.heap.size ≤ W'.heap.size ∧ ∀ (k : Nat) (cs : Array Value) (fr : Nat × Nat), W.heap[k]? = some (Obj.cells cs T fr) → W'.heap[k]? = some (Obj.cells cs T fr)
theorem KeepT.refl (T : TypeId) (W : World) : KeepT T W W := ⟨Nat.le_refl _, fun _ _ _ h => h⟩
theorem KeepT.trans {T : TypeId} {A B C : World} (h : KeepT T A B) (k : KeepT T B C) : KeepT T A C := ⟨Nat.le_trans h.1 k.1, fun i cs fr hi => k.2 i cs fr (h.2 i cs fr hi)⟩
theorem KeepT.of_below {T : TypeId} {W W' : World} (h : Below W.heap.size W W') : KeepT T W W' := ⟨h.size, fun k cs fr hk => (h.block k (hp_lt hk)).trans hk⟩
theorem KeepT.putObj {T : TypeId} (W : World) (l : Nat) (o o' : Obj) (hl : W.heap[l]? = some o) (hc : o.isCells = false) : KeepT T W (W.putObj l o') := by
  refine ⟨(grownBy_putObj' W l o').size, fun k cs fr hk => ((grownBy_putObj' W l o').block k (hp_lt hk) fun e => ?_).trans hk⟩
  cases e
  rw [hl] at hk
  cases hk
  cases hc
theorem ownsRow_keepT {T : TypeId} {w w' : World} {B k n : Nat} {v : Value} {xs : List Value} (h : w.ownsRow B T k v n xs) (hk : KeepT T w w') : w'.ownsRow B T k v n xs := by
  refine ownsRow_same h fun g hg => ?_
  rcases h.2 with ⟨rfl, _⟩ | ⟨g', cap, cur, rfl, _, hh, _⟩
  · cases hg
  · cases hg
    exact (hk.2 _ _ _ hh).trans hh.symm
theorem ownsRow_typ {T : TypeId} {w : World} {B k n : Nat} {v : Value} {xs : List Value} (h : w.ownsRow B T k v n xs) {g : Nat} (hg : v.ownBlock = some g) : ∃ cs, w.heap[g]? = some (Obj.cells cs T (0, 0)) := by
  rcases h.2 with ⟨rfl, _⟩ | ⟨g', cap, cur, rfl, _, hh, _⟩
  · cases hg
  · cases hg
    exact ⟨_, hh⟩
theorem nums_rowT {f : Nat → Int} {n : Nat} (w : World) (hn : n ≤ 100) (hf : ∀ i, i < n → 0 ≤ f i ∧ f i < 2 ^ 63) : Calls Try.prog 136 #[.string (rowV f n)] w fun e w' => e = .returned (.tuple #[.slice (some ⟨w.heap.size, 0, none⟩) n n, .bool true]) ∧ (∀ i, i < n → w'.cell? ⟨w.heap.size, i, none⟩ = some (.int .i64 (f i))) ∧ (∃ cs, w'.heap[w.heap.size]? = some (Obj.cells cs 3 (0, 0))) ∧ Below w.heap.size w w' := by
  have hch : ∀ i, i < n → chunk (rowV f n) i = (f i).toNat := fun i hi => chunk_tl (f := f) (n := n) rfl hi (hf i hi).2
  refine (nums_walk (rowV f n) n w (by rw [rowV_size]) hn).mono ?_
  rintro e w' ⟨⟨_, he, hr⟩ | ⟨⟨i, hi, hne⟩, _⟩, hb⟩
  · refine ⟨he, fun i hi => ?_, ownsRow_typ hr rfl, hb⟩
    rw [hr.cellAt i (by omega)]
    have h0 := (hf i hi).1
    have e1 : (((f i).toNat : Nat) : Int) = f i := by omega
    simp [i64n, hi, hch i hi, e1]
  · have := (hf i hi).2
    rw [hch i hi] at hne
    omega
/-- a row that comes: its key, where its numbers lie, how many -/
structure DRow where
  k : ByteArray
  g : Nat
  n : Nat
def DRow.encs (x : DRow) : Array Value := #[.string x.k, .slice (some ⟨x.g, 0, none⟩) x.n x.n]
/-- row i, in a world: its key and its numbers -/
structure DHas (key : Nat → ByteArray) (n : Nat → Nat) (f : Nat → Nat → Int) (B i : Nat) (x : DRow) (W : World) : Prop where
  k : x.k = key i
  n : x.n = n i
  at_ : ∀ t, t < x.n → W.cell? ⟨x.g, t, none⟩ = some (.int .i64 (f i t))
  ty : ∃ cs, W.heap[x.g]? = some (Obj.cells cs 3 (0, 0))
  ge : B ≤ x.g
  pos : 1 ≤ x.n
theorem DHas.keep {key : Nat → ByteArray} {n : Nat → Nat} {f : Nat → Nat → Int} {B i : Nat} {x : DRow} {W W' : World} (h : DHas key n f B i x W) (hk : KeepT 3 W W') : DHas key n f B i x W' := by
  obtain ⟨cs, hc⟩ := h.ty
  have hc' := hk.2 _ _ _ hc
  exact ⟨h.k, h.n, fun t ht => by rw [← h.at_ t ht]; simp only [World.cell?, hc, hc'], ⟨cs, hc'⟩, h.ge, h.pos⟩
/-- what is known of it where it comes -/
def DTold (N : Nat) (key : Nat → ByteArray) (n : Nat → Nat) (f : Nat → Nat → Int) (B : Nat) (pre : List DRow) (x : DRow) (W : World) : Prop := pre.length < N ∧ DHas key n f B pre.length x W
theorem DTold.putObj {N : Nat} {key : Nat → ByteArray} {n : Nat → Nat} {f : Nat → Nat → Int} {B : Nat} {pre : List DRow} {x : DRow} {W : World} (h : DTold N key n f B pre x W) {l : Nat} {o : Obj} (o' : Obj) (hl : W.heap[l]? = some o) (hc : o.isCells = false) : DTold N key n f B pre x (W.putObj l o') :=
  ⟨h.1, h.2.keep (KeepT.putObj W l o o' hl hc)⟩
set_option maxRecDepth 100000 in
set_option maxHeartbeats 4000000 in
theorem duer_tells (m : Nat) (P : Option Addr) (K0 : ByteArray) (b1 b2 N : Nat) (U : SL) (key : Nat → ByteArray) (bj : Nat → Int) (jj : Nat → Int) (n : Nat → Nat) (f : Nat → Nat → Int) (w0 : World)
    (h1 : w0.cell? ⟨b1, 0, none⟩ = some (.pointer P)) (h2 : w0.cell? ⟨b2, 0, none⟩ = some (.string K0)) (hU : ∀ i (h : i < U.length), U[i] = (key i, rowV (f i) (n i))) (hN : U.length = N) (hN9 : N ≤ 1000000)
    (hkey : ∀ i, i < N → keyStr 26 (two2 (bj i) (jj i)) 2 = key i ∧ (0 ≤ bj i ∧ bj i < 2 ^ 63) ∧ (0 ≤ jj i ∧ jj i < 2 ^ 63)) (hn : ∀ i, i < N → 1 ≤ n i ∧ n i ≤ 100) (hf : ∀ i, i < N → ∀ t, t < n i → 0 ≤ f i t ∧ f i t < 2 ^ 63)
    (HU : ∀ W, Below w0.heap.size w0 W → Calls Try.prog 30 #[.pointer P, .string K0] W fun e w' => (∃ v, e = .returned v ∧ w'.ownsRow W.heap.size 43 2 v U.length (pcs U)) ∧ Below W.heap.size W w') :
    SeqTells Fence.wide (m + 1) Try.prog 144 #[.pointer (some ⟨b1, 0, none⟩), .pointer (some ⟨b2, 0, none⟩)] DRow.encs (KeepT 43) (DTold N key n f w0.heap.size) (fun xs => xs.length = N) (fun pre => pre.length ≤ N) w0 := by
  intro l J Jx W hW hJ hJx hY h0
  have c1 := hW.cell (p := ⟨b1, 0, none⟩) (World.block_lt_of_cell? _ _ h1) |>.trans h1
  have c2 := hW.cell (p := ⟨b2, 0, none⟩) (World.block_lt_of_cell? _ _ h2) |>.trans h2
  have HUs := Lib.hid (HU W hW)
  have HYs := Lib.hid hY
  have HJs := Lib.hid hJ
  have HJ0 := Lib.hid h0
  have HU0 := Lib.hid hU
  have HK := Lib.hid hkey
  have Hn := Lib.hid hn
  have Hf := Lib.hid hf
  have HN := Lib.hid hN
  have HWs := Lib.hid hW.size
  have hN' : (U.length : Int) ≤ 1000000 := by omega
  clear hY hJ hJx h0 hU hkey hn hf hN hN9 HU hW h1 h2
  refine callsIn_of_wp Try.func144 rfl trivial ?_ rfl
  simp only [Try.ntmps144, List.size_toArray, List.length_cons, List.length_nil, Nat.reduceAdd, Nat.reduceSub, Array.replicate_succ, Array.replicate_zero, List.push_toArray, List.append_toArray, List.nil_append, List.cons_append]
  gi_wp2_with (refine ⟨trivial, ?_⟩; gi_at_call 30; refine (callsIn_wide.2 HUs.out).mono ?_; rintro e w1 ⟨⟨v, rfl, hv⟩, hb1⟩; obtain ⟨A, c, rfl, _⟩ := row_pairs hv; have HV := Lib.hid hv; have HB1 := Lib.hid hb1; clear hv hb1)
  gi_loopw [15] (fun i wr => ∃ pre : List DRow, pre.length ≤ N ∧ i = .int .i64 (pre.length : Nat) ∧ J pre wr ∧ wr.ownsRow W.heap.size 43 2 (.slice A U.length c) U.length (pcs U) ∧ w0.heap.size ≤ wr.heap.size) (fun i _ => N - (intOf i).toNat)
  case atStart => exact ⟨[], Nat.zero_le _, rfl, HJs.out _ _ _ HJ0.out HB1.out, HV.out, Nat.le_trans HWs.out HB1.out.size⟩
  case round =>
    obtain ⟨pre, hpl, rfl, hJp, hown, hsz⟩ := hrel
    have HJp := Lib.hid hJp
    have HO := Lib.hid hown
    have HS := Lib.hid hsz
    clear hJp hsz
    by_cases hlt : pre.length < N
    · have hltU : pre.length < U.length := by have := HN.out; omega
      have p1 : (pre.length : Int) < (U.length : Int) := by omega
      obtain ⟨A', c', e, hr⟩ := row_pairs hown
      cases e
      obtain ⟨g, rfl, _, hg, hc⟩ := hr (by omega)
      obtain ⟨d0, d1⟩ := hc _ hltU
      rw [HU0.out _ hltU] at d0 d1
      simp only at d0 d1
      have hKj := HK.out _ hlt
      have hnj := Hn.out _ hlt
      have hfj := Hf.out _ hlt
      obtain ⟨kj, ekj⟩ : ∃ z, z = key pre.length := ⟨_, rfl⟩
      obtain ⟨nj, enj⟩ : ∃ z, z = n pre.length := ⟨_, rfl⟩
      obtain ⟨fj, efj⟩ : ∃ z, z = f pre.length := ⟨_, rfl⟩
      rw [← ekj] at d0 hKj
      rw [← enj] at d1 hnj hfj
      rw [← efj] at d1 hfj
      obtain ⟨vj, evj⟩ : ∃ z, z = rowV fj nj := ⟨_, rfl⟩
      rw [← evj] at d1
      have HNm := Lib.hid (fun w => show Calls Try.prog 136 #[.string vj] w fun e w' => e = .returned (.tuple #[.slice (some ⟨w.heap.size, 0, none⟩) nj nj, .bool true]) ∧ (∀ i, i < nj → w'.cell? ⟨w.heap.size, i, none⟩ = some (.int .i64 (fj i))) ∧ (∃ cs, w'.heap[w.heap.size]? = some (Obj.cells cs 3 (0, 0))) ∧ Below w.heap.size w w' from by rw [evj]; exact nums_rowT w hnj.2 hfj)
      have HPl := Lib.hid (fun w => place_is _ _ kj hKj.1 hKj.2.1 hKj.2.2 w)
      have p2 : ¬ (nj : Int) = 0 := by omega
      have p3 : ((nj : Int) == 0) = false := by simpa using p2
      have HE := Lib.hid (And.intro ekj (And.intro enj (And.intro efj hnj)))
      have HB0 := Lib.hid ((Below.refl wr.heap.size wr).alloc (Nat.le_refl _) (.cells #[.string kj, .string vj] 43))
      have r0 := heap_alloc_new wr (.cells #[.string kj, .string vj] 43)
      have R0 := Lib.hid r0
      clear hown hr hc hKj hnj hfj ekj enj efj evj r0
      gi_wp2_with (refine ⟨trivial, ?_⟩; first
        | (gi_at_call 112; refine (callsIn_wide.2 (HPl.out _)).mono ?_; rintro e w3 ⟨rfl, hb3⟩; have B3 := Lib.hid (B2.out.trans (hb3.mono B2.out.size)); have c3 := (hp_cell (i := 0) ((hb3.block _ (hp_lt R2.out)).trans R2.out)).trans rfl; obtain ⟨fn, tmps, assign, body, hy, hR⟩ := HYs.out pre ⟨kj, wr.heap.size + 1, nj⟩ w3 (HJs.out _ _ _ HJp.out B3.out) ⟨hlt, HE.out.1, HE.out.2.1, fun t ht => (hb3.cell (p := ⟨wr.heap.size + 1, t, none⟩) (by obtain ⟨_, hz⟩ := Z2.out; exact hp_lt hz)).trans (by rw [← HE.out.2.2.1]; exact HC2.out t ht), by obtain ⟨cs, hz⟩ := Z2.out; exact ⟨cs, (hb3.block _ (hp_lt hz)).trans hz⟩, by have := HS.out; show w0.heap.size ≤ wr.heap.size + 1; omega, HE.out.2.2.2.1⟩; have hR' := Lib.hid hR; clear hR hb3; dsimp only [DRow.encs] at hy)
        | (gi_at_call 136; with_reducible refine (callsIn_wide.2 (HNm.out _)).mono ?_; rintro e w2 ⟨rfl, hc2, hz2, hb2⟩; rw [World.size_alloc] at hc2 hz2; have B2 := Lib.hid (HB0.out.trans (hb2.mono HB0.out.size)); have HC2 := Lib.hid hc2; have Z2 := Lib.hid hz2; have r2 := (hb2.block _ (hp_lt R0.out)).trans R0.out; have c2 := (hp_cell (i := 0) r2).trans rfl; have R2 := Lib.hid r2; clear hc2 hz2 hb2 r2))
      refine hR'.out.mono ?_
      rintro e W3 (⟨rfl, hJ3, hk3⟩ | ⟨rfl, hJx3⟩)
      · gi_wp2
        go_roundw
        case rel => exact ⟨pre ++ [⟨kj, wr.heap.size + 1, nj⟩], by simp; omega, by simp, hJ3, ownsRow_keepT (ownsRow_keepT HO.out (KeepT.of_below B3.out)) hk3, Nat.le_trans HS.out (Nat.le_trans B3.out.size hk3.1)⟩
        case measure => simp [intOf]; omega
      · gi_wp2
        refine bodyPost_ret (results_none rfl _ _ _) rfl ?_
        exact ⟨⟨_, rfl⟩, .inr ⟨pre ++ [⟨kj, wr.heap.size + 1, nj⟩], by simp; omega, hJx3⟩⟩
    · have p1 : ¬ (pre.length : Int) < (U.length : Int) := by have := HN.out; omega
      clear hown
      gi_wp2
      go_end0
      exact ⟨⟨_, rfl⟩, .inl ⟨pre, by omega, HJp.out⟩⟩
end Go.Proofs.Ytjpikgfplfgcfaa
