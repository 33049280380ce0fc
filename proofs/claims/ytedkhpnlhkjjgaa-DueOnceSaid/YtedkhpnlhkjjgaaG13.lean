/- keys of some numbers, as letters; keys.Table. -/
import Derived.Test.YtedkhpnlhkjjgaaG11
import Derived.Test.YtedkhpnlhkjjgaaG12
import Derived.Test.YtedkhpnlhkjjgaaG07
import Derived.RangeFuncNested
import Derived.RangeFuncBound
import Derived.RangeFuncCalls
import Derived.RangeFuncLeaves
import Derived.RangeFuncFrom
import Derived.Shelf.Abstract
import Derived.Shelf.RegionOpen
import Derived.WalkKit
import Derived.OwnWalkIn
import Derived.TacticsInMore
import Derived.LoopNIn
import Derived.LoopIn
namespace Go.Proofs.Ytedkhpnlhkjjgaa
open Go.RowKit Go.Maps

/-- a key that is known -/
theorem key_is (t : Int) (A : Option Addr) (n c : Nat) (f : Nat → Int) (K : ByteArray) (hK : keyStr t f n = K) (w : World) (hl : Il w A n f) (hn : n ≤ 100) :
    Calls Try.prog 60 #[.int .i64 t, .slice A n c] w fun e w' => e = .returned (.string K) ∧ Below w.heap.size w w' := by
  refine (key_walk t A n c f w hl hn).mono ?_
  rintro e w' ⟨he, hb⟩
  rw [hK] at he
  exact ⟨he, hb⟩
theorem keyStr_size (t : Int) (f : Nat → Int) (n : Nat) : (keyStr t f n).size ≤ 1 + 8 * n := by
  unfold keyStr
  split
  · rw [strOfNums_size]
    simp [ints, kbs_length]
  · exact Nat.zero_le _
/-- some key -/
theorem key_some (t : Int) (A : Option Addr) (n c : Nat) (f : Nat → Int) (w : World) (hl : Il w A n f) (hn : n ≤ 100) :
    Calls Try.prog 60 #[.int .i64 t, .slice A n c] w fun e w' => (∃ K : ByteArray, e = .returned (.string K) ∧ K.size ≤ 801) ∧ Below w.heap.size w w' := by
  refine (key_walk t A n c f w hl hn).mono ?_
  rintro e w' ⟨he, hb⟩
  exact ⟨⟨_, he, Nat.le_trans (keyStr_size t f n) (by omega)⟩, hb⟩
set_option maxRecDepth 100000 in
theorem tbl_is (t : Int) (K : ByteArray) (hK : keyStr t (fun _ => 0) 0 = K) (w : World) : Calls Try.prog 81 #[.int .i64 t] w fun e w' => e = .returned (.string K) ∧ Below w.heap.size w w' := by
  have hk := Lib.hid (fun w => key_is t none 0 0 (fun _ => 0) K hK w ⟨fun _ => by decide, fun h => absurd h (by omega)⟩ (by omega))
  go_enter Try.func81, Try.ntmps81
  go_wp2_with (go_at_call 60; refine (hk.out _).mono ?_; rintro e w1 ⟨rfl, hb1⟩)
  go_ret
  exact ⟨rfl, hb1⟩
theorem tbl_some (t : Int) (w : World) : Calls Try.prog 81 #[.int .i64 t] w fun e w' => (∃ K : ByteArray, e = .returned (.string K) ∧ K.size ≤ 801) ∧ Below w.heap.size w w' := by
  refine (tbl_is t _ rfl w).mono ?_
  rintro e w' ⟨he, hb⟩
  exact ⟨⟨_, he, Nat.le_trans (keyStr_size _ _ _) (by omega)⟩, hb⟩
theorem il1 (a : Int) (w : World) (t : TypeId) (ha : a < 2 ^ 63) : Il (w.alloc (.cells #[.int .i64 a] t)) (some ⟨w.heap.size, 0, none⟩) 1 (fun _ => a) :=
  ⟨fun _ => ha, fun _ => ⟨w.heap.size, 0, rfl, by simp, fun i hi => by obtain rfl : i = 0 := (by omega); exact (World.cell?_alloc_at _ _ _ _ rfl).trans rfl⟩⟩
/-! ### steps one behind the other -/
theorem SNew.start {w W : World} {b : Nat} {F : List Nat} {L : SL} {q : Nat} {qs : List Value} (h : SNew w W b F L q qs) : LiveTo w W W b F L q := h.same (Below.refl _ _)
theorem LiveTo.l {w W W' : World} {b : Nat} {F : List Nat} {L : SL} {q : Nat} (h : LiveTo w W W' b F L q) : Below w.heap.size w W' := by
  obtain ⟨_, _, _, hs, _⟩ := h
  exact hs.l
theorem LiveTo.grows {w W W' : World} {b : Nat} {F : List Nat} {L : SL} {q : Nat} (h : LiveTo w W W' b F L q) : W.heap.size ≤ W'.heap.size := by
  obtain ⟨_, _, _, _, _, ht, _⟩ := h
  exact ht.size
theorem LiveTo.al {w W W' : World} {b : Nat} {F : List Nat} {L : SL} {q : Nat} (h : LiveTo w W W' b F L q) (o : Obj) : LiveTo w W (W'.alloc o) b F L q := h.post ((Below.refl _ _).alloc (Nat.le_refl _) o)
/-- a call that changes the store, behind others -/
theorem LiveTo.seq {w W W1 : World} {b : Nat} {F : List Nat} {L1 : SL} {q1 : Nat} (h1 : LiveTo w W W1 b F L1 q1) (d : Nat) {f : FuncId} {args : Array Value} {E : Ending → Prop} {L2 : SL}
    (hc : ∀ F1 qa qsa, SNew w W1 b F1 L1 qa qsa → qa ≤ q1 → Calls Try.prog f args W1 fun e W2 => E e ∧ LiveTo w W1 W2 b F1 L2 (qa + d)) :
    Calls Try.prog f args W1 fun e W2 => E e ∧ LiveTo w W W2 b F L2 (q1 + d) := by
  have hz := h1.grows
  obtain ⟨F1, qa, qsa, hs, hq, ht, hf⟩ := h1
  refine (hc F1 qa qsa hs hq).mono ?_
  rintro e W2 ⟨he, F2, q2, qs2, hs2, hq2, ht2, hf2⟩
  refine ⟨he, F2, q2, qs2, hs2, by omega, ht.trans hf ht2, fun k hk => ?_⟩
  rcases hf2 k hk with h | h
  · exact hf k h
  · right; omega
/-- a call that looks at the store, behind others -/
theorem LiveTo.read {w W W1 : World} {b : Nat} {F : List Nat} {L1 : SL} {q1 : Nat} (h1 : LiveTo w W W1 b F L1 q1) {f : FuncId} {args : Array Value} {E : Ending → World → Prop}
    (hc : ∀ F1 qa qsa, SNew w W1 b F1 L1 qa qsa → qa ≤ q1 → Calls Try.prog f args W1 fun e W2 => E e W2 ∧ Below W1.heap.size W1 W2) :
    Calls Try.prog f args W1 fun e W2 => E e W2 ∧ LiveTo w W W2 b F L1 q1 ∧ Below W1.heap.size W1 W2 := by
  have h2 := h1
  obtain ⟨F1, qa, qsa, hs, hq, _⟩ := h2
  refine (hc F1 qa qsa hs hq).mono ?_
  rintro e W2 ⟨he, hb⟩
  exact ⟨he, h1.post hb, hb⟩
/-- blocks of one's own may be written beside -/
theorem LiveTo.own {w W W1 W' W'' : World} {b : Nat} {F : List Nat} {L : SL} {q : Nat} (h : LiveTo w W1 W' b F L q) (hwW : w.heap.size ≤ W.heap.size) (hF : ∀ k ∈ F, k < W.heap.size) (hb : Below W.heap.size W W1) (G : List Nat) (hG : ∀ g ∈ G, W.heap.size ≤ g ∧ g < W1.heap.size) (ht : Touch G W' W'') : LiveTo w W W'' b F L q := by
  obtain ⟨F', q', qs', hs, hq, ht1, hf⟩ := h
  have hd : ∀ k ∈ F', k ∉ G := fun k hk hg => by
    have := hG k hg
    rcases hf k hk with h | h
    · have := hF k h; omega
    · omega
  refine ⟨F', q', qs', ⟨hs.s.touch ht hd, hs.f, hs.l.trans (ht.below (fun k hk => by have := hG k hk; omega) hs.l.size)⟩, hq, ?_, fun k hk => ?_⟩
  · refine ((Touch.of_below hb).trans (fun _ hk => .inl hk) ht1).trans (F' := G) (fun g hg => .inr (hG g hg).1) ht
  · rcases hf k hk with h | h
    · exact .inl h
    · right; have := hb.size; omega
theorem touch_set4 {G : List Nat} {w : World} {b : Nat} {x0 x1 x2 x3 : Value} (h : b ∈ G) : Touch G w ((((w.setCell ⟨b, 0, none⟩ x0).setCell ⟨b, 1, none⟩ x1).setCell ⟨b, 2, none⟩ x2).setCell ⟨b, 3, none⟩ x3) :=
  (((Touch.setCell w ⟨b, 0, none⟩ x0 h).trans (fun _ hk => .inl hk) (Touch.setCell _ ⟨b, 1, none⟩ x1 h)).trans (fun _ hk => .inl hk) (Touch.setCell _ ⟨b, 2, none⟩ x2 h)).trans (fun _ hk => .inl hk) (Touch.setCell _ ⟨b, 3, none⟩ x3 h)
/-- what a step on an empty key makes of the list -/
theorem setL_nil (k v : ByteArray) : setL [] k v = [(k, v)] := by
  unfold setL
  rw [if_neg (by simp [sget])]
  rfl
end Go.Proofs.Ytedkhpnlhkjjgaa

namespace Go.Proofs.Ytedkhpnlhkjjgaa
open Go.RowKit Go.Maps Go.Sort

/-- the cells of pairs -/
def pcs (l : SL) : List Value := l.flatMap fun p => [.string p.1, .string p.2]
theorem pcs_snoc (l : SL) (p : ByteArray × ByteArray) : pcs (l ++ [p]) = pcs l ++ [.string p.1, .string p.2] := by simp [pcs]
def hpre (x : ByteArray) (p : ByteArray × ByteArray) : Bool := Lib.hasPrefix p.1.data.toList x.data.toList
/-- what stands under x -/
def under (L : SL) (x : ByteArray) : SL := (L.drop (klo (skeys L) x)).takeWhile (hpre x)
theorem takeWhile_here {α : Type} (P : α → Bool) : ∀ (l : List α) (k : Nat), k ≤ l.length → (∀ j (h : j < l.length), j < k → P l[j] = true) → (∀ h : k < l.length, P l[k] = false) → l.takeWhile P = l.take k
  | [], k, _, _, _ => by simp
  | a :: r, 0, _, _, h => by
    have := h (by simp)
    simp only [List.getElem_cons_zero] at this
    simp [this]
  | a :: r, k + 1, hk, ha, h => by
    have h0 := ha 0 (by simp) (by omega)
    simp only [List.getElem_cons_zero] at h0
    rw [List.takeWhile_cons, h0, List.take_succ_cons]
    simp only [if_true]
    congr 1
    refine takeWhile_here P r k (by simpa using hk) (fun j hj hlt => ?_) (fun hh => ?_)
    · have := ha (j + 1) (by simpa using hj) (by omega)
      simpa using this
    · have := h (by simpa using hh)
      simpa using this
theorem infoPair : (Try.prog.info? 184).map (fun i => (i.zero, i.size, i.bytes)) = some (some (.agg #[.string { data := #[] }, .string { data := #[] }]), 2, 32) := by kernel_rfl
/-- 'm[k]' -/
theorem MapAt.plain {w : World} {bm : Nat} {L : SL} (h : MapAt w bm L) (k : ByteArray) (hk : k.size ≤ maxLen) :
    (Instr.lookup 103 (.map (some bm)) (.string k) false).run Try.prog w = .ok (.agg #[.string ((sget L k).getD { data := #[] })]) w := by
  obtain ⟨D, ho, hR⟩ := h
  obtain ⟨v, ps, hrun, hv⟩ := ho.lookup skeyed Try.underlying103 (zeroEntry w) (entR_mk (s := { data := #[] }) (by decide)) (keyOf_s hk)
  obtain ⟨s, rfl, hz⟩ := entR_inv hv
  have e := hR.get (k := k) (s := s) (by have := congrArg Prod.fst hz; simpa using this)
  rw [hrun, e]
theorem sget_at : ∀ (L : SL), Rising (skeys L) → ∀ i (h : i < L.length), sget L L[i].1 = some L[i].2
  | [], _, i, h => absurd h (Nat.not_lt_zero _)
  | p :: r, hr, i, h => by
    cases i with
    | zero => simp [sget, keq_self]
    | succ i =>
      have hi : i < r.length := by simpa using h
      have hr' := List.pairwise_cons.1 hr
      have hlt : p.1.data.toList < r[i].1.data.toList := hr'.1 r[i].1 (List.mem_map.2 ⟨r[i], List.getElem_mem _, rfl⟩)
      have hne : keq p.1 r[i].1 = false := keq_ne fun e => by rw [e] at hlt; exact List.lt_irrefl _ hlt
      have ih := sget_at r hr'.2 i hi
      unfold sget at ih ⊢
      simp only [List.getElem_cons_succ]
      rw [List.find?_cons, hne]
      exact ih
/-- what the rounds of Under read -/
structure UnAt (w : World) (b bm ba bk bc kc : Nat) (L : SL) : Prop where
  r0 : w.cell? ⟨b, 0, none⟩ = some (.map (some bm))
  r1 : w.cell? ⟨b, 1, none⟩ = some (.slice (some ⟨ba, 0, none⟩) 1 bc)
  ka : w.cell? ⟨ba, 0, none⟩ = some (.slice (some ⟨bk, 0, none⟩) L.length kc)
  kj : ∀ i (h : i < L.length), w.cell? ⟨bk, i, none⟩ = some (.string L[i].1)
  lk : ∀ i (h : i < L.length), (Instr.lookup 103 (.map (some bm)) (.string L[i].1) false).run Try.prog w = .ok (.agg #[.string L[i].2]) w
theorem unAt_of {w : World} {b bm : Nat} {vb vk vq : Value} {L : SL} {q : Nat} {qs : List Value} (h : StM w b bm vb vk vq L q qs) (hL : L ≠ []) (hks : ∀ p ∈ L, p.1.size ≤ maxLen) :
    ∃ ba bk bc kc, vb = .slice (some ⟨ba, 0, none⟩) 1 bc ∧ vk = .slice (some ⟨bk, 0, none⟩) L.length kc ∧ L.length ≤ kc ∧ (∀ w', Below w.heap.size w w' → UnAt w' b bm ba bk bc kc L) := by
  have hn : 0 < L.length := List.length_pos_iff.2 hL
  have hkb := h.kb
  rw [if_neg hL, if_neg hL] at hkb
  obtain ⟨ba, bc, hvb, _⟩ := ownsRow_form hkb (by omega)
  have hkk := h.kk hL
  obtain ⟨bk, kc, hvk, hcap⟩ : ∃ bk kc, vk = .slice (some ⟨bk, 0, none⟩) L.length kc ∧ L.length ≤ kc := by
    rcases hkk.2 with ⟨rfl, h0⟩ | ⟨g, cap, cur, rfl, hb, hg, hc, _⟩
    · omega
    · exact ⟨g, cap, rfl, hc⟩
  refine ⟨ba, bk, bc, kc, hvb, hvk, hcap, fun w' hB => ?_⟩
  have h' := h.below hB
  have hkb' := h'.kb
  rw [if_neg hL, if_neg hL] at hkb'
  have e1 : ∀ i (h : i < L.length), ((skeys L).map Value.string)[i]? = some (.string L[i].1) := fun i hi => by simp [skeys, hi]
  refine ⟨(hp_cell (i := 0) h'.r).trans rfl, (hp_cell (i := 1) h'.r).trans (by rw [hvb]; rfl), (ownsRow_cell hkb' hvb (j := 0) rfl).trans (by rw [hvk]), fun i hi => ownsRow_cell (h'.kk hL) hvk (e1 i hi), fun i hi => ?_⟩
  have := h'.m.plain L[i].1 (hks _ (List.getElem_mem _))
  rw [sget_at L h.so i hi] at this
  exact this
/-- the pairs so far, the first k of D -/
def UnRel (D : SL) (x : ByteArray) (w : World) (v i : Value) (wr : World) : Prop :=
  ∃ k : Nat, k ≤ D.length ∧ i = .int .i64 (k : Nat) ∧ wr.ownsRow w.heap.size 184 2 v k (pcs (D.take k)) ∧ (∀ j (h : j < D.length), j < k → hpre x D[j] = true) ∧ Below w.heap.size w wr
/-- the outer rounds -/
def UnOut (L : SL) (l : Nat) (x : ByteArray) (w : World) (v i j : Value) (wr : World) : Prop :=
  (i = .int .i64 0 ∧ j = .int .i64 (l : Nat) ∧ v = .slice none 0 0 ∧ Below w.heap.size w wr) ∨
  (i = .int .i64 1 ∧ j = .int .i64 0 ∧ wr.ownsRow w.heap.size 184 2 v (L.drop l).length (pcs (L.drop l)) ∧ (∀ p ∈ L.drop l, hpre x p = true) ∧ Below w.heap.size w wr)
def UnPost (L : SL) (x : ByteArray) (w : World) (e : Ending) (w' : World) : Prop :=
  (∃ v, e = .returned v ∧ w'.ownsRow w.heap.size 184 2 v (under L x).length (pcs (under L x))) ∧ Below w.heap.size w w'
theorem un_nil {L : SL} {x : ByteArray} {w w' : World} (h : under L x = []) (hb : Below w.heap.size w w') : UnPost L x w (Ending.returned (.slice none 0 0)) w' := by
  refine ⟨⟨_, rfl, ?_⟩, hb⟩
  rw [h]
  exact World.ownsRow_nil _ _ _ _
set_option maxRecDepth 100000 in
set_option maxHeartbeats 2000000 in
/-- no keys: no blocks -/
theorem under_none (b : Nat) (F : List Nat) (q : Nat) (qs : List Value) (W : World) (h : StP W b F [] q qs) (x : ByteArray) :
    Calls Try.prog 124 #[.pointer (some ⟨b, 0, none⟩), .string x] W fun e w' => UnPost [] x W e w' := by
  have HM := Lib.hid (made_live b F [] q qs W h)
  obtain ⟨bm, vb, vk, vq, rfl, hS⟩ := h
  obtain ⟨A, c, rfl⟩ : ∃ A c, vb = .slice A 0 c := by
    have hkb := hS.kb
    rw [if_pos rfl, if_pos rfl] at hkb
    rcases hkb.2 with ⟨rfl, _⟩ | ⟨g, cap, cur, rfl, _⟩
    · exact ⟨_, _, rfl⟩
    · exact ⟨_, _, rfl⟩
  have HP := Lib.hid (place_none b bm A c vq x W hS.r)
  have HR := Lib.hid (fun w' (hB : Below W.heap.size W w') => (hp_cell (i := 1) ((hB.block b (hp_lt hS.r)).trans hS.r)).trans rfl)
  clear hS
  go_enter Try.func124, Try.ntmps124
  go_wp2_with (first | (go_at_call 27; refine HM.out.mono ?_; rintro e w1 ⟨rfl, rfl⟩) | (go_at_call 145; refine HP.out.mono ?_; rintro e w2 ⟨rfl, hb2⟩; have B2 := Lib.hid hb2; have r1 := HR.out _ hb2; clear hb2))
  go_loopw [5, 6, 7] (fun v i j wr => v = .slice none 0 0 ∧ i = .int .i64 0 ∧ j = .int .i64 0 ∧ w2 = wr) (fun _ _ _ _ => 0)
  case atStart => exact ⟨rfl, rfl, rfl, rfl⟩
  case round =>
    obtain ⟨rfl, rfl, rfl, rfl⟩ := hrel
    go_wp2
    go_ret
    exact un_nil (by simp [under]) B2.out
theorem fieldE (v : ByteArray) (w : World) : (Instr.field 148 (.agg #[.string v]) 0).run Try.prog w = .ok (.string v) w := by kernel_rfl
set_option maxRecDepth 100000 in
set_option maxHeartbeats 4000000 in
theorem under_some (b : Nat) (F : List Nat) (L : SL) (q : Nat) (qs : List Value) (W : World) (h : StP W b F L q qs) (x : ByteArray) (hL : L ≠ []) (hks : ∀ p ∈ L, p.1.size ≤ maxLen) (hN : L.length < 128) :
    Calls Try.prog 124 #[.pointer (some ⟨b, 0, none⟩), .string x] W fun e w' => UnPost L x W e w' := by
  obtain ⟨i0, hi, hz0, hz1, hz2⟩ := info_parts infoPair
  have HM := Lib.hid (made_live b F L q qs W h)
  obtain ⟨bm, vb, vk, vq, rfl, hS⟩ := h
  obtain ⟨ba, bk, bc, kc, rfl, rfl, hcap, hU⟩ := unAt_of hS hL hks
  have hn : 0 < L.length := List.length_pos_iff.2 hL
  have hlen : (skeys L).length = L.length := by simp [skeys]
  have hUW := hU W (Below.refl _ _)
  have hP := place_some b bm ba bc bk kc (skeys L) vq x W (by omega) (by omega) hS.so (by rw [hS.r]) (by rw [hlen]; exact hUW.ka) (fun i hi => by rw [hUW.kj i (by omega)]; simp [skeys])
  rw [hlen] at hP
  obtain ⟨l, hl⟩ : ∃ l, l = klo (skeys L) x := ⟨_, rfl⟩
  have hle : l ≤ L.length := by have := klo_le (skeys L) x; omega
  have hund : under L x = (L.drop l).takeWhile (hpre x) := by rw [hl]; rfl
  rw [← hl] at hP
  have HU := Lib.hid hU
  clear hS hks hUW hl hU
  by_cases hend : l = L.length
  · rw [if_pos hend] at hP
    have HP := Lib.hid hP
    have HE := Lib.hid (show under L x = [] by rw [hund, hend, List.drop_length]; rfl)
    clear hP hund hend hle hN hcap hL hn hlen
    go_enter Try.func124, Try.ntmps124
    go_wp2_with (first | (go_at_call 27; refine HM.out.mono ?_; rintro e w1 ⟨rfl, rfl⟩) | (go_at_call 145; refine HP.out.mono ?_; rintro e w2 ⟨rfl, hb2⟩; have B2 := Lib.hid hb2; have r1 := (HU.out _ hb2).r1; clear hb2))
    go_loopw [5, 6, 7] (fun v i j wr => v = .slice none 0 0 ∧ i = .int .i64 1 ∧ j = .int .i64 0 ∧ w2 = wr) (fun _ _ _ _ => 0)
    case atStart => exact ⟨rfl, rfl, rfl, rfl⟩
    case round =>
      obtain ⟨rfl, rfl, rfl, rfl⟩ := hrel
      go_wp2
      go_ret
      exact un_nil HE.out B2.out
  · rw [if_neg hend] at hP
    have HP := Lib.hid hP
    have hlt : l < L.length := by omega
    have HS := Lib.hid hund
    have HL := Lib.hid hlt
    have HC := Lib.hid hcap
    obtain ⟨n, hnn⟩ : ∃ n, n = L.length := ⟨_, rfl⟩
    have HNN := Lib.hid hnn
    have hn1 : (l : Int) < (n : Int) := by omega
    have hn2 : (l : Int) ≤ (n : Int) := by omega
    have hn3 : (n : Int) ≤ (kc : Int) := by omega
    have hn4 : (l : Int) < (kc : Int) := by omega
    have hn5 : (n : Int) < 128 := by omega
    have hn6 : (l : Int) ≤ (kc : Int) := by omega
    have hn7 : (0 : Int) ≤ (l : Int) := by omega
    clear hP hund hend hle hN hcap hL hn hlen hlt hnn
    go_enter Try.func124, Try.ntmps124
    go_wp2_with (first | (go_at_call 27; refine HM.out.mono ?_; rintro e w1 ⟨rfl, rfl⟩) | (go_at_call 145; refine HP.out.mono ?_; rintro e w2 ⟨rfl, hb2⟩; have B2 := Lib.hid hb2; clear hb2))
    go_loopw [5, 6, 7] (UnOut L l x W) (fun _ i _ _ => 1 - (intOf i).toNat)
    case atStart => exact .inl ⟨rfl, rfl, rfl, B2.out⟩
    case round =>
      rcases hrel with ⟨rfl, rfl, rfl, hb⟩ | ⟨rfl, rfl, hv, hall, hb⟩
      · have hA := HU.out _ hb
        have r1 := hA.r1
        have ka := hA.ka
        rw [← HNN.out] at ka
        have HB := Lib.hid hb
        clear hA hb
        go_wp2
        go_loopw [5, 38] (UnRel (L.drop l) x W) (fun _ i _ => n - (intOf i).toNat)
        case atStart => exact ⟨0, Nat.zero_le _, rfl, World.ownsRow_nil _ _ _ _, fun j h h' => absurd h' (Nat.not_lt_zero _), HB.out⟩
        case round =>
          obtain ⟨k, hk, rfl, hown, hpr, hbel⟩ := hrel
          have HPr := Lib.hid hpr
          have HO := Lib.hid hown
          have HBl := Lib.hid hbel
          by_cases hlt : k < n - l
          · have hkl : l + k < L.length := by have := HNN.out; omega
            have hA := HU.out _ hbel
            have r0 := hA.r0
            have ck := hA.kj _ hkl
            have lk := hA.lk _ hkl
            have hkD : k < (L.drop l).length := by rw [List.length_drop]; omega
            have hDk : (L.drop l)[k] = L[l + k] := List.getElem_drop
            obtain ⟨⟨ky, vl⟩, hkv⟩ : ∃ p, p = L[l + k] := ⟨_, rfl⟩
            rw [← hkv] at ck lk hDk
            have hx := Lib.hid (Try.strings_HasPrefix ky x)
            have HD := Lib.hid hDk
            have HKD := Lib.hid hkD
            have hk63 : (k : Int) < 128 := by omega
            have hbs := hbel.size
            have hfd := fieldE vl
            have hpd : hpre x (ky, vl) = Lib.hasPrefix ky.data.toList x.data.toList := rfl
            clear hA hDk hkv hk hpr hbel
            cases hpx : hpre x (ky, vl) with
            | true =>
              rw [hpd] at hpx
              have HPX := Lib.hid hpx
              rw [hpx] at hx
              clear hpd
              go_wp2_with (first | (go_at_call 148; refine (hx.out _).mono ?_; rintro e w3 ⟨rfl, hw3⟩; have hw4 := hw3.symm; clear hw3; subst hw4) | (at_builtin; refine wpList_append_own _ rfl _ _ _ rfl W.heap.size 184 i0 _ 2 32 Try.underlying76 hi hz0 hz1 hz2 rfl (by omega) _ k (pcs ((L.drop l).take k)) rfl (hown.alloc _) ⟨wr.heap.size, 0, none⟩ 1 1 [.string ky, .string vl] rfl rfl (World.news_of_block (cs := #[.string ky, .string vl]) (t := 184) (fr := (0, 0)) (heap_alloc_new wr _)) (by simp [Value.oneCell']) (by unfold maxLen; omega) (by omega) (by simp; omega) ?_; intro v2 w5 hown2 hgrow _; have HB2 := Lib.hid (((HBl.out.alloc HBl.out.size (.cells #[.string ky, .string vl] 184)).grown hgrow (by simp only [World.size_alloc]; omega) (fun q hq => ((HO.out).lt q hq).1) : Below W.heap.size W w5)); have HO2 := Lib.hid hown2; clear hown2 hgrow hown))
              refine ⟨⟨k + 1, HKD.out, by simp, ?_, fun j hj hjk => ?_, HB2.out⟩, by simp [intOf]; omega⟩
              · have e : (L.drop l).take (k + 1) = (L.drop l).take k ++ [(ky, vl)] := by rw [List.take_succ_eq_append_getElem HKD.out, HD.out]
                rw [e, pcs_snoc]
                exact HO2.out
              · rcases (by omega : j < k ∨ j = k) with h1 | rfl
                · exact HPr.out j hj h1
                · rw [HD.out]; exact HPX.out
            | false =>
              rw [hpd] at hpx
              rw [hpx] at hx
              go_wp2_with (go_at_call 148; refine (hx.out _).mono ?_; rintro e w3 ⟨rfl, hw3⟩; have hw4 := hw3.symm; clear hw3; subst hw4)
              go_ret
              have e : under L x = (L.drop l).take k := by rw [HS.out]; exact takeWhile_here _ _ _ (Nat.le_of_lt HKD.out) HPr.out (fun h => by rw [HD.out, hpd]; exact hpx)
              refine ⟨⟨_, rfl, ?_⟩, HBl.out⟩
              rw [e, List.length_take, Nat.min_eq_left (Nat.le_of_lt HKD.out)]
              exact HO.out
          · have hkn : k = (L.drop l).length := by have := HNN.out; rw [List.length_drop] at hk ⊢; omega
            have HKN := Lib.hid hkn
            clear hk hpr hbel hkn hown
            go_wp2
            refine ⟨.inr ⟨rfl, rfl, ?_, fun p hp => ?_, HBl.out⟩, by simp [intOf]⟩
            · have := HO.out
              rw [HKN.out, List.take_length] at this
              exact this
            · obtain ⟨j, hj, rfl⟩ := List.mem_iff_getElem.1 hp
              exact HPr.out j hj (by have := HKN.out; omega)
      · have r1 := (HU.out _ hb).r1
        have HV := Lib.hid hv
        have HB := Lib.hid hb
        have HA := Lib.hid hall
        clear hv hb hall
        go_wp2
        go_ret
        refine ⟨⟨_, rfl, ?_⟩, HB.out⟩
        have e : under L x = L.drop l := by rw [HS.out, takeWhile_here _ _ _ (Nat.le_refl _) (fun j h _ => HA.out _ (List.getElem_mem _)) (fun h => absurd h (Nat.lt_irrefl _)), List.take_length]
        rw [e]
        exact HV.out
/-- Under on a live store -/
theorem under_live (b : Nat) (F : List Nat) (L : SL) (q : Nat) (qs : List Value) (W : World) (h : StP W b F L q qs) (x : ByteArray) (hks : ∀ p ∈ L, p.1.size ≤ maxLen) (hN : L.length < 128) :
    Calls Try.prog 124 #[.pointer (some ⟨b, 0, none⟩), .string x] W fun e w' => UnPost L x W e w' := by
  by_cases hL : L = []
  · subst hL; exact under_none b F q qs W h x
  · exact under_some b F L q qs W h x hL hks hN
end Go.Proofs.Ytedkhpnlhkjjgaa

namespace Go.Proofs.Ytedkhpnlhkjjgaa
open Go.RowKit

theorem grown_of_below {w w' : World} (h : Below w.heap.size w w') : w.grownBy w' none := ⟨h.os, h.tape, h.output, h.size, fun k hk _ => h.block k hk⟩
theorem wpIn_rangeFunc_dead {P : Program} {n : Nat} {g : Operand} {ps : Array Tmp} {assign body : Code} {Q : Exit → Act → World → Prop} {a : Act} {w : World} (h1 : 1 ≤ n) {gf : Nat} {lb : Array Value}
    (hg : a.eval g = .func (.func gf) #[] lb) (eg : ∀ args w, (callFunc gf args).run P w = .ok (.enter gf args) w)
    (hc : ∀ (l : Nat) (W : World), Below w.heap.size w W → Calls P gf (#[.func (.yield l) #[] #[]] ++ lb) W fun e W' => (∃ v, e = .returned v) ∧ Below W.heap.size W W')
    (hdone : ∀ (D : Nat) (W : World), w.heap.size ≤ D → Below w.heap.size w W → W.heap[D]? = some (.deferred (some [])) → Q .normal { a with defers := { target := .collected D, args := #[] } :: a.defers } W) :
    (Code.rangeFunc g ps assign body).wpIn Fence.wide n P Q a w := by
  refine wpIn_rangeFunc_ownF (α := Empty) (F := Fence.wide) rfl h1 hg trivial eg (encs := fun x => x.elim) (Kp := Below w.heap.size) (S := fun _ => True) (Sp := fun _ => False) (N := 0) (w0 := w) ?seq belowK_t (belowK_b (Nat.le_refl _)) (Below.refl _ _) (fun x => x.elim)
    (fun _ W => Below w.heap.size w W) (fun _ _ _ => False) (ownFrom_below (Nat.le_refl _) (Nat.le_refl _)) (fun _ _ _ _ _ h _ _ => h) (Below.refl _ _) (fun x => x.elim) (fun l x => x.elim) (fun l pre x => x.elim) (fun D xs W hD _ hI hK => hdone D W hD hI hK) (fun _ _ _ _ _ h => h.elim)
  case seq =>
    intro l J Jx W hW hJ hJx hY h0
    refine callsIn_wide.2 ((hc l W hW).mono ?_)
    rintro e W' ⟨hv, hb⟩
    exact ⟨hv, .inl ⟨[], trivial, hJ [] W W' none h0 (grown_of_below hb) (fun r e => by cases e)⟩⟩
end Go.Proofs.Ytedkhpnlhkjjgaa
