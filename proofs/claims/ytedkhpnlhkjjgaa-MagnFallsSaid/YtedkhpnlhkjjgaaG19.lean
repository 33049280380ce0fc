/- What lies in blocks of types that no store has stays, whatever a store does. -/
import Derived.Test.YtedkhpnlhkjjgaaG13
import Derived.Test.YtedkhpnlhkjjgaaG18
import Derived.Test.YtedkhpnlhkjjgaaProg
import Derived.Test.YtedkhpnlhkjjgaaG00
import Derived.Laws.Externs
import Derived.Lib.Hide
namespace Go.Proofs.Ytedkhpnlhkjjgaa
open Go.RowKit Go.Maps Go.Sort

/-- what keeps every block of cells of one type -/
def KeepT (T : TypeId) (W W' : World) : Prop := W.heap.size ≤ W'.heap.size ∧ ∀ (k : Nat) (cs : Array Value) (fr : Nat × Nat), W.heap[k]? = some (Obj.cells cs T fr) → W'.heap[k]? = some (Obj.cells cs T fr)
theorem KeepT.refl (T : TypeId) (W : World) : KeepT T W W := ⟨Nat.le_refl _, fun _ _ _ h => h⟩
theorem KeepT.trans {T : TypeId} {A B C : World} (h : KeepT T A B) (k : KeepT T B C) : KeepT T A C := ⟨Nat.le_trans h.1 k.1, fun i cs fr hi => k.2 i cs fr (h.2 i cs fr hi)⟩
theorem KeepT.of_below {T : TypeId} {W W' : World} (h : Below W.heap.size W W') : KeepT T W W' := ⟨h.size, fun k cs fr hk => (h.block k (hp_lt hk)).trans hk⟩
theorem ownsRow_keepT {T : TypeId} {w w' : World} {B k n : Nat} {v : Value} {xs : List Value} (h : w.ownsRow B T k v n xs) (hk : KeepT T w w') : w'.ownsRow B T k v n xs := by
  refine ownsRow_same h fun g hg => ?_
  rcases h.2 with ⟨rfl, _⟩ | ⟨g', cap, cur, rfl, _, hh, _⟩
  · cases hg
  · cases hg
    exact (hk.2 _ _ _ hh).trans hh.symm
theorem ownsRow_typ {T : TypeId} {w : World} {B k n : Nat} {v : Value} {xs : List Value} (h : w.ownsRow B T k v n xs) {g : Nat} (hg : v.ownBlock = some g) : ∃ cs, w.heap[g]? = some (Obj.cells cs T (0, 0)) := by
  rcases h.2 with ⟨rfl, _⟩ | ⟨g', cap, cur, rfl, _, hh, _⟩
  · cases hg
  · cases hg
    exact ⟨_, hh⟩
/-- a type of which no block of a store is -/
structure Foreign (T : TypeId) : Prop where
  s : T ≠ 107
  b : T ≠ 193
  k : T ≠ 9
  c : T ≠ 166
theorem stp_blk {w : World} {b : Nat} {F : List Nat} {L : SL} {q : Nat} {qs : List Value} (h : StP w b F L q qs) : ∀ k ∈ F, (∃ es c, w.heap[k]? = some (Obj.map es c)) ∨ ∃ cs T, w.heap[k]? = some (Obj.cells cs T (0, 0)) ∧ ¬ Foreign T := by
  obtain ⟨bm, vb, vk, vq, rfl, hS⟩ := h
  intro k hk
  unfold fpr at hk
  simp only [List.mem_cons, List.mem_append, Option.mem_toList] at hk
  rcases hk with rfl | rfl | (hk | hk) | hk
  · exact .inr ⟨_, _, hS.r, fun h => h.s rfl⟩
  · obtain ⟨D, ⟨es, clock, hb, _⟩, _⟩ := hS.m
    exact .inl ⟨_, _, hb⟩
  · obtain ⟨cs, hc⟩ := ownsRow_typ hS.kb hk
    exact .inr ⟨cs, _, hc, fun h => h.b rfl⟩
  · split at hk
    · cases hk
    · rename_i hL
      obtain ⟨cs, hc⟩ := ownsRow_typ (hS.kk hL) (by simpa using hk)
      exact .inr ⟨cs, _, hc, fun h => h.k rfl⟩
  · obtain ⟨cs, hc⟩ := ownsRow_typ hS.kq hk
    exact .inr ⟨cs, _, hc, fun h => h.c rfl⟩
theorem stp_other {w : World} {b : Nat} {F : List Nat} {L : SL} {q : Nat} {qs : List Value} (h : StP w b F L q qs) {k : Nat} {cs : Array Value} {T : TypeId} {fr : Nat × Nat} (hk : w.heap[k]? = some (Obj.cells cs T fr)) (hT : Foreign T) : k ∉ F := fun hm => by
  rcases stp_blk h k hm with ⟨es, c, h1⟩ | ⟨cs', T', h1, h2⟩
  · rw [h1] at hk; cases hk
  · rw [h1] at hk; cases hk; exact h2 hT
theorem LiveTo.keepT {w W W' : World} {b : Nat} {F : List Nat} {L L' : SL} {q q' : Nat} {qs : List Value} (hs : SNew w W b F L q qs) (h : LiveTo w W W' b F L' q') {T : TypeId} (hT : Foreign T) : KeepT T W W' := by
  obtain ⟨_, _, _, _, _, ht, _⟩ := h
  exact ⟨ht.size, fun k cs fr hk => (ht.block k (hp_lt hk) (stp_other hs.s hk hT)).trans hk⟩
/-- a store lies as it lay where a block of another type is written -/
theorem SNew.other {w W W' : World} {b : Nat} {F : List Nat} {L : SL} {q : Nat} {qs : List Value} (h : SNew w W b F L q qs) (G : List Nat) (ht : Touch G W W') (hG : ∀ g ∈ G, w.heap.size ≤ g ∧ ∃ cs T fr, W.heap[g]? = some (Obj.cells cs T fr) ∧ Foreign T) : SNew w W' b F L q qs :=
  ⟨h.s.touch ht (fun k hk hm => by obtain ⟨_, cs, T, fr, h1, h2⟩ := hG k hm; exact stp_other h.s h1 h2 hk), h.f, h.l.trans (ht.below (fun k hk => (hG k hk).1) h.l.size)⟩
theorem KeepT.setOther {T T' : TypeId} {W : World} {g o : Nat} {cs : Array Value} {fr : Nat × Nat} (v : Value) (hg : W.heap[g]? = some (Obj.cells cs T' fr)) (hne : T ≠ T') : KeepT T W (W.setCell ⟨g, o, none⟩ v) := by
  refine ⟨by simp, fun k cs' fr' hk => ?_⟩
  have hk2 : k ≠ g := fun e => by subst e; rw [hg] at hk; cases hk; exact hne rfl
  rw [Below.heap_setCell _ _ _ _ hk2]
  exact hk
theorem KeepT.grown {T T' : TypeId} {W W' : World} {row : Option Nat} (hg : W.grownBy W' row) (hr : ∀ g, row = some g → ∃ cs fr, W.heap[g]? = some (Obj.cells cs T' fr)) (hne : T ≠ T') : KeepT T W W' :=
  ⟨hg.size, fun k cs fr hk => (hg.block k (hp_lt hk) (fun e => by
    obtain ⟨cs', fr', h1⟩ := hr k e.symm
    rw [hk] at h1; cases h1; exact hne rfl)).trans hk⟩
theorem Touch.keepT {F : List Nat} {W W' : World} {T : TypeId} (ht : Touch F W W') (hF : ∀ k ∈ F, ∀ cs fr, W.heap[k]? ≠ some (Obj.cells cs T fr)) : KeepT T W W' :=
  ⟨ht.size, fun k cs fr hk => (ht.block k (hp_lt hk) (fun hm => hF k hm cs fr hk)).trans hk⟩
/-- a row of ints in a block of its own stays -/
theorem il_touch {w W : World} {b : Nat} {F : List Nat} {L : SL} {q : Nat} {qs : List Value} (hs : SNew w W b F L q qs) {g : Nat} {cs : Array Value} (hg : W.heap[g]? = some (Obj.cells cs 3 (0, 0))) {n : Nat} {f : Nat → Int} (hl : Il W (some ⟨g, 0, none⟩) n f) (hT : Foreign 3) (W' : World) (ht : Touch F W W') : Il W' (some ⟨g, 0, none⟩) n f := by
  have he := ht.block g (hp_lt hg) (stp_other hs.s hg hT)
  refine ⟨hl.1, fun hn => ?_⟩
  obtain ⟨g', o, e, hlt, hc⟩ := hl.2 hn
  cases e
  refine ⟨g, 0, rfl, Nat.lt_of_lt_of_le hlt ht.size, fun i hi => ?_⟩
  rw [← hc i hi]
  simp only [World.cell?, he]
end Go.Proofs.Ytedkhpnlhkjjgaa

namespace Go.Proofs.Ytedkhpnlhkjjgaa
open Go.RowKit Go.Maps Go.Sort

theorem sget_setL (L : SL) (k v k' : ByteArray) : sget (setL L k v) k' = if k' = k then some v else sget L k' := by
  unfold setL
  split
  · rename_i h
    split
    · rename_i e; rw [e, h]
    · rfl
  · exact sget_sset L k v k'
theorem setL_len (L : SL) (k v : ByteArray) : (setL L k v).length ≤ L.length + 1 := by
  unfold setL
  split
  · omega
  · unfold sset
    split
    · simp
    · simp; omega
theorem setL_len_in (L : SL) (k v : ByteArray) (h : (sget L k).isSome = true) : (setL L k v).length = L.length := by
  unfold setL
  split
  · rfl
  · unfold sset; rw [if_pos h]; simp
/-- the checkpoints under the key K0: m of them, at the keys Kp -/
structure HisL (K0 : ByteArray) (Kp : Int → ByteArray) (L : SL) (m : Nat) (rx ra : Nat → Nat) : Prop where
  head : intAt L K0 m
  pts : ∀ k : Nat, k < m → sget L (Kp k) = some (hpV (rx k) (ra k))
  neg : sget L (Kp (-1)) = none
  len : L.length ≤ m + 1
  nil : m = 0 → L = []
  inc : ∀ j k, j < k → k < m → rx j < rx k
  bx : ∀ k, k < m → rx k ≤ 1099511627776
  ba : ∀ k, k < m → ra k < 2 ^ 256
  only : ∀ x, sget L x ≠ none → x = K0 ∨ ∃ j : Nat, j < m ∧ x = Kp j
/-- the keys stand apart -/
structure KeysOk (K0 : ByteArray) (Kp : Int → ByteArray) : Prop where
  k0 : K0.size ≤ maxLen ∧ K0 ≠ ⟨#[]⟩
  kp : ∀ k : Nat, k < 128 → (Kp k).size ≤ maxLen ∧ Kp k ≠ ⟨#[]⟩ ∧ Kp k ≠ K0 ∧ Kp k ≠ Kp (-1)
  kn : (Kp (-1)).size ≤ maxLen ∧ Kp (-1) ≠ K0
  inj : ∀ j k : Nat, j < 128 → k < 128 → Kp j = Kp k → j = k
theorem HisL.empty (K0 : ByteArray) (Kp : Int → ByteArray) (rx ra : Nat → Nat) : HisL K0 Kp [] 0 rx ra :=
  ⟨.inl ⟨rfl, rfl⟩, fun k h => absurd h (by omega), rfl, by simp, fun _ => rfl, fun j k _ h => absurd h (by omega), fun k h => absurd h (by omega), fun k h => absurd h (by omega), fun x h => absurd rfl h⟩
def updN (f : Nat → Nat) (i v : Nat) : Nat → Nat := fun k => if k = i then v else f k
theorem HisL.over {K0 : ByteArray} {Kp : Int → ByteArray} {L : SL} {m : Nat} {rx ra : Nat → Nat} (h : HisL K0 Kp L m rx ra) (hk : KeysOk K0 Kp) (hm : 0 < m) (hm2 : m ≤ 100) (a : Nat) (ha : a < 2 ^ 256) : HisL K0 Kp (setL L (Kp ((m - 1 : Nat) : Int)) (hpV (rx (m - 1)) a)) m rx (updN ra (m - 1) a) := by
  obtain ⟨q1, q2, q3, q4⟩ := hk.kp (m - 1) (by omega)
  refine ⟨?_, fun k hkm => ?_, ?_, ?_, fun e => absurd e (by omega), h.inc, h.bx, fun k hkm => ?_, fun x hx => ?_⟩
  · rcases h.head with ⟨h1, h2⟩ | h1
    · exact absurd h1 (by omega)
    · refine .inr ?_
      rw [sget_setL, if_neg (fun e => q3 e.symm)]
      exact h1
  · rw [sget_setL]
    unfold updN
    by_cases e : k = m - 1
    · subst e; rw [if_pos rfl, if_pos rfl]
    · rw [if_neg (fun e2 => e (hk.inj _ _ (by omega) (by omega) e2)), if_neg e]
      exact h.pts k hkm
  · rw [sget_setL, if_neg (fun e => q4 e.symm)]
    exact h.neg
  · rw [setL_len_in _ _ _ (by rw [h.pts (m - 1) (by omega)]; rfl)]
    exact h.len
  · unfold updN
    split
    · exact ha
    · exact h.ba k hkm
  · rw [sget_setL] at hx
    split at hx
    · rename_i e; exact .inr ⟨m - 1, by omega, e⟩
    · exact h.only x hx
theorem HisL.more {K0 : ByteArray} {Kp : Int → ByteArray} {L : SL} {m : Nat} {rx ra : Nat → Nat} (h : HisL K0 Kp L m rx ra) (hk : KeysOk K0 Kp) (hm2 : m < 101) (x a : Nat) (hx : x ≤ 1099511627776) (ha : a < 2 ^ 256) (hinc : ∀ j, j < m → rx j < x) : HisL K0 Kp (setL (setL L K0 (numStr ((m : Int) + 1))) (Kp ((m : Nat) : Int)) (hpV x a)) (m + 1) (updN rx m x) (updN ra m a) := by
  obtain ⟨q1, q2, q3, q4⟩ := hk.kp m (by omega)
  refine ⟨?_, fun k hkm => ?_, ?_, ?_, fun e => absurd e (by omega), fun j k hjk hkm => ?_, fun k hkm => ?_, fun k hkm => ?_, fun z hz => ?_⟩
  · refine .inr ?_
    rw [sget_setL, if_neg (fun e => q3 e.symm), sget_setL, if_pos rfl]
    rfl
  · rw [sget_setL]
    unfold updN
    by_cases e : k = m
    · subst e; rw [if_pos rfl, if_pos rfl, if_pos rfl]
    · obtain ⟨_, _, r3, _⟩ := hk.kp k (by omega)
      rw [if_neg (fun e2 => e (hk.inj _ _ (by omega) (by omega) e2)), sget_setL, if_neg r3, if_neg e, if_neg e]
      exact h.pts k (by omega)
  · rw [sget_setL, if_neg (fun e => q4 e.symm), sget_setL, if_neg hk.kn.2]
    exact h.neg
  · refine Nat.le_trans (setL_len _ _ _) ?_
    rcases h.head with ⟨h1, h2⟩ | h1
    · have hL := h.nil h1
      subst h1 hL
      have := setL_len [] K0 (numStr (((0 : Nat) : Int) + 1))
      simp at this ⊢
      omega
    · rw [setL_len_in _ _ _ (by rw [h1]; rfl)]
      have := h.len
      omega
  · unfold updN
    by_cases e : k = m
    · subst e; rw [if_neg (by omega), if_pos rfl]; exact hinc j hjk
    · rw [if_neg (by omega), if_neg e]; exact h.inc j k hjk (by omega)
  · unfold updN
    split
    · exact hx
    · exact h.bx k (by omega)
  · unfold updN
    split
    · exact ha
    · exact h.ba k (by omega)
  · rw [sget_setL] at hz
    split at hz
    · rename_i e; exact .inr ⟨m, by omega, e⟩
    · rw [sget_setL] at hz
      split at hz
      · rename_i e; exact .inl e
      · rcases h.only z hz with e | ⟨j, hj, e⟩
        · exact .inl e
        · exact .inr ⟨j, by omega, e⟩
/-- what a push does to the checkpoints, and tells -/
def PushR (m : Nat) (rx ra : Nat → Nat) (blk : Int) (a : Nat) (r : Int) (m' : Nat) (rx' ra' : Nat → Nat) : Prop :=
  (r = 2 ∧ (blk < 0 ∨ 1099511627776 < blk) ∧ m' = m ∧ rx' = rx ∧ ra' = ra) ∨
  ((0 ≤ blk ∧ blk ≤ 1099511627776) ∧
    ((r = 10 ∧ 0 < m ∧ blk < rx (m - 1) ∧ m' = m ∧ rx' = rx ∧ ra' = ra) ∨
     (r = 0 ∧ 0 < m ∧ (rx (m - 1) : Int) < blk ∧ ra (m - 1) = a ∧ m' = m ∧ rx' = rx ∧ ra' = ra) ∨
     (r = 0 ∧ 0 < m ∧ (rx (m - 1) : Int) = blk ∧ m' = m ∧ rx' = rx ∧ ra' = updN ra (m - 1) a) ∨
     (r = 0 ∧ (m = 0 ∨ (rx (m - 1) : Int) < blk ∧ ra (m - 1) ≠ a) ∧ m' = m + 1 ∧ rx' = updN rx m blk.toNat ∧ ra' = updN ra m a)))
/-- a store that holds the checkpoints -/
structure HisS (w0 W : World) (b : Nat) (K0 : ByteArray) (Kp : Int → ByteArray) (c m : Nat) (rx ra : Nat → Nat) : Prop where
  s : ∃ F L q qs, SNew w0 W b F L q qs ∧ q ≤ c ∧ HisL K0 Kp L m rx ra
theorem HisS.below {w0 W W' : World} {b : Nat} {K0 : ByteArray} {Kp : Int → ByteArray} {c m : Nat} {rx ra : Nat → Nat} (h : HisS w0 W b K0 Kp c m rx ra) (hb : Below W.heap.size W W') : HisS w0 W' b K0 Kp c m rx ra := by
  obtain ⟨F, L, q, qs, hs, g⟩ := h.s
  exact ⟨F, L, q, qs, hs.below hb, g⟩
theorem HisS.l {w0 W : World} {b : Nat} {K0 : ByteArray} {Kp : Int → ByteArray} {c m : Nat} {rx ra : Nat → Nat} (h : HisS w0 W b K0 Kp c m rx ra) : Below w0.heap.size w0 W := by
  obtain ⟨F, L, q, qs, hs, g⟩ := h.s
  exact hs.l
theorem HisS.of_live {w0 W W' : World} {b : Nat} {F : List Nat} {L : SL} {K0 : ByteArray} {Kp : Int → ByteArray} {q c m : Nat} {rx ra : Nat → Nat} (h : LiveTo w0 W W' b F L q) (hq : q ≤ c) (hd : HisL K0 Kp L m rx ra) : HisS w0 W' b K0 Kp c m rx ra := by
  obtain ⟨F', q', qs', hs, hq', _⟩ := h
  exact ⟨F', L, q', qs', hs, by omega, hd⟩
theorem hpush_law {w0 W : World} {b : Nat} {t : Int} {n : Nat} {f : Nat → Int} {c m : Nat} {rx ra : Nat → Nat} (K0 : ByteArray) (Kp : Int → ByteArray) (hK0 : keyStr t f n = K0) (hKp : ∀ k : Int, keyStr t (icat f n fun _ => k) (n + 1) = Kp k) (hk : KeysOk K0 Kp) (h : HisS w0 W b K0 Kp c m rx ra) (hc : c < 100000) (hm : m ≤ 100) (A : Option Addr) (cp : Nat)
    (hI : ∀ F L q qs, SNew w0 W b F L q qs → ∀ W', Touch F W W' → Il W' A n f) (hz : A = none → n = 0 ∧ cp = 0) (hn : n ≤ 20) (blk : Int) (a : Nat) (ha : a < 2 ^ 256) :
    Calls Try.prog 14 #[.pointer (some ⟨b, 0, none⟩), .int .i64 t, .slice A n cp, .int .i64 blk, U a] W fun e W' => ∃ r m' rx' ra', e = .returned (.int .i64 r) ∧ PushR m rx ra blk a r m' rx' ra' ∧ HisS w0 W' b K0 Kp (c + 2) m' rx' ra' ∧ ∀ T, Foreign T → KeepT T W W' := by
  obtain ⟨F, L, q, qs, hs, hq, hd⟩ := h.s
  have hl := hI F L q qs hs W (Touch.refl _ _)
  by_cases hbad : blk < 0 ∨ 1099511627776 < blk
  · refine (hpush_bad hs t A n cp f hl hn blk a K0 hK0 hk.k0.2 hbad).mono ?_
    rintro e W' ⟨he, hL⟩
    exact ⟨2, m, rx, ra, he, .inl ⟨rfl, hbad, rfl, rfl, rfl⟩, HisS.of_live hL (by omega) hd, fun T hT => LiveTo.keepT hs hL hT⟩
  obtain ⟨x, rfl⟩ : ∃ x : Nat, blk = (x : Int) := ⟨blk.toNat, by omega⟩
  have hx : x ≤ 1099511627776 := by omega
  have hg : (0 : Int) ≤ (x : Int) ∧ (x : Int) ≤ 1099511627776 := by omega
  have hlen := hd.len
  rcases Nat.eq_zero_or_pos m with rfl | hm0
  · obtain ⟨p1, p2, p3, p4⟩ := hk.kp 0 (by omega)
    refine (hpush_more hs t A n cp f (hI F L q qs hs) hz hn x a ha hx 0 (by omega) 0 0 false (reads_none hs t A n cp f _ _ (hKp _) (by omega) hk.kn.1 hd.neg) (.inl rfl) K0 (Kp ((0 : Nat) : Int)) hK0 (hKp _) hk.k0.1 p1 hk.k0.2 p2 hd.head (by omega) (by have := setL_len L K0 (numStr (((0 : Nat) : Int) + 1)); omega) (by omega)).mono ?_
    rintro e W' ⟨he, hL⟩
    refine ⟨0, 1, updN rx 0 x, updN ra 0 a, he, .inr ⟨hg, .inr (.inr (.inr ⟨rfl, .inl rfl, rfl, by simp, rfl⟩))⟩, HisS.of_live hL (by omega) ?_, fun T hT => LiveTo.keepT hs hL hT⟩
    exact hd.more hk (by omega) x a hx ha (fun j hj => absurd hj (by omega))
  · obtain ⟨y, hy⟩ : ∃ y, y = m - 1 := ⟨_, rfl⟩
    have hym : ((m : Nat) : Int) - 1 = (y : Int) := by omega
    obtain ⟨p1, p2, p3, p4⟩ := hk.kp y (by omega)
    obtain ⟨r1, r2, r3, r4⟩ := hk.kp m (by omega)
    have hbx := hd.bx y (by omega)
    have hba := hd.ba y (by omega)
    have hR : Reads W (some ⟨b, 0, none⟩) t A n cp f ((m : Int) - 1) (rx y : Nat) (ra y) true := by
      rw [hym]
      exact reads_some hs t A n cp f _ _ (hKp _) (rx y) (ra y) (by omega) hba (by omega) p1 (hd.pts y (by omega))
    rcases Nat.lt_trichotomy x (rx y) with hlt | heq | hgt
    · refine (hpush_state hs t A n cp f (hI F L q qs hs) hz hn x a ha hx m (by omega) (rx y) (ra y) hR hlt K0 hK0 hk.k0.1 hk.k0.2 hd.head).mono ?_
      rintro e W' ⟨he, hL⟩
      exact ⟨10, m, rx, ra, he, .inr ⟨hg, .inl ⟨rfl, hm0, by rw [← hy]; omega, rfl, rfl, rfl⟩⟩, HisS.of_live hL (by omega) hd, fun T hT => LiveTo.keepT hs hL hT⟩
    · refine (hpush_over hs t A n cp f (hI F L q qs hs) hz hn x a ha hx m (by omega) (rx y) (ra y) hR heq K0 hK0 hk.k0.1 hk.k0.2 hd.head (Kp ((y : Nat) : Int)) (by rw [← hKp, hym]) p1 p2 (by omega) (by omega)).mono ?_
      rintro e W' ⟨he, hL⟩
      refine ⟨0, m, rx, updN ra (m - 1) a, he, .inr ⟨hg, .inr (.inr (.inl ⟨rfl, hm0, by rw [← hy]; omega, rfl, rfl, rfl⟩))⟩, HisS.of_live hL (by omega) ?_, fun T hT => LiveTo.keepT hs hL hT⟩
      have := hd.over hk hm0 hm a ha
      rw [← hy, ← heq] at this
      rw [← hy]
      exact this
    · by_cases hE : ra y = a
      · refine (hpush_stay hs t A n cp f (hI F L q qs hs) hz hn x a ha hx m (by omega) (rx y) (ra y) hR hgt hE K0 hK0 hk.k0.1 hk.k0.2 hd.head).mono ?_
        rintro e W' ⟨he, hL⟩
        exact ⟨0, m, rx, ra, he, .inr ⟨hg, .inr (.inl ⟨rfl, hm0, by rw [← hy]; omega, by rw [← hy]; exact hE, rfl, rfl, rfl⟩)⟩, HisS.of_live hL (by omega) hd, fun T hT => LiveTo.keepT hs hL hT⟩
      · refine (hpush_more hs t A n cp f (hI F L q qs hs) hz hn x a ha hx m (by omega) (rx y) (ra y) true hR (.inr ⟨hgt, hE, hba⟩) K0 (Kp ((m : Nat) : Int)) hK0 (hKp _) hk.k0.1 r1 hk.k0.2 r2 hd.head (by omega) (by have := setL_len L K0 (numStr ((m : Int) + 1)); omega) (by omega)).mono ?_
        rintro e W' ⟨he, hL⟩
        refine ⟨0, m + 1, updN rx m x, updN ra m a, he, .inr ⟨hg, .inr (.inr (.inr ⟨rfl, .inr ⟨by rw [← hy]; omega, by rw [← hy]; exact hE⟩, rfl, by simp, rfl⟩))⟩, HisS.of_live hL (by omega) ?_, fun T hT => LiveTo.keepT hs hL hT⟩
        refine hd.more hk (by omega) x a hx ha (fun j hj => ?_)
        rcases Nat.lt_or_ge j y with h | h
        · exact Nat.lt_trans (hd.inc j y h (by omega)) hgt
        · obtain rfl : j = y := by omega
          exact hgt
theorem HisS.other {w0 W W' : World} {b : Nat} {K0 : ByteArray} {Kp : Int → ByteArray} {c m : Nat} {rx ra : Nat → Nat} (h : HisS w0 W b K0 Kp c m rx ra) (G : List Nat) (ht : Touch G W W') (hG : ∀ g ∈ G, w0.heap.size ≤ g ∧ ∃ cs T fr, W.heap[g]? = some (Obj.cells cs T fr) ∧ Foreign T) : HisS w0 W' b K0 Kp c m rx ra := by
  obtain ⟨F, L, q, qs, hs, g⟩ := h.s
  exact ⟨F, L, q, qs, hs.other G ht hG, g⟩
/-- the halving search finds how many blocks are not beyond blk -/
theorem hbs_count (rx : Int → Int) (ro : Int → Bool) (blk : Int) (m : Nat) (hro : ∀ k : Nat, k < m → ro k = true) (hinc : ∀ j k : Nat, j < k → k < m → rx j < rx k) : ∀ k l h, l ≤ h → h ≤ m → h - l ≤ k → (∀ j : Nat, j < l → rx j ≤ blk) → (∀ j : Nat, h ≤ j → j < m → blk < rx j) →
    l ≤ hbs rx ro blk k l h ∧ hbs rx ro blk k l h ≤ h ∧ (∀ j : Nat, j < hbs rx ro blk k l h → rx j ≤ blk) ∧ (∀ j : Nat, hbs rx ro blk k l h ≤ j → j < m → blk < rx j)
  | 0, l, h, hl, hm, hk, h1, h2 => by
    obtain rfl : l = h := by omega
    exact ⟨Nat.le_refl _, Nat.le_refl _, h1, h2⟩
  | k + 1, l, h, hl, hm, hk, h1, h2 => by
    unfold hbs
    by_cases hlh : l < h
    · rw [if_pos hlh]
      have hmid : l + (h - l) / 2 < h := by omega
      by_cases hc : ro ((l + (h - l) / 2 : Nat) : Int) = true ∧ rx ((l + (h - l) / 2 : Nat) : Int) ≤ blk
      · rw [if_pos hc]
        have ih := hbs_count rx ro blk m hro hinc k (l + (h - l) / 2 + 1) h (by omega) hm (by omega) (fun j hj => by
          rcases Nat.lt_or_ge j (l + (h - l) / 2) with h3 | h3
          · have := hinc j (l + (h - l) / 2) h3 (by omega); have := hc.2; omega
          · obtain rfl : j = l + (h - l) / 2 := by omega
            exact hc.2) h2
        exact ⟨by omega, ih.2.1, ih.2.2.1, ih.2.2.2⟩
      · rw [if_neg hc]
        have hc2 : blk < rx ((l + (h - l) / 2 : Nat) : Int) := by
          have := hro (l + (h - l) / 2) (by omega)
          rcases Int.lt_or_le blk (rx ((l + (h - l) / 2 : Nat) : Int)) with h3 | h3
          · exact h3
          · exact absurd ⟨this, h3⟩ hc
        have ih := hbs_count rx ro blk m hro hinc k l (l + (h - l) / 2) (by omega) (by omega) (by omega) h1 (fun j hj hjm => by
          rcases Nat.lt_or_ge (l + (h - l) / 2) j with h3 | h3
          · have := hinc (l + (h - l) / 2) j h3 hjm; omega
          · obtain rfl : j = l + (h - l) / 2 := by omega
            exact hc2)
        exact ⟨ih.1, by omega, ih.2.2.1, ih.2.2.2⟩
    · rw [if_neg hlh]
      obtain rfl : l = h := by omega
      exact ⟨Nat.le_refl _, Nat.le_refl _, h1, h2⟩
def rxZ (rx : Nat → Nat) (k : Int) : Int := if 0 ≤ k then ((rx k.toNat : Nat) : Int) else 0
theorem rxZ_nat (rx : Nat → Nat) (j : Nat) : rxZ rx (j : Int) = (rx j : Int) := by unfold rxZ; rw [if_pos (by omega), Int.toNat_natCast]
/-- what is at a block: of the checkpoints not beyond it the last one's amount -/
def AtR (m : Nat) (rx ra : Nat → Nat) (blk : Int) (a : Nat) (o : Bool) : Prop :=
  (o = false ∧ a = 0 ∧ ∀ j, j < m → blk < rx j) ∨ (∃ k, k < m ∧ o = true ∧ a = ra k ∧ (rx k : Int) ≤ blk ∧ ∀ j, k < j → j < m → blk < rx j)
theorem hat_law {w0 W : World} {b : Nat} {t : Int} {n : Nat} {f : Nat → Int} {c m : Nat} {rx ra : Nat → Nat} (K0 : ByteArray) (Kp : Int → ByteArray) (hK0 : keyStr t f n = K0) (hKp : ∀ k : Int, keyStr t (icat f n fun _ => k) (n + 1) = Kp k) (hk : KeysOk K0 Kp) (h : HisS w0 W b K0 Kp c m rx ra) (hm : m ≤ 101) (A : Option Addr) (cp : Nat)
    (hl : Il W A n f) (hz : A = none → n = 0 ∧ cp = 0) (hn : n ≤ 20) (blk : Int) :
    Calls Try.prog 15 #[.pointer (some ⟨b, 0, none⟩), .int .i64 t, .slice A n cp, .int .i64 blk] W fun e W' => (∃ a o, e = .returned (.tuple #[U a, .bool o]) ∧ AtR m rx ra blk a o ∧ a < 2 ^ 256) ∧ Below W.heap.size W W' := by
  obtain ⟨F, L, q, qs, hs, hq, hd⟩ := h.s
  have hZ := hbs_count (rxZ rx) (fun k => decide (0 ≤ k ∧ k < m)) blk m (fun k hk => by simp; omega) (fun j k hjk hkm => by rw [rxZ_nat, rxZ_nat]; have := hd.inc j k hjk hkm; omega) m 0 m (by omega) (by omega) (by omega) (fun j hj => absurd hj (by omega)) (fun j hj hj2 => absurd hj2 (by omega))
  obtain ⟨Z, eZ⟩ : ∃ Z, hbs (rxZ rx) (fun k => decide (0 ≤ k ∧ k < m)) blk m 0 m = Z := ⟨_, rfl⟩
  rw [eZ] at hZ
  obtain ⟨_, hZm, hZ1, hZ2⟩ := hZ
  refine (hat_walk (some ⟨b, 0, none⟩) t A n cp f blk m (rxZ rx) (fun k => if 0 ≤ k then ra k.toNat else 0) (fun k => decide (0 ≤ k ∧ k < m)) W hl hz hn (by omega) (fun W1 hb => hlen_live (hs.below hb) t A n cp f (hl.below hb) hn K0 hK0 hk.k0.1 m hd.head (by omega)) (fun k h1 h2 => ?_) Z eZ).mono ?_
  · by_cases h0 : 0 ≤ k
    · obtain ⟨j, rfl⟩ : ∃ j : Nat, k = (j : Int) := ⟨k.toNat, by omega⟩
      have hjm : j < m := by omega
      have := reads_some hs t A n cp f _ _ (hKp _) (rx j) (ra j) (by have := hd.bx j hjm; omega) (hd.ba j hjm) (by omega) (hk.kp j (by omega)).1 (hd.pts j hjm)
      simp only [Int.toNat_natCast]
      rw [rxZ_nat, if_pos h0, show decide ((0 : Int) ≤ (j : Int) ∧ (j : Int) < (m : Int)) = true from by simp; omega]
      exact this
    · obtain rfl : k = -1 := by omega
      have := reads_none hs t A n cp f _ _ (hKp _) (by omega) hk.kn.1 hd.neg
      simpa [rxZ] using this
  · rintro e W' ⟨he, hb⟩
    refine ⟨⟨_, _, he, ?_, ?_⟩, hb⟩
    · rcases Nat.eq_zero_or_pos Z with rfl | hp
      · refine .inl ⟨by simp, by simp, fun j hj => ?_⟩
        have := hZ2 j (by omega) hj
        rwa [rxZ_nat] at this
      · refine .inr ⟨Z - 1, by omega, by simp; omega, ?_, ?_, fun j hj hjm => ?_⟩
        · rw [if_pos (by omega)]; congr 1; omega
        · have := hZ1 (Z - 1) (by omega)
          rwa [rxZ_nat] at this
        · have := hZ2 j (by omega) hjm
          rwa [rxZ_nat] at this
    · split
      · rcases Nat.eq_zero_or_pos Z with rfl | hp
        · rename_i h; simp at h
        · exact hd.ba _ (by omega)
      · decide
end Go.Proofs.Ytedkhpnlhkjjgaa

namespace Go.Proofs.Ytedkhpnlhkjjgaa
open Go.RowKit

def s64 (x y c : Nat) : Nat := (x + y + c) % 18446744073709551616
def c64 (x y c : Nat) : Nat := (x + y + c) / 18446744073709551616
theorem run_add64n (x y c : Nat) (hc : c ≤ 1) (w : World) :
    (callFunc 135 #[.int .u64 (x : Nat), .int .u64 (y : Nat), .int .u64 (c : Nat)]).run Try.prog w =
      .ok (.value (.tuple #[.int .u64 (s64 x y c : Nat), .int .u64 (c64 x y c : Nat)])) w := by
  rw [run_callFunc_extern (fn := Try.f135) (by kernel_rfl) (by kernel_rfl) (by kernel_rfl) (by kernel_rfl) (e := add64Entry) (by kernel_rfl), Go.run_add64 x y c (by omega) (by omega) (by omega) (by omega)]
  simp only [Result.andThen, s64, c64]
  congr 5 <;> omega
theorem s64_lt (x y c : Nat) : s64 x y c < 2 ^ 64 := by unfold s64; omega
theorem c64_le {x y c : Nat} (hx : x < 2 ^ 64) (hy : y < 2 ^ 64) (hc : c ≤ 1) : c64 x y c ≤ 1 := by unfold c64; omega
theorem sc64 (x y c : Nat) : s64 x y c + c64 x y c * 2 ^ 64 = x + y + c := by unfold s64 c64; omega

/-- what Add comes to -/
def AddPost (a b : Nat) (w : World) (e : Ending) (w' : World) : Prop :=
  e = .returned (.tuple #[U (if a + b < 2 ^ 256 then a + b else 0), .bool (decide (a + b < 2 ^ 256))]) ∧ Below w.heap.size w w'
theorem addPost_yes {a b : Nat} {w w' : World} {e : Ending} (h : a + b < 2 ^ 256) (he : e = .returned (.tuple #[U (a + b), .bool true])) (hw : Below w.heap.size w w') : AddPost a b w e w' := by
  unfold AddPost; rw [if_pos h, decide_eq_true h]; exact ⟨he, hw⟩
theorem addPost_no {a b : Nat} {w w' : World} {e : Ending} (h : ¬ a + b < 2 ^ 256) (he : e = .returned (.tuple #[U 0, .bool false])) (hw : Below w.heap.size w w') : AddPost a b w e w' := by
  unfold AddPost; rw [if_neg h, decide_eq_false h]; exact ⟨he, hw⟩
/-- the state at the head of Add's loop -/
def AddRel (a b : Nat) (w : World) (c i : Value) (wr : World) : Prop :=
  ∃ (k d : Nat) (f : Nat → Nat), k ≤ 4 ∧ i = .int .i64 (k : Nat) ∧ c = .int .u64 (d : Nat) ∧ d ≤ 1 ∧ (∀ j, f j < 2 ^ 64) ∧
    val f k + d * 2 ^ (64 * k) = val (limb a) k + val (limb b) k ∧
    Arr .u64 wr w.heap.size 4 (limb a) ∧ Arr .u64 wr (w.heap.size + 1) 4 (limb b) ∧ Arr .u64 wr (w.heap.size + 1 + 1) 4 (fun _ => 0) ∧ Arr .u64 wr (w.heap.size + 1 + 1 + 1) 4 f ∧
    Below w.heap.size w wr ∧ w.heap.size + 1 + 1 + 1 < wr.heap.size

set_option maxRecDepth 100000 in
set_option maxHeartbeats 1000000 in
theorem add_walk (a b : Nat) (w : World) (hal : a < 2 ^ 256) (hbl : b < 2 ^ 256) :
    Calls Try.prog 97 #[U a, U b] w (AddPost a b w) := by
  have hadd := run_add64n
  unfold U
  go_enter Try.func97, Try.ntmps97
  go_wp2
  go_loopw [7, 9] (AddRel a b w) (fun _ i _ => 4 - (intOf i).toNat)
  case atStart =>
    refine ⟨0, 0, fun _ => 0, by omega, rfl, rfl, by omega, by simp, by simp [val], ?_, ?_, ?_, ?_, ?_, ?_⟩
    · exact (((Arr.new4 (f := limb a) rfl).alloc _).alloc _).alloc _
    · exact ((Arr.new4 (f := limb b) (by simp)).alloc _).alloc _
    · exact (Arr.new4 (f := fun _ => 0) (by simp)).alloc _
    · exact Arr.new4 (f := fun _ => 0) (by simp)
    · exact ((((Below.refl _ _).alloc (Nat.le_refl _) _).alloc (by simp only [World.size_alloc]; omega) _).alloc (by simp only [World.size_alloc]; omega) _).alloc (by simp only [World.size_alloc]; omega) _
    · simp
  case round =>
    obtain ⟨k, d, f, hk, rfl, rfl, hd, hf, hv, ha, hb, hz, hs, hbel, hsz⟩ := hrel
    by_cases hlt : k < 4
    · have a1 := ha.cell k hlt
      have b1 := hb.cell k hlt
      have f1 := hs.free k hlt
      have f2 := hs.cell k hlt
      go_wp2
      go_region_with (fail)
      all_goals
        go_wp2
        go_roundw
        case rel =>
          refine ⟨k + 1, c64 (limb a k) (limb b k) d, upd f k (s64 (limb a k) (limb b k) d), by omega, by go_num, rfl, c64_le (limb_lt a k) (limb_lt b k) hd, upd_lt hf (s64_lt _ _ _), ?_, ?_, ?_, ?_, ?_, ?_, ?_⟩
          · rw [val_upd_succ, pow_succ64]
            have h1 := congrArg (· * 2 ^ (64 * k)) (sc64 (limb a k) (limb b k) d)
            simp only [val]
            simp only [Nat.add_mul, Nat.mul_assoc] at h1
            omega
          · exact ha.drew.set_far (by omega)
          · exact hb.drew.set_far (by omega)
          · exact hz.drew.set_far (by omega)
          · exact hs.drew.set hlt
          · exact (below_drewN hbel 1).setCell (by simp; omega) _
          · simp; omega
        case measure => simp [intOf]; omega
    · obtain rfl : k = 4 := by omega
      have f0 := hs.cell 0 (by omega)
      have f1 := hs.cell 1 (by omega)
      have f2 := hs.cell 2 (by omega)
      have f3 := hs.cell 3 (by omega)
      have z0 := hz.cell 0 (by omega)
      have z1 := hz.cell 1 (by omega)
      have z2 := hz.cell 2 (by omega)
      have z3 := hz.cell 3 (by omega)
      have y0 := hz.free 0 (by omega)
      have y1 := hz.free 1 (by omega)
      have y2 := hz.free 2 (by omega)
      have y3 := hz.free 3 (by omega)
      have hv4 : val f 4 + d * 2 ^ 256 = a + b := by rw [val4_limb hal, val4_limb hbl] at hv; exact hv
      have hfl := val_lt 4 (fun i _ => hf i)
      have Hv := Lib.hid hv4
      have Hfl := Lib.hid hfl
      clear hv hv4 hfl
      go_wp2
      · have hd' : (d : Int) ≠ 0 := by simpa using ‹((d : Int) != 0) = true›
        have hge : ¬ a + b < 2 ^ 256 := by have := Hv.out; have := Nat.mul_le_mul_right (2 ^ 256) (show 1 ≤ d by omega); omega
        refine bodyPost_ret (v := .tuple #[.agg #[.int .u64 0, .int .u64 0, .int .u64 0, .int .u64 0], .bool false]) (by simp [results, Try.results97, go_sem, z0, z1, z2, z3]) rfl (addPost_no hge (by rw [U_zero]) (below_set4 hbel (by omega)))
      · have hd' : (d : Int) = 0 := by simpa using ‹((d : Int) != 0) = false›
        have hd0 : d = 0 := by omega
        have hlt : a + b < 2 ^ 256 := by have := Hv.out; have := Hfl.out; subst hd0; omega
        have hab : a + b = val f 4 := by have := Hv.out; subst hd0; omega
        refine bodyPost_ret (v := .tuple #[.agg #[.int .u64 (f 0 : Nat), .int .u64 (f 1 : Nat), .int .u64 (f 2 : Nat), .int .u64 (f 3 : Nat)], .bool true]) (by simp [results, Try.results97, go_sem, z0, z1, z2, z3]) rfl (addPost_yes hlt (by rw [hab, U_of hf]) (below_set4 hbel (by omega)))
end Go.Proofs.Ytedkhpnlhkjjgaa
