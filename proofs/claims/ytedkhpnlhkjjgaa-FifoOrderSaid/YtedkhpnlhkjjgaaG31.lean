/- A history's checkpoints, plain; Push and At by them. -/
import Derived.Test.YtedkhpnlhkjjgaaG30
import Derived.Test.YtedkhpnlhkjjgaaG22
import Derived.Test.YtedkhpnlhkjjgaaG01
import Derived.Test.YtedkhpnlhkjjgaaG19
import Derived.Test.YtedkhpnlhkjjgaaG29
namespace Go.Proofs.Ytedkhpnlhkjjgaa
open Go.RowKit Go.Maps Go.Sort

theorem sget_setL (L : SL) (k v k' : ByteArray) : sget (setL L k v) k' = if k' = k then some v else sget L k' := by
  unfold setL
  split
  · rename_i h
    split
    · rename_i e; rw [e, h]
    · rfl
  · exact sget_sset L k v k'
theorem setL_len (L : SL) (k v : ByteArray) : (setL L k v).length ≤ L.length + 1 := by
  unfold setL
  split
  · omega
  · unfold sset
    split
    · simp
    · simp; omega
theorem setL_len_in (L : SL) (k v : ByteArray) (h : (sget L k).isSome = true) : (setL L k v).length = L.length := by
  unfold setL
  split
  · rfl
  · unfold sset; rw [if_pos h]; simp
/-- the checkpoints under the key K0: m of them, at the keys Kp -/
structure HisL (K0 : ByteArray) (Kp : Int → ByteArray) (L : SL) (m : Nat) (rx ra : Nat → Nat) : Prop where
  head : intAt L K0 m
  pts : ∀ k : Nat, k < m → sget L (Kp k) = some (hpV (rx k) (ra k))
  neg : sget L (Kp (-1)) = none
  len : L.length ≤ m + 1
  nil : m = 0 → L = []
  inc : ∀ j k, j < k → k < m → rx j < rx k
  bx : ∀ k, k < m → rx k ≤ 1099511627776
  ba : ∀ k, k < m → ra k < 2 ^ 256
  only : ∀ x, sget L x ≠ none → x = K0 ∨ ∃ j : Nat, j < m ∧ x = Kp j
/-- the keys stand apart -/
structure KeysOk (K0 : ByteArray) (Kp : Int → ByteArray) : Prop where
  k0 : K0.size ≤ maxLen ∧ K0 ≠ ⟨#[]⟩
  kp : ∀ k : Nat, k < 128 → (Kp k).size ≤ maxLen ∧ Kp k ≠ ⟨#[]⟩ ∧ Kp k ≠ K0 ∧ Kp k ≠ Kp (-1)
  kn : (Kp (-1)).size ≤ maxLen ∧ Kp (-1) ≠ K0
  inj : ∀ j k : Nat, j < 128 → k < 128 → Kp j = Kp k → j = k
theorem HisL.empty (K0 : ByteArray) (Kp : Int → ByteArray) (rx ra : Nat → Nat) : HisL K0 Kp [] 0 rx ra :=
  ⟨.inl ⟨rfl, rfl⟩, fun k h => absurd h (by omega), rfl, by simp, fun _ => rfl, fun j k _ h => absurd h (by omega), fun k h => absurd h (by omega), fun k h => absurd h (by omega), fun x h => absurd rfl h⟩
def updN (f : Nat → Nat) (i v : Nat) : Nat → Nat := fun k => if k = i then v else f k
theorem HisL.over {K0 : ByteArray} {Kp : Int → ByteArray} {L : SL} {m : Nat} {rx ra : Nat → Nat} (h : HisL K0 Kp L m rx ra) (hk : KeysOk K0 Kp) (hm : 0 < m) (hm2 : m ≤ 100) (a : Nat) (ha : a < 2 ^ 256) : HisL K0 Kp (setL L (Kp ((m - 1 : Nat) : Int)) (hpV (rx (m - 1)) a)) m rx (updN ra (m - 1) a) := by
  obtain ⟨q1, q2, q3, q4⟩ := hk.kp (m - 1) (by omega)
  refine ⟨?_, fun k hkm => ?_, ?_, ?_, fun e => absurd e (by omega), h.inc, h.bx, fun k hkm => ?_, fun x hx => ?_⟩
  · rcases h.head with ⟨h1, h2⟩ | h1
    · exact absurd h1 (by omega)
    · refine .inr ?_
      rw [sget_setL, if_neg (fun e => q3 e.symm)]
      exact h1
  · rw [sget_setL]
    unfold updN
    by_cases e : k = m - 1
    · subst e; rw [if_pos rfl, if_pos rfl]
    · rw [if_neg (fun e2 => e (hk.inj _ _ (by omega) (by omega) e2)), if_neg e]
      exact h.pts k hkm
  · rw [sget_setL, if_neg (fun e => q4 e.symm)]
    exact h.neg
  · rw [setL_len_in _ _ _ (by rw [h.pts (m - 1) (by omega)]; rfl)]
    exact h.len
  · unfold updN
    split
    · exact ha
    · exact h.ba k hkm
  · rw [sget_setL] at hx
    split at hx
    · rename_i e; exact .inr ⟨m - 1, by omega, e⟩
    · exact h.only x hx
theorem HisL.more {K0 : ByteArray} {Kp : Int → ByteArray} {L : SL} {m : Nat} {rx ra : Nat → Nat} (h : HisL K0 Kp L m rx ra) (hk : KeysOk K0 Kp) (hm2 : m < 101) (x a : Nat) (hx : x ≤ 1099511627776) (ha : a < 2 ^ 256) (hinc : ∀ j, j < m → rx j < x) : HisL K0 Kp (setL (setL L K0 (numStr ((m : Int) + 1))) (Kp ((m : Nat) : Int)) (hpV x a)) (m + 1) (updN rx m x) (updN ra m a) := by
  obtain ⟨q1, q2, q3, q4⟩ := hk.kp m (by omega)
  refine ⟨?_, fun k hkm => ?_, ?_, ?_, fun e => absurd e (by omega), fun j k hjk hkm => ?_, fun k hkm => ?_, fun k hkm => ?_, fun z hz => ?_⟩
  · refine .inr ?_
    rw [sget_setL, if_neg (fun e => q3 e.symm), sget_setL, if_pos rfl]
    rfl
  · rw [sget_setL]
    unfold updN
    by_cases e : k = m
    · subst e; rw [if_pos rfl, if_pos rfl, if_pos rfl]
    · obtain ⟨_, _, r3, _⟩ := hk.kp k (by omega)
      rw [if_neg (fun e2 => e (hk.inj _ _ (by omega) (by omega) e2)), sget_setL, if_neg r3, if_neg e, if_neg e]
      exact h.pts k (by omega)
  · rw [sget_setL, if_neg (fun e => q4 e.symm), sget_setL, if_neg hk.kn.2]
    exact h.neg
  · refine Nat.le_trans (setL_len _ _ _) ?_
    rcases h.head with ⟨h1, h2⟩ | h1
    · have hL := h.nil h1
      subst h1 hL
      have := setL_len [] K0 (numStr (((0 : Nat) : Int) + 1))
      simp at this ⊢
      omega
    · rw [setL_len_in _ _ _ (by rw [h1]; rfl)]
      have := h.len
      omega
  · unfold updN
    by_cases e : k = m
    · subst e; rw [if_neg (by omega), if_pos rfl]; exact hinc j hjk
    · rw [if_neg (by omega), if_neg e]; exact h.inc j k hjk (by omega)
  · unfold updN
    split
    · exact hx
    · exact h.bx k (by omega)
  · unfold updN
    split
    · exact ha
    · exact h.ba k (by omega)
  · rw [sget_setL] at hz
    split at hz
    · rename_i e; exact .inr ⟨m, by omega, e⟩
    · rw [sget_setL] at hz
      split at hz
      · rename_i e; exact .inl e
      · rcases h.only z hz with e | ⟨j, hj, e⟩
        · exact .inl e
        · exact .inr ⟨j, by omega, e⟩
/-- what a push does to the checkpoints, and tells -/
def PushR (m : Nat) (rx ra : Nat → Nat) (blk : Int) (a : Nat) (r : Int) (m' : Nat) (rx' ra' : Nat → Nat) : Prop :=
  (r = 2 ∧ (blk < 0 ∨ 1099511627776 < blk) ∧ m' = m ∧ rx' = rx ∧ ra' = ra) ∨
  ((0 ≤ blk ∧ blk ≤ 1099511627776) ∧
    ((r = 10 ∧ 0 < m ∧ blk < rx (m - 1) ∧ m' = m ∧ rx' = rx ∧ ra' = ra) ∨
     (r = 0 ∧ 0 < m ∧ (rx (m - 1) : Int) < blk ∧ ra (m - 1) = a ∧ m' = m ∧ rx' = rx ∧ ra' = ra) ∨
     (r = 0 ∧ 0 < m ∧ (rx (m - 1) : Int) = blk ∧ m' = m ∧ rx' = rx ∧ ra' = updN ra (m - 1) a) ∨
     (r = 0 ∧ (m = 0 ∨ (rx (m - 1) : Int) < blk ∧ ra (m - 1) ≠ a) ∧ m' = m + 1 ∧ rx' = updN rx m blk.toNat ∧ ra' = updN ra m a)))
/-- a store that holds the checkpoints -/
structure HisS (w0 W : World) (b : Nat) (K0 : ByteArray) (Kp : Int → ByteArray) (c m : Nat) (rx ra : Nat → Nat) : Prop where
  s : ∃ F L q qs, SNew w0 W b F L q qs ∧ q ≤ c ∧ HisL K0 Kp L m rx ra
theorem HisS.below {w0 W W' : World} {b : Nat} {K0 : ByteArray} {Kp : Int → ByteArray} {c m : Nat} {rx ra : Nat → Nat} (h : HisS w0 W b K0 Kp c m rx ra) (hb : Below W.heap.size W W') : HisS w0 W' b K0 Kp c m rx ra := by
  obtain ⟨F, L, q, qs, hs, g⟩ := h.s
  exact ⟨F, L, q, qs, hs.below hb, g⟩
theorem HisS.l {w0 W : World} {b : Nat} {K0 : ByteArray} {Kp : Int → ByteArray} {c m : Nat} {rx ra : Nat → Nat} (h : HisS w0 W b K0 Kp c m rx ra) : Below w0.heap.size w0 W := by
  obtain ⟨F, L, q, qs, hs, g⟩ := h.s
  exact hs.l
theorem HisS.of_live {w0 W W' : World} {b : Nat} {F : List Nat} {L : SL} {K0 : ByteArray} {Kp : Int → ByteArray} {q c m : Nat} {rx ra : Nat → Nat} (h : LiveTo w0 W W' b F L q) (hq : q ≤ c) (hd : HisL K0 Kp L m rx ra) : HisS w0 W' b K0 Kp c m rx ra := by
  obtain ⟨F', q', qs', hs, hq', _⟩ := h
  exact ⟨F', L, q', qs', hs, by omega, hd⟩
theorem hpush_law {w0 W : World} {b : Nat} {t : Int} {n : Nat} {f : Nat → Int} {c m : Nat} {rx ra : Nat → Nat} (K0 : ByteArray) (Kp : Int → ByteArray) (hK0 : keyStr t f n = K0) (hKp : ∀ k : Int, keyStr t (icat f n fun _ => k) (n + 1) = Kp k) (hk : KeysOk K0 Kp) (h : HisS w0 W b K0 Kp c m rx ra) (hc : c < 100000) (hm : m ≤ 100) (A : Option Addr) (cp : Nat)
    (hI : ∀ F L q qs, SNew w0 W b F L q qs → ∀ W', Touch F W W' → Il W' A n f) (hz : A = none → n = 0 ∧ cp = 0) (hn : n ≤ 20) (blk : Int) (a : Nat) (ha : a < 2 ^ 256) :
    Calls Try.prog 14 #[.pointer (some ⟨b, 0, none⟩), .int .i64 t, .slice A n cp, .int .i64 blk, U a] W fun e W' => ∃ r m' rx' ra', e = .returned (.int .i64 r) ∧ PushR m rx ra blk a r m' rx' ra' ∧ HisS w0 W' b K0 Kp (c + 2) m' rx' ra' ∧ ∀ T, Foreign T → KeepT T W W' := by
  obtain ⟨F, L, q, qs, hs, hq, hd⟩ := h.s
  have hl := hI F L q qs hs W (Touch.refl _ _)
  by_cases hbad : blk < 0 ∨ 1099511627776 < blk
  · refine (hpush_bad hs t A n cp f hl hn blk a K0 hK0 hk.k0.2 hbad).mono ?_
    rintro e W' ⟨he, hL⟩
    exact ⟨2, m, rx, ra, he, .inl ⟨rfl, hbad, rfl, rfl, rfl⟩, HisS.of_live hL (by omega) hd, fun T hT => LiveTo.keepT hs hL hT⟩
  obtain ⟨x, rfl⟩ : ∃ x : Nat, blk = (x : Int) := ⟨blk.toNat, by omega⟩
  have hx : x ≤ 1099511627776 := by omega
  have hg : (0 : Int) ≤ (x : Int) ∧ (x : Int) ≤ 1099511627776 := by omega
  have hlen := hd.len
  rcases Nat.eq_zero_or_pos m with rfl | hm0
  · obtain ⟨p1, p2, p3, p4⟩ := hk.kp 0 (by omega)
    refine (hpush_more hs t A n cp f (hI F L q qs hs) hz hn x a ha hx 0 (by omega) 0 0 false (reads_none hs t A n cp f _ _ (hKp _) (by omega) hk.kn.1 hd.neg) (.inl rfl) K0 (Kp ((0 : Nat) : Int)) hK0 (hKp _) hk.k0.1 p1 hk.k0.2 p2 hd.head (by omega) (by have := setL_len L K0 (numStr (((0 : Nat) : Int) + 1)); omega) (by omega)).mono ?_
    rintro e W' ⟨he, hL⟩
    refine ⟨0, 1, updN rx 0 x, updN ra 0 a, he, .inr ⟨hg, .inr (.inr (.inr ⟨rfl, .inl rfl, rfl, by simp, rfl⟩))⟩, HisS.of_live hL (by omega) ?_, fun T hT => LiveTo.keepT hs hL hT⟩
    exact hd.more hk (by omega) x a hx ha (fun j hj => absurd hj (by omega))
  · obtain ⟨y, hy⟩ : ∃ y, y = m - 1 := ⟨_, rfl⟩
    have hym : ((m : Nat) : Int) - 1 = (y : Int) := by omega
    obtain ⟨p1, p2, p3, p4⟩ := hk.kp y (by omega)
    obtain ⟨r1, r2, r3, r4⟩ := hk.kp m (by omega)
    have hbx := hd.bx y (by omega)
    have hba := hd.ba y (by omega)
    have hR : Reads W (some ⟨b, 0, none⟩) t A n cp f ((m : Int) - 1) (rx y : Nat) (ra y) true := by
      rw [hym]
      exact reads_some hs t A n cp f _ _ (hKp _) (rx y) (ra y) (by omega) hba (by omega) p1 (hd.pts y (by omega))
    rcases Nat.lt_trichotomy x (rx y) with hlt | heq | hgt
    · refine (hpush_state hs t A n cp f (hI F L q qs hs) hz hn x a ha hx m (by omega) (rx y) (ra y) hR hlt K0 hK0 hk.k0.1 hk.k0.2 hd.head).mono ?_
      rintro e W' ⟨he, hL⟩
      exact ⟨10, m, rx, ra, he, .inr ⟨hg, .inl ⟨rfl, hm0, by rw [← hy]; omega, rfl, rfl, rfl⟩⟩, HisS.of_live hL (by omega) hd, fun T hT => LiveTo.keepT hs hL hT⟩
    · refine (hpush_over hs t A n cp f (hI F L q qs hs) hz hn x a ha hx m (by omega) (rx y) (ra y) hR heq K0 hK0 hk.k0.1 hk.k0.2 hd.head (Kp ((y : Nat) : Int)) (by rw [← hKp, hym]) p1 p2 (by omega) (by omega)).mono ?_
      rintro e W' ⟨he, hL⟩
      refine ⟨0, m, rx, updN ra (m - 1) a, he, .inr ⟨hg, .inr (.inr (.inl ⟨rfl, hm0, by rw [← hy]; omega, rfl, rfl, rfl⟩))⟩, HisS.of_live hL (by omega) ?_, fun T hT => LiveTo.keepT hs hL hT⟩
      have := hd.over hk hm0 hm a ha
      rw [← hy, ← heq] at this
      rw [← hy]
      exact this
    · by_cases hE : ra y = a
      · refine (hpush_stay hs t A n cp f (hI F L q qs hs) hz hn x a ha hx m (by omega) (rx y) (ra y) hR hgt hE K0 hK0 hk.k0.1 hk.k0.2 hd.head).mono ?_
        rintro e W' ⟨he, hL⟩
        exact ⟨0, m, rx, ra, he, .inr ⟨hg, .inr (.inl ⟨rfl, hm0, by rw [← hy]; omega, by rw [← hy]; exact hE, rfl, rfl, rfl⟩)⟩, HisS.of_live hL (by omega) hd, fun T hT => LiveTo.keepT hs hL hT⟩
      · refine (hpush_more hs t A n cp f (hI F L q qs hs) hz hn x a ha hx m (by omega) (rx y) (ra y) true hR (.inr ⟨hgt, hE, hba⟩) K0 (Kp ((m : Nat) : Int)) hK0 (hKp _) hk.k0.1 r1 hk.k0.2 r2 hd.head (by omega) (by have := setL_len L K0 (numStr ((m : Int) + 1)); omega) (by omega)).mono ?_
        rintro e W' ⟨he, hL⟩
        refine ⟨0, m + 1, updN rx m x, updN ra m a, he, .inr ⟨hg, .inr (.inr (.inr ⟨rfl, .inr ⟨by rw [← hy]; omega, by rw [← hy]; exact hE⟩, rfl, by simp, rfl⟩))⟩, HisS.of_live hL (by omega) ?_, fun T hT => LiveTo.keepT hs hL hT⟩
        refine hd.more hk (by omega) x a hx ha (fun j hj => ?_)
        rcases Nat.lt_or_ge j y with h | h
        · exact Nat.lt_trans (hd.inc j y h (by omega)) hgt
        · obtain rfl : j = y := by omega
          exact hgt
theorem HisS.other {w0 W W' : World} {b : Nat} {K0 : ByteArray} {Kp : Int → ByteArray} {c m : Nat} {rx ra : Nat → Nat} (h : HisS w0 W b K0 Kp c m rx ra) (G : List Nat) (ht : Touch G W W') (hG : ∀ g ∈ G, w0.heap.size ≤ g ∧ ∃ cs T fr, W.heap[g]? = some (Obj.cells cs T fr) ∧ Foreign T) : HisS w0 W' b K0 Kp c m rx ra := by
  obtain ⟨F, L, q, qs, hs, g⟩ := h.s
  exact ⟨F, L, q, qs, hs.other G ht hG, g⟩
/-- the halving search finds how many blocks are not beyond blk -/
theorem hbs_count (rx : Int → Int) (ro : Int → Bool) (blk : Int) (m : Nat) (hro : ∀ k : Nat, k < m → ro k = true) (hinc : ∀ j k : Nat, j < k → k < m → rx j < rx k) : ∀ k l h, l ≤ h → h ≤ m → h - l ≤ k → (∀ j : Nat, j < l → rx j ≤ blk) → (∀ j : Nat, h ≤ j → j < m → blk < rx j) →
    l ≤ hbs rx ro blk k l h ∧ hbs rx ro blk k l h ≤ h ∧ (∀ j : Nat, j < hbs rx ro blk k l h → rx j ≤ blk) ∧ (∀ j : Nat, hbs rx ro blk k l h ≤ j → j < m → blk < rx j)
  | 0, l, h, hl, hm, hk, h1, h2 => by
    obtain rfl : l = h := by omega
    exact ⟨Nat.le_refl _, Nat.le_refl _, h1, h2⟩
  | k + 1, l, h, hl, hm, hk, h1, h2 => by
    unfold hbs
    by_cases hlh : l < h
    · rw [if_pos hlh]
      have hmid : l + (h - l) / 2 < h := by omega
      by_cases hc : ro ((l + (h - l) / 2 : Nat) : Int) = true ∧ rx ((l + (h - l) / 2 : Nat) : Int) ≤ blk
      · rw [if_pos hc]
        have ih := hbs_count rx ro blk m hro hinc k (l + (h - l) / 2 + 1) h (by omega) hm (by omega) (fun j hj => by
          rcases Nat.lt_or_ge j (l + (h - l) / 2) with h3 | h3
          · have := hinc j (l + (h - l) / 2) h3 (by omega); have := hc.2; omega
          · obtain rfl : j = l + (h - l) / 2 := by omega
            exact hc.2) h2
        exact ⟨by omega, ih.2.1, ih.2.2.1, ih.2.2.2⟩
      · rw [if_neg hc]
        have hc2 : blk < rx ((l + (h - l) / 2 : Nat) : Int) := by
          have := hro (l + (h - l) / 2) (by omega)
          rcases Int.lt_or_le blk (rx ((l + (h - l) / 2 : Nat) : Int)) with h3 | h3
          · exact h3
          · exact absurd ⟨this, h3⟩ hc
        have ih := hbs_count rx ro blk m hro hinc k l (l + (h - l) / 2) (by omega) (by omega) (by omega) h1 (fun j hj hjm => by
          rcases Nat.lt_or_ge (l + (h - l) / 2) j with h3 | h3
          · have := hinc (l + (h - l) / 2) j h3 hjm; omega
          · obtain rfl : j = l + (h - l) / 2 := by omega
            exact hc2)
        exact ⟨ih.1, by omega, ih.2.2.1, ih.2.2.2⟩
    · rw [if_neg hlh]
      obtain rfl : l = h := by omega
      exact ⟨Nat.le_refl _, Nat.le_refl _, h1, h2⟩
def rxZ (rx : Nat → Nat) (k : Int) : Int := if 0 ≤ k then ((rx k.toNat : Nat) : Int) else 0
theorem rxZ_nat (rx : Nat → Nat) (j : Nat) : rxZ rx (j : Int) = (rx j : Int) := by unfold rxZ; rw [if_pos (by omega), Int.toNat_natCast]
/-- what is at a block: of the checkpoints not beyond it the last one's amount -/
def AtR (m : Nat) (rx ra : Nat → Nat) (blk : Int) (a : Nat) (o : Bool) : Prop :=
  (o = false ∧ a = 0 ∧ ∀ j, j < m → blk < rx j) ∨ (∃ k, k < m ∧ o = true ∧ a = ra k ∧ (rx k : Int) ≤ blk ∧ ∀ j, k < j → j < m → blk < rx j)
theorem hat_law {w0 W : World} {b : Nat} {t : Int} {n : Nat} {f : Nat → Int} {c m : Nat} {rx ra : Nat → Nat} (K0 : ByteArray) (Kp : Int → ByteArray) (hK0 : keyStr t f n = K0) (hKp : ∀ k : Int, keyStr t (icat f n fun _ => k) (n + 1) = Kp k) (hk : KeysOk K0 Kp) (h : HisS w0 W b K0 Kp c m rx ra) (hm : m ≤ 101) (A : Option Addr) (cp : Nat)
    (hl : Il W A n f) (hz : A = none → n = 0 ∧ cp = 0) (hn : n ≤ 20) (blk : Int) :
    Calls Try.prog 15 #[.pointer (some ⟨b, 0, none⟩), .int .i64 t, .slice A n cp, .int .i64 blk] W fun e W' => (∃ a o, e = .returned (.tuple #[U a, .bool o]) ∧ AtR m rx ra blk a o ∧ a < 2 ^ 256) ∧ Below W.heap.size W W' := by
  obtain ⟨F, L, q, qs, hs, hq, hd⟩ := h.s
  have hZ := hbs_count (rxZ rx) (fun k => decide (0 ≤ k ∧ k < m)) blk m (fun k hk => by simp; omega) (fun j k hjk hkm => by rw [rxZ_nat, rxZ_nat]; have := hd.inc j k hjk hkm; omega) m 0 m (by omega) (by omega) (by omega) (fun j hj => absurd hj (by omega)) (fun j hj hj2 => absurd hj2 (by omega))
  obtain ⟨Z, eZ⟩ : ∃ Z, hbs (rxZ rx) (fun k => decide (0 ≤ k ∧ k < m)) blk m 0 m = Z := ⟨_, rfl⟩
  rw [eZ] at hZ
  obtain ⟨_, hZm, hZ1, hZ2⟩ := hZ
  refine (hat_walk (some ⟨b, 0, none⟩) t A n cp f blk m (rxZ rx) (fun k => if 0 ≤ k then ra k.toNat else 0) (fun k => decide (0 ≤ k ∧ k < m)) W hl hz hn (by omega) (fun W1 hb => hlen_live (hs.below hb) t A n cp f (hl.below hb) hn K0 hK0 hk.k0.1 m hd.head (by omega)) (fun k h1 h2 => ?_) Z eZ).mono ?_
  · by_cases h0 : 0 ≤ k
    · obtain ⟨j, rfl⟩ : ∃ j : Nat, k = (j : Int) := ⟨k.toNat, by omega⟩
      have hjm : j < m := by omega
      have := reads_some hs t A n cp f _ _ (hKp _) (rx j) (ra j) (by have := hd.bx j hjm; omega) (hd.ba j hjm) (by omega) (hk.kp j (by omega)).1 (hd.pts j hjm)
      simp only [Int.toNat_natCast]
      rw [rxZ_nat, if_pos h0, show decide ((0 : Int) ≤ (j : Int) ∧ (j : Int) < (m : Int)) = true from by simp; omega]
      exact this
    · obtain rfl : k = -1 := by omega
      have := reads_none hs t A n cp f _ _ (hKp _) (by omega) hk.kn.1 hd.neg
      simpa [rxZ] using this
  · rintro e W' ⟨he, hb⟩
    refine ⟨⟨_, _, he, ?_, ?_⟩, hb⟩
    · rcases Nat.eq_zero_or_pos Z with rfl | hp
      · refine .inl ⟨by simp, by simp, fun j hj => ?_⟩
        have := hZ2 j (by omega) hj
        rwa [rxZ_nat] at this
      · refine .inr ⟨Z - 1, by omega, by simp; omega, ?_, ?_, fun j hj hjm => ?_⟩
        · rw [if_pos (by omega)]; congr 1; omega
        · have := hZ1 (Z - 1) (by omega)
          rwa [rxZ_nat] at this
        · have := hZ2 j (by omega) hjm
          rwa [rxZ_nat] at this
    · split
      · rcases Nat.eq_zero_or_pos Z with rfl | hp
        · rename_i h; simp at h
        · exact hd.ba _ (by omega)
      · decide
end Go.Proofs.Ytedkhpnlhkjjgaa

namespace Go.Proofs.Ytedkhpnlhkjjgaa
open Go.RowKit Go.Maps Go.Sort

theorem hinfoU : (Try.prog.info? 29).map (fun i => (i.zero, i.size, i.bytes)) = some (some (.agg #[.int .u64 0, .int .u64 0, .int .u64 0, .int .u64 0]), 4, 32) := by kernel_rfl
def u4s (a : Nat) : List Value := [.int .u64 (limb a 0 : Nat), .int .u64 (limb a 1 : Nat), .int .u64 (limb a 2 : Nat), .int .u64 (limb a 3 : Nat)]
def uys (f : Nat → Nat) : Nat → List Value
  | 0 => []
  | k + 1 => uys f k ++ u4s (f k)
theorem uys_length (f : Nat → Nat) : ∀ k, (uys f k).length = k * 4
  | 0 => rfl
  | k + 1 => by rw [uys, List.length_append, uys_length f k]; simp [u4s]; omega
theorem uys_get (f : Nat → Nat) : ∀ k i, i < k → ∀ j v, (u4s (f i))[j]? = some v → (uys f k)[i * 4 + j]? = some v
  | 0, i, h => absurd h (by omega)
  | k + 1, i, h => fun j v hv => by
    have hj : j < 4 := (List.getElem?_eq_some_iff.1 hv).1
    rw [uys]
    by_cases hik : i = k
    · subst hik
      rw [List.getElem?_append_right (by rw [uys_length]; omega), uys_length, Nat.add_sub_cancel_left]
      exact hv
    · rw [List.getElem?_append_left (by rw [uys_length]; omega)]
      exact uys_get f k i (by omega) j v hv
theorem own_uys {w : World} {B k : Nat} {v : Value} {f : Nat → Nat} (h : w.ownsRow B 29 4 v k (uys f k)) : ∃ A c, v = .slice A k c ∧ RowsV w A k 4 (fun i => u4s (f i)) ∧ (A = none → k = 0 ∧ c = 0) := by
  rcases h.2 with ⟨rfl, rfl⟩ | ⟨g, cap, cur, rfl, hb, hh, r⟩
  · exact ⟨none, 0, rfl, RowsV.nil _ _ _ _, fun _ => ⟨rfl, rfl⟩⟩
  · refine ⟨_, cap, rfl, fun hn => ⟨g, 0, rfl, (h.lt g rfl).2, fun i hi j v hv => ?_⟩, fun h => by cases h⟩
    have := h.cells (g := g) rfl (i * 4 + j) v (uys_get f k i hi j v hv)
    rw [show (0 : Nat) + i * 4 + j = i * 4 + j by omega]
    unfold Addr.add at this
    split at this
    · rename_i h0; rw [show i * 4 + j = 0 from by simpa using h0]; exact this
    · simpa using this
/-- the two rows that are made -/
structure HlI (w2 W : World) (i j : Nat) (rx : Nat → Int) (ra : Nat → Nat) (v8 v9 : Value) : Prop where
  b : Below w2.heap.size w2 W
  x : W.ownsRow w2.heap.size 3 1 v8 i (iys rx i)
  a : W.ownsRow w2.heap.size 29 4 v9 j (uys ra j)
theorem HlI.below {w2 W W' : World} {i j : Nat} {rx : Nat → Int} {ra : Nat → Nat} {v8 v9 : Value} (h : HlI w2 W i j rx ra v8 v9) (hb : Below W.heap.size W W') : HlI w2 W' i j rx ra v8 v9 :=
  ⟨h.b.trans (hb.mono h.b.size), ownsRow_keepT h.x (KeepT.of_below hb), ownsRow_keepT h.a (KeepT.of_below hb)⟩
theorem hl_keep {B k n : Nat} {T T' : TypeId} {V V2 : World} {v : Value} {xs : List Value} {tmp : Array Value} (ho : V.ownsRow B T k v n xs) (hg : (V.alloc (Obj.cells tmp T)).grownBy V2 v.ownBlock) (hne : T' ≠ T) : KeepT T' V V2 := by
  refine (KeepT.of_below ((Below.refl V.heap.size V).alloc (Nat.le_refl _) (Obj.cells tmp T))).trans (KeepT.grown (T' := T) hg (fun g e => ?_) hne)
  obtain ⟨cs, hc⟩ := ownsRow_typ ho e
  exact ⟨cs, (0, 0), (heap_alloc_old V _ (hp_lt hc)).trans hc⟩
theorem HlI.addX {w2 V V2 : World} {i j : Nat} {rx : Nat → Int} {ra : Nat → Nat} {v8 v9 v' : Value} {tmp : Array Value} (h : HlI w2 V i j rx ra v8 v9) (hown : V2.ownsRow w2.heap.size 3 1 v' (i + 1) (iys rx i ++ [.int .i64 (rx i)])) (hg : (V.alloc (Obj.cells tmp 3)).grownBy V2 v8.ownBlock) : HlI w2 V2 (i + 1) j rx ra v' v9 :=
  ⟨(h.b.alloc h.b.size _).grown hg (by simp only [World.size_alloc]; have := h.b.size; omega) (fun j hj => (h.x.lt j hj).1), by rw [iys_succ]; exact hown, ownsRow_keepT h.a (hl_keep h.x hg (by decide))⟩
theorem HlI.addA {w2 V V2 : World} {i j : Nat} {rx : Nat → Int} {ra : Nat → Nat} {v8 v9 v' : Value} {tmp : Array Value} (h : HlI w2 V i j rx ra v8 v9) (hown : V2.ownsRow w2.heap.size 29 4 v' (j + 1) (uys ra j ++ u4s (ra j))) (hg : (V.alloc (Obj.cells tmp 29)).grownBy V2 v9.ownBlock) : HlI w2 V2 i (j + 1) rx ra v8 v' :=
  ⟨(h.b.alloc h.b.size _).grown hg (by simp only [World.size_alloc]; have := h.b.size; omega) (fun j hj => (h.a.lt j hj).1), ownsRow_keepT h.x (hl_keep h.a hg (by decide)), hown⟩
set_option maxRecDepth 100000 in
set_option maxHeartbeats 4000000 in
theorem hlist_walk (P : Option Addr) (t : Int) (A : Option Addr) (n c : Nat) (f : Nat → Int) (m : Nat) (rx : Nat → Int) (ra : Nat → Nat) (w : World) (hl : Il w A n f) (hz : A = none → n = 0 ∧ c = 0) (hn : n ≤ 20) (hm : m ≤ 100000)
    (HL : ∀ W, Below w.heap.size w W → Calls Try.prog 17 #[.pointer P, .int .i64 t, .slice A n c] W fun e w' => e = .returned (.int .i64 (m : Nat)) ∧ Below W.heap.size W w')
    (HR : ∀ k : Nat, k < m → Reads w P t A n c f (k : Nat) (rx k) (ra k) true) :
    Calls Try.prog 16 #[.pointer P, .int .i64 t, .slice A n c] w fun e w' => (∃ B v8 v9, e = .returned (.tuple #[v8, v9]) ∧ w'.ownsRow B 3 1 v8 m (iys rx m) ∧ w'.ownsRow B 29 4 v9 m (uys ra m)) ∧ Below w.heap.size w w' := by
  obtain ⟨i0, hi, hz0, hz1, hz2⟩ := info_parts oinfoInt
  obtain ⟨u0, hu, hy0, hy1, hy2⟩ := info_parts hinfoU
  have HRd := Lib.hid (fun w => reader_walk P t A n c w)
  have HLn := Lib.hid HL
  have HRs := Lib.hid HR
  have HI := Lib.hid (And.intro hl (And.intro hz hn))
  have mI : (m : Int) ≤ 100000 := by omega
  clear HL HR hl hz hn
  go_enter Try.func16, Try.ntmps16
  go_wp2_with (first
    | (go_at_call 17; refine (HLn.out w1 H1.out.1).mono ?_; rintro e w2 ⟨rfl, hb2⟩; have H2 := Lib.hid (And.intro (H1.out.1.trans (hb2.mono H1.out.1.size)) (H1.out.2.below hb2)); clear hb2)
    | (go_at_call 62; refine (HRd.out _).mono ?_; rintro e w1 ⟨rfl, hb1, hc0, hc1, hc2, hlt⟩; have H1 := Lib.hid (And.intro hb1 (show HisAt w1 w.heap.size P t A n c f from ⟨hc0, hc1, hc2, hlt, HI.out.1.below hb1, HI.out.2.1, HI.out.2.2⟩)); clear hb1 hc0 hc1 hc2 hlt))
  go_loopw [8, 9, 23] (fun v8 v9 i wr => ∃ j : Nat, j ≤ m ∧ i = .int .i64 (j : Nat) ∧ HlI w2 wr j j rx ra v8 v9) (fun _ _ i _ => m - (intOf i).toNat)
  case atStart => exact ⟨0, by omega, rfl, Below.refl _ _, World.ownsRow_nil _ _ _ _, World.ownsRow_nil _ _ _ _⟩
  case round =>
    obtain ⟨j, hj, rfl, hh⟩ := hrel
    have HH := Lib.hid hh
    by_cases hlt : j < m
    · have p2 : (j : Int) < (m : Int) := by omega
      have hr := HRs.out j hlt w.heap.size wr (H2.out.1.trans (hh.b.mono H2.out.1.size)) (H2.out.2.below hh.b)
      obtain ⟨x, ex⟩ : ∃ z, z = rx j := ⟨_, rfl⟩
      obtain ⟨a, ea⟩ : ∃ z, z = ra j := ⟨_, rfl⟩
      rw [← ex, ← ea] at hr
      unfold hisV U at hr
      have HRj := Lib.hid hr
      have HE := Lib.hid (And.intro ex ea)
      clear hr hh ex ea
      go_upto_region 9 with (go_at_call 112; with_reducible refine HRj.out.mono ?_; rintro e w4 ⟨rfl, hb4⟩; have H4 := Lib.hid hb4; clear hb4)
      have hbx := H4.out.alloc H4.out.size (.cells #[.int .u64 (limb a 0 : Nat), .int .u64 (limb a 1 : Nat), .int .u64 (limb a 2 : Nat), .int .u64 (limb a 3 : Nat)] 29)
      have r5 := heap_alloc_new w4 (.cells #[.int .u64 (limb a 0 : Nat), .int .u64 (limb a 1 : Nat), .int .u64 (limb a 2 : Nat), .int .u64 (limb a 3 : Nat)] 29)
      obtain ⟨W5, hW5⟩ : ∃ W5, W5 = w4.alloc (.cells #[.int .u64 (limb a 0 : Nat), .int .u64 (limb a 1 : Nat), .int .u64 (limb a 2 : Nat), .int .u64 (limb a 3 : Nat)] 29) := ⟨_, rfl⟩
      rw [← hW5] at hbx r5 ⊢
      clear hW5
      have H5 := Lib.hid (HH.out.below hbx)
      have R5 := Lib.hid r5
      have z5 := (HH.out.below hbx).b.size
      have hox := (HH.out.below hbx).x
      clear hbx r5
      go_upto_region 10 with (at_builtin; refine wpList_append_own _ rfl _ _ _ rfl w2.heap.size 3 i0 _ 1 8 Try.underlying30 hi hz0 hz1 hz2 rfl (by omega) _ j (iys rx j) rfl (hox.alloc _) ⟨W5.heap.size, 0, none⟩ 1 1 [.int .i64 x] rfl rfl (World.news_of_block (cs := #[.int .i64 x]) (t := 3) (fr := (0, 0)) (heap_alloc_new W5 _)) (by simp [Value.oneCell']) (by unfold maxLen; omega) (by omega) (by simp; omega) ?_; intro v1 w6 hown1 hg1 _; have H6 := Lib.hid (H5.out.addX (by rw [← HE.out.1]; exact hown1) hg1); have R6 := Lib.hid ((hl_keep hox hg1 (by decide)).2 _ _ _ R5.out); have d0 := (hp_cell (i := 0) R6.out).trans rfl; have d1 := (hp_cell (i := 1) R6.out).trans rfl; have d2 := (hp_cell (i := 2) R6.out).trans rfl; have d3 := (hp_cell (i := 3) R6.out).trans rfl; clear hown1 hg1)
      have hoa := H6.out.a
      have z6 := H6.out.b.size
      go_wp2_with (at_builtin; refine wpList_append_own _ rfl _ _ _ rfl w2.heap.size 29 u0 _ 4 32 Try.underlying38 hu hy0 hy1 hy2 rfl (by omega) _ j (uys ra j) rfl (hoa.alloc _) ⟨w6.heap.size, 0, none⟩ 1 1 (u4s a) rfl rfl (World.news_of_block (cs := #[.int .u64 (limb a 0 : Nat), .int .u64 (limb a 1 : Nat), .int .u64 (limb a 2 : Nat), .int .u64 (limb a 3 : Nat)]) (t := 29) (fr := (0, 0)) (heap_alloc_new w6 _)) (by simp [Value.oneCell', u4s]) (by unfold maxLen; omega) (by omega) (by simp; omega) ?_; intro v2 w7 hown2 hg2 _; have H7 := Lib.hid (H6.out.addA (by rw [← HE.out.2]; exact hown2) hg2); clear hown2 hg2)
      exact ⟨⟨j + 1, by omega, by go_num, H7.out⟩, by simp [intOf]; omega⟩
    · obtain rfl : j = m := by omega
      have p2 : ¬ (j : Int) < (j : Int) := by omega
      clear hh
      go_wp2
      go_ret2
      exact ⟨⟨_, _, _, rfl, HH.out.x, HH.out.a⟩, H2.out.1.trans (HH.out.b.mono H2.out.1.size)⟩
theorem hlist_law {w0 W : World} {b : Nat} {t : Int} {n : Nat} {f : Nat → Int} {c m : Nat} {rx ra : Nat → Nat} (K0 : ByteArray) (Kp : Int → ByteArray) (hK0 : keyStr t f n = K0) (hKp : ∀ k : Int, keyStr t (icat f n fun _ => k) (n + 1) = Kp k) (hk : KeysOk K0 Kp) (h : HisS w0 W b K0 Kp c m rx ra) (hm : m ≤ 101) (A : Option Addr) (cp : Nat)
    (hl : Il W A n f) (hz : A = none → n = 0 ∧ cp = 0) (hn : n ≤ 20) :
    Calls Try.prog 16 #[.pointer (some ⟨b, 0, none⟩), .int .i64 t, .slice A n cp] W fun e W' => (∃ A1 c1 A2 c2, e = .returned (.tuple #[.slice A1 m c1, .slice A2 m c2]) ∧ Il W' A1 m (fun i => if i < m then (rx i : Int) else 0) ∧ RowsV W' A2 m 4 (fun i => u4s (ra i))) ∧ Below W.heap.size W W' := by
  obtain ⟨F, L, q, qs, hs, hq, hd⟩ := h.s
  refine (hlist_walk (some ⟨b, 0, none⟩) t A n cp f m (fun i => if i < m then (rx i : Int) else 0) ra W hl hz hn (by omega) (fun W1 hb => hlen_live (hs.below hb) t A n cp f (hl.below hb) hn K0 hK0 hk.k0.1 m hd.head (by omega)) (fun k hkm => ?_)).mono ?_
  · have := reads_some hs t A n cp f _ _ (hKp _) (rx k) (ra k) (by have := hd.bx k hkm; omega) (hd.ba k hkm) (by omega) (hk.kp k (by omega)).1 (hd.pts k hkm)
    simp only [if_pos hkm]
    exact this
  · rintro e W' ⟨⟨B, v8, v9, he, hx, ha⟩, hb⟩
    obtain ⟨A1, c1, rfl, il, _⟩ := own_il hx (fun i => by
      split
      · rename_i h; have := hd.bx i h; omega
      · decide)
    obtain ⟨A2, c2, rfl, rv, _⟩ := own_uys ha
    exact ⟨⟨A1, c1, A2, c2, he, il, rv⟩, hb⟩
theorem hlen_law {w0 W : World} {b : Nat} {t : Int} {n : Nat} {f : Nat → Int} {c m : Nat} {rx ra : Nat → Nat} (K0 : ByteArray) (Kp : Int → ByteArray) (hK0 : keyStr t f n = K0) (hk : KeysOk K0 Kp) (h : HisS w0 W b K0 Kp c m rx ra) (hm : m ≤ 101) (A : Option Addr) (cp : Nat)
    (hl : Il W A n f) (hn : n ≤ 20) :
    Calls Try.prog 17 #[.pointer (some ⟨b, 0, none⟩), .int .i64 t, .slice A n cp] W fun e W' => e = .returned (.int .i64 (m : Nat)) ∧ Below W.heap.size W W' := by
  obtain ⟨F, L, q, qs, hs, hq, hd⟩ := h.s
  exact hlen_live hs t A n cp f hl hn K0 hK0 hk.k0.1 m hd.head (by omega)
end Go.Proofs.Ytedkhpnlhkjjgaa

namespace Go.Proofs.Ytedkhpnlhkjjgaa
open Go.RowKit Go.Maps Go.Sort

set_option maxRecDepth 100000 in
set_option maxHeartbeats 1000000 in
theorem crow_freshT {w W : World} {b : Nat} {F : List Nat} {L : SL} {q : Nat} {qs : List Value} (h : SNew w W b F L q qs) (k : ByteArray) (f : Nat → Int) (n : Nat) (hn0 : 1 ≤ n) (hn : n ≤ 100) (hf : ∀ i, i < n → 0 ≤ f i ∧ f i < 2 ^ 63) (hk : k.size ≤ maxLen) (he : sget L k = some (rowV f n)) :
    Calls Try.prog 77 #[.pointer (some ⟨b, 0, none⟩), .string k] W fun e W' => (∃ g, e = .returned (.slice (some ⟨g, 0, none⟩) n n) ∧ (∀ i, i < n → W'.cell? ⟨g, i, none⟩ = some (.int .i64 (f i))) ∧ (∃ cs, W'.heap[g]? = some (Obj.cells cs 3 (0, 0))) ∧ W.heap.size ≤ g) ∧ Below W.heap.size W W' := by
  have HG := Lib.hid (h.get_some k (rowV f n) hk he)
  have HN := Lib.hid (fun w => nums_rowT w hn hf)
  have HNB : Hid (Calls Try.prog 111 #[.func (Fn.func 47) #[.pointer (some ⟨b, 0, none⟩)] #[], .string k] W fun e W' => (∃ g, e = .returned (.slice (some ⟨g, 0, none⟩) n n) ∧ (∀ i, i < n → W'.cell? ⟨g, i, none⟩ = some (.int .i64 (f i))) ∧ (∃ cs, W'.heap[g]? = some (Obj.cells cs 3 (0, 0))) ∧ W.heap.size ≤ g) ∧ Below W.heap.size W W') := by
    obtain ⟨rv, hrv⟩ : ∃ x, x = rowV f n := ⟨_, rfl⟩
    rw [← hrv] at HG HN
    have HN0 := Lib.hid hn0
    clear h hk he hn hf hrv hn0
    refine Lib.hid ?_
    go_enter Try.func111, Try.ntmps111
    go_wp2_with (first
      | (go_at_call 113; refine (HN.out w1).mono ?_; rintro e w2 ⟨rfl, hc, hl, hb⟩; have HSz := Lib.hid HB1.out.size; have HC := Lib.hid hc; have HL := Lib.hid hl; have HB2 := Lib.hid (HB1.out.trans (hb.mono HB1.out.size)); clear hc hl hb)
      | (go_at_call 47; refine HG.out.mono ?_; rintro e w1 ⟨rfl, _, hb1⟩; have HB1 := Lib.hid hb1; clear hb1))
    go_ret
    exact ⟨⟨_, rfl, HC.out, HL.out, HSz.out⟩, HB2.out⟩
  clear h hk he hn hf HG HN hn0
  go_enter Try.func77, Try.ntmps77
  go_wp2_with (go_at_call 111; refine HNB.out.mono ?_; rintro e w1 ⟨⟨g, rfl, hc, hl, hz⟩, hb1⟩; have HC := Lib.hid hc; have HL := Lib.hid hl; have HZz := Lib.hid hz; have HB1 := Lib.hid hb1; clear hb1 hc hl hz)
  go_ret
  exact ⟨⟨g, rfl, HC.out, HL.out, HZz.out⟩, HB1.out⟩
/-- rows that were read: each one's numbers lie in a block of its own -/
structure FRow (W : World) (B : Nat) (rn : Nat → Nat) (rf : Nat → Nat → Int) (xs : List DRow) : Prop where
  r : ∀ k (h : k < xs.length), xs[k].n = rn k ∧ (∀ i, i < rn k → W.cell? ⟨xs[k].g, i, none⟩ = some (.int .i64 (rf k i))) ∧ (∃ cs, W.heap[xs[k].g]? = some (Obj.cells cs 3 (0, 0))) ∧ B ≤ xs[k].g
theorem FRow.keep {W W' : World} {B : Nat} {rn : Nat → Nat} {rf : Nat → Nat → Int} {xs : List DRow} (h : FRow W B rn rf xs) (hk : KeepT 3 W W') : FRow W' B rn rf xs := ⟨fun k hx => by
  obtain ⟨h1, h2, ⟨cs, h3⟩, h4⟩ := h.r k hx
  have h5 := hk.2 _ _ _ h3
  exact ⟨h1, fun i hi => by rw [← h2 i hi]; simp only [World.cell?, h3, h5], ⟨cs, h5⟩, h4⟩⟩
theorem FRow.snoc {W : World} {B : Nat} {rn : Nat → Nat} {rf : Nat → Nat → Int} {xs : List DRow} {x : DRow} (h : FRow W B rn rf xs) (hx : x.n = rn xs.length ∧ (∀ i, i < rn xs.length → W.cell? ⟨x.g, i, none⟩ = some (.int .i64 (rf xs.length i))) ∧ (∃ cs, W.heap[x.g]? = some (Obj.cells cs 3 (0, 0))) ∧ B ≤ x.g) : FRow W B rn rf (xs ++ [x]) := ⟨fun k hk => by
  by_cases hl : k < xs.length
  · rw [List.getElem_append_left hl]; exact h.r k hl
  · obtain rfl : k = xs.length := by simp at hk; omega
    rw [List.getElem_append_right (Nat.le_refl _)]
    simpa using hx⟩
set_option maxRecDepth 100000 in
set_option maxHeartbeats 4000000 in
theorem fall_walk (P : Option Addr) (t : Int) (A : Option Addr) (n c : Nat) (x y : Int) (m : Nat) (hx : 0 ≤ x) (hm : y = x + (m : Int)) (hy : y ≤ 1000000) (hm2 : m ≤ 100) (key : Nat → ByteArray) (rn : Nat → Nat) (rf : Nat → Nat → Int) (hrn : ∀ k, k < m → 1 ≤ rn k ∧ rn k ≤ 100) (w : World)
    (HE : ∀ W, Below w.heap.size w W → Calls Try.prog 70 #[.agg #[.pointer P, .int .i64 t, .slice A n c]] W fun e w' => e = .returned (.agg #[.int .i64 x, .int .i64 y]) ∧ Below W.heap.size W w')
    (HA : ∀ k, k < m → ∀ W, Below w.heap.size w W → Calls Try.prog 72 #[.agg #[.pointer P, .int .i64 t, .slice A n c], .int .i64 (x + (k : Int))] W fun e w' => e = .returned (.string (key k)) ∧ Below W.heap.size W w')
    (HR : ∀ k, k < m → ∀ W, Below w.heap.size w W → Calls Try.prog 77 #[.pointer P, .string (key k)] W fun e W' => (∃ g, e = .returned (.slice (some ⟨g, 0, none⟩) (rn k) (rn k)) ∧ (∀ i, i < rn k → W'.cell? ⟨g, i, none⟩ = some (.int .i64 (rf k i))) ∧ (∃ cs, W'.heap[g]? = some (Obj.cells cs 3 (0, 0))) ∧ W.heap.size ≤ g) ∧ Below W.heap.size W W') :
    Calls Try.prog 25 #[.pointer P, .int .i64 t, .slice A n c] w fun e w' => (∃ B v xs, e = .returned v ∧ xs.length = m ∧ w'.ownsRow B 30 1 v m (xs.map DRow.val) ∧ FRow w' w.heap.size rn rf xs) ∧ Below w.heap.size w w' := by
  obtain ⟨i0, hi, hz0, hz1, hz2⟩ := info_parts infoIs
  have hb0 := (Below.refl w.heap.size w).alloc (Nat.le_refl _) (.cells #[.pointer P, .int .i64 t, .slice A n c] 117)
  have r0 := heap_alloc_new w (.cells #[.pointer P, .int .i64 t, .slice A n c] 117)
  have HEs := Lib.hid (HE _ hb0)
  have HLn := Lib.hid (fun (W : World) (hb : Below w.heap.size w W) => qlen_walk P t A n c x y hx (by omega) hy W (fun W1 hb1 => HE W1 (hb.trans (hb1.mono hb.size))))
  have H0 := Lib.hid (And.intro hb0 r0)
  have HAt := Lib.hid HA
  have HRw := Lib.hid HR
  have Hrn := Lib.hid hrn
  have e1 : y - x = (m : Int) := by omega
  have mI : (m : Int) ≤ 100 := by omega
  have hx2 : x ≤ 1000000 := by omega
  clear HE HA HR hb0 r0 hrn hm
  have hix := idx20
  go_enter Try.func25, Try.ntmps25
  go_wp2_with (first
    | (go_at_call 68; rw [e1] at HLn; refine (HLn.out _ H1.out.1).mono ?_; rintro e w2 ⟨rfl, hb2⟩; have H2 := Lib.hid (And.intro (H1.out.1.trans (hb2.mono H1.out.1.size)) ((hb2.block _ (hp_lt H1.out.2)).trans H1.out.2)); clear hb2)
    | (go_at_call 70; refine HEs.out.mono ?_; rintro e w1 ⟨rfl, hb1⟩; have H1 := Lib.hid (And.intro (H0.out.1.trans (hb1.mono H0.out.1.size)) ((hb1.block _ (hp_lt H0.out.2)).trans H0.out.2)); clear hb1))
  have Hx := Lib.hid hx
  go_loopw [9, 23] (fun v i wr => ∃ xs : List DRow, xs.length ≤ m ∧ i = .int .i64 (xs.length : Nat) ∧ Below w2.heap.size w2 wr ∧ wr.ownsRow w2.heap.size 30 1 v xs.length (xs.map DRow.val) ∧ FRow wr w.heap.size rn rf xs) (fun _ i _ => m - (intOf i).toNat)
  case atStart => exact ⟨[], by simp, rfl, Below.refl _ _, World.ownsRow_nil _ _ _ _, ⟨fun k h => absurd h (by simp)⟩⟩
  case round =>
    obtain ⟨xs, hxl, rfl, hb, hown, hfr⟩ := hrel
    have HH := Lib.hid (And.intro hb (And.intro hown hfr))
    obtain ⟨k, ek⟩ : ∃ k, k = xs.length := ⟨_, rfl⟩
    have Hk := Lib.hid ek
    rw [← ek]
    by_cases hlt : k < m
    · have p2 : (k : Int) < (m : Int) := by omega
      have hbw := H2.out.1.trans (hb.mono H2.out.1.size)
      have ha := HAt.out k hlt wr hbw
      have hr := fun (W1 : World) (h1 : Below wr.heap.size wr W1) => HRw.out k hlt W1 (hbw.trans (h1.mono hbw.size))
      have hrk := Hrn.out k hlt
      obtain ⟨K, eK⟩ : ∃ z, z = key k := ⟨_, rfl⟩
      obtain ⟨nk, enk⟩ : ∃ z, z = rn k := ⟨_, rfl⟩
      rw [← eK] at ha hr
      rw [← enk] at hr hrk
      have HA1 := Lib.hid ha
      have HR1 := Lib.hid hr
      have HE := Lib.hid enk
      have rq := (hb.block _ (hp_lt H2.out.2)).trans H2.out.2
      have c0 := (hp_cell (i := 0) rq).trans rfl
      have c1 := (hp_cell (i := 1) rq).trans rfl
      have c2' := (hp_cell (i := 2) rq).trans rfl
      have q1 : ((nk : Int) == 0) = false := by rw [beq_eq_false_iff_ne]; omega
      have q2 : ¬ (nk : Int) = 0 := by omega
      have Hbw := Lib.hid hbw.size
      clear hb hown hfr hbw ha hr eK enk hrk rq ek hxl
      go_upto_region 9 with (first
        | (go_at_call 77; refine (HR1.out _ B3.out).mono ?_; rintro e w4 ⟨⟨g, rfl, hc, hz, hge⟩, hb4⟩; have B4 := Lib.hid (B3.out.trans (hb4.mono B3.out.size)); have R4 := Lib.hid (And.intro hc (And.intro hz (Nat.le_trans B3.out.size hge))); clear hc hz hge hb4)
        | (go_at_call 72; refine HA1.out.mono ?_; rintro e w3 ⟨rfl, hb3⟩; have B3 := Lib.hid hb3; clear hb3))
      have ho4 := ownsRow_keepT HH.out.2.1 (KeepT.of_below B4.out)
      have hf4 := HH.out.2.2.keep (KeepT.of_below B4.out)
      have hb4 := HH.out.1.trans (B4.out.mono HH.out.1.size)
      have hz4 := hb4.size
      have hk := Hk.out
      have HF4 := Lib.hid (And.intro hf4 hb4)
      clear hf4 hb4
      go_wp2_with (at_builtin; refine wpList_append_own _ rfl _ _ _ rfl w2.heap.size 30 i0 _ 1 24 Try.underlying44 hi hz0 hz1 hz2 rfl (by omega) _ _ _ rfl (ho4.alloc _) ⟨w4.heap.size, 0, none⟩ 1 1 [.slice (some ⟨g, 0, none⟩) nk nk] rfl rfl (World.news_of_block (cs := #[.slice (some ⟨g, 0, none⟩) nk nk]) (t := 30) (fr := (0, 0)) (heap_alloc_new w4 _)) (by simp [Value.oneCell']) (by unfold maxLen; omega) (by omega) (by simp; omega) ?_; intro v1 w5 hown1 hg1 _; have H5 := Lib.hid (And.intro hown1 hg1); clear hown1 hg1)
      have hkI := hl_keep (T' := 3) ho4 H5.out.2 (by decide)
      refine ⟨⟨xs ++ [⟨K, g, nk⟩], by simp only [List.length_append, List.length_cons, List.length_nil]; omega, by rw [List.length_append, ← hk]; show _ = Value.int .i64 ((k + 1 : Nat) : Int); go_num, (HF4.out.2.alloc HF4.out.2.size _).grown H5.out.2 (by simp only [World.size_alloc]; omega) (fun j hj => (ho4.lt j hj).1), ?_, (HF4.out.1.keep hkI).snoc ⟨by rw [HE.out, ← hk], fun i hi' => ?_, ?_, by have h1 := R4.out.2.2; have h2 := Hbw.out; exact Nat.le_trans h2 h1⟩⟩, by have := hk; simp [intOf]; omega⟩
      · rw [List.map_append, List.length_append]
        exact H5.out.1
      · rw [← hk] at hi' ⊢
        rw [← HE.out] at hi'
        obtain ⟨cs, hcs⟩ := R4.out.2.1
        have h5 := hkI.2 _ _ _ hcs
        rw [← R4.out.1 i hi']
        simp only [World.cell?, hcs, h5]
      · obtain ⟨cs, hcs⟩ := R4.out.2.1
        exact ⟨cs, hkI.2 _ _ _ hcs⟩
    · obtain rfl : k = m := by omega
      have p2 : ¬ (k : Int) < (k : Int) := by omega
      clear hb hown hfr
      go_wp2
      go_ret
      exact ⟨⟨_, _, rfl, xs, rfl, HH.out.2.1, HH.out.2.2⟩, H2.out.1.trans (HH.out.1.mono H2.out.1.size)⟩
end Go.Proofs.Ytedkhpnlhkjjgaa
