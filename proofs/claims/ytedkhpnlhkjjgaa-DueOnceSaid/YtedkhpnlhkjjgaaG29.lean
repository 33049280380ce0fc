/- history: Len, Last, At, on whatever store. -/
import Derived.Test.YtedkhpnlhkjjgaaG21
import Derived.WalkMore
import Derived.Test.YtedkhpnlhkjjgaaG15
import Derived.Test.YtedkhpnlhkjjgaaG17
namespace Go.Proofs.Ytedkhpnlhkjjgaa
open Go.RowKit Go.Maps Go.Sort

set_option maxRecDepth 100000 in
set_option maxHeartbeats 400000 in
theorem hlen_dead (P : Option Addr) (t : Int) (A : Option Addr) (n c : Nat) (f : Nat → Int) (w : World) (h : SDead w (.pointer P)) (hl : Il w A n f) (hn : n ≤ 20) :
    Calls Try.prog 17 #[.pointer P, .int .i64 t, .slice A n c] w fun e w' => e = .returned (.int .i64 ((0 : Nat) : Int)) ∧ Below w.heap.size w w' := by
  have HK := Lib.hid (key_some t A n c f w hl (by omega))
  have HD := Lib.hid h
  clear h hl hn
  go_enter Try.func17, Try.ntmps17
  go_wp2_with (first
    | (go_at_call 61; refine (cint_dead _ K w1 (HD.out.below HB1.out)).mono ?_; rintro e w2 ⟨rfl, hb2⟩; have HB2 := Lib.hid (HB1.out.trans (hb2.mono HB1.out.size)); clear hb2)
    | (go_at_call 60; refine HK.out.mono ?_; rintro e w1 ⟨⟨K, rfl, _⟩, hb1⟩; have HB1 := Lib.hid hb1; clear hb1))
  go_ret
  exact ⟨rfl, HB2.out⟩
set_option maxRecDepth 100000 in
set_option maxHeartbeats 400000 in
theorem hlen_live {w W : World} {b : Nat} {F : List Nat} {L : SL} {q : Nat} {qs : List Value} (h : SNew w W b F L q qs) (t : Int) (A : Option Addr) (n c : Nat) (f : Nat → Int) (hl : Il W A n f) (hn : n ≤ 20) (K : ByteArray) (hK : keyStr t f n = K) (hk : K.size ≤ maxLen) (m : Nat) (he : intAt L K m) (hm : m < 2 ^ 63) :
    Calls Try.prog 17 #[.pointer (some ⟨b, 0, none⟩), .int .i64 t, .slice A n c] W fun e W' => e = .returned (.int .i64 (m : Nat)) ∧ Below W.heap.size W W' := by
  have HK := Lib.hid (key_is t A n c f K hK W hl (by omega))
  have HI := Lib.hid (fun (W1 : World) (hb : Below W.heap.size W W1) => cint_at (h.below hb) K m hk he hm)
  clear h hK hl hk he hn hm
  go_enter Try.func17, Try.ntmps17
  go_wp2_with (first
    | (go_at_call 61; refine (HI.out w1 HB1.out).mono ?_; rintro e w2 ⟨rfl, hb2⟩; have HB2 := Lib.hid (HB1.out.trans (hb2.mono HB1.out.size)); clear hb2)
    | (go_at_call 60; refine HK.out.mono ?_; rintro e w1 ⟨rfl, hb1⟩; have HB1 := Lib.hid hb1; clear hb1))
  go_ret
  exact ⟨rfl, HB2.out⟩
/-- the halving search -/
def hbs (rx : Int → Int) (ro : Int → Bool) (blk : Int) : Nat → Nat → Nat → Nat
  | 0, l, _ => l
  | k + 1, l, h => if l < h then (if ro ((l + (h - l) / 2 : Nat) : Int) = true ∧ rx ((l + (h - l) / 2 : Nat) : Int) ≤ blk then hbs rx ro blk k (l + (h - l) / 2 + 1) h else hbs rx ro blk k l (l + (h - l) / 2)) else l
theorem hbs_le (rx : Int → Int) (ro : Int → Bool) (blk : Int) : ∀ k l h, l ≤ h → hbs rx ro blk k l h ≤ h
  | 0, _, _, hl => hl
  | k + 1, l, h, hl => by
    unfold hbs
    split
    · split
      · exact hbs_le rx ro blk k _ _ (by omega)
      · exact Nat.le_trans (hbs_le rx ro blk k _ _ (by omega)) (by omega)
    · exact hl
/-- what a reader tells, at whatever block its boxes lie -/
def Reads (w : World) (P : Option Addr) (t : Int) (A : Option Addr) (n c : Nat) (f : Nat → Int) (k : Int) (x : Int) (a : Nat) (o : Bool) : Prop :=
  ∀ (b : Nat) (W : World), Below w.heap.size w W → HisAt W b P t A n c f → Calls Try.prog 112 #[.int .i64 k, .pointer (some ⟨b, 0, none⟩), .pointer (some ⟨b + 1, 0, none⟩), .pointer (some ⟨b + 1 + 1, 0, none⟩)] W fun e w' => e = .returned (hisV x a o) ∧ Below W.heap.size W w'
set_option maxRecDepth 100000 in
set_option maxHeartbeats 2000000 in
theorem hat_walk (P : Option Addr) (t : Int) (A : Option Addr) (n c : Nat) (f : Nat → Int) (blk : Int) (m : Nat) (rx : Int → Int) (ra : Int → Nat) (ro : Int → Bool) (w : World) (hl : Il w A n f) (hz : A = none → n = 0 ∧ c = 0) (hn : n ≤ 20) (hm : m ≤ 1099511627776)
    (HL : ∀ W, Below w.heap.size w W → Calls Try.prog 17 #[.pointer P, .int .i64 t, .slice A n c] W fun e w' => e = .returned (.int .i64 (m : Nat)) ∧ Below W.heap.size W w')
    (HR : ∀ k : Int, -1 ≤ k → k < m → Reads w P t A n c f k (rx k) (ra k) (ro k)) (Z : Nat) (hZ : hbs rx ro blk m 0 m = Z) :
    Calls Try.prog 15 #[.pointer P, .int .i64 t, .slice A n c, .int .i64 blk] w fun e w' => e = .returned (.tuple #[U (ra ((Z : Int) - 1)), .bool (ro ((Z : Int) - 1))]) ∧ Below w.heap.size w w' := by
  have HRd := Lib.hid (fun w => reader_walk P t A n c w)
  have HLn := Lib.hid HL
  have HRs := Lib.hid HR
  have HI := Lib.hid (And.intro hl (And.intro hz hn))
  have HZ := Lib.hid (And.intro hZ hm)
  have hb0 := (Below.refl w.heap.size w).alloc (Nat.le_refl _) (.cells #[.int .u64 0, .int .u64 0, .int .u64 0, .int .u64 0] 29)
  have r0 := heap_alloc_new w (.cells #[.int .u64 0, .int .u64 0, .int .u64 0, .int .u64 0] 29)
  have H0 := Lib.hid (And.intro hb0 r0)
  clear HL HR hl hz hn hZ hm hb0 r0
  go_enter Try.func15, Try.ntmps15
  go_wp2
  go_step3
  go_wp2_with (first
    | (go_at_call 17; refine (HLn.out w1 H1.out.1).mono ?_; rintro e w2 ⟨rfl, hb2⟩; have H2 := Lib.hid (And.intro (H1.out.1.trans (hb2.mono H1.out.1.size)) (And.intro (H1.out.2.1.below hb2) ((hb2.block _ (hp_lt H1.out.2.2)).trans H1.out.2.2))); clear hb2)
    | (go_at_call 62; refine (HRd.out _).mono ?_; rintro e w1 ⟨rfl, hb1, hc0, hc1, hc2, hlt⟩; rw [World.size_alloc] at hc0 hc1 hc2 hlt; have hbx := H0.out.1.trans (hb1.mono H0.out.1.size); have H1 := Lib.hid (And.intro hbx (And.intro (show HisAt w1 (w.heap.size + 1) P t A n c f from ⟨hc0, hc1, hc2, hlt, HI.out.1.below hbx, HI.out.2.1, HI.out.2.2⟩) ((hb1.block w.heap.size (by simp)).trans H0.out.2))); clear hb1 hc0 hc1 hc2 hlt hbx))
  go_step3
  go_wp2
  go_loopw [11, 12] (fun lo hi wr => ∃ l h k : Nat, lo = .int .i64 (l : Nat) ∧ hi = .int .i64 (h : Nat) ∧ l ≤ h ∧ h ≤ m ∧ h - l ≤ k ∧ hbs rx ro blk k l h = Z ∧ Below w.heap.size w wr ∧ HisAt wr (w.heap.size + 1) P t A n c f ∧ wr.heap[w.heap.size]? = some (.cells #[.int .u64 0, .int .u64 0, .int .u64 0, .int .u64 0] 29 (0, 0))) (fun lo hi _ => ((intOf hi).toNat - (intOf lo).toNat))
  case atStart => exact ⟨0, m, m, rfl, rfl, by omega, by omega, by omega, HZ.out.1, H2.out.1, H2.out.2.1, H2.out.2.2⟩
  case round =>
    obtain ⟨l, h, k, rfl, rfl, hlh, hhm, hk, hzz, hb, hi, hr⟩ := hrel
    have HC := Lib.hid (And.intro hb (And.intro hi hr))
    have HK := Lib.hid (And.intro hk hzz)
    have hM := HZ.out.2
    clear hb hi hr hk hzz
    by_cases hlt : l < h
    · have p1 : ¬ (h : Int) ≤ (l : Int) := by omega
      obtain ⟨D, hD⟩ : ∃ D : Nat, D = (h - l) / 2 := ⟨_, rfl⟩
      obtain ⟨M, hMd⟩ : ∃ M : Nat, M = l + D := ⟨_, rfl⟩
      have e1 : ((h : Int) - (l : Int)).tdiv 2 = (D : Int) := by rw [Int.tdiv_eq_ediv_of_nonneg (by omega)]; omega
      have e2 : (l : Int) + (D : Int) = (M : Int) := by omega
      have hMm : M < m := by omega
      have hMM : (M : Int) < 1099511627776 := by omega
      have kh : (h : Int) ≤ 1099511627776 := by omega
      have kl : (l : Int) < (h : Int) := by omega
      have kD : (D : Int) ≤ 1099511627776 := by omega
      have HRm := HRs.out (M : Int) (by omega) (by omega) (w.heap.size + 1) wr HC.out.1 HC.out.2.1
      have HKs := HK.out
      obtain ⟨k, rfl⟩ : ∃ k', k = k' + 1 := ⟨k - 1, by omega⟩
      have hst : hbs rx ro blk (k + 1) l h = if ro (M : Int) = true ∧ rx (M : Int) ≤ blk then hbs rx ro blk k (M + 1) h else hbs rx ro blk k l M := by
        rw [hbs, if_pos hlt, ← hD, ← hMd]
      rw [hst] at HKs
      clear hst
      obtain ⟨x, hx⟩ : ∃ x, x = rx (M : Int) := ⟨_, rfl⟩
      obtain ⟨a, ha⟩ : ∃ a, a = ra (M : Int) := ⟨_, rfl⟩
      obtain ⟨o, ho⟩ : ∃ o, o = ro (M : Int) := ⟨_, rfl⟩
      rw [← hx, ← ha, ← ho] at HRm
      rw [← hx, ← ho] at HKs
      unfold hisV U at HRm
      have HR1 := Lib.hid HRm
      have HK1 := Lib.hid (And.intro HKs (And.intro hMm (And.intro hD (And.intro hMd (And.intro hlh hhm)))))
      clear HRm HKs hx ha ho hMm hD hMd hlh hhm hM hlt
      have Hend : Hid (∀ w4 : World, Below wr.heap.size wr w4 → Below w.heap.size w (w4.alloc (.cells #[.int .u64 (limb a 0 : Nat), .int .u64 (limb a 1 : Nat), .int .u64 (limb a 2 : Nat), .int .u64 (limb a 3 : Nat)] 29)) ∧ HisAt (w4.alloc (.cells #[.int .u64 (limb a 0 : Nat), .int .u64 (limb a 1 : Nat), .int .u64 (limb a 2 : Nat), .int .u64 (limb a 3 : Nat)] 29)) (w.heap.size + 1) P t A n c f ∧ (w4.alloc (.cells #[.int .u64 (limb a 0 : Nat), .int .u64 (limb a 1 : Nat), .int .u64 (limb a 2 : Nat), .int .u64 (limb a 3 : Nat)] 29)).heap[w.heap.size]? = some (.cells #[.int .u64 0, .int .u64 0, .int .u64 0, .int .u64 0] 29 (0, 0))) := Lib.hid fun w4 hb4 => by
        have hbx := hb4.trans (((Below.refl w4.heap.size w4).alloc (Nat.le_refl _) (.cells #[.int .u64 (limb a 0 : Nat), .int .u64 (limb a 1 : Nat), .int .u64 (limb a 2 : Nat), .int .u64 (limb a 3 : Nat)] 29)).mono hb4.size)
        exact ⟨HC.out.1.trans (hbx.mono HC.out.1.size), HC.out.2.1.below hbx, (hbx.block _ (hp_lt HC.out.2.2)).trans HC.out.2.2⟩
      cases o with
      | true =>
        by_cases hxb : x ≤ blk
        · go_wp2_with (go_at_call 112; with_reducible refine HR1.out.mono ?_; rintro e w4 ⟨rfl, hb4⟩; have HB4 := Lib.hid hb4; clear hb4)
          have hE := Hend.out _ HB4.out
          obtain ⟨g1, g2, g3, g4, g5, g6⟩ := HK1.out
          rw [if_pos (by simp [hxb])] at g1
          exact ⟨⟨M + 1, h, k, by simp, rfl, by omega, by omega, by omega, g1.2, hE.1, hE.2.1, hE.2.2⟩, by simp [intOf]; omega⟩
        · have HX := Lib.hid hxb
          have hxb2 : decide (x ≤ blk) = false := decide_eq_false hxb
          clear hxb
          go_wp2_with (go_at_call 112; with_reducible refine HR1.out.mono ?_; rintro e w4 ⟨rfl, hb4⟩; have HB4 := Lib.hid hb4; clear hb4)
          have hxb := HX.out
          have hE := Hend.out _ HB4.out
          obtain ⟨g1, g2, g3, g4, g5, g6⟩ := HK1.out
          rw [if_neg (fun h => absurd h.2 (by omega))] at g1
          exact ⟨⟨l, M, k, rfl, rfl, by omega, by omega, by omega, g1.2, hE.1, hE.2.1, hE.2.2⟩, by simp [intOf]; omega⟩
      | false =>
        go_wp2_with (go_at_call 112; with_reducible refine HR1.out.mono ?_; rintro e w4 ⟨rfl, hb4⟩; have HB4 := Lib.hid hb4; clear hb4)
        have hE := Hend.out _ HB4.out
        obtain ⟨g1, g2, g3, g4, g5, g6⟩ := HK1.out
        rw [if_neg (fun h => by cases h.1)] at g1
        exact ⟨⟨l, M, k, rfl, rfl, by omega, by omega, by omega, g1.2, hE.1, hE.2.1, hE.2.2⟩, by simp [intOf]; omega⟩
    · have p1 : (h : Int) ≤ (l : Int) := by omega
      have hZl : l = Z := by
        have := HK.out.2
        cases k with
        | zero => exact this
        | succ k => rw [hbs, if_neg hlt] at this; exact this
      subst hZl
      have kl : (l : Int) ≤ 1099511627776 := by omega
      have HRm := HRs.out ((l : Int) - 1) (by omega) (by omega) (w.heap.size + 1) wr HC.out.1 HC.out.2.1
      obtain ⟨x, hx⟩ : ∃ x, x = rx ((l : Int) - 1) := ⟨_, rfl⟩
      obtain ⟨a, ha⟩ : ∃ a, a = ra ((l : Int) - 1) := ⟨_, rfl⟩
      obtain ⟨o, ho⟩ : ∃ o, o = ro ((l : Int) - 1) := ⟨_, rfl⟩
      rw [← hx, ← ha, ← ho] at HRm
      unfold hisV U at HRm
      have HR1 := Lib.hid HRm
      have HA := Lib.hid (And.intro ha ho)
      clear HRm hx ha ho hM hlt hlh hhm
      go_wp2_with (go_at_call 112; with_reducible refine HR1.out.mono ?_; rintro e w4 ⟨rfl, hb4⟩; have HB4 := Lib.hid hb4; have r4 := (hb4.block w.heap.size (hp_lt HC.out.2.2)).trans HC.out.2.2; have R4 := Lib.hid r4; have d0 := (hp_cell (i := 0) r4).trans rfl; have d1 := (hp_cell (i := 1) r4).trans rfl; have d2 := (hp_cell (i := 2) r4).trans rfl; have d3 := (hp_cell (i := 3) r4).trans rfl; have g0 := hp_free (i := 0) r4; have g1 := hp_free (i := 1) r4; have g2 := hp_free (i := 2) r4; have g3 := hp_free (i := 3) r4; clear hb4 r4)
      rw [Exit.noGoto_ret]
      obtain ⟨e0, e1, e2, e3⟩ := (((arr_zero R4.out).put4 (n := a)).put4 (n := a)).cells4
      refine bodyPost_ret (v := .tuple #[.agg #[.int .u64 (limb a 0 : Nat), .int .u64 (limb a 1 : Nat), .int .u64 (limb a 2 : Nat), .int .u64 (limb a 3 : Nat)], .bool o]) (by simp [results, Try.results15, go_sem, e0, e1, e2, e3]) rfl ⟨?_, ?_⟩
      · rw [← HA.out.1, ← HA.out.2]
        rfl
      · exact below_set4 (below_set4 (HC.out.1.trans (HB4.out.mono HC.out.1.size)) (Nat.le_refl _)) (Nat.le_refl _)
end Go.Proofs.Ytedkhpnlhkjjgaa

namespace Go.Proofs.Ytedkhpnlhkjjgaa
open Go.RowKit Go.Maps Go.Sort

/-- a reader on a dead store -/
theorem reads_dead (P : Option Addr) (t : Int) (A : Option Addr) (n c : Nat) (f : Nat → Int) (k : Int) (w : World) (h : SDead w (.pointer P)) (hk : k < 2 ^ 63) : Reads w P t A n c f k 0 0 false := by
  intro b W hb hA
  exact read_none b P t A n c f k _ rfl false W hA hk fun W1 hb1 => (sget_dead _ _ W1 ((h.below hb).below hb1)).mono fun e w' hh => ⟨hh.1, by rw [← hh.2]; exact Below.refl _ _⟩
/-- a reader on a live store, where there is nothing at the key -/
theorem reads_none {w W : World} {b : Nat} {F : List Nat} {L : SL} {q : Nat} {qs : List Value} (h : SNew w W b F L q qs) (t : Int) (A : Option Addr) (n c : Nat) (f : Nat → Int) (k : Int) (K : ByteArray) (hK : keyStr t (icat f n fun _ => k) (n + 1) = K) (hk : k < 2 ^ 63) (hkK : K.size ≤ maxLen) (he : sget L K = none) : Reads W (some ⟨b, 0, none⟩) t A n c f k 0 0 false := by
  intro b1 W1 hb hA
  exact read_none b1 _ t A n c f k K hK false W1 hA hk fun W2 hb2 => ((h.below (hb.trans (hb2.mono hb.size))).get_none K hkK he).mono fun e w' hh => ⟨hh.1, hh.2.2⟩
theorem reads_some {w W : World} {b : Nat} {F : List Nat} {L : SL} {q : Nat} {qs : List Value} (h : SNew w W b F L q qs) (t : Int) (A : Option Addr) (n c : Nat) (f : Nat → Int) (k : Int) (K : ByteArray) (hK : keyStr t (icat f n fun _ => k) (n + 1) = K) (x a : Nat) (hx : x < 2 ^ 63) (ha : a < 2 ^ 256) (hk : k < 2 ^ 63) (hkK : K.size ≤ maxLen) (he : sget L K = some (hpV x a)) : Reads W (some ⟨b, 0, none⟩) t A n c f k x a true := by
  intro b1 W1 hb hA
  exact read_some b1 _ t A n c f k K hK x a hx ha W1 hA hk fun W2 hb2 => ((h.below (hb.trans (hb2.mono hb.size))).get_some K (hpV x a) hkK he).mono fun e w' hh => ⟨hh.1, hh.2.2⟩
set_option maxRecDepth 100000 in
set_option maxHeartbeats 400000 in
theorem hpush_dead (P : Option Addr) (t : Int) (A : Option Addr) (n c : Nat) (blk : Int) (a : Nat) (w : World) (h : SDead w (.pointer P)) :
    Calls Try.prog 14 #[.pointer P, .int .i64 t, .slice A n c, .int .i64 blk, U a] w fun e w' => e = .returned (.int .i64 1) ∧ Below w.heap.size w w' := by
  have hb0 := (Below.refl w.heap.size w).alloc (Nat.le_refl _) (.cells #[.int .u64 (limb a 0 : Nat), .int .u64 (limb a 1 : Nat), .int .u64 (limb a 2 : Nat), .int .u64 (limb a 3 : Nat)] 29)
  have HM := Lib.hid (made_dead _ _ (h.below hb0))
  have HB0 := Lib.hid hb0
  clear h hb0
  unfold U
  go_enter Try.func14, Try.ntmps14
  go_wp2_with (go_at_call 27; refine HM.out.mono ?_; rintro e w1 ⟨rfl, rfl⟩)
  go_ret
  exact ⟨rfl, HB0.out⟩
set_option maxRecDepth 100000 in
set_option maxHeartbeats 2000000 in
/-- a checkpoint more -/
theorem hpush_more {w W : World} {b : Nat} {F : List Nat} {L : SL} {q : Nat} {qs : List Value} (h : SNew w W b F L q qs) (t : Int) (A : Option Addr) (n c : Nat) (f : Nat → Int) (hI : ∀ W', Touch F W W' → Il W' A n f) (hz : A = none → n = 0 ∧ c = 0) (hn : n ≤ 20) (blk a : Nat) (ha : a < 2 ^ 256) (hblk : blk ≤ 1099511627776)
    (m : Nat) (hm : m ≤ 1000000) (x a0 : Nat) (o : Bool) (hR : Reads W (some ⟨b, 0, none⟩) t A n c f ((m : Int) - 1) x a0 o) (ho : o = false ∨ (x < blk ∧ a0 ≠ a ∧ a0 < 2 ^ 256)) (K0 Km : ByteArray) (hK0 : keyStr t f n = K0) (hKm : keyStr t (icat f n fun _ => (m : Int)) (n + 1) = Km) (hk0 : K0.size ≤ maxLen) (hkm : Km.size ≤ maxLen) (hk00 : K0 ≠ ⟨#[]⟩) (hkm0 : Km ≠ ⟨#[]⟩)
    (he0 : intAt L K0 m) (hN : L.length < 128) (hN1 : (setL L K0 (numStr ((m : Int) + 1))).length < 128) (hq : q + 2 < 1000000) :
    Calls Try.prog 14 #[.pointer (some ⟨b, 0, none⟩), .int .i64 t, .slice A n c, .int .i64 (blk : Nat), U a] W fun e W' => e = .returned (.int .i64 0) ∧ LiveTo w W W' b F (setL (setL L K0 (numStr ((m : Int) + 1))) Km (numStr (blk : Int) ++ amtStr a)) (q + 2) := by
  obtain ⟨W0, hW0⟩ : ∃ W0, W0 = W.alloc (.cells #[.int .u64 (limb a 0 : Nat), .int .u64 (limb a 1 : Nat), .int .u64 (limb a 2 : Nat), .int .u64 (limb a 3 : Nat)] 29) := ⟨_, rfl⟩
  have hb0 : Below W.heap.size W W0 := by rw [hW0]; exact (Below.refl _ _).alloc (Nat.le_refl _) _
  have r0 : W0.heap[W.heap.size]? = some (.cells #[.int .u64 (limb a 0 : Nat), .int .u64 (limb a 1 : Nat), .int .u64 (limb a 2 : Nat), .int .u64 (limb a 3 : Nat)] 29 (0, 0)) := by rw [hW0]; exact heap_alloc_new _ _
  have h0 := h.below hb0
  have hl := hI W (Touch.refl _ _)
  have hl0 := hl.below hb0
  have hFl : W.heap.size ∉ F := fun hk => Nat.lt_irrefl _ (h.s.lt _ hk)
  have HT7 := Lib.hid (fun (w7 : World) (L' : SL) (q' : Nat) (h7 : LiveTo w W0 w7 b F L' q') => show Il w7 A n f ∧ w7.heap[W.heap.size]? = some (.cells #[.int .u64 (limb a 0 : Nat), .int .u64 (limb a 1 : Nat), .int .u64 (limb a 2 : Nat), .int .u64 (limb a 3 : Nat)] 29 (0, 0)) from by
    obtain ⟨_, _, _, _, _, ht, _⟩ := h7
    exact ⟨hI w7 ((Touch.of_below hb0).trans (fun _ hk => .inl hk) ht), (ht.block _ (hp_lt r0) hFl).trans r0⟩)
  have HS0 := Lib.hid h0.start
  have HM := Lib.hid (made_live b F L q qs W0 h0.s)
  have HK0 := Lib.hid (key_is t A n c f K0 hK0 W0 hl0 (by omega))
  have HI := Lib.hid (fun (W1 : World) (hb : Below W0.heap.size W0 W1) => cint_at (h0.below hb) K0 m hk0 he0 (by omega))
  have HRd := Lib.hid (fun w => reader_walk (some ⟨b, 0, none⟩) t A n c w)
  have HRs := Lib.hid (fun (b1 : Nat) (W1 : World) (hb : Below W.heap.size W W1) (hA : HisAt W1 b1 (some ⟨b, 0, none⟩) t A n c f) => hR b1 W1 hb hA)
  have HNx := Lib.hid (fun (W1 : World) (hl : LiveTo w W0 W1 b F L q) => hl.seq 1 (fun F1 qa qsa hs hqa => cnext_walk hs K0 m hk0 hk00 he0 (by omega) hN (by omega)))
  have HPt := Lib.hid (fun (W1 : World) (hb : Il W1 A n f) => point_is t A n c f (m : Int) Km hKm W1 hb hz hn (by omega))
  have HNm := Lib.hid (fun W1 => knum_walk (blk : Int) W1 (by omega))
  have hAm := fun W1 => amount9_walk a W1
  unfold U at hAm
  have HAm := Lib.hid hAm
  clear hAm
  have HSt := Lib.hid (fun (W1 : World) (hl : LiveTo w W0 W1 b F (setL L K0 (numStr ((m : Int) + 1))) (q + 1)) => hl.seq 1 (fun F1 qa qsa hs hqa => hs.sets Km (numStr (blk : Int) ++ amtStr a) hkm (by rw [ba_size_append, numStr_sizeA, amtStr_size]; decide) hkm0 hN1 (by omega)))
  have HH := Lib.hid (And.intro hb0 (And.intro r0 (And.intro hl0 (And.intro hz hn))))
  have hkne := ba_nil hk00
  have n1 : ¬ (1099511627776 : Int) < (blk : Int) := by omega
  have z1 := numStr_sizeA (blk : Int)
  have z2 := amtStr_size a
  have n2 : ¬ (blk : Int) < 0 := by omega
  have HW := Lib.hid hW0
  obtain ⟨L1, hL1⟩ : ∃ L1, L1 = setL L K0 (numStr ((m : Int) + 1)) := ⟨_, rfl⟩
  rw [← hL1] at HNx HSt ⊢
  have mI : (m : Int) ≤ 1000000 := by omega
  have HBl := Lib.hid (And.intro hblk ha)
  clear hR hm
  clear hI hFl
  clear h hl hz hn hW0 hb0 r0 h0 hl0 hK0 hKm hk0 hkm hk00 hkm0 he0 hN hN1 hq hL1 hblk ha
  unfold U
  go_enter Try.func14, Try.ntmps14
  go_upto_region 1 with fail
  rw [← HW.out]
  go_upto_region 9 with (first
    | (go_at_call 112; have g5 := H4; clear g5; with_reducible refine (HRs.out _ _ (HH.out.1.trans (H4.out.1.mono HH.out.1.size)) H4.out.2).mono ?_; rintro e w5 ⟨rfl, hb5⟩; have H5 := Lib.hid (H4.out.1.trans (hb5.mono H4.out.1.size)); unfold hisV U; clear hb5)
    | (go_at_call 62; refine (HRd.out _).mono ?_; rintro e w4 ⟨rfl, hb4, hc0, hc1, hc2, hlt⟩; have H4 := Lib.hid (And.intro (H3.out.trans (hb4.mono H3.out.size)) (show HisAt w4 w3.heap.size (some ⟨b, 0, none⟩) t A n c f from ⟨hc0, hc1, hc2, hlt, HH.out.2.2.1.below (H3.out.trans (hb4.mono H3.out.size)), HH.out.2.2.2.1, HH.out.2.2.2.2⟩)); clear hb4 hc0 hc1 hc2 hlt)
    | (go_at_call 61; refine (HI.out _ H2.out).mono ?_; rintro e w3 ⟨rfl, hb3⟩; have H3 := Lib.hid (H2.out.trans (hb3.mono H2.out.size)); clear hb3)
    | (go_at_call 60; refine HK0.out.mono ?_; rintro e w2 ⟨rfl, hb2⟩; have H2 := Lib.hid hb2; clear hb2)
    | (go_at_call 27; refine HM.out.mono ?_; rintro e w1 ⟨rfl, rfl⟩))
  have hbx := (H5.out).alloc H5.out.size (.cells #[.int .u64 (limb a0 0 : Nat), .int .u64 (limb a0 1 : Nat), .int .u64 (limb a0 2 : Nat), .int .u64 (limb a0 3 : Nat)] 29)
  have rA := (hbx.block W.heap.size (hp_lt HH.out.2.1)).trans HH.out.2.1
  have rB := heap_alloc_new w5 (.cells #[.int .u64 (limb a0 0 : Nat), .int .u64 (limb a0 1 : Nat), .int .u64 (limb a0 2 : Nat), .int .u64 (limb a0 3 : Nat)] 29)
  obtain ⟨W6, hW6⟩ : ∃ W6, W6 = w5.alloc (.cells #[.int .u64 (limb a0 0 : Nat), .int .u64 (limb a0 1 : Nat), .int .u64 (limb a0 2 : Nat), .int .u64 (limb a0 3 : Nat)] 29) := ⟨_, rfl⟩
  rw [← hW6] at hbx rA rB ⊢
  clear hW6
  have H6 := Lib.hid hbx
  have R6 := Lib.hid rA
  have HL6 := Lib.hid (HS0.out.post hbx)
  clear hbx
  have a0c := (hp_cell (i := 0) rA).trans rfl
  have a1c := (hp_cell (i := 1) rA).trans rfl
  have a2c := (hp_cell (i := 2) rA).trans rfl
  have a3c := (hp_cell (i := 3) rA).trans rfl
  have b0c := (hp_cell (i := 0) rB).trans rfl
  have b1c := (hp_cell (i := 1) rB).trans rfl
  have b2c := (hp_cell (i := 2) rB).trans rfl
  have b3c := (hp_cell (i := 3) rB).trans rfl
  clear rA rB
  rcases ho with rfl | ⟨hxb, hne, h3⟩
  · go_upto_region 15 with (first
      | (go_at_call 63; refine (HNx.out _ HL6.out).mono ?_; rintro e w7 ⟨rfl, h7⟩; have H7 := Lib.hid h7; clear h7))
    have il7 := (HT7.out _ _ _ H7.out).1
    have r7 := (HT7.out _ _ _ H7.out).2
    clear a0c a1c a2c a3c b0c b1c b2c b3c
    have f0 := fun (dq : Nat) (osq : Array Obj) => cell_regrown (w := w7) (a := ⟨W.heap.size, 0, none⟩) ((hp_cell (i := 0) r7).trans rfl) dq osq
    have f1 := fun (dq : Nat) (osq : Array Obj) => cell_regrown (w := w7) (a := ⟨W.heap.size, 1, none⟩) ((hp_cell (i := 1) r7).trans rfl) dq osq
    have f2 := fun (dq : Nat) (osq : Array Obj) => cell_regrown (w := w7) (a := ⟨W.heap.size, 2, none⟩) ((hp_cell (i := 2) r7).trans rfl) dq osq
    have f3 := fun (dq : Nat) (osq : Array Obj) => cell_regrown (w := w7) (a := ⟨W.heap.size, 3, none⟩) ((hp_cell (i := 3) r7).trans rfl) dq osq
    have HP7 := Lib.hid (fun (dq : Nat) (osq : Array Obj) => HPt.out (grow (redrawn w7 dq) osq) (il7.below (below_regrown w7 dq osq)))
    clear il7 r7
    refine wp_region_quiet_tail 10 (by kernel_rfl) (by kernel_rfl) ?_
    simp only [List.take_succ_cons, List.take_zero]
    repeat (quiet_step (first
      | (go_at_call 65; with_reducible exact Calls.regrown_of (HP7.out _ _))
      | (go_at_call 66; with_reducible exact Calls.regrown_of (HNm.out _))
      | (go_at_call 67; with_reducible exact Calls.regrown_of (HAm.out _))))
    refine wpQuiet_nil ?_
    intro _ hw'
    obtain ⟨⟨dq, osq⟩, hw''⟩ := hw'
    subst hw''
    have H8 := Lib.hid (H7.out.post (below_regrown w7 dq osq))
    clear f0 f1 f2 f3 HP7
    simp only [List.drop_succ_cons, List.drop_zero]
    go_wp2_with (go_at_call 64; refine (HSt.out _ H8.out).mono ?_; rintro e w9 ⟨rfl, h9⟩; have H9 := Lib.hid h9; clear h9)
    go_ret
    exact ⟨rfl, H9.out.pre HH.out.1⟩
  · have p1 : ¬ (blk : Int) < (x : Int) := by omega
    have p2 : ((blk : Int) == (x : Int)) = false := by rw [beq_eq_false_iff_ne]; omega
    have hEq := fun w => eq_run (a := a) (b := a0) HBl.out.2 h3 w
    rw [decide_eq_false (fun h => hne h.symm)] at hEq
    have HOx := Lib.hid (And.intro hxb (And.intro hne h3))
    clear hxb hne h3
    cases o
    · go_upto_region 15 with (first
      | (go_at_call 63; refine (HNx.out _ HL6.out).mono ?_; rintro e w7 ⟨rfl, h7⟩; have H7 := Lib.hid h7; clear h7))
      have il7 := (HT7.out _ _ _ H7.out).1
      have r7 := (HT7.out _ _ _ H7.out).2
      clear a0c a1c a2c a3c b0c b1c b2c b3c
      have f0 := fun (dq : Nat) (osq : Array Obj) => cell_regrown (w := w7) (a := ⟨W.heap.size, 0, none⟩) ((hp_cell (i := 0) r7).trans rfl) dq osq
      have f1 := fun (dq : Nat) (osq : Array Obj) => cell_regrown (w := w7) (a := ⟨W.heap.size, 1, none⟩) ((hp_cell (i := 1) r7).trans rfl) dq osq
      have f2 := fun (dq : Nat) (osq : Array Obj) => cell_regrown (w := w7) (a := ⟨W.heap.size, 2, none⟩) ((hp_cell (i := 2) r7).trans rfl) dq osq
      have f3 := fun (dq : Nat) (osq : Array Obj) => cell_regrown (w := w7) (a := ⟨W.heap.size, 3, none⟩) ((hp_cell (i := 3) r7).trans rfl) dq osq
      have HP7 := Lib.hid (fun (dq : Nat) (osq : Array Obj) => HPt.out (grow (redrawn w7 dq) osq) (il7.below (below_regrown w7 dq osq)))
      clear il7 r7
      refine wp_region_quiet_tail 10 (by kernel_rfl) (by kernel_rfl) ?_
      simp only [List.take_succ_cons, List.take_zero]
      repeat (quiet_step (first
        | (go_at_call 65; with_reducible exact Calls.regrown_of (HP7.out _ _))
        | (go_at_call 66; with_reducible exact Calls.regrown_of (HNm.out _))
        | (go_at_call 67; with_reducible exact Calls.regrown_of (HAm.out _))))
      refine wpQuiet_nil ?_
      intro _ hw'
      obtain ⟨⟨dq, osq⟩, hw''⟩ := hw'
      subst hw''
      have H8 := Lib.hid (H7.out.post (below_regrown w7 dq osq))
      clear f0 f1 f2 f3 HP7
      simp only [List.drop_succ_cons, List.drop_zero]
      go_wp2_with (go_at_call 64; refine (HSt.out _ H8.out).mono ?_; rintro e w9 ⟨rfl, h9⟩; have H9 := Lib.hid h9; clear h9)
      go_ret
      exact ⟨rfl, H9.out.pre HH.out.1⟩
    · go_upto_region 15 with (first
      | (go_at_call 63; refine (HNx.out _ HL6.out).mono ?_; rintro e w7 ⟨rfl, h7⟩; have H7 := Lib.hid h7; clear h7))
      have il7 := (HT7.out _ _ _ H7.out).1
      have r7 := (HT7.out _ _ _ H7.out).2
      clear a0c a1c a2c a3c b0c b1c b2c b3c
      have f0 := fun (dq : Nat) (osq : Array Obj) => cell_regrown (w := w7) (a := ⟨W.heap.size, 0, none⟩) ((hp_cell (i := 0) r7).trans rfl) dq osq
      have f1 := fun (dq : Nat) (osq : Array Obj) => cell_regrown (w := w7) (a := ⟨W.heap.size, 1, none⟩) ((hp_cell (i := 1) r7).trans rfl) dq osq
      have f2 := fun (dq : Nat) (osq : Array Obj) => cell_regrown (w := w7) (a := ⟨W.heap.size, 2, none⟩) ((hp_cell (i := 2) r7).trans rfl) dq osq
      have f3 := fun (dq : Nat) (osq : Array Obj) => cell_regrown (w := w7) (a := ⟨W.heap.size, 3, none⟩) ((hp_cell (i := 3) r7).trans rfl) dq osq
      have HP7 := Lib.hid (fun (dq : Nat) (osq : Array Obj) => HPt.out (grow (redrawn w7 dq) osq) (il7.below (below_regrown w7 dq osq)))
      clear il7 r7
      refine wp_region_quiet_tail 10 (by kernel_rfl) (by kernel_rfl) ?_
      simp only [List.take_succ_cons, List.take_zero]
      repeat (quiet_step (first
        | (go_at_call 65; with_reducible exact Calls.regrown_of (HP7.out _ _))
        | (go_at_call 66; with_reducible exact Calls.regrown_of (HNm.out _))
        | (go_at_call 67; with_reducible exact Calls.regrown_of (HAm.out _))))
      refine wpQuiet_nil ?_
      intro _ hw'
      obtain ⟨⟨dq, osq⟩, hw''⟩ := hw'
      subst hw''
      have H8 := Lib.hid (H7.out.post (below_regrown w7 dq osq))
      clear f0 f1 f2 f3 HP7
      simp only [List.drop_succ_cons, List.drop_zero]
      go_wp2_with (go_at_call 64; refine (HSt.out _ H8.out).mono ?_; rintro e w9 ⟨rfl, h9⟩; have H9 := Lib.hid h9; clear h9)
      go_ret
      exact ⟨rfl, H9.out.pre HH.out.1⟩
end Go.Proofs.Ytedkhpnlhkjjgaa

namespace Go.Proofs.Ytedkhpnlhkjjgaa
open Go.RowKit Go.Maps Go.Sort

set_option maxRecDepth 100000 in
set_option maxHeartbeats 1000000 in
theorem hpush_bad {w W : World} {b : Nat} {F : List Nat} {L : SL} {q : Nat} {qs : List Value} (h : SNew w W b F L q qs) (t : Int) (A : Option Addr) (n c : Nat) (f : Nat → Int) (hl : Il W A n f) (hn : n ≤ 20) (blk : Int) (a : Nat) (K0 : ByteArray) (hK0 : keyStr t f n = K0) (hk00 : K0 ≠ ⟨#[]⟩) (hbad : blk < 0 ∨ 1099511627776 < blk) :
    Calls Try.prog 14 #[.pointer (some ⟨b, 0, none⟩), .int .i64 t, .slice A n c, .int .i64 blk, U a] W fun e W' => e = .returned (.int .i64 2) ∧ LiveTo w W W' b F L q := by
  have hb0 := (Below.refl W.heap.size W).alloc (Nat.le_refl _) (.cells #[.int .u64 (limb a 0 : Nat), .int .u64 (limb a 1 : Nat), .int .u64 (limb a 2 : Nat), .int .u64 (limb a 3 : Nat)] 29)
  have HM := Lib.hid (made_live b F L q qs _ (h.below hb0).s)
  have HK0 := Lib.hid (key_is t A n c f K0 hK0 _ (hl.below hb0) (by omega))
  have HS := Lib.hid (fun (W1 : World) (hb : Below W.heap.size W W1) => h.same hb)
  have HB0 := Lib.hid hb0
  have hkne := ba_nil hk00
  clear h hl hn hK0 hk00 hb0
  unfold U
  rcases hbad with h1 | h1
  · go_enter Try.func14, Try.ntmps14
    go_wp2_with (first
      | (go_at_call 60; with_reducible refine HK0.out.mono ?_; rintro e w2 ⟨rfl, hb2⟩; have H2 := Lib.hid (HB0.out.trans (hb2.mono HB0.out.size)); clear hb2)
      | (go_at_call 27; with_reducible refine HM.out.mono ?_; rintro e w1 ⟨rfl, rfl⟩))
    go_ret
    exact ⟨rfl, HS.out _ H2.out⟩
  · have h2 : ¬ blk < 0 := by omega
    go_enter Try.func14, Try.ntmps14
    go_wp2_with (first
      | (go_at_call 60; with_reducible refine HK0.out.mono ?_; rintro e w2 ⟨rfl, hb2⟩; have H2 := Lib.hid (HB0.out.trans (hb2.mono HB0.out.size)); clear hb2)
      | (go_at_call 27; with_reducible refine HM.out.mono ?_; rintro e w1 ⟨rfl, rfl⟩))
    go_ret
    exact ⟨rfl, HS.out _ H2.out⟩
set_option maxRecDepth 100000 in
set_option maxHeartbeats 4000000 in
theorem hpush_state {w W : World} {b : Nat} {F : List Nat} {L : SL} {q : Nat} {qs : List Value} (h : SNew w W b F L q qs) (t : Int) (A : Option Addr) (n c : Nat) (f : Nat → Int) (hI : ∀ W', Touch F W W' → Il W' A n f) (hz : A = none → n = 0 ∧ c = 0) (hn : n ≤ 20) (blk a : Nat) (ha : a < 2 ^ 256) (hblk : blk ≤ 1099511627776)
    (m : Nat) (hm : m ≤ 1000000) (x a0 : Nat) (hR : Reads W (some ⟨b, 0, none⟩) t A n c f ((m : Int) - 1) x a0 true) (ho : blk < x) (K0 : ByteArray) (hK0 : keyStr t f n = K0) (hk0 : K0.size ≤ maxLen) (hk00 : K0 ≠ ⟨#[]⟩) (he0 : intAt L K0 m) :
    Calls Try.prog 14 #[.pointer (some ⟨b, 0, none⟩), .int .i64 t, .slice A n c, .int .i64 (blk : Nat), U a] W fun e W' => e = .returned (.int .i64 10) ∧ LiveTo w W W' b F L q := by
  obtain ⟨W0, hW0⟩ : ∃ W0, W0 = W.alloc (.cells #[.int .u64 (limb a 0 : Nat), .int .u64 (limb a 1 : Nat), .int .u64 (limb a 2 : Nat), .int .u64 (limb a 3 : Nat)] 29) := ⟨_, rfl⟩
  have hb0 : Below W.heap.size W W0 := by rw [hW0]; exact (Below.refl _ _).alloc (Nat.le_refl _) _
  have r0 : W0.heap[W.heap.size]? = some (.cells #[.int .u64 (limb a 0 : Nat), .int .u64 (limb a 1 : Nat), .int .u64 (limb a 2 : Nat), .int .u64 (limb a 3 : Nat)] 29 (0, 0)) := by rw [hW0]; exact heap_alloc_new _ _
  have h0 := h.below hb0
  have hl := hI W (Touch.refl _ _)
  have hl0 := hl.below hb0
  have hFl : W.heap.size ∉ F := fun hk => Nat.lt_irrefl _ (h.s.lt _ hk)
  have HT7 := Lib.hid (fun (w7 : World) (L' : SL) (q' : Nat) (h7 : LiveTo w W0 w7 b F L' q') => show Il w7 A n f ∧ w7.heap[W.heap.size]? = some (.cells #[.int .u64 (limb a 0 : Nat), .int .u64 (limb a 1 : Nat), .int .u64 (limb a 2 : Nat), .int .u64 (limb a 3 : Nat)] 29 (0, 0)) from by
    obtain ⟨_, _, _, _, _, ht, _⟩ := h7
    exact ⟨hI w7 ((Touch.of_below hb0).trans (fun _ hk => .inl hk) ht), (ht.block _ (hp_lt r0) hFl).trans r0⟩)
  have HS0 := Lib.hid h0.start
  have HM := Lib.hid (made_live b F L q qs W0 h0.s)
  have HK0 := Lib.hid (key_is t A n c f K0 hK0 W0 hl0 (by omega))
  have HI := Lib.hid (fun (W1 : World) (hb : Below W0.heap.size W0 W1) => cint_at (h0.below hb) K0 m hk0 he0 (by omega))
  have HRd := Lib.hid (fun w => reader_walk (some ⟨b, 0, none⟩) t A n c w)
  have HRs := Lib.hid (fun (b1 : Nat) (W1 : World) (hb : Below W.heap.size W W1) (hA : HisAt W1 b1 (some ⟨b, 0, none⟩) t A n c f) => hR b1 W1 hb hA)
  have HH := Lib.hid (And.intro hb0 (And.intro r0 (And.intro hl0 (And.intro hz hn))))
  have hkne := ba_nil hk00
  have n1 : ¬ (1099511627776 : Int) < (blk : Int) := by omega
  have n2 : ¬ (blk : Int) < 0 := by omega
  have HW := Lib.hid hW0
  have HBl := Lib.hid (And.intro hblk ha)
  have mI : (m : Int) ≤ 1000000 := by omega
  clear hR hm
  clear hI hFl
  clear h hl hz hn hW0 hb0 r0 h0 hl0 hK0 hk0 hk00 he0 hblk ha
  unfold U
  go_enter Try.func14, Try.ntmps14
  go_upto_region 1 with fail
  rw [← HW.out]
  go_upto_region 9 with (first
    | (go_at_call 112; have g5 := H4; clear g5; with_reducible refine (HRs.out _ _ (HH.out.1.trans (H4.out.1.mono HH.out.1.size)) H4.out.2).mono ?_; rintro e w5 ⟨rfl, hb5⟩; have H5 := Lib.hid (H4.out.1.trans (hb5.mono H4.out.1.size)); unfold hisV U; clear hb5)
    | (go_at_call 62; refine (HRd.out _).mono ?_; rintro e w4 ⟨rfl, hb4, hc0, hc1, hc2, hlt⟩; have H4 := Lib.hid (And.intro (H3.out.trans (hb4.mono H3.out.size)) (show HisAt w4 w3.heap.size (some ⟨b, 0, none⟩) t A n c f from ⟨hc0, hc1, hc2, hlt, HH.out.2.2.1.below (H3.out.trans (hb4.mono H3.out.size)), HH.out.2.2.2.1, HH.out.2.2.2.2⟩)); clear hb4 hc0 hc1 hc2 hlt)
    | (go_at_call 61; refine (HI.out _ H2.out).mono ?_; rintro e w3 ⟨rfl, hb3⟩; have H3 := Lib.hid (H2.out.trans (hb3.mono H2.out.size)); clear hb3)
    | (go_at_call 60; refine HK0.out.mono ?_; rintro e w2 ⟨rfl, hb2⟩; have H2 := Lib.hid hb2; clear hb2)
    | (go_at_call 27; refine HM.out.mono ?_; rintro e w1 ⟨rfl, rfl⟩))
  have hbx := (H5.out).alloc H5.out.size (.cells #[.int .u64 (limb a0 0 : Nat), .int .u64 (limb a0 1 : Nat), .int .u64 (limb a0 2 : Nat), .int .u64 (limb a0 3 : Nat)] 29)
  have rA := (hbx.block W.heap.size (hp_lt HH.out.2.1)).trans HH.out.2.1
  have rB := heap_alloc_new w5 (.cells #[.int .u64 (limb a0 0 : Nat), .int .u64 (limb a0 1 : Nat), .int .u64 (limb a0 2 : Nat), .int .u64 (limb a0 3 : Nat)] 29)
  obtain ⟨W6, hW6⟩ : ∃ W6, W6 = w5.alloc (.cells #[.int .u64 (limb a0 0 : Nat), .int .u64 (limb a0 1 : Nat), .int .u64 (limb a0 2 : Nat), .int .u64 (limb a0 3 : Nat)] 29) := ⟨_, rfl⟩
  rw [← hW6] at hbx rA rB ⊢
  clear hW6
  have H6 := Lib.hid hbx
  have R6 := Lib.hid rA
  have HL6 := Lib.hid (HS0.out.post hbx)
  clear hbx
  have a0c := (hp_cell (i := 0) rA).trans rfl
  have a1c := (hp_cell (i := 1) rA).trans rfl
  have a2c := (hp_cell (i := 2) rA).trans rfl
  have a3c := (hp_cell (i := 3) rA).trans rfl
  have b0c := (hp_cell (i := 0) rB).trans rfl
  have b1c := (hp_cell (i := 1) rB).trans rfl
  have b2c := (hp_cell (i := 2) rB).trans rfl
  have b3c := (hp_cell (i := 3) rB).trans rfl
  clear rA rB
  have p1 : (blk : Int) < (x : Int) := by omega
  clear a0c a1c a2c a3c b0c b1c b2c b3c
  go_wp2
  go_ret
  exact ⟨rfl, HL6.out.pre HH.out.1⟩
set_option maxRecDepth 100000 in
set_option maxHeartbeats 4000000 in
theorem hpush_stay {w W : World} {b : Nat} {F : List Nat} {L : SL} {q : Nat} {qs : List Value} (h : SNew w W b F L q qs) (t : Int) (A : Option Addr) (n c : Nat) (f : Nat → Int) (hI : ∀ W', Touch F W W' → Il W' A n f) (hz : A = none → n = 0 ∧ c = 0) (hn : n ≤ 20) (blk a : Nat) (ha : a < 2 ^ 256) (hblk : blk ≤ 1099511627776)
    (m : Nat) (hm : m ≤ 1000000) (x a0 : Nat) (hR : Reads W (some ⟨b, 0, none⟩) t A n c f ((m : Int) - 1) x a0 true) (ho : x < blk) (hEa : a0 = a) (K0 : ByteArray) (hK0 : keyStr t f n = K0) (hk0 : K0.size ≤ maxLen) (hk00 : K0 ≠ ⟨#[]⟩) (he0 : intAt L K0 m) :
    Calls Try.prog 14 #[.pointer (some ⟨b, 0, none⟩), .int .i64 t, .slice A n c, .int .i64 (blk : Nat), U a] W fun e W' => e = .returned (.int .i64 0) ∧ LiveTo w W W' b F L q := by
  subst hEa
  obtain ⟨W0, hW0⟩ : ∃ W0, W0 = W.alloc (.cells #[.int .u64 (limb a0 0 : Nat), .int .u64 (limb a0 1 : Nat), .int .u64 (limb a0 2 : Nat), .int .u64 (limb a0 3 : Nat)] 29) := ⟨_, rfl⟩
  have hb0 : Below W.heap.size W W0 := by rw [hW0]; exact (Below.refl _ _).alloc (Nat.le_refl _) _
  have r0 : W0.heap[W.heap.size]? = some (.cells #[.int .u64 (limb a0 0 : Nat), .int .u64 (limb a0 1 : Nat), .int .u64 (limb a0 2 : Nat), .int .u64 (limb a0 3 : Nat)] 29 (0, 0)) := by rw [hW0]; exact heap_alloc_new _ _
  have h0 := h.below hb0
  have hl := hI W (Touch.refl _ _)
  have hl0 := hl.below hb0
  have hFl : W.heap.size ∉ F := fun hk => Nat.lt_irrefl _ (h.s.lt _ hk)
  have HT7 := Lib.hid (fun (w7 : World) (L' : SL) (q' : Nat) (h7 : LiveTo w W0 w7 b F L' q') => show Il w7 A n f ∧ w7.heap[W.heap.size]? = some (.cells #[.int .u64 (limb a0 0 : Nat), .int .u64 (limb a0 1 : Nat), .int .u64 (limb a0 2 : Nat), .int .u64 (limb a0 3 : Nat)] 29 (0, 0)) from by
    obtain ⟨_, _, _, _, _, ht, _⟩ := h7
    exact ⟨hI w7 ((Touch.of_below hb0).trans (fun _ hk => .inl hk) ht), (ht.block _ (hp_lt r0) hFl).trans r0⟩)
  have HS0 := Lib.hid h0.start
  have HM := Lib.hid (made_live b F L q qs W0 h0.s)
  have HK0 := Lib.hid (key_is t A n c f K0 hK0 W0 hl0 (by omega))
  have HI := Lib.hid (fun (W1 : World) (hb : Below W0.heap.size W0 W1) => cint_at (h0.below hb) K0 m hk0 he0 (by omega))
  have HRd := Lib.hid (fun w => reader_walk (some ⟨b, 0, none⟩) t A n c w)
  have HRs := Lib.hid (fun (b1 : Nat) (W1 : World) (hb : Below W.heap.size W W1) (hA : HisAt W1 b1 (some ⟨b, 0, none⟩) t A n c f) => hR b1 W1 hb hA)
  have HH := Lib.hid (And.intro hb0 (And.intro r0 (And.intro hl0 (And.intro hz hn))))
  have hkne := ba_nil hk00
  have n1 : ¬ (1099511627776 : Int) < (blk : Int) := by omega
  have n2 : ¬ (blk : Int) < 0 := by omega
  have HW := Lib.hid hW0
  have HBl := Lib.hid (And.intro hblk ha)
  have mI : (m : Int) ≤ 1000000 := by omega
  clear hR hm
  clear hI hFl
  clear h hl hz hn hW0 hb0 r0 h0 hl0 hK0 hk0 hk00 he0 hblk ha
  unfold U
  go_enter Try.func14, Try.ntmps14
  go_upto_region 1 with fail
  rw [← HW.out]
  go_upto_region 9 with (first
    | (go_at_call 112; have g5 := H4; clear g5; with_reducible refine (HRs.out _ _ (HH.out.1.trans (H4.out.1.mono HH.out.1.size)) H4.out.2).mono ?_; rintro e w5 ⟨rfl, hb5⟩; have H5 := Lib.hid (H4.out.1.trans (hb5.mono H4.out.1.size)); unfold hisV U; clear hb5)
    | (go_at_call 62; refine (HRd.out _).mono ?_; rintro e w4 ⟨rfl, hb4, hc0, hc1, hc2, hlt⟩; have H4 := Lib.hid (And.intro (H3.out.trans (hb4.mono H3.out.size)) (show HisAt w4 w3.heap.size (some ⟨b, 0, none⟩) t A n c f from ⟨hc0, hc1, hc2, hlt, HH.out.2.2.1.below (H3.out.trans (hb4.mono H3.out.size)), HH.out.2.2.2.1, HH.out.2.2.2.2⟩)); clear hb4 hc0 hc1 hc2 hlt)
    | (go_at_call 61; refine (HI.out _ H2.out).mono ?_; rintro e w3 ⟨rfl, hb3⟩; have H3 := Lib.hid (H2.out.trans (hb3.mono H2.out.size)); clear hb3)
    | (go_at_call 60; refine HK0.out.mono ?_; rintro e w2 ⟨rfl, hb2⟩; have H2 := Lib.hid hb2; clear hb2)
    | (go_at_call 27; refine HM.out.mono ?_; rintro e w1 ⟨rfl, rfl⟩))
  have hbx := (H5.out).alloc H5.out.size (.cells #[.int .u64 (limb a0 0 : Nat), .int .u64 (limb a0 1 : Nat), .int .u64 (limb a0 2 : Nat), .int .u64 (limb a0 3 : Nat)] 29)
  have rA := (hbx.block W.heap.size (hp_lt HH.out.2.1)).trans HH.out.2.1
  have rB := heap_alloc_new w5 (.cells #[.int .u64 (limb a0 0 : Nat), .int .u64 (limb a0 1 : Nat), .int .u64 (limb a0 2 : Nat), .int .u64 (limb a0 3 : Nat)] 29)
  obtain ⟨W6, hW6⟩ : ∃ W6, W6 = w5.alloc (.cells #[.int .u64 (limb a0 0 : Nat), .int .u64 (limb a0 1 : Nat), .int .u64 (limb a0 2 : Nat), .int .u64 (limb a0 3 : Nat)] 29) := ⟨_, rfl⟩
  rw [← hW6] at hbx rA rB ⊢
  clear hW6
  have H6 := Lib.hid hbx
  have R6 := Lib.hid rA
  have HL6 := Lib.hid (HS0.out.post hbx)
  clear hbx
  have a0c := (hp_cell (i := 0) rA).trans rfl
  have a1c := (hp_cell (i := 1) rA).trans rfl
  have a2c := (hp_cell (i := 2) rA).trans rfl
  have a3c := (hp_cell (i := 3) rA).trans rfl
  have b0c := (hp_cell (i := 0) rB).trans rfl
  have b1c := (hp_cell (i := 1) rB).trans rfl
  have b2c := (hp_cell (i := 2) rB).trans rfl
  have b3c := (hp_cell (i := 3) rB).trans rfl
  clear rA rB
  have p1 : ¬ (blk : Int) < (x : Int) := by omega
  have p2 : ((blk : Int) == (x : Int)) = false := by rw [beq_eq_false_iff_ne]; omega
  have hEq := fun w => eq_run (a := a0) (b := a0) HBl.out.2 HBl.out.2 w
  rw [decide_eq_true (rfl : a0 = a0)] at hEq
  go_wp2
  go_ret
  exact ⟨rfl, HL6.out.pre HH.out.1⟩
set_option maxRecDepth 100000 in
set_option maxHeartbeats 4000000 in
theorem hpush_over {w W : World} {b : Nat} {F : List Nat} {L : SL} {q : Nat} {qs : List Value} (h : SNew w W b F L q qs) (t : Int) (A : Option Addr) (n c : Nat) (f : Nat → Int) (hI : ∀ W', Touch F W W' → Il W' A n f) (hz : A = none → n = 0 ∧ c = 0) (hn : n ≤ 20) (blk a : Nat) (ha : a < 2 ^ 256) (hblk : blk ≤ 1099511627776)
    (m : Nat) (hm : m ≤ 1000000) (x a0 : Nat) (hR : Reads W (some ⟨b, 0, none⟩) t A n c f ((m : Int) - 1) x a0 true) (ho : blk = x) (K0 : ByteArray) (hK0 : keyStr t f n = K0) (hk0 : K0.size ≤ maxLen) (hk00 : K0 ≠ ⟨#[]⟩) (he0 : intAt L K0 m) (Km : ByteArray) (hKm : keyStr t (icat f n fun _ => (m : Int) - 1) (n + 1) = Km) (hkm : Km.size ≤ maxLen) (hkm0 : Km ≠ ⟨#[]⟩) (hN : L.length < 128) (hq : q + 1 < 1000000) :
    Calls Try.prog 14 #[.pointer (some ⟨b, 0, none⟩), .int .i64 t, .slice A n c, .int .i64 (blk : Nat), U a] W fun e W' => e = .returned (.int .i64 0) ∧ LiveTo w W W' b F (setL L Km (numStr (blk : Int) ++ amtStr a)) (q + 1) := by
  subst ho
  obtain ⟨W0, hW0⟩ : ∃ W0, W0 = W.alloc (.cells #[.int .u64 (limb a 0 : Nat), .int .u64 (limb a 1 : Nat), .int .u64 (limb a 2 : Nat), .int .u64 (limb a 3 : Nat)] 29) := ⟨_, rfl⟩
  have hb0 : Below W.heap.size W W0 := by rw [hW0]; exact (Below.refl _ _).alloc (Nat.le_refl _) _
  have r0 : W0.heap[W.heap.size]? = some (.cells #[.int .u64 (limb a 0 : Nat), .int .u64 (limb a 1 : Nat), .int .u64 (limb a 2 : Nat), .int .u64 (limb a 3 : Nat)] 29 (0, 0)) := by rw [hW0]; exact heap_alloc_new _ _
  have h0 := h.below hb0
  have hl := hI W (Touch.refl _ _)
  have hl0 := hl.below hb0
  have hFl : W.heap.size ∉ F := fun hk => Nat.lt_irrefl _ (h.s.lt _ hk)
  have HT7 := Lib.hid (fun (w7 : World) (L' : SL) (q' : Nat) (h7 : LiveTo w W0 w7 b F L' q') => show Il w7 A n f ∧ w7.heap[W.heap.size]? = some (.cells #[.int .u64 (limb a 0 : Nat), .int .u64 (limb a 1 : Nat), .int .u64 (limb a 2 : Nat), .int .u64 (limb a 3 : Nat)] 29 (0, 0)) from by
    obtain ⟨_, _, _, _, _, ht, _⟩ := h7
    exact ⟨hI w7 ((Touch.of_below hb0).trans (fun _ hk => .inl hk) ht), (ht.block _ (hp_lt r0) hFl).trans r0⟩)
  have HS0 := Lib.hid h0.start
  have HM := Lib.hid (made_live b F L q qs W0 h0.s)
  have HK0 := Lib.hid (key_is t A n c f K0 hK0 W0 hl0 (by omega))
  have HI := Lib.hid (fun (W1 : World) (hb : Below W0.heap.size W0 W1) => cint_at (h0.below hb) K0 m hk0 he0 (by omega))
  have HRd := Lib.hid (fun w => reader_walk (some ⟨b, 0, none⟩) t A n c w)
  have HRs := Lib.hid (fun (b1 : Nat) (W1 : World) (hb : Below W.heap.size W W1) (hA : HisAt W1 b1 (some ⟨b, 0, none⟩) t A n c f) => hR b1 W1 hb hA)
  have HPt := Lib.hid (fun (W1 : World) (hb : Il W1 A n f) => point_is t A n c f ((m : Int) - 1) Km hKm W1 hb hz hn (by omega))
  have HNm := Lib.hid (fun W1 => knum_walk (blk : Int) W1 (by omega))
  have hAm := fun W1 => amount9_walk a W1
  unfold U at hAm
  have HAm := Lib.hid hAm
  clear hAm
  have HSt := Lib.hid (fun (W1 : World) (hl : LiveTo w W0 W1 b F L q) => hl.seq 1 (fun F1 qa qsa hs hqa => hs.sets Km (numStr (blk : Int) ++ amtStr a) hkm (by rw [ba_size_append, numStr_sizeA, amtStr_size]; decide) hkm0 hN (by omega)))
  have HH := Lib.hid (And.intro hb0 (And.intro r0 (And.intro hl0 (And.intro hz hn))))
  have hkne := ba_nil hk00
  have n1 : ¬ (1099511627776 : Int) < (blk : Int) := by omega
  have z1 := numStr_sizeA (blk : Int)
  have z2 := amtStr_size a
  have n2 : ¬ (blk : Int) < 0 := by omega
  have HW := Lib.hid hW0
  have HBl := Lib.hid (And.intro hblk ha)
  have mI : (m : Int) ≤ 1000000 := by omega
  clear hR hm
  clear hI hFl
  clear h hl hz hn hW0 hb0 r0 h0 hl0 hK0 hKm hk0 hkm hk00 hkm0 he0 hN hq hblk ha
  unfold U
  go_enter Try.func14, Try.ntmps14
  go_upto_region 1 with fail
  rw [← HW.out]
  go_upto_region 9 with (first
    | (go_at_call 112; have g5 := H4; clear g5; with_reducible refine (HRs.out _ _ (HH.out.1.trans (H4.out.1.mono HH.out.1.size)) H4.out.2).mono ?_; rintro e w5 ⟨rfl, hb5⟩; have H5 := Lib.hid (H4.out.1.trans (hb5.mono H4.out.1.size)); unfold hisV U; clear hb5)
    | (go_at_call 62; refine (HRd.out _).mono ?_; rintro e w4 ⟨rfl, hb4, hc0, hc1, hc2, hlt⟩; have H4 := Lib.hid (And.intro (H3.out.trans (hb4.mono H3.out.size)) (show HisAt w4 w3.heap.size (some ⟨b, 0, none⟩) t A n c f from ⟨hc0, hc1, hc2, hlt, HH.out.2.2.1.below (H3.out.trans (hb4.mono H3.out.size)), HH.out.2.2.2.1, HH.out.2.2.2.2⟩)); clear hb4 hc0 hc1 hc2 hlt)
    | (go_at_call 61; refine (HI.out _ H2.out).mono ?_; rintro e w3 ⟨rfl, hb3⟩; have H3 := Lib.hid (H2.out.trans (hb3.mono H2.out.size)); clear hb3)
    | (go_at_call 60; refine HK0.out.mono ?_; rintro e w2 ⟨rfl, hb2⟩; have H2 := Lib.hid hb2; clear hb2)
    | (go_at_call 27; refine HM.out.mono ?_; rintro e w1 ⟨rfl, rfl⟩))
  have hbx := (H5.out).alloc H5.out.size (.cells #[.int .u64 (limb a0 0 : Nat), .int .u64 (limb a0 1 : Nat), .int .u64 (limb a0 2 : Nat), .int .u64 (limb a0 3 : Nat)] 29)
  have rA := (hbx.block W.heap.size (hp_lt HH.out.2.1)).trans HH.out.2.1
  have rB := heap_alloc_new w5 (.cells #[.int .u64 (limb a0 0 : Nat), .int .u64 (limb a0 1 : Nat), .int .u64 (limb a0 2 : Nat), .int .u64 (limb a0 3 : Nat)] 29)
  obtain ⟨W6, hW6⟩ : ∃ W6, W6 = w5.alloc (.cells #[.int .u64 (limb a0 0 : Nat), .int .u64 (limb a0 1 : Nat), .int .u64 (limb a0 2 : Nat), .int .u64 (limb a0 3 : Nat)] 29) := ⟨_, rfl⟩
  rw [← hW6] at hbx rA rB ⊢
  clear hW6
  have H6 := Lib.hid hbx
  have R6 := Lib.hid rA
  have HL6 := Lib.hid (HS0.out.post hbx)
  clear hbx
  have a0c := (hp_cell (i := 0) rA).trans rfl
  have a1c := (hp_cell (i := 1) rA).trans rfl
  have a2c := (hp_cell (i := 2) rA).trans rfl
  have a3c := (hp_cell (i := 3) rA).trans rfl
  have b0c := (hp_cell (i := 0) rB).trans rfl
  have b1c := (hp_cell (i := 1) rB).trans rfl
  have b2c := (hp_cell (i := 2) rB).trans rfl
  have b3c := (hp_cell (i := 3) rB).trans rfl
  clear rA rB
  have p1 : ¬ (blk : Int) < (blk : Int) := by omega
  clear p1
  go_upto_region 15 with fail
  have H7 := HL6
  obtain ⟨w7, hw7⟩ : ∃ w7, w7 = W6 := ⟨_, rfl⟩
  rw [← hw7] at H7 ⊢
  clear a0c a1c a2c a3c b0c b1c b2c b3c
  clear hw7
  have il7 := (HT7.out _ _ _ H7.out).1
  have r7 := (HT7.out _ _ _ H7.out).2
  have f0 := fun (dq : Nat) (osq : Array Obj) => cell_regrown (w := w7) (a := ⟨W.heap.size, 0, none⟩) ((hp_cell (i := 0) r7).trans rfl) dq osq
  have f1 := fun (dq : Nat) (osq : Array Obj) => cell_regrown (w := w7) (a := ⟨W.heap.size, 1, none⟩) ((hp_cell (i := 1) r7).trans rfl) dq osq
  have f2 := fun (dq : Nat) (osq : Array Obj) => cell_regrown (w := w7) (a := ⟨W.heap.size, 2, none⟩) ((hp_cell (i := 2) r7).trans rfl) dq osq
  have f3 := fun (dq : Nat) (osq : Array Obj) => cell_regrown (w := w7) (a := ⟨W.heap.size, 3, none⟩) ((hp_cell (i := 3) r7).trans rfl) dq osq
  have HP7 := Lib.hid (fun (dq : Nat) (osq : Array Obj) => HPt.out (grow (redrawn w7 dq) osq) (il7.below (below_regrown w7 dq osq)))
  clear il7 r7
  refine wp_region_quiet_tail 10 (by kernel_rfl) (by kernel_rfl) ?_
  simp only [List.take_succ_cons, List.take_zero]
  repeat (quiet_step (first
    | (go_at_call 65; with_reducible exact Calls.regrown_of (HP7.out _ _))
    | (go_at_call 66; with_reducible exact Calls.regrown_of (HNm.out _))
    | (go_at_call 67; with_reducible exact Calls.regrown_of (HAm.out _))))
  refine wpQuiet_nil ?_
  intro _ hw'
  obtain ⟨⟨dq, osq⟩, hw''⟩ := hw'
  subst hw''
  have H8 := Lib.hid (H7.out.post (below_regrown w7 dq osq))
  clear f0 f1 f2 f3 HP7
  simp only [List.drop_succ_cons, List.drop_zero]
  go_wp2_with (go_at_call 64; refine (HSt.out _ H8.out).mono ?_; rintro e w9 ⟨rfl, h9⟩; have H9 := Lib.hid h9; clear h9)
  go_ret
  exact ⟨rfl, H9.out.pre HH.out.1⟩
end Go.Proofs.Ytedkhpnlhkjjgaa
