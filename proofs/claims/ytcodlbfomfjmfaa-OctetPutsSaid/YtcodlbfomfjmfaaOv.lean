/- octet.Amount, walked. -/
import Derived.Test.YtcodlbfomfjmfaaOu
import Derived.Test.YtcodlbfomfjmfaaOq
namespace Go.Proofs.Ytcodlbfomfjmfaa
open Go.RowKit

/-- the bytes of a, the greatest first, without the leading noughts -/
def ab (a i : Nat) : Nat := byteAt a (cnt a - 1 - i)
theorem ab_small (a i : Nat) : ab a i < 256 := Nat.mod_lt _ (by decide)
def AmtPost (nb : Nat) (f : Nat → Nat) (a : Nat) (w : World) (e : Ending) (w' : World) : Prop :=
  (∃ v, e = .returned v ∧ w'.ownsRow w.heap.size 5 1 v (nb + 1 + cnt a) (bys (cat (cat f nb (fun _ => cnt a)) (nb + 1) (ab a)) (nb + 1 + cnt a))) ∧ Below w.heap.size w w'
theorem cell_sl {w : World} {b x : Nat} (hb : b < w.heap.size) (hx : x < 256) (h : w.cell? ⟨b, 0, none⟩ = some (.int .u8 (x : Nat))) : Sl w (some ⟨b, 0, none⟩) 1 (fun _ => x) :=
  ⟨fun _ => hx, fun _ => ⟨b, 0, rfl, hb, fun i hi => by rw [show 0 + i = 0 by omega]; exact h⟩⟩
theorem cat_one {f g g' : Nat → Nat} {n m : Nat} (h : ∀ i, i < m → g i = g' i) : ∀ i, i < n + m → cat f n g i = cat f n g' i := fun i hi => by
  unfold cat; split
  · rfl
  · exact h _ (by omega)
set_option maxRecDepth 100000 in
set_option maxHeartbeats 2000000 in
theorem oamount_walk (A : Option Addr) (nb c : Nat) (f : Nat → Nat) (a : Nat) (w : World) (ha : a < 2 ^ 256) (hl : Sl w A nb f) (hA : A = none → nb = 0 ∧ c = 0) (hnb : nb ≤ 2 ^ 18) :
    Calls Try.prog 45 #[.slice A nb c, U a] w (AmtPost nb f a w) := by
  have hk := cnt_le (m := 32) ha
  obtain ⟨k, hk'⟩ : ∃ k, k = cnt a := ⟨_, rfl⟩
  obtain ⟨m, hm⟩ : ∃ m, m = blen a := ⟨_, rfl⟩
  have e1 : ((m : Int) + 7) / 8 = (k : Int) := by rw [hk', hm]; unfold cnt; omega
  obtain ⟨r, hr⟩ : ∃ r, r = 32 - k := ⟨_, rfl⟩
  rw [← hk'] at hk
  have e2 : 32 - (k : Int) = (r : Int) := by omega
  have e3 : (k : Int) % 256 = (k : Int) := by omega
  have e4 : 32 - (r : Int) = (k : Int) := by omega
  have hbx := (Below.refl w.heap.size w).alloc (Nat.le_refl _) (.cells #[.int .u64 (limb a 0 : Nat), .int .u64 (limb a 1 : Nat), .int .u64 (limb a 2 : Nat), .int .u64 (limb a 3 : Nat)] 24)
  have HB := bits_walk a (w.alloc (.cells #[.int .u64 (limb a 0 : Nat), .int .u64 (limb a 1 : Nat), .int .u64 (limb a 2 : Nat), .int .u64 (limb a 3 : Nat)] 24)) ha
  unfold U at HB
  have HBI := Lib.hid HB
  have HX := Lib.hid hbx
  have HL := Lib.hid hl
  have HA := Lib.hid hA
  have Hk := Lib.hid hk'
  have Hm := Lib.hid hm
  have Hr := Lib.hid hr
  have HY := Lib.hid (bytes_walk a)
  clear hl hA HB hbx hk' hm hr
  unfold U
  go_enter Try.func45, Try.ntmps45
  go_wp2_with fail
  refine HBI.out.mono ?_
  rintro e w1 ⟨rfl, hb1⟩
  rw [← Hm.out]
  have m1 : Arr .u64 w1 w.heap.size 4 (limb a) := (Arr.new4 (f := limb a) rfl).below hb1 (by simp only [World.size_alloc]; omega)
  obtain ⟨y0, y1, y2, y3⟩ := m1.cells4
  have HB1 := Lib.hid (HX.out.trans (hb1.mono (by simp only [World.size_alloc]; omega)))
  have M1 := Lib.hid m1
  have Z1 : w.heap.size < w1.heap.size := World.block_lt_of_cell? _ _ y0
  have HZ1 := Lib.hid Z1
  clear hb1 m1
  have HY2 := HY.out (w1.alloc (.cells #[.int .u8 (k : Nat)] 5))
  unfold U at HY2
  go_wp2_with fail
  refine HY2.mono ?_
  rintro e w2 ⟨g, rfl, hg1, hg2, hm2, hb2⟩
  have hs2 := Sl.of_arr (fun _ => byteAt_lt _ _) hm2 hg2
  have hc2 : w2.cell? ⟨w1.heap.size, 0, none⟩ = some (.int .u8 (k : Nat)) := by
    rw [hb2.cell (p := ⟨w1.heap.size, 0, none⟩) (by simp), World.cell?_alloc_new]; rfl
  have hn2 : w1.heap.size < w2.heap.size := World.block_lt_of_cell? _ _ hc2
  have hq2 := cell_sl hn2 (by omega) hc2
  have hA2 := HL.out.below (HB1.out.trans (((Below.refl w1.heap.size w1).alloc (Nat.le_refl _) (.cells #[.int .u8 (k : Nat)] 5)).mono HB1.out.size) |>.trans (hb2.mono (by simp only [World.size_alloc]; omega)))
  have HB2 := Lib.hid (HB1.out.trans (((Below.refl w1.heap.size w1).alloc (Nat.le_refl _) (.cells #[.int .u8 (k : Nat)] 5)).mono HB1.out.size) |>.trans (hb2.mono (by simp only [World.size_alloc]; omega)))
  have HS2 := Lib.hid hs2
  have HA2 := Lib.hid hA2
  have HQ2 := Lib.hid hq2
  clear hm2 hs2 hA2 hq2 hb2 hg1 hg2 hn2 HY2 y0 y1 y2 y3
  have Hfin : ∀ (D : Option Addr), Sl w2 D k (ab a) → (D = none → k = 0 ∧ k = 0) → Calls Try.prog 110 #[.slice (some ⟨w2.heap.size, 0, none⟩) 3 3] (w2.alloc (.cells #[.slice A nb c, .slice (some ⟨w1.heap.size, 0, none⟩) 1 1, .slice D k k] 33)) (AmtPost nb f a w) := by
    intro D hD hz
    refine (concat3_c A _ D nb 1 k c 1 k f (fun _ => k) (ab a) w2 HA2.out HQ2.out hD HA.out (fun h => by cases h) hz (by omega) (by omega) (by omega) 33).mono ?_
    rintro e w' ⟨⟨v, rfl, hv⟩, hb⟩
    refine ⟨⟨v, rfl, ?_⟩, HB2.out.trans (hb.mono HB2.out.size)⟩
    rw [← Hk.out]
    exact own_base hv HB2.out.size
  have HF := Lib.hid Hfin
  clear Hfin
  go_wp2_with fail
  · have k0 : k = 0 := by omega
    have h := HF.out (some ⟨g, 0, none⟩) ⟨ab_small a, fun h => absurd h (by omega)⟩ (fun h => by cases h)
    rw [k0] at h
    refine h.mono ?_
    rintro e w' ⟨⟨v, rfl, hv⟩, hb⟩
    have Hv := Lib.hid hv
    have Hb := Lib.hid hb
    clear hv hb h
    go_wp2
    go_ret
    exact ⟨⟨v, rfl, Hv.out⟩, Hb.out⟩
  · have e5 : 32 - r = k := by omega
    have e6 : 0 + r = r := by omega
    have hs : Sl w2 (some ⟨g, r, none⟩) k (ab a) := by
      have h := HS2.out.part (c := 0) r k (by omega)
      rw [e6] at h
      refine ⟨ab_small a, fun hk => ?_⟩
      obtain ⟨g', o', e, h1, h2⟩ := h.at_ hk
      refine ⟨g', o', e, h1, fun i hi => ?_⟩
      rw [h2 i hi]
      have := Hk.out
      congr 3
      unfold ab
      rw [← Hk.out]
      congr 1; omega
    have h := HF.out (some ⟨g, r, none⟩) hs (fun h => by cases h)
    rw [e5]
    refine h.mono ?_
    rintro e w' ⟨⟨v, rfl, hv⟩, hb⟩
    have Hv := Lib.hid hv
    have Hb := Lib.hid hb
    clear hv hb h hs
    go_wp2
    go_ret
    exact ⟨⟨v, rfl, Hv.out⟩, Hb.out⟩
end Go.Proofs.Ytcodlbfomfjmfaa
