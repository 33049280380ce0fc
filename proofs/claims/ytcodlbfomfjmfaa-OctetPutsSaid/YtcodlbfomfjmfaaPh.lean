/- tallageref04.Hash, walked. -/
import Derived.Test.YtcodlbfomfjmfaaOe
import Derived.Test.YtcodlbfomfjmfaaAP
import Derived.Deep.RegionLaw
namespace Go.Proofs.Ytcodlbfomfjmfaa
open Go.RowKit

theorem made0 (w : World) : (w.alloc (.cells #[] 5)).ownsRow w.heap.size 5 1 (.slice (some ⟨w.heap.size, 0, none⟩) 0 0) 0 [] := World.ownsRow_made w #[] 0 (Nat.le_refl _) (Nat.zero_le _) (by simp)
set_option maxRecDepth 100000 in
set_option maxHeartbeats 1000000 in
theorem rhashp_walk (A : Option Addr) (nb c : Nat) (f g : Nat → Nat) (cs : Array Value) (w : World) (hcs : cs = (bys g 32).toArray) (hl : Sl w A nb f) (hA : A = none → nb = 0 ∧ c = 0) (hnb : nb ≤ 2 ^ 18) (hg : ∀ i, g i < 256) :
    Calls Try.prog 48 #[.slice A nb c, .agg cs] w (HashPost nb f g w) := by
  have h32 := arr32 w g cs hcs hg 44
  have hsz : cs.size = 32 := by rw [hcs]; simp [bys_length]
  have H32 := Lib.hid h32
  have HL := Lib.hid (hl.alloc (.cells cs 44))
  have HA := Lib.hid hA
  have HB0 := Lib.hid (((Below.refl (w.alloc (.cells cs 44)).heap.size (w.alloc (.cells cs 44))).alloc (Nat.le_refl _) (.cells #[] 5)).drew)
  have HM := Lib.hid (made0 (w.alloc (.cells cs 44))).drew
  clear hl hA h32 hg hcs
  go_enter Try.func48, Try.ntmps48
  go_wp2
  go_region_law (first
    | (refine step_append_bys rfl (.tmp 7) (.tmp 8) rfl (w.alloc (.cells cs 44)).heap.size v1 nb (bys f nb) (by simp [Act.eval]) Hv1.out (some ⟨w.heap.size, 0, none⟩) 32 32 g (by simp [Act.eval]) (H32.out.below Hb1.out) (fun h => by cases h) (by omega) Hb1.out.size ?_; intro v2 w2 hv2 hg2; have Hb2 := Lib.hid (own_grown Hv1.out Hb1.out hg2 Hb1.out.size); have Hv2 := Lib.hid hv2; clear hv2 hg2)
    | (refine step_append_bys rfl (.tmp 5) (.tmp 6) rfl (w.alloc (.cells cs 44)).heap.size _ 0 [] (by simp [Act.eval]) HM.out A nb c f (by simp [Act.eval]) (HL.out.below HB0.out) HA.out (by omega) HB0.out.size ?_; intro v1 w1 hv1 hg1; have Hb1 := Lib.hid (own_grown HM.out HB0.out hg1 HB0.out.size); rw [Nat.zero_add, List.nil_append] at hv1; have Hv1 := Lib.hid hv1; clear hv1 hg1))
  all_goals
    go_wp2
    go_ret
    refine ⟨⟨_, rfl, ?_⟩, ((Below.refl w.heap.size w).alloc (Nat.le_refl _) _).trans (Hb2.out.mono (by simp))⟩
    have h := Hv2.out
    rw [bys_cat] at h
    exact own_base h (by simp)
end Go.Proofs.Ytcodlbfomfjmfaa
