/- wad.Most, walked; the two great numbers of wad. -/
import Derived.Test.YtomhbggfdjooaaaDoorBase
namespace Go.Proofs.YtomhbggfdjooaaaDoor
open Go.RowKit Go.Sort

def WAD : Nat := 1000000000000000000
def MOST : Nat := 340282366920938463463374607431768211455
theorem WAD_lt : WAD < 2 ^ 256 := by decide
theorem MOST_lt : MOST < 2 ^ 256 := by decide
theorem U_WAD : U WAD = .agg #[.int .u64 1000000000000000000, .int .u64 0, .int .u64 0, .int .u64 0] := U_small (n := 1000000000000000000) (by decide)
theorem U_MOST : U MOST = .agg #[.int .u64 18446744073709551615, .int .u64 18446744073709551615, .int .u64 0, .int .u64 0] := by
  unfold U
  rw [show limb MOST 0 = 18446744073709551615 by decide, show limb MOST 1 = 18446744073709551615 by decide, show limb MOST 2 = 0 by decide, show limb MOST 3 = 0 by decide]; rfl
set_option maxRecDepth 100000 in
theorem most_walk (w : World) : Calls Tryd.prog 44 #[] w fun e w' => e = .returned (U MOST) ∧ Below w.heap.size w w' := by
  rw [U_MOST]
  go_enter Tryd.func44, Tryd.ntmps44
  go_wp2
  refine bodyPost_ret (v := .agg #[.int .u64 18446744073709551615, .int .u64 18446744073709551615, .int .u64 0, .int .u64 0]) (by simp [results, Tryd.results44, go_sem]) rfl ⟨rfl, (Below.refl _ _).alloc (Nat.le_refl _) _⟩
end Go.Proofs.YtomhbggfdjooaaaDoor
