/- factor.product and its two closures, walked. -/
import Derived.Test.YthglnedlbiembaaSPa
import Derived.Test.YthglnedlbiembaaW6
import Derived.Test.YthglnedlbiembaaW4
namespace Go.Proofs.Ythglnedlbiembaa
open Go.RowKit Go.Sort

set_option maxRecDepth 100000 in
theorem product_walk (w : World) : Calls Try.prog 118 #[] w fun e w' => (∃ L v, e = .returned v ∧ v = .tuple #[.func (Fn.func 127) #[] #[.pointer (some ⟨L, 0, none⟩)], .func (Fn.func 128) #[] #[.pointer (some ⟨L, 0, none⟩)]] ∧ w'.cell? ⟨L, 0, none⟩ = some (.bool true) ∧ w'.frozen? ⟨L, 0, none⟩ = false ∧ w.heap.size ≤ L ∧ L < w'.heap.size) ∧ Below w.heap.size w w' := by
  go_enter Try.func118, Try.ntmps118
  go_wp2
  refine bodyPost_ret (v := .tuple #[.func (Fn.func 127) #[] #[.pointer (some ⟨w.heap.size, 0, none⟩)], .func (Fn.func 128) #[] #[.pointer (some ⟨w.heap.size, 0, none⟩)]]) (by simp [results, Try.results118, go_sem]) rfl ⟨⟨w.heap.size, _, rfl, rfl, by simp, by simp, Nat.le_refl _, by simp⟩, (Below.refl _ _).alloc (Nat.le_refl _) _⟩
set_option maxRecDepth 100000 in
theorem well_walk (L : Nat) (g : Bool) (w : World) (h : w.cell? ⟨L, 0, none⟩ = some (.bool g)) : Calls Try.prog 128 #[.pointer (some ⟨L, 0, none⟩)] w fun e w' => e = .returned (.bool g) ∧ w' = w := by
  go_enter Try.func128, Try.ntmps128
  go_wp2
  go_ret
  exact ⟨rfl, rfl⟩
set_option maxRecDepth 100000 in
set_option maxHeartbeats 4000000 in
theorem timesF_walk (a b L : Nat) (g : Bool) (w : World) (ha : a < 2 ^ 256) (hb : b < 2 ^ 256) (h : w.cell? ⟨L, 0, none⟩ = some (.bool g)) (hz : w.frozen? ⟨L, 0, none⟩ = false) :
    Calls Try.prog 127 #[U a, U b, .pointer (some ⟨L, 0, none⟩)] w fun e w' => e = .returned (U (mulv a b)) ∧ Below L w w' ∧ w'.cell? ⟨L, 0, none⟩ = some (.bool (g && mulk a b)) ∧ w'.frozen? ⟨L, 0, none⟩ = false ∧ ∀ k, k < w.heap.size → k ≠ L → w'.heap[k]? = w.heap[k]? := by
  have hL : L < w.heap.size := World.block_lt_of_cell? w _ h
  have Ha := Lib.hid ha
  have Hb := Lib.hid hb
  obtain ⟨y, hy⟩ : ∃ y, y = mulv a b := ⟨_, rfl⟩
  obtain ⟨ok, hok⟩ : ∃ y, y = mulk a b := ⟨_, rfl⟩
  rw [← hy, ← hok]
  have Hy := Lib.hid hy
  have Hok := Lib.hid hok
  clear ha hb hy hok
  unfold U
  cases g
  all_goals
   have K0 : Bk w (((w.alloc (.cells #[.int .u64 (limb a 0 : Nat), .int .u64 (limb a 1 : Nat), .int .u64 (limb a 2 : Nat), .int .u64 (limb a 3 : Nat)] 24)).alloc (.cells #[.int .u64 (limb b 0 : Nat), .int .u64 (limb b 1 : Nat), .int .u64 (limb b 2 : Nat), .int .u64 (limb b 3 : Nat)] 24)).alloc (.cells #[.int .u64 0, .int .u64 0, .int .u64 0, .int .u64 0] 24)) _ := (Bk.two (a := a) (b := b) (w := w) (t1 := 24) (t2 := 24)).alloc _
   have Z1 : Zb w (((w.alloc (.cells #[.int .u64 (limb a 0 : Nat), .int .u64 (limb a 1 : Nat), .int .u64 (limb a 2 : Nat), .int .u64 (limb a 3 : Nat)] 24)).alloc (.cells #[.int .u64 (limb b 0 : Nat), .int .u64 (limb b 1 : Nat), .int .u64 (limb b 2 : Nat), .int .u64 (limb b 3 : Nat)] 24)).alloc (.cells #[.int .u64 0, .int .u64 0, .int .u64 0, .int .u64 0] 24)) (w.heap.size + 1 + 1) := Zb.new (by simp) (by simp; omega)
   have H := Lib.hid (And.intro K0 Z1)
   clear K0 Z1
   go_enter Try.func127, Try.ntmps127
   go_wp2_with (go_at_call 19; refine (mul_c a b _ Ha.out Hb.out).mono ?_; rintro e w1 ⟨rfl, hb1⟩; rw [← Hy.out, ← Hok.out]; have k1 := H.out.1.call hb1; have z1 := H.out.2.below hb1; obtain ⟨f0, f1, f2, f3⟩ := z1.a.frees4; obtain ⟨c0, c1, c2, c3⟩ := z1.a.cells4; have l1 := z1.s; have l1' : L < w1.heap.size := (by omega); have cL : w1.cell? ⟨L, 0, none⟩ = some (.bool _) := (by rw [hb1.cell (p := ⟨L, 0, none⟩) (by simp; omega), World.cell?_alloc_lt _ _ _ (by simp; omega), World.cell?_alloc_lt _ _ _ (by simp; omega), World.cell?_alloc_lt _ _ _ (by simp; omega)]; exact h); have fL : w1.frozen? ⟨L, 0, none⟩ = false := (by rw [hb1.frozen (p := ⟨L, 0, none⟩) (by simp; omega), World.frozen?_alloc_old _ _ _ (by simp; omega), World.frozen?_alloc_old _ _ _ (by simp; omega), World.frozen?_alloc_old _ _ _ (by simp; omega)]; exact hz); unfold U)
   refine bodyPost_ret (v := .agg #[.int .u64 (limb y 0 : Nat), .int .u64 (limb y 1 : Nat), .int .u64 (limb y 2 : Nat), .int .u64 (limb y 3 : Nat)]) (by simp [results, Try.results127, go_sem, c0, c1, c2, c3, l1]) rfl ⟨rfl, ?_, ?_, ?_, ?_⟩
   · exact (below_set4 (((k1.l.mono (Nat.le_of_lt hL) : Below L w w1)).setCell (Nat.le_refl _) _) (by omega)).alloc (by simp only [World.size_setCell]; omega) _
   · rw [World.cell?_alloc_lt _ _ _ (by simp only [World.size_setCell]; omega), World.cell?_setCell_far _ _ _ _ (by simp only; omega), World.cell?_setCell_far _ _ _ _ (by simp only; omega), World.cell?_setCell_far _ _ _ _ (by simp only; omega), World.cell?_setCell_far _ _ _ _ (by simp only; omega), World.cell?_setCell_same _ _ _ cL]
     rfl
   · rw [World.frozen?_alloc_old _ _ _ (by simp only [World.size_setCell]; omega), World.frozen?_setCell, World.frozen?_setCell, World.frozen?_setCell, World.frozen?_setCell, World.frozen?_setCell]
     exact fL
   · intro k hk hne
     rw [Below.heap_alloc _ _ _ (by simp only [World.size_setCell]; omega), Below.heap_setCell _ _ _ _ (by simp only; omega), Below.heap_setCell _ _ _ _ (by simp only; omega), Below.heap_setCell _ _ _ _ (by simp only; omega), Below.heap_setCell _ _ _ _ (by simp only; omega), Below.heap_setCell _ _ _ _ hne]
     exact k1.l.block k hk
theorem Arr.others {κ : IntKind} {w w' : World} {L b n : Nat} {f : Nat → Nat} (h : Arr κ w b n f) (ho : ∀ k, k < w.heap.size → k ≠ L → w'.heap[k]? = w.heap[k]?) (hb : b < w.heap.size) (hne : b ≠ L) : Arr κ w' b n f :=
  ⟨fun i hi => by rw [World.cell?_of_block (w := w) (ho b hb hne)]; exact h.cell i hi, fun i hi => by rw [World.frozen?_of_block (w := w) (ho b hb hne)]; exact h.free i hi⟩
end Go.Proofs.Ythglnedlbiembaa

namespace Go.Proofs.Ythglnedlbiembaa
open Go.RowKit Go.Sort

def fgood (d f m : Nat) : Prop := d ≤ MOST ∧ f ≤ SQ ∧ m ≤ WAD
instance (d f m : Nat) : Decidable (fgood d f m) := by unfold fgood; infer_instance
theorem amount_g (a : Nat) (w : World) (g : Bool) (ha : a < 2 ^ 256) (h : decide (a ≤ MOST) = g) : Calls Try.prog 61 #[U a] w fun e w' => e = .returned (.bool g) ∧ Below w.heap.size w w' := by
  rw [← h]; exact amount_walk a w ha
theorem good_g (a : Nat) (w : World) (g : Bool) (ha : a < 2 ^ 256) (h : decide (a ≤ WAD) = g) : Calls Try.prog 59 #[U a] w fun e w' => e = .returned (.bool g) ∧ Below w.heap.size w w' := by
  rw [← h]; exact good_walk a w ha
theorem cmp_g (a b : Nat) (w : World) (c : Int) (ha : a < 2 ^ 256) (hb : b < 2 ^ 256) (h : cmpU a b = c) : Calls Try.prog 24 #[U a, U b] w fun e w' => e = .returned (.int .i64 c) ∧ Below w.heap.size w w' := by
  rw [← h]; exact cmp_walk a b w ha hb
theorem three_first {a b d : Nat} {w : World} {t1 t2 t3 : TypeId} : Three w (((w.alloc (.cells #[.int .u64 (limb a 0 : Nat), .int .u64 (limb a 1 : Nat), .int .u64 (limb a 2 : Nat), .int .u64 (limb a 3 : Nat)] t1)).alloc (.cells #[.int .u64 (limb b 0 : Nat), .int .u64 (limb b 1 : Nat), .int .u64 (limb b 2 : Nat), .int .u64 (limb b 3 : Nat)] t2)).alloc (.cells #[.int .u64 (limb d 0 : Nat), .int .u64 (limb d 1 : Nat), .int .u64 (limb d 2 : Nat), .int .u64 (limb d 3 : Nat)] t3)) a b d :=
  ⟨((Arr.new4 (f := limb a) rfl).alloc _).alloc _, (Arr.new4 (f := limb b) (by simp)).alloc _, Arr.new4 (f := limb d) (by simp), (((Below.refl _ _).alloc (Nat.le_refl _) _).alloc (by simp only [World.size_alloc]; omega) _).alloc (by simp only [World.size_alloc]; omega) _, by simp⟩
set_option maxRecDepth 100000 in
set_option maxHeartbeats 4000000 in
theorem fgood_walk (d f m : Nat) (w : World) (g : Bool) (hd : d < 2 ^ 256) (hf : f < 2 ^ 256) (hm : m < 2 ^ 256) (hg : decide (fgood d f m) = g) :
    Calls Try.prog 74 #[U d, U f, U m] w fun e w' => e = .returned (.bool g) ∧ Below w.heap.size w w' := by
  obtain ⟨g1, hg1⟩ : ∃ g, g = decide (d ≤ MOST) := ⟨_, rfl⟩
  obtain ⟨c, hc⟩ : ∃ c, c = cmpU f SQ := ⟨_, rfl⟩
  obtain ⟨g3, hg3⟩ : ∃ g, g = decide (m ≤ WAD) := ⟨_, rfl⟩
  obtain ⟨g2, hg2⟩ : ∃ g, g = decide (c ≤ 0) := ⟨_, rfl⟩
  have hr' : g = (g1 && (g2 && g3)) := by
    rw [← hg, hg1, hg2, hg3, hc]
    have e : decide (cmpU f SQ ≤ 0) = decide (f ≤ SQ) := decide_eq_decide.2 (cmpU_le f SQ)
    rw [e]
    unfold fgood; by_cases h1 : d ≤ MOST <;> by_cases h2 : f ≤ SQ <;> by_cases h3 : m ≤ WAD <;> simp [h1, h2, h3]
  have Hg1 := Lib.hid hg1.symm
  have Hg3 := Lib.hid hg3.symm
  have Hc := Lib.hid hc.symm
  have Hd := Lib.hid hd
  have Hf := Lib.hid hf
  have Hm := Lib.hid hm
  have T3 := Lib.hid (three_first (a := d) (b := f) (d := m) (w := w) (t1 := 24) (t2 := 24) (t3 := 24))
  have Hr := Lib.hid hr'
  have hg2' := hg2.symm
  clear hg hg1 hg3 hc hd hf hm hr' hg2
  unfold U
  cases g1 <;> cases g2 <;> cases g3
  all_goals
   rw [Hr.out]
   go_enter Try.func74, Try.ntmps74
   go_upto_region 1 with (fail)
   obtain ⟨W, hW⟩ : ∃ W, W = (((w.alloc (.cells #[.int .u64 (limb d 0 : Nat), .int .u64 (limb d 1 : Nat), .int .u64 (limb d 2 : Nat), .int .u64 (limb d 3 : Nat)] 24)).alloc (.cells #[.int .u64 (limb f 0 : Nat), .int .u64 (limb f 1 : Nat), .int .u64 (limb f 2 : Nat), .int .u64 (limb f 3 : Nat)] 24)).alloc (.cells #[.int .u64 (limb m 0 : Nat), .int .u64 (limb m 1 : Nat), .int .u64 (limb m 2 : Nat), .int .u64 (limb m 3 : Nat)] 24)) := ⟨_, rfl⟩
   have ad : Arr .u64 W w.heap.size 4 (limb d) := by rw [hW]; exact T3.out.a
   have af : Arr .u64 W (w.heap.size + 1) 4 (limb f) := by rw [hW]; exact T3.out.b
   have am : Arr .u64 W (w.heap.size + 1 + 1) 4 (limb m) := by rw [hW]; exact T3.out.c
   have bel : Below w.heap.size w W := by rw [hW]; exact T3.out.l
   rw [← hW]
   have hfin : ∀ dq osq, Below w.heap.size w (grow (redrawn W dq) osq) := fun dq osq => bel.trans ((below_regrown W dq osq).mono bel.size)
   have Hfin := Lib.hid hfin
   obtain ⟨u00, u01, u02, u03⟩ := ad.grow4
   obtain ⟨u10, u11, u12, u13⟩ := af.grow4
   obtain ⟨u20, u21, u22, u23⟩ := am.grow4
   clear hfin hW ad af am bel T3
   refine wp_region_quiet_below (by kernel_rfl) (by kernel_rfl) ?_
   repeat (quiet_step (first | (go_at_call 59; exact Calls.regrown_of (good_g m _ _ Hm.out Hg3.out)) | (go_at_call 24; exact Calls.regrown_of (cmp_g f SQ _ _ Hf.out SQ_lt Hc.out)) | (go_at_call 63; exact Calls.regrown_of (square_walk _)) | (go_at_call 61; exact Calls.regrown_of (amount_g d _ _ Hd.out Hg1.out))))
   refine wpQuiet_nil ?_
   intro _ hw'
   obtain ⟨⟨dq, osq⟩, hw''⟩ := hw'
   subst hw''
   go_wp2
   refine bodyPost_ret (v := .bool _) (by simp [results, Try.results74, go_sem]) rfl ⟨rfl, Hfin.out _ _⟩
theorem mul_lt_of {a b x y : Nat} (ha : a ≤ x) (hb : b ≤ y) (h : x * y < 2 ^ 256) : a * b < 2 ^ 256 := Nat.lt_of_le_of_lt (Nat.mul_le_mul ha hb) h
theorem MOST_SQ : MOST * SQ < 2 ^ 256 := by decide
theorem WAD_SQ : WAD ≤ SQ := by decide
theorem fw_le {n m : Nat} (hm : m ≤ SQ) : n * m / SQ ≤ n := Nat.div_le_of_le_mul (by rw [Nat.mul_comm SQ]; exact Nat.mul_le_mul_left n hm)
/-- what a deposit is worth -/
def fw (d f m : Nat) : Nat := d * f * m / SQ
theorem worthDown (n m : Nat) (w : World) (hn : n < 2 ^ 256) (hm : m ≤ WAD) : Calls Try.prog 40 #[U n, U m, U SQ] w fun e w' => e = .returned (.tuple #[U (n * m / SQ), .bool true]) ∧ Below w.heap.size w w' := by
  have h := down_walk n m SQ w hn (Nat.lt_of_le_of_lt (Nat.le_trans hm WAD_SQ) SQ_lt) SQ_lt
  have hok : quoOk (n * m) SQ := ⟨by decide, Nat.lt_of_le_of_lt (fw_le (Nat.le_trans hm WAD_SQ)) hn⟩
  exact h.mono fun e w' ⟨he, hw⟩ => ⟨by rw [he]; unfold qv qok; rw [if_pos hok, decide_eq_true hok], hw⟩
/-- the closures that product made, and what they share -/
structure Pd (wr : World) (L : Nat) (g : Bool) : Prop where
  c : wr.cell? ⟨L, 0, none⟩ = some (.bool g)
  f : wr.frozen? ⟨L, 0, none⟩ = false
theorem Pd.lt {wr : World} {L : Nat} {g : Bool} (h : Pd wr L g) : L < wr.heap.size := World.block_lt_of_cell? wr _ h.c
theorem Pd.below {wr w' : World} {L : Nat} {g : Bool} (h : Pd wr L g) (hb : Below wr.heap.size wr w') : Pd w' L g := ⟨by rw [hb.cell (p := ⟨L, 0, none⟩) h.lt]; exact h.c, by rw [hb.frozen (p := ⟨L, 0, none⟩) h.lt]; exact h.f⟩
theorem Pd.alloc {wr : World} {L : Nat} {g : Bool} (h : Pd wr L g) (o : Obj) : Pd (wr.alloc o) L g := ⟨by rw [World.cell?_alloc_lt _ _ _ h.lt]; exact h.c, by rw [World.frozen?_alloc_old _ _ _ (Nat.ne_of_lt h.lt)]; exact h.f⟩
theorem Three0.lts {w wr : World} {a b c : Nat} (h : Three0 w wr a b c) : w.heap.size < wr.heap.size ∧ w.heap.size + 1 < wr.heap.size ∧ w.heap.size + 1 + 1 < wr.heap.size ∧ w.heap.size + 1 + 1 + 1 < wr.heap.size := by have := h.s; omega
/-- boxes with numbers, and a box that may be written -/
structure Rk (w wr : World) (l : List (Nat × Nat)) (Z : Nat) : Prop where
  k : Bk w wr l
  z : Wb w wr Z
  n : ∀ p, p ∈ l → Z ≠ p.1
theorem Rk.below {w wr w' : World} {l : List (Nat × Nat)} {Z : Nat} (h : Rk w wr l Z) (hb : Below wr.heap.size wr w') : Rk w w' l Z := ⟨h.k.call hb, h.z.below hb, h.n⟩
theorem Rk.drew {w wr : World} {l : List (Nat × Nat)} {Z : Nat} (h : Rk w wr l Z) : Rk w wr.drew l Z := ⟨⟨fun p hp => ⟨(h.k.b p hp).a.drew, (h.k.b p hp).s⟩, below_drewN h.k.l 1⟩, h.z.drew, h.n⟩
theorem Rk.alloc {w wr : World} {l : List (Nat × Nat)} {Z : Nat} (h : Rk w wr l Z) (o : Obj) : Rk w (wr.alloc o) l Z := ⟨h.k.alloc o, h.z.alloc o, h.n⟩
theorem Rk.put4 {w wr : World} {l : List (Nat × Nat)} {Z m : Nat} (h : Rk w wr l Z) : Rk w ((((wr.setCell ⟨Z, 0, none⟩ (.int .u64 (limb m 0 : Nat))).setCell ⟨Z, 1, none⟩ (.int .u64 (limb m 1 : Nat))).setCell ⟨Z, 2, none⟩ (.int .u64 (limb m 2 : Nat))).setCell ⟨Z, 3, none⟩ (.int .u64 (limb m 3 : Nat))) l Z :=
  ⟨h.k.put4 h.z.o h.n, h.z.put4, h.n⟩
theorem heldR2 {w w' : World} {l : List (Nat × Nat)} {Z L1 n1 L2 n2 : Nat} (m1 : (L1, n1) ∈ l) (m2 : (L2, n2) ∈ l) (h : Rk w w' l Z) : w'.cell? ⟨L1, 0, none⟩ = some (.int .u64 (limb n1 0 : Nat)) ∧ w'.cell? ⟨L1, 1, none⟩ = some (.int .u64 (limb n1 1 : Nat)) ∧ w'.cell? ⟨L1, 2, none⟩ = some (.int .u64 (limb n1 2 : Nat)) ∧ w'.cell? ⟨L1, 3, none⟩ = some (.int .u64 (limb n1 3 : Nat)) ∧ w'.cell? ⟨L2, 0, none⟩ = some (.int .u64 (limb n2 0 : Nat)) ∧ w'.cell? ⟨L2, 1, none⟩ = some (.int .u64 (limb n2 1 : Nat)) ∧ w'.cell? ⟨L2, 2, none⟩ = some (.int .u64 (limb n2 2 : Nat)) ∧ w'.cell? ⟨L2, 3, none⟩ = some (.int .u64 (limb n2 3 : Nat)) ∧ Rk w w' l Z := by
  obtain ⟨⟨a0, a1, a2, a3⟩, _⟩ := h.k.cells L1 n1 m1
  obtain ⟨⟨b0, b1, b2, b3⟩, _⟩ := h.k.cells L2 n2 m2
  exact ⟨a0, a1, a2, a3, b0, b1, b2, b3, h⟩
theorem un_heldR2 {w w' : World} {l : List (Nat × Nat)} {Z L1 n1 L2 n2 : Nat} (h : w'.cell? ⟨L1, 0, none⟩ = some (.int .u64 (limb n1 0 : Nat)) ∧ w'.cell? ⟨L1, 1, none⟩ = some (.int .u64 (limb n1 1 : Nat)) ∧ w'.cell? ⟨L1, 2, none⟩ = some (.int .u64 (limb n1 2 : Nat)) ∧ w'.cell? ⟨L1, 3, none⟩ = some (.int .u64 (limb n1 3 : Nat)) ∧ w'.cell? ⟨L2, 0, none⟩ = some (.int .u64 (limb n2 0 : Nat)) ∧ w'.cell? ⟨L2, 1, none⟩ = some (.int .u64 (limb n2 1 : Nat)) ∧ w'.cell? ⟨L2, 2, none⟩ = some (.int .u64 (limb n2 2 : Nat)) ∧ w'.cell? ⟨L2, 3, none⟩ = some (.int .u64 (limb n2 3 : Nat)) ∧ Rk w w' l Z) : Rk w w' l Z := h.2.2.2.2.2.2.2.2
theorem Three0.rk {w wr : World} {a b c : Nat} (h : Three0 w wr a b c) : Rk w wr [(w.heap.size, a), (w.heap.size + 1, b), (w.heap.size + 1 + 1, c)] (w.heap.size + 1 + 1 + 1) :=
  ⟨⟨fun p hp => by
    have := h.s
    simp only [List.mem_cons, List.not_mem_nil, or_false] at hp
    rcases hp with rfl | rfl | rfl
    · exact ⟨h.t.a, by simp only; omega⟩
    · exact ⟨h.t.b, by simp only; omega⟩
    · exact ⟨h.t.c, by simp only; omega⟩, h.t.l⟩, ⟨⟨_, h.z⟩, h.s, by omega⟩, fun p hp => by
    simp only [List.mem_cons, List.not_mem_nil, or_false] at hp
    rcases hp with rfl | rfl | rfl <;> simp only <;> omega⟩
theorem Rk.push {w wr : World} {l : List (Nat × Nat)} {Z : Nat} {t : TypeId} (n : Nat) (h : Rk w wr l Z) : Rk w (wr.alloc (.cells #[.int .u64 (limb n 0 : Nat), .int .u64 (limb n 1 : Nat), .int .u64 (limb n 2 : Nat), .int .u64 (limb n 3 : Nat)] t)) ((wr.heap.size, n) :: l) Z :=
  ⟨h.k.push n, h.z.alloc _, fun p hp => by
    rcases List.mem_cons.1 hp with rfl | hp
    · have := h.z.s; simp only; omega
    · exact h.n p hp⟩
def WorthNo (w : World) (e : Ending) (w' : World) : Prop := e = .returned (.tuple #[U 0, .bool false]) ∧ Below w.heap.size w w'
set_option maxRecDepth 100000 in
set_option maxHeartbeats 4000000 in
theorem worth_no_walk (d f m : Nat) (w : World) (hd : d < 2 ^ 256) (hf : f < 2 ^ 256) (hm : m < 2 ^ 256) (hg : ¬ fgood d f m) :
    Calls Try.prog 68 #[U d, U f, U m] w (WorthNo w) := by
  have Hd := Lib.hid hd
  have Hf := Lib.hid hf
  have Hm := Lib.hid hm
  have Hg := Lib.hid (decide_eq_false hg)
  have T0 := Lib.hid (three0_first (a := d) (b := f) (d := m) (w := w) (t1 := 24) (t2 := 24) (t3 := 24) (t4 := 24))
  obtain ⟨y, hy⟩ : ∃ y, y = mulv d f := ⟨_, rfl⟩
  have Hy := Lib.hid hy.symm
  clear hd hf hm hg hy
  unfold U
  go_enter Try.func68, Try.ntmps68
  go_wp2_with (first
    | (go_at_call 74; refine (fgood_walk d f m _ false Hd.out Hf.out Hm.out Hg.out).mono ?_; rintro e w3 ⟨rfl, hb3⟩; have u3 := (u2.alloc _).below hb3; obtain ⟨f0, f1, f2, f3⟩ := u3.z.frees4; obtain ⟨c0, c1, c2, c3⟩ := u3.z.cells4)
    | (go_at_call 127; refine (timesF_walk d f L true _ Hd.out Hf.out pd1.c pd1.f).mono ?_; rintro e w2 ⟨rfl, hb2, hc2, hf2, _⟩; have u2 := T0.out.below (hb1.trans (hb2.mono hL)); rw [Hy.out]; obtain ⟨p0, p1, p2, p3⟩ := u2.t.a.cells4; obtain ⟨q0, q1, q2, q3⟩ := u2.t.b.cells4; obtain ⟨r0, r1, r2, r3⟩ := u2.t.c.cells4; obtain ⟨m0, m1, m2, m3⟩ := u2.lts; unfold U)
    | (go_at_call 118; refine (product_walk _).mono ?_; rintro e w1 ⟨⟨L, v, rfl, rfl, hc1, hf1, hL, hL1⟩, hb1⟩; have pd1 : Pd w1 L true := ⟨hc1, hf1⟩; have u1 := T0.out.below hb1; obtain ⟨p0, p1, p2, p3⟩ := u1.t.a.cells4; obtain ⟨q0, q1, q2, q3⟩ := u1.t.b.cells4))
  refine bodyPost_ret (v := .tuple #[.agg #[.int .u64 0, .int .u64 0, .int .u64 0, .int .u64 0], .bool false]) (by simp [results, Try.results68, go_sem, c0, c1, c2, c3]) rfl ⟨by rw [U_zero], below_set4 u3.t.l (by omega)⟩
def WorthYes (d f m : Nat) (w : World) (e : Ending) (w' : World) : Prop := e = .returned (.tuple #[U (fw d f m), .bool true]) ∧ Below w.heap.size w w'
set_option maxRecDepth 100000 in
set_option maxHeartbeats 4000000 in
theorem worth_yes_walk (d f m : Nat) (w : World) (hg : fgood d f m) :
    Calls Try.prog 68 #[U d, U f, U m] w (WorthYes d f m w) := by
  have hd : d < 2 ^ 256 := Nat.lt_of_le_of_lt hg.1 MOST_lt
  have hf : f < 2 ^ 256 := Nat.lt_of_le_of_lt hg.2.1 SQ_lt
  have hm : m < 2 ^ 256 := Nat.lt_of_le_of_lt (Nat.le_trans hg.2.2 WAD_SQ) SQ_lt
  have hdf : d * f < 2 ^ 256 := mul_lt_of hg.1 hg.2.1 MOST_SQ
  have Hd := Lib.hid hd
  have Hf := Lib.hid hf
  have Hm := Lib.hid hm
  have Hg := Lib.hid (decide_eq_true hg)
  have T0 := Lib.hid (three0_first (a := d) (b := f) (d := m) (w := w) (t1 := 24) (t2 := 24) (t3 := 24) (t4 := 24))
  obtain ⟨y, hy⟩ : ∃ y, y = mulv d f := ⟨_, rfl⟩
  have hy' : y = d * f := by rw [hy]; exact if_pos hdf
  have Hy := Lib.hid hy.symm
  have Hk := Lib.hid (show mulk d f = true from decide_eq_true hdf)
  obtain ⟨x, hx⟩ : ∃ x, x = fw d f m := ⟨_, rfl⟩
  have HD := Lib.hid (show ∀ w, Calls Try.prog 40 #[U y, U m, U SQ] w fun e w' => e = .returned (.tuple #[U x, .bool true]) ∧ Below w.heap.size w w' by rw [hx, hy']; exact fun w => worthDown (d * f) m w hdf hg.2.2)
  unfold WorthYes
  rw [← hx]
  clear hd hf hm hg hy hy' hx hdf
  unfold U
  go_enter Try.func68, Try.ntmps68
  go_upto_region 5 with (first
    | (go_at_call 128; refine (well_walk L true _ pd3.c).mono ?_; rintro e w4 ⟨rfl, rfl⟩)
    | (go_at_call 74; refine (fgood_walk d f m _ true Hd.out Hf.out Hm.out Hg.out).mono ?_; rintro e w3 ⟨rfl, hb3⟩; have u3 := (u2.alloc _).below hb3; have k3 := (u2.rk.push (t := 24) y).below hb3; have pd3 := (pd2.alloc _).below hb3)
    | (go_at_call 127; refine (timesF_walk d f L true _ Hd.out Hf.out pd1.c pd1.f).mono ?_; rintro e w2 ⟨rfl, hb2, hc2, hf2, _⟩; have pd2 : Pd w2 L true := ⟨by rw [hc2, Hk.out]; rfl, hf2⟩; have u2 := T0.out.below (hb1.trans (hb2.mono hL)); rw [Hy.out]; obtain ⟨p0, p1, p2, p3⟩ := u2.t.a.cells4; obtain ⟨q0, q1, q2, q3⟩ := u2.t.b.cells4; obtain ⟨r0, r1, r2, r3⟩ := u2.t.c.cells4; obtain ⟨m0, m1, m2, m3⟩ := u2.lts; unfold U)
    | (go_at_call 118; refine (product_walk _).mono ?_; rintro e w1 ⟨⟨L, v, rfl, rfl, hc1, hf1, hL, hL1⟩, hb1⟩; have pd1 : Pd w1 L true := ⟨hc1, hf1⟩; have u1 := T0.out.below hb1; obtain ⟨p0, p1, p2, p3⟩ := u1.t.a.cells4; obtain ⟨q0, q1, q2, q3⟩ := u1.t.b.cells4))
  have T0 := Lib.hid k3
  clear k3
  go_region_held3 (fun w' => w'.cell? ⟨w2.heap.size, 0, none⟩ = some (.int .u64 (limb y 0 : Nat)) ∧ w'.cell? ⟨w2.heap.size, 1, none⟩ = some (.int .u64 (limb y 1 : Nat)) ∧ w'.cell? ⟨w2.heap.size, 2, none⟩ = some (.int .u64 (limb y 2 : Nat)) ∧ w'.cell? ⟨w2.heap.size, 3, none⟩ = some (.int .u64 (limb y 3 : Nat)) ∧ w'.cell? ⟨w.heap.size + 1 + 1, 0, none⟩ = some (.int .u64 (limb m 0 : Nat)) ∧ w'.cell? ⟨w.heap.size + 1 + 1, 1, none⟩ = some (.int .u64 (limb m 1 : Nat)) ∧ w'.cell? ⟨w.heap.size + 1 + 1, 2, none⟩ = some (.int .u64 (limb m 2 : Nat)) ∧ w'.cell? ⟨w.heap.size + 1 + 1, 3, none⟩ = some (.int .u64 (limb m 3 : Nat)) ∧ Rk w w' [(w2.heap.size, y), (w.heap.size, d), (w.heap.size + 1, f), (w.heap.size + 1 + 1, m)] (w.heap.size + 1 + 1 + 1))
    ((refine heldR2 (by simp) (by simp) ?_; repeat (first | with_reducible exact u6 | with_reducible exact u5 | with_reducible exact T0.out | with_reducible refine Rk.drew ?_ | with_reducible refine Rk.put4 ?_ | with_reducible exact un_heldR2 (by with_reducible assumption))))
    (first
      | (go_at_call 40; refine (HD.out _).mono ?_; rintro e w6 ⟨rfl, hb6⟩; have u6 := Rk.below (un_heldR2 (by with_reducible assumption)) hb6; obtain ⟨fz, hz⟩ := u6.z.a; obtain ⟨f0, f1, f2, f3⟩ := hz.frees4; obtain ⟨c0, c1, c2, c3⟩ := hz.cells4; unfold U)
      | (go_at_call 63; refine (square_walk _).mono ?_; rintro e w5 ⟨rfl, hb5⟩; have u5 := Rk.below (un_heldR2 (by with_reducible assumption)) hb5; unfold U))
  all_goals
    go_wp2
    refine bodyPost_ret (v := .tuple #[.agg #[.int .u64 (limb x 0 : Nat), .int .u64 (limb x 1 : Nat), .int .u64 (limb x 2 : Nat), .int .u64 (limb x 3 : Nat)], .bool true]) (by simp [results, Try.results68, go_sem, c0, c1, c2, c3]) rfl ⟨rfl, below_set4 u6.k.l (by omega)⟩
end Go.Proofs.Ythglnedlbiembaa

namespace Go.Proofs.Ythglnedlbiembaa
open Go.RowKit Go.Sort

/-- between product and what it made: what lies below is as it was, and all is well -/
structure Ql (W wr : World) (L : Nat) : Prop where
  b : Below L W wr
  p : Pd wr L true
theorem Ql.alloc {W wr : World} {L : Nat} (h : Ql W wr L) (o : Obj) : Ql W (wr.alloc o) L := ⟨h.b.alloc (Nat.le_of_lt h.p.lt) o, h.p.alloc o⟩
theorem Ql.drew {W wr : World} {L : Nat} (h : Ql W wr L) : Ql W wr.drew L := ⟨below_drewN h.b 1, ⟨h.p.c, h.p.f⟩⟩
theorem Ql.put4 {W wr : World} {L M : Nat} {x0 x1 x2 x3 : Value} (h : Ql W wr L) (hM : L < M) : Ql W ((((wr.setCell ⟨M, 0, none⟩ x0).setCell ⟨M, 1, none⟩ x1).setCell ⟨M, 2, none⟩ x2).setCell ⟨M, 3, none⟩ x3) L :=
  ⟨below_set4 h.b (by omega), ⟨by rw [World.cell?_setCell_far _ _ _ _ (by simp only; omega), World.cell?_setCell_far _ _ _ _ (by simp only; omega), World.cell?_setCell_far _ _ _ _ (by simp only; omega), World.cell?_setCell_far _ _ _ _ (by simp only; omega)]; exact h.p.c, by rw [World.frozen?_setCell, World.frozen?_setCell, World.frozen?_setCell, World.frozen?_setCell]; exact h.p.f⟩⟩
theorem Ql.call {W wr w' : World} {L : Nat} (h : Ql W wr L) (hb : Below wr.heap.size wr w') : Ql W w' L := ⟨h.b.trans (hb.mono (Nat.le_of_lt h.p.lt)), h.p.below hb⟩
theorem Ql.times {W wr w' : World} {L : Nat} (h : Ql W wr L) (hb : Below L wr w') (hc : w'.cell? ⟨L, 0, none⟩ = some (.bool true)) (hf : w'.frozen? ⟨L, 0, none⟩ = false) : Ql W w' L := ⟨h.b.trans hb, ⟨hc, hf⟩⟩
theorem hldQ {w W w' : World} {a b c L : Nat} (t : Three0 w W a b c) (hl : w.heap.size + 1 + 1 + 1 < L) (h : Ql W w' L) : w'.cell? ⟨w.heap.size, 0, none⟩ = some (.int .u64 (limb a 0 : Nat)) ∧ w'.cell? ⟨w.heap.size, 1, none⟩ = some (.int .u64 (limb a 1 : Nat)) ∧ w'.cell? ⟨w.heap.size, 2, none⟩ = some (.int .u64 (limb a 2 : Nat)) ∧ w'.cell? ⟨w.heap.size, 3, none⟩ = some (.int .u64 (limb a 3 : Nat)) ∧ w'.cell? ⟨w.heap.size + 1, 0, none⟩ = some (.int .u64 (limb b 0 : Nat)) ∧ w'.cell? ⟨w.heap.size + 1, 1, none⟩ = some (.int .u64 (limb b 1 : Nat)) ∧ w'.cell? ⟨w.heap.size + 1, 2, none⟩ = some (.int .u64 (limb b 2 : Nat)) ∧ w'.cell? ⟨w.heap.size + 1, 3, none⟩ = some (.int .u64 (limb b 3 : Nat)) ∧ w'.cell? ⟨w.heap.size + 1 + 1, 0, none⟩ = some (.int .u64 (limb c 0 : Nat)) ∧ w'.cell? ⟨w.heap.size + 1 + 1, 1, none⟩ = some (.int .u64 (limb c 1 : Nat)) ∧ w'.cell? ⟨w.heap.size + 1 + 1, 2, none⟩ = some (.int .u64 (limb c 2 : Nat)) ∧ w'.cell? ⟨w.heap.size + 1 + 1, 3, none⟩ = some (.int .u64 (limb c 3 : Nat)) ∧ Ql W w' L := by
  obtain ⟨a0, a1, a2, a3⟩ := (t.t.a.below h.b (by omega)).cells4
  obtain ⟨b0, b1, b2, b3⟩ := (t.t.b.below h.b (by omega)).cells4
  obtain ⟨c0, c1, c2, c3⟩ := (t.t.c.below h.b (by omega)).cells4
  exact ⟨a0, a1, a2, a3, b0, b1, b2, b3, c0, c1, c2, c3, h⟩
theorem un_hldQ {w W w' : World} {a b c L : Nat} (h : w'.cell? ⟨w.heap.size, 0, none⟩ = some (.int .u64 (limb a 0 : Nat)) ∧ w'.cell? ⟨w.heap.size, 1, none⟩ = some (.int .u64 (limb a 1 : Nat)) ∧ w'.cell? ⟨w.heap.size, 2, none⟩ = some (.int .u64 (limb a 2 : Nat)) ∧ w'.cell? ⟨w.heap.size, 3, none⟩ = some (.int .u64 (limb a 3 : Nat)) ∧ w'.cell? ⟨w.heap.size + 1, 0, none⟩ = some (.int .u64 (limb b 0 : Nat)) ∧ w'.cell? ⟨w.heap.size + 1, 1, none⟩ = some (.int .u64 (limb b 1 : Nat)) ∧ w'.cell? ⟨w.heap.size + 1, 2, none⟩ = some (.int .u64 (limb b 2 : Nat)) ∧ w'.cell? ⟨w.heap.size + 1, 3, none⟩ = some (.int .u64 (limb b 3 : Nat)) ∧ w'.cell? ⟨w.heap.size + 1 + 1, 0, none⟩ = some (.int .u64 (limb c 0 : Nat)) ∧ w'.cell? ⟨w.heap.size + 1 + 1, 1, none⟩ = some (.int .u64 (limb c 1 : Nat)) ∧ w'.cell? ⟨w.heap.size + 1 + 1, 2, none⟩ = some (.int .u64 (limb c 2 : Nat)) ∧ w'.cell? ⟨w.heap.size + 1 + 1, 3, none⟩ = some (.int .u64 (limb c 3 : Nat)) ∧ Ql W w' L) : Ql W w' L := h.2.2.2.2.2.2.2.2.2.2.2.2
theorem z_one_o {w1 w2 : World} {t : TypeId} {L : Nat} (hL : L < w1.heap.size) (ho : ∀ k, k < (w1.alloc (.cells #[.int .u64 0, .int .u64 0, .int .u64 0, .int .u64 0] t)).heap.size → k ≠ L → w2.heap[k]? = (w1.alloc (.cells #[.int .u64 0, .int .u64 0, .int .u64 0, .int .u64 0] t)).heap[k]?) : Arr .u64 w2 w1.heap.size 4 (fun _ => 0) :=
  Arr.others (Arr.new4 (f := fun _ => 0) rfl) ho (by simp) (by omega)
theorem Three0.belowL {w W w' : World} {a b c L : Nat} (t : Three0 w W a b c) (hl : w.heap.size + 1 + 1 + 1 < L) (hb : Below L W w') : Three0 w w' a b c := by
  have := hb.size; have := t.s
  exact ⟨⟨t.t.a.below hb (by omega), t.t.b.below hb (by omega), t.t.c.below hb (by omega), t.t.l.trans (hb.mono (by omega)), by omega⟩, t.z.below hb hl, by omega⟩
theorem well_c (L : Nat) (g : Bool) (w : World) (h : w.cell? ⟨L, 0, none⟩ = some (.bool g)) : Calls Try.prog 128 #[.pointer (some ⟨L, 0, none⟩)] w fun e w' => e = .returned (.bool g) ∧ Below w.heap.size w w' :=
  (well_walk L g w h).mono fun e w' ⟨he, hw⟩ => ⟨he, by rw [hw]; exact Below.refl _ _⟩
def fok (n k : Nat) : Prop := k ≠ 0 ∧ n * SQ / k ≠ 0 ∧ n * SQ / k ≤ SQ
instance (n k : Nat) : Decidable (fok n k) := by unfold fok; infer_instance
def FoPost (n k : Nat) (w : World) (e : Ending) (w' : World) : Prop := e = .returned (.tuple #[U (if fok n k then n * SQ / k else 0), .bool (decide (fok n k))]) ∧ Below w.heap.size w w'
theorem fok_of {n k : Nat} : fok n k ↔ (qok n SQ k = true ∧ qv n SQ k ≠ 0 ∧ cmpU (qv n SQ k) SQ ≤ 0) := by
  rw [cmpU_le]
  unfold qok qv fok
  rw [decide_eq_true_iff]
  constructor
  · rintro ⟨h1, h2, h3⟩
    have h4 : n * SQ / k < 2 ^ 256 := Nat.lt_of_le_of_lt h3 SQ_lt
    exact ⟨⟨h1, h4⟩, by rw [if_pos ⟨h1, h4⟩]; exact h2, by rw [if_pos ⟨h1, h4⟩]; exact h3⟩
  · rintro ⟨⟨h1, h4⟩, h2, h3⟩
    rw [if_pos ⟨h1, h4⟩] at h2 h3
    exact ⟨h1, h2, h3⟩
theorem fo_no {n k : Nat} {w w' : World} (h : ¬ fok n k) (hb : Below w.heap.size w w') : FoPost n k w (.returned (.tuple #[.agg #[.int .u64 0, .int .u64 0, .int .u64 0, .int .u64 0], .bool false])) w' := ⟨by rw [if_neg h, decide_eq_false h, U_zero], hb⟩
theorem fo_yes {n k : Nat} {w w' : World} (h : fok n k) (hb : Below w.heap.size w w') : FoPost n k w (.returned (.tuple #[U (qv n SQ k), .bool true])) w' := by
  refine ⟨?_, hb⟩
  have hq := (fok_of.1 h).1
  unfold qok at hq
  unfold qv
  rw [if_pos h, decide_eq_true h, if_pos (of_decide_eq_true hq)]
set_option maxRecDepth 100000 in
set_option maxHeartbeats 4000000 in
theorem factorOf_walk (n d m : Nat) (w : World) (hn : n < 2 ^ 256) (hd : d < 2 ^ 256) (hm : m < 2 ^ 256) (hdm : d * m < 2 ^ 256) :
    Calls Try.prog 119 #[U n, U d, U m] w (FoPost n (d * m) w) := by
  have Hd := Lib.hid hd
  have Hm := Lib.hid hm
  obtain ⟨K, hK⟩ : ∃ K, K = d * m := ⟨_, rfl⟩
  have HY := Lib.hid (show mulv d m = K ∧ mulk d m = true from ⟨by rw [hK]; exact if_pos hdm, decide_eq_true hdm⟩)
  rw [← hK]
  obtain ⟨q, hq⟩ : ∃ q, q = qv n SQ K := ⟨_, rfl⟩
  obtain ⟨ok, hok⟩ : ∃ q, q = qok n SQ K := ⟨_, rfl⟩
  have hq256 : q < 2 ^ 256 := by rw [hq]; exact qv_lt _ _ _
  have HD := Lib.hid (show ∀ w, Calls Try.prog 40 #[U n, U SQ, U K] w fun e w' => e = .returned (.tuple #[U q, .bool ok]) ∧ Below w.heap.size w w' by rw [hq, hok]; exact fun w => down_walk n SQ K w hn SQ_lt (by rw [hK]; exact hdm))
  obtain ⟨c, hc⟩ : ∃ c, c = cmpU q SQ := ⟨_, rfl⟩
  have Hc := Lib.hid hc.symm
  have HQ := Lib.hid hq256
  have Hfok := Lib.hid (show fok n K ↔ (ok = true ∧ q ≠ 0 ∧ c ≤ 0) by rw [hc, hq, hok]; exact fok_of)
  have Hqv := Lib.hid hq
  have T0 := Lib.hid (three0_first (a := n) (b := d) (d := m) (w := w) (t1 := 24) (t2 := 24) (t3 := 24) (t4 := 24))
  have heq0 := fun w => eq0_run hq256 w
  clear hn hd hm hdm hK hq hok hc hq256
  unfold U
  go_enter Try.func119, Try.ntmps119
  go_upto_region 2 with (first
    | (go_at_call 118; refine (product_walk _).mono ?_; rintro e w1 ⟨⟨L, v, rfl, rfl, hc1, hf1, hL, hL1⟩, hb1⟩; have pd1 : Pd w1 L true := ⟨hc1, hf1⟩; have u1 := T0.out.below hb1))
  obtain ⟨W, hW⟩ : ∃ W, W = w1 := ⟨_, rfl⟩
  rw [← hW] at u1 pd1
  have hl : w.heap.size + 1 + 1 + 1 < L := by have := T0.out.s; omega
  have U1 := Lib.hid u1
  have P1 := Lib.hid (⟨Below.refl _ _, pd1⟩ : Ql W W L)
  have hLW := pd1.lt
  rw [← hW]
  clear hW hb1 hc1 hf1 hL hL1 u1 pd1
  go_cut [10, 11] (fun p k wx => ∃ M, p = .pointer (some ⟨M, 0, none⟩) ∧ k = .bool ok ∧ Box wx M q ∧ L < M ∧ Ql W wx L)
  case first =>
    go_region_held3 (fun w' => w'.cell? ⟨w.heap.size, 0, none⟩ = some (.int .u64 (limb n 0 : Nat)) ∧ w'.cell? ⟨w.heap.size, 1, none⟩ = some (.int .u64 (limb n 1 : Nat)) ∧ w'.cell? ⟨w.heap.size, 2, none⟩ = some (.int .u64 (limb n 2 : Nat)) ∧ w'.cell? ⟨w.heap.size, 3, none⟩ = some (.int .u64 (limb n 3 : Nat)) ∧ w'.cell? ⟨w.heap.size + 1, 0, none⟩ = some (.int .u64 (limb d 0 : Nat)) ∧ w'.cell? ⟨w.heap.size + 1, 1, none⟩ = some (.int .u64 (limb d 1 : Nat)) ∧ w'.cell? ⟨w.heap.size + 1, 2, none⟩ = some (.int .u64 (limb d 2 : Nat)) ∧ w'.cell? ⟨w.heap.size + 1, 3, none⟩ = some (.int .u64 (limb d 3 : Nat)) ∧ w'.cell? ⟨w.heap.size + 1 + 1, 0, none⟩ = some (.int .u64 (limb m 0 : Nat)) ∧ w'.cell? ⟨w.heap.size + 1 + 1, 1, none⟩ = some (.int .u64 (limb m 1 : Nat)) ∧ w'.cell? ⟨w.heap.size + 1 + 1, 2, none⟩ = some (.int .u64 (limb m 2 : Nat)) ∧ w'.cell? ⟨w.heap.size + 1 + 1, 3, none⟩ = some (.int .u64 (limb m 3 : Nat)) ∧ Ql W w' L)
      ((refine hldQ U1.out hl ?_; repeat (first | with_reducible exact k3 | with_reducible exact k2 | with_reducible exact k1 | with_reducible exact P1.out | with_reducible refine Ql.drew ?_ | with_reducible refine Ql.alloc ?_ _ | with_reducible refine Ql.put4 ?_ (by omega) | with_reducible exact un_hldQ (by with_reducible assumption))))
      (first
        | (go_at_call 40; refine (HD.out _).mono ?_; rintro e v3 ⟨rfl, hv3⟩; have k3 := Ql.call (un_hldQ (by with_reducible assumption)) hv3; have y3 := hv3.size; (try simp at y3); (first | (with_reducible have zA3 := carry0 zA2 hv3) | skip); (first | (with_reducible have zB3 := carry0 zB2 hv3) | skip); (first | (with_reducible have zC3 := z_one hv3) | skip); (first | (obtain ⟨_, _, _, _⟩ := zA3.frees4; obtain ⟨_, _, _, _⟩ := zA3.cells4; have lzA3 := zA3.lt4) | skip); (first | (obtain ⟨_, _, _, _⟩ := zB3.frees4; obtain ⟨_, _, _, _⟩ := zB3.cells4; have lzB3 := zB3.lt4) | skip); (first | (obtain ⟨_, _, _, _⟩ := zC3.frees4; obtain ⟨_, _, _, _⟩ := zC3.cells4; have lzC3 := zC3.lt4) | skip); unfold U)
        | (go_at_call 127; have pq := un_hldQ (W := W) (L := L) (by with_reducible assumption); refine (timesF_walk d m L true _ Hd.out Hm.out pq.p.c pq.p.f).mono ?_; rintro e v2 ⟨rfl, hv2, hc2, hf2, ho2⟩; rw [HY.out.1]; rw [HY.out.2] at hc2; have k2 : Ql W v2 L := Ql.times pq hv2 hc2 hf2; have y2 := hv2.size; (try simp at y2); (first | (with_reducible have zA2 := Arr.others zA ho2 zA.lt4 (by omega)) | skip); (first | (with_reducible have zB2 := z_one_o y1L ho2) | skip); unfold U)
        | (go_at_call 63; refine (square_walk _).mono ?_; rintro e v1 ⟨rfl, hv1⟩; have k1 := Ql.call (un_hldQ (by with_reducible assumption)) hv1; have y1 := k1.b.size; have y1L : L < v1.heap.size := (by omega); (first | (with_reducible have zA := z_one_d hv1) | skip); unfold U))
    all_goals
      go_wp2
      go_meet
      case rel =>
        refine ⟨_, rfl, rfl, ⟨?_, ?_⟩, ?_, ?_⟩
        · repeat (first | with_reducible assumption | with_reducible exact Arr.new4 (f := limb q) rfl | with_reducible refine Arr.put4 (f := fun _ => 0) ?_)
        · simp only [World.size_setCell, World.size_alloc]; omega
        · omega
        · repeat (first | with_reducible exact k3 | with_reducible refine Ql.alloc ?_ _ | with_reducible refine Ql.put4 ?_ (by omega))
  case rest =>
    obtain ⟨M, rfl, rfl, bq, hM, ql⟩ := hcut
    have u4 := U1.out.belowL hl ql.b
    obtain ⟨⟨z0, z1, z2, z3⟩, ⟨y0, y1, y2, y3⟩⟩ : _ ∧ _ := ⟨u4.z.frees4, u4.z.cells4⟩
    obtain ⟨b0, b1, b2, b3⟩ := bq.a.cells4
    cases ok
    · have HN := Lib.hid (show ¬ fok n K from fun h => by have := (Hfok.out.1 h).1; cases this)
      go_upto_region 3 with (fail)
      obtain ⟨m0, m1, m2, m3⟩ := bq.a.grow4
      have pc := ql.p.c
      clear b0 b1 b2 b3 z0 z1 z2 z3 y0 y1 y2 y3
      refine wp_region_quiet_below (by kernel_rfl) (by kernel_rfl) ?_
      repeat (quiet_step (first | (go_at_call 24; exact Calls.regrown_of (cmp_g q SQ _ _ HQ.out SQ_lt Hc.out)) | (go_at_call 63; exact Calls.regrown_of (square_walk _)) | (go_at_call 128; exact Calls.regrown_of (well_c L true _ (cell_regrown pc _ _)))))
      refine wpQuiet_nil ?_
      intro _ hw'
      obtain ⟨⟨dq, osq⟩, hw''⟩ := hw'
      subst hw''
      obtain ⟨w5, hw5⟩ : ∃ w5, w5 = grow (redrawn wc dq) osq := ⟨_, rfl⟩
      have hb5 : Below wc.heap.size wc w5 := by rw [hw5]; exact below_regrown wc dq osq
      rw [← hw5]
      clear hw5
      have u5 := u4.below hb5
      have bq5 := bq.below hb5
      obtain ⟨z0, z1, z2, z3⟩ := u5.z.frees4
      obtain ⟨y0, y1, y2, y3⟩ := u5.z.cells4
      obtain ⟨b0, b1, b2, b3⟩ := bq5.a.cells4
      go_wp2
      refine bodyPost_ret (v := .tuple #[.agg #[.int .u64 0, .int .u64 0, .int .u64 0, .int .u64 0], .bool false]) (by simp [results, Try.results119, go_sem, y0, y1, y2, y3]) rfl (fo_no HN.out (below_set4 u5.t.l (by omega)))
    · by_cases h0 : q = 0
      · have HN := Lib.hid (show ¬ fok n K from fun h => (Hfok.out.1 h).2.1 h0)
        have dd : decide (q = 0) = true := decide_eq_true h0
        clear h0
        go_upto_region 3 with (fail)
        obtain ⟨m0, m1, m2, m3⟩ := bq.a.grow4
        have pc := ql.p.c
        clear b0 b1 b2 b3 z0 z1 z2 z3 y0 y1 y2 y3
        refine wp_region_quiet_below (by kernel_rfl) (by kernel_rfl) ?_
        repeat (quiet_step (first | (go_at_call 24; exact Calls.regrown_of (cmp_g q SQ _ _ HQ.out SQ_lt Hc.out)) | (go_at_call 63; exact Calls.regrown_of (square_walk _)) | (go_at_call 128; exact Calls.regrown_of (well_c L true _ (cell_regrown pc _ _)))))
        refine wpQuiet_nil ?_
        intro _ hw'
        obtain ⟨⟨dq, osq⟩, hw''⟩ := hw'
        subst hw''
        obtain ⟨w5, hw5⟩ : ∃ w5, w5 = grow (redrawn wc dq) osq := ⟨_, rfl⟩
        have hb5 : Below wc.heap.size wc w5 := by rw [hw5]; exact below_regrown wc dq osq
        rw [← hw5]
        clear hw5
        have u5 := u4.below hb5
        have bq5 := bq.below hb5
        obtain ⟨z0, z1, z2, z3⟩ := u5.z.frees4
        obtain ⟨y0, y1, y2, y3⟩ := u5.z.cells4
        obtain ⟨b0, b1, b2, b3⟩ := bq5.a.cells4
        go_wp2
        refine bodyPost_ret (v := .tuple #[.agg #[.int .u64 0, .int .u64 0, .int .u64 0, .int .u64 0], .bool false]) (by simp [results, Try.results119, go_sem, y0, y1, y2, y3]) rfl (fo_no HN.out (below_set4 u5.t.l (by omega)))
      · have dd : decide (q = 0) = false := decide_eq_false h0
        by_cases hcc : c ≤ 0
        · have HN := Lib.hid (show fok n K from Hfok.out.2 ⟨rfl, h0, hcc⟩)
          have hc1 : ¬ 0 < c := by omega
          clear h0 hcc
          go_upto_region 3 with (fail)
          obtain ⟨m0, m1, m2, m3⟩ := bq.a.grow4
          have pc := ql.p.c
          clear b0 b1 b2 b3 z0 z1 z2 z3 y0 y1 y2 y3
          refine wp_region_quiet_below (by kernel_rfl) (by kernel_rfl) ?_
          repeat (quiet_step (first | (go_at_call 24; exact Calls.regrown_of (cmp_g q SQ _ _ HQ.out SQ_lt Hc.out)) | (go_at_call 63; exact Calls.regrown_of (square_walk _)) | (go_at_call 128; exact Calls.regrown_of (well_c L true _ (cell_regrown pc _ _)))))
          refine wpQuiet_nil ?_
          intro _ hw'
          obtain ⟨⟨dq, osq⟩, hw''⟩ := hw'
          subst hw''
          obtain ⟨w5, hw5⟩ : ∃ w5, w5 = grow (redrawn wc dq) osq := ⟨_, rfl⟩
          have hb5 : Below wc.heap.size wc w5 := by rw [hw5]; exact below_regrown wc dq osq
          rw [← hw5]
          clear hw5
          have u5 := u4.below hb5
          have bq5 := bq.below hb5
          obtain ⟨z0, z1, z2, z3⟩ := u5.z.frees4
          obtain ⟨y0, y1, y2, y3⟩ := u5.z.cells4
          obtain ⟨b0, b1, b2, b3⟩ := bq5.a.cells4
          go_wp2
          refine bodyPost_ret (v := .tuple #[.agg #[.int .u64 (limb q 0 : Nat), .int .u64 (limb q 1 : Nat), .int .u64 (limb q 2 : Nat), .int .u64 (limb q 3 : Nat)], .bool true]) (by simp [results, Try.results119, go_sem, y0, y1, y2, y3]) rfl ?_
          rw [Hqv.out]
          exact fo_yes HN.out (below_set4 u5.t.l (by omega))
        · have HN := Lib.hid (show ¬ fok n K from fun h => hcc (Hfok.out.1 h).2.2)
          have hc1 : 0 < c := by omega
          clear h0 hcc
          go_upto_region 3 with (fail)
          obtain ⟨m0, m1, m2, m3⟩ := bq.a.grow4
          have pc := ql.p.c
          clear b0 b1 b2 b3 z0 z1 z2 z3 y0 y1 y2 y3
          refine wp_region_quiet_below (by kernel_rfl) (by kernel_rfl) ?_
          repeat (quiet_step (first | (go_at_call 24; exact Calls.regrown_of (cmp_g q SQ _ _ HQ.out SQ_lt Hc.out)) | (go_at_call 63; exact Calls.regrown_of (square_walk _)) | (go_at_call 128; exact Calls.regrown_of (well_c L true _ (cell_regrown pc _ _)))))
          refine wpQuiet_nil ?_
          intro _ hw'
          obtain ⟨⟨dq, osq⟩, hw''⟩ := hw'
          subst hw''
          obtain ⟨w5, hw5⟩ : ∃ w5, w5 = grow (redrawn wc dq) osq := ⟨_, rfl⟩
          have hb5 : Below wc.heap.size wc w5 := by rw [hw5]; exact below_regrown wc dq osq
          rw [← hw5]
          clear hw5
          have u5 := u4.below hb5
          have bq5 := bq.below hb5
          obtain ⟨z0, z1, z2, z3⟩ := u5.z.frees4
          obtain ⟨y0, y1, y2, y3⟩ := u5.z.cells4
          obtain ⟨b0, b1, b2, b3⟩ := bq5.a.cells4
          go_wp2
          refine bodyPost_ret (v := .tuple #[.agg #[.int .u64 0, .int .u64 0, .int .u64 0, .int .u64 0], .bool false]) (by simp [results, Try.results119, go_sem, y0, y1, y2, y3]) rfl (fo_no HN.out (below_set4 u5.t.l (by omega)))
end Go.Proofs.Ythglnedlbiembaa

namespace Go.Proofs.Ythglnedlbiembaa
open Go.RowKit Go.Sort

theorem four_first {a b c d : Nat} {w : World} : Rk w (((((w.alloc (.cells #[.int .u64 (limb a 0 : Nat), .int .u64 (limb a 1 : Nat), .int .u64 (limb a 2 : Nat), .int .u64 (limb a 3 : Nat)] 24)).alloc (.cells #[.int .u64 (limb b 0 : Nat), .int .u64 (limb b 1 : Nat), .int .u64 (limb b 2 : Nat), .int .u64 (limb b 3 : Nat)] 24)).alloc (.cells #[.int .u64 (limb c 0 : Nat), .int .u64 (limb c 1 : Nat), .int .u64 (limb c 2 : Nat), .int .u64 (limb c 3 : Nat)] 24)).alloc (.cells #[.int .u64 (limb d 0 : Nat), .int .u64 (limb d 1 : Nat), .int .u64 (limb d 2 : Nat), .int .u64 (limb d 3 : Nat)] 24)).alloc (.cells #[.int .u64 0, .int .u64 0, .int .u64 0, .int .u64 0] 24)) [(w.heap.size + 1 + 1 + 1, d), (w.heap.size + 1 + 1, c), (w.heap.size + 1, b), (w.heap.size, a)] (w.heap.size + 1 + 1 + 1 + 1) := by
  have h := (((Bk.push (t := 24) d (Bk.three (a := a) (b := b) (c := c) (w := w) (t1 := 24) (t2 := 24) (t3 := 24))).alloc (.cells #[.int .u64 0, .int .u64 0, .int .u64 0, .int .u64 0] 24)))
  rw [World.size_alloc, World.size_alloc, World.size_alloc] at h
  refine ⟨h, (Zb.new (by simp) (by simp; omega)).wb, fun p hp => ?_⟩
  simp only [List.mem_cons, List.not_mem_nil, or_false] at hp
  rcases hp with rfl | rfl | rfl | rfl <;> simp only <;> omega
theorem fw_small {d f m : Nat} (h : fgood d f m) : fw d f m ≤ d * WAD := by
  unfold fw
  refine Nat.div_le_of_le_mul ?_
  calc d * f * m ≤ d * SQ * WAD := Nat.mul_le_mul (Nat.mul_le_mul_left d h.2.1) h.2.2
    _ = SQ * (d * WAD) := by rw [Nat.mul_comm d SQ, Nat.mul_assoc]
theorem fw_lt {d f m : Nat} (h : fgood d f m) : fw d f m ≤ MOST * WAD := Nat.le_trans (fw_small h) (Nat.mul_le_mul_right WAD h.1)
theorem MOST_WAD : MOST * WAD + MOST < 2 ^ 256 := by decide
theorem MOST_MOST : MOST + MOST < 2 ^ 256 := by decide
set_option maxRecDepth 100000 in
set_option maxHeartbeats 4000000 in
theorem grow_main (d f m x : Nat) (w : World) (hg : fgood d f m) (hx0 : x ≠ 0) (hs : d + x ≤ MOST) :
    Calls Try.prog 69 #[U d, U f, U m, U x] w (FoPost (fw d f m + x) ((d + x) * m) w) := by
  have hd : d < 2 ^ 256 := Nat.lt_of_le_of_lt hg.1 MOST_lt
  have hm : m < 2 ^ 256 := Nat.lt_of_le_of_lt hg.2.2 WAD_lt
  have hx : x < 2 ^ 256 := by have := MOST_lt; omega
  have hdm : (d + x) * m < 2 ^ 256 := Nat.lt_of_le_of_lt (Nat.mul_le_mul hs hg.2.2) (by have := MOST_WAD; omega)
  have hvl : fw d f m < 2 ^ 256 := by have := fw_lt hg; have := MOST_WAD; omega
  have hul : fw d f m + x < 2 ^ 256 := by have := fw_lt hg; have := MOST_WAD; omega
  have hs2 : d + x < 2 ^ 256 := by have := MOST_lt; omega
  have T0 := Lib.hid (four_first (a := d) (b := f) (c := m) (d := x) (w := w))
  obtain ⟨y, hy⟩ : ∃ v, v = addv d x := ⟨_, rfl⟩
  obtain ⟨yk, hyk⟩ : ∃ v, v = addk d x := ⟨_, rfl⟩
  have Hy := Lib.hid hy.symm
  have Hyk := Lib.hid hyk.symm
  have hy2 : y = d + x := by rw [hy]; exact if_pos hs2
  have Hyt := Lib.hid (show yk = true by rw [hyk]; exact decide_eq_true hs2)
  have Hyl := Lib.hid (show y < 2 ^ 256 by rw [hy2]; exact hs2)
  have Hma := Lib.hid (show decide (y ≤ MOST) = true by rw [hy2]; exact decide_eq_true hs)
  obtain ⟨v, hv⟩ : ∃ v, v = fw d f m := ⟨_, rfl⟩
  obtain ⟨u, hu⟩ : ∃ v, v = fw d f m + x := ⟨_, rfl⟩
  have Hm2 := Lib.hid (show addv v x = u ∧ addk v x = true by rw [hv, hu]; exact ⟨if_pos hul, decide_eq_true hul⟩)
  have Hvl := Lib.hid (show v < 2 ^ 256 by rw [hv]; exact hvl)
  have Hv := Lib.hid hv.symm
  have Hd := Lib.hid hd
  have Hx := Lib.hid hx
  have Hg := Lib.hid hg
  unfold FoPost
  obtain ⟨r, hr⟩ : ∃ r, r = if fok (fw d f m + x) ((d + x) * m) then (fw d f m + x) * SQ / ((d + x) * m) else 0 := ⟨_, rfl⟩
  obtain ⟨ok, hok⟩ : ∃ r, r = decide (fok (fw d f m + x) ((d + x) * m)) := ⟨_, rfl⟩
  have HF := Lib.hid (show ∀ w, Calls Try.prog 119 #[U u, U y, U m] w fun e w' => e = .returned (.tuple #[U r, .bool ok]) ∧ Below w.heap.size w w' by rw [hr, hok, hu, hy2]; exact fun w => factorOf_walk (fw d f m + x) (d + x) m w hul hs2 hm hdm)
  have dx : decide (x = 0) = false := decide_eq_false hx0
  have heqx := fun w => eq0_run hx w
  rw [← hr, ← hok]
  clear hr hok hv hu hy hyk hd hx hg hm hdm hvl hul hs2 hy2 hs hx0
  rw [Hyt.out] at Hyk
  unfold U
  go_enter Try.func69, Try.ntmps69
  go_wp2_with (first
    | (go_at_call 119; refine (HF.out _).mono ?_; rintro e w5 ⟨rfl, hb5⟩; have k5 := k4.below hb5; obtain ⟨fx, hx⟩ := k5.z.a; obtain ⟨aa0, aa1, aa2, aa3⟩ := hx.frees4; obtain ⟨bb0, bb1, bb2, bb3⟩ := hx.cells4; have lx := k5.z.s; unfold U)
    | (go_at_call 15; have g5 := k3; clear g5; refine (add_c v x _ Hvl.out Hx.out).mono ?_; rintro e w4 ⟨rfl, hb4⟩; rw [Hm2.out.1, Hm2.out.2]; have k4 := Rk.push (t := 24) u (k3.below hb4); have j4 := k3.below hb4; obtain ⟨⟨r0, r1, r2, r3⟩, r4⟩ := k4.k.cells w4.heap.size u (by simp); obtain ⟨⟨s0, s1, s2, s3⟩, s4⟩ := j4.k.cells w2.heap.size y (by simp); obtain ⟨⟨t0, t1, t2, t3⟩, t4⟩ := j4.k.cells (w.heap.size + 1 + 1) m (by simp); unfold U)
    | (go_at_call 61; refine (amount_g y _ true Hyl.out Hma.out).mono ?_; rintro e w3 ⟨rfl, hb3⟩; have k3 := k2.below hb3; obtain ⟨⟨h0, h1, h2, h3⟩, h4⟩ := k3.k.cells w1.heap.size v (by simp); obtain ⟨⟨i0, i1, i2, i3⟩, i4⟩ := k3.k.cells (w.heap.size + 1 + 1 + 1) x (by simp); obtain ⟨fy, hy⟩ := k3.z.a; obtain ⟨l0, l1, l2, l3⟩ := hy.frees4; obtain ⟨o0, o1, o2, o3⟩ := hy.cells4; have ly := k3.z.s)
    | (go_at_call 15; have g5 := k1; clear g5; refine (add_c d x _ Hd.out Hx.out).mono ?_; rintro e w2 ⟨rfl, hb2⟩; rw [Hy.out, Hyk.out]; have k2 := Rk.push (t := 24) y (k1.below hb2); have j2 := k1.below hb2; obtain ⟨⟨b0, b1, b2, b3⟩, b4⟩ := k2.k.cells w2.heap.size y (by simp); obtain ⟨⟨a0, a1, a2, a3⟩, a4⟩ := j2.k.cells (w.heap.size + 1 + 1 + 1) x (by simp); obtain ⟨fz, hz⟩ := j2.z.a; obtain ⟨f0, f1, f2, f3⟩ := hz.frees4; obtain ⟨c0, c1, c2, c3⟩ := hz.cells4; have lz := j2.z.s; unfold U)
    | (go_at_call 68; refine (worth_yes_walk d f m _ Hg.out).mono ?_; rintro e w1 ⟨rfl, hb1⟩; rw [Hv.out]; have k1 := Rk.push (t := 24) v (T0.out.below hb1); obtain ⟨⟨p0, p1, p2, p3⟩, p4⟩ := k1.k.cells w.heap.size d (by simp); obtain ⟨⟨q0, q1, q2, q3⟩, q4⟩ := k1.k.cells (w.heap.size + 1 + 1 + 1) x (by simp); unfold U))
  refine bodyPost_ret (v := .tuple #[.agg #[.int .u64 (limb r 0 : Nat), .int .u64 (limb r 1 : Nat), .int .u64 (limb r 2 : Nat), .int .u64 (limb r 3 : Nat)], .bool ok]) (by simp [results, Try.results69, go_sem, bb0, bb1, bb2, bb3]) rfl ⟨rfl, below_set4 k5.k.l (by omega)⟩
theorem Rk.pushz {w wr : World} {l : List (Nat × Nat)} {Z : Nat} {t : TypeId} (h : Rk w wr l Z) : Rk w (wr.alloc (.cells #[.int .u64 0, .int .u64 0, .int .u64 0, .int .u64 0] t)) ((wr.heap.size, 0) :: l) Z := Rk.push 0 h
def GrowNo (w : World) (e : Ending) (w' : World) : Prop := e = .returned (.tuple #[U 0, .bool false]) ∧ Below w.heap.size w w'
set_option maxRecDepth 100000 in
set_option maxHeartbeats 4000000 in
theorem grow_bad (d f m x : Nat) (w : World) (hd : d < 2 ^ 256) (hf : f < 2 ^ 256) (hm : m < 2 ^ 256) (hx : x < 2 ^ 256) (hg : ¬ fgood d f m) :
    Calls Try.prog 69 #[U d, U f, U m, U x] w (GrowNo w) := by
  have T0 := Lib.hid (four_first (a := d) (b := f) (c := m) (d := x) (w := w))
  obtain ⟨y, hy⟩ : ∃ v, v = addv d x := ⟨_, rfl⟩
  obtain ⟨yk, hyk⟩ : ∃ v, v = addk d x := ⟨_, rfl⟩
  have Hy := Lib.hid hy.symm
  have Hyk := Lib.hid hyk.symm
  have Hd := Lib.hid hd
  have Hf := Lib.hid hf
  have Hm := Lib.hid hm
  have Hx := Lib.hid hx
  have Hg := Lib.hid hg
  unfold GrowNo
  rw [U_zero]
  clear hy hyk hd hf hm hx hg
  unfold U
  go_enter Try.func69, Try.ntmps69
  go_wp2_with (first
    | (go_at_call 15; have g5 := k1; clear g5; refine (add_c d x _ Hd.out Hx.out).mono ?_; rintro e w2 ⟨rfl, hb2⟩; rw [Hy.out, Hyk.out]; have k2 := Rk.push (t := 24) y (k1.below hb2); have j2 := k1.below hb2; obtain ⟨⟨b0, b1, b2, b3⟩, b4⟩ := k2.k.cells w2.heap.size y (by simp); obtain ⟨⟨a0, a1, a2, a3⟩, a4⟩ := j2.k.cells (w.heap.size + 1 + 1 + 1) x (by simp); obtain ⟨fz, hz⟩ := j2.z.a; obtain ⟨f0, f1, f2, f3⟩ := hz.frees4; obtain ⟨c0, c1, c2, c3⟩ := hz.cells4; have lz := j2.z.s; unfold U)
    | (go_at_call 68; refine (worth_no_walk d f m _ Hd.out Hf.out Hm.out Hg.out).mono ?_; rintro e w1 ⟨rfl, hb1⟩; rw [U_zero]; have k1 := Rk.pushz (t := 24) (T0.out.below hb1); obtain ⟨⟨p0, p1, p2, p3⟩, p4⟩ := k1.k.cells w.heap.size d (by simp); obtain ⟨⟨q0, q1, q2, q3⟩, q4⟩ := k1.k.cells (w.heap.size + 1 + 1 + 1) x (by simp)))
  refine bodyPost_ret (v := .tuple #[.agg #[.int .u64 0, .int .u64 0, .int .u64 0, .int .u64 0], .bool false]) (by simp [results, Try.results69, go_sem, c0, c1, c2, c3, lz]) rfl ⟨rfl, ?_⟩
  exact (below_set4 j2.k.l (by omega)).alloc (by simp only [World.size_setCell]; have := j2.k.l.size; omega) _
set_option maxRecDepth 100000 in
set_option maxHeartbeats 4000000 in
theorem grow_far (d f m x : Nat) (w : World) (hx : x < 2 ^ 256) (hg : fgood d f m) (hno : ¬ (x ≠ 0 ∧ d + x ≤ MOST)) :
    Calls Try.prog 69 #[U d, U f, U m, U x] w (GrowNo w) := by
  have hd : d < 2 ^ 256 := Nat.lt_of_le_of_lt hg.1 MOST_lt
  have T0 := Lib.hid (four_first (a := d) (b := f) (c := m) (d := x) (w := w))
  obtain ⟨y, hy⟩ : ∃ v, v = addv d x := ⟨_, rfl⟩
  obtain ⟨yk, hyk⟩ : ∃ v, v = addk d x := ⟨_, rfl⟩
  have Hy := Lib.hid hy.symm
  have Hyk := Lib.hid hyk.symm
  obtain ⟨v, hv⟩ : ∃ v, v = fw d f m := ⟨_, rfl⟩
  have Hv := Lib.hid hv.symm
  have Hd := Lib.hid hd
  have Hx := Lib.hid hx
  have Hg := Lib.hid hg
  have heqx := fun w => eq0_run hx w
  have part : x = 0 ∨ x ≠ 0 ∧ yk = false ∨ x ≠ 0 ∧ yk = true ∧ y < 2 ^ 256 ∧ decide (y ≤ MOST) = false := by
    by_cases h0 : x = 0
    · exact .inl h0
    · by_cases h1 : d + x < 2 ^ 256
      · have hy2 : y = d + x := by rw [hy]; exact if_pos h1
        exact .inr (.inr ⟨h0, by rw [hyk]; exact decide_eq_true h1, by rw [hy2]; exact h1, decide_eq_false fun h => hno ⟨h0, by rw [← hy2]; exact h⟩⟩)
      · exact .inr (.inl ⟨h0, by rw [hyk]; exact decide_eq_false h1⟩)
  unfold GrowNo
  rw [U_zero]
  clear hy hyk hd hx hg hv hno
  unfold U
  rcases part with h0 | ⟨h0, rfl⟩ | ⟨h0, rfl, h1, h2⟩
  · have dx : decide (x = 0) = true := decide_eq_true h0
    clear h0
    go_enter Try.func69, Try.ntmps69
    go_wp2_with (first
      | (go_at_call 15; have g5 := k1; clear g5; refine (add_c d x _ Hd.out Hx.out).mono ?_; rintro e w2 ⟨rfl, hb2⟩; rw [Hy.out, Hyk.out]; have k2 := Rk.push (t := 24) y (k1.below hb2); have j2 := k1.below hb2; obtain ⟨⟨b0, b1, b2, b3⟩, b4⟩ := k2.k.cells w2.heap.size y (by simp); obtain ⟨⟨a0, a1, a2, a3⟩, a4⟩ := j2.k.cells (w.heap.size + 1 + 1 + 1) x (by simp); obtain ⟨fz, hz⟩ := j2.z.a; obtain ⟨f0, f1, f2, f3⟩ := hz.frees4; obtain ⟨c0, c1, c2, c3⟩ := hz.cells4; have lz := j2.z.s; unfold U)
      | (go_at_call 68; refine (worth_yes_walk d f m _ Hg.out).mono ?_; rintro e w1 ⟨rfl, hb1⟩; rw [Hv.out]; have k1 := Rk.push (t := 24) v (T0.out.below hb1); obtain ⟨⟨p0, p1, p2, p3⟩, p4⟩ := k1.k.cells w.heap.size d (by simp); obtain ⟨⟨q0, q1, q2, q3⟩, q4⟩ := k1.k.cells (w.heap.size + 1 + 1 + 1) x (by simp); unfold U))
    refine bodyPost_ret (v := .tuple #[.agg #[.int .u64 0, .int .u64 0, .int .u64 0, .int .u64 0], .bool false]) (by simp [results, Try.results69, go_sem, c0, c1, c2, c3, lz]) rfl ⟨rfl, ?_⟩
    exact (below_set4 j2.k.l (by omega)).alloc (by simp only [World.size_setCell]; have := j2.k.l.size; omega) _
  · have dx : decide (x = 0) = false := decide_eq_false h0
    clear h0
    go_enter Try.func69, Try.ntmps69
    go_wp2_with (first
      | (go_at_call 15; have g5 := k1; clear g5; refine (add_c d x _ Hd.out Hx.out).mono ?_; rintro e w2 ⟨rfl, hb2⟩; rw [Hy.out, Hyk.out]; have k2 := Rk.push (t := 24) y (k1.below hb2); have j2 := k1.below hb2; obtain ⟨⟨b0, b1, b2, b3⟩, b4⟩ := k2.k.cells w2.heap.size y (by simp); obtain ⟨⟨a0, a1, a2, a3⟩, a4⟩ := j2.k.cells (w.heap.size + 1 + 1 + 1) x (by simp); obtain ⟨fz, hz⟩ := j2.z.a; obtain ⟨f0, f1, f2, f3⟩ := hz.frees4; obtain ⟨c0, c1, c2, c3⟩ := hz.cells4; have lz := j2.z.s; unfold U)
      | (go_at_call 68; refine (worth_yes_walk d f m _ Hg.out).mono ?_; rintro e w1 ⟨rfl, hb1⟩; rw [Hv.out]; have k1 := Rk.push (t := 24) v (T0.out.below hb1); obtain ⟨⟨p0, p1, p2, p3⟩, p4⟩ := k1.k.cells w.heap.size d (by simp); obtain ⟨⟨q0, q1, q2, q3⟩, q4⟩ := k1.k.cells (w.heap.size + 1 + 1 + 1) x (by simp); unfold U))
    refine bodyPost_ret (v := .tuple #[.agg #[.int .u64 0, .int .u64 0, .int .u64 0, .int .u64 0], .bool false]) (by simp [results, Try.results69, go_sem, c0, c1, c2, c3, lz]) rfl ⟨rfl, ?_⟩
    exact (below_set4 j2.k.l (by omega)).alloc (by simp only [World.size_setCell]; have := j2.k.l.size; omega) _
  · have dx : decide (x = 0) = false := decide_eq_false h0
    have Hyl := Lib.hid h1
    have Hma := Lib.hid h2
    clear h0 h1 h2
    go_enter Try.func69, Try.ntmps69
    go_wp2_with (first
      | (go_at_call 61; refine (amount_g y _ false Hyl.out Hma.out).mono ?_; rintro e w3 ⟨rfl, hb3⟩; have k3 := k2.below hb3; obtain ⟨⟨h0, h1, h2, h3⟩, h4⟩ := k3.k.cells w1.heap.size v (by simp); obtain ⟨⟨i0, i1, i2, i3⟩, i4⟩ := k3.k.cells (w.heap.size + 1 + 1 + 1) x (by simp); obtain ⟨fy, hy⟩ := k3.z.a; obtain ⟨l0, l1, l2, l3⟩ := hy.frees4; obtain ⟨o0, o1, o2, o3⟩ := hy.cells4; have ly := k3.z.s)
      | (go_at_call 15; have g5 := k1; clear g5; refine (add_c d x _ Hd.out Hx.out).mono ?_; rintro e w2 ⟨rfl, hb2⟩; rw [Hy.out, Hyk.out]; have k2 := Rk.push (t := 24) y (k1.below hb2); have j2 := k1.below hb2; obtain ⟨⟨b0, b1, b2, b3⟩, b4⟩ := k2.k.cells w2.heap.size y (by simp); obtain ⟨⟨a0, a1, a2, a3⟩, a4⟩ := j2.k.cells (w.heap.size + 1 + 1 + 1) x (by simp); obtain ⟨fz, hz⟩ := j2.z.a; obtain ⟨f0, f1, f2, f3⟩ := hz.frees4; obtain ⟨c0, c1, c2, c3⟩ := hz.cells4; have lz := j2.z.s; unfold U)
      | (go_at_call 68; refine (worth_yes_walk d f m _ Hg.out).mono ?_; rintro e w1 ⟨rfl, hb1⟩; rw [Hv.out]; have k1 := Rk.push (t := 24) v (T0.out.below hb1); obtain ⟨⟨p0, p1, p2, p3⟩, p4⟩ := k1.k.cells w.heap.size d (by simp); obtain ⟨⟨q0, q1, q2, q3⟩, q4⟩ := k1.k.cells (w.heap.size + 1 + 1 + 1) x (by simp); unfold U))
    refine bodyPost_ret (v := .tuple #[.agg #[.int .u64 0, .int .u64 0, .int .u64 0, .int .u64 0], .bool false]) (by simp [results, Try.results69, go_sem, o0, o1, o2, o3]) rfl ⟨rfl, ?_⟩
    exact below_set4 k3.k.l (by omega)
end Go.Proofs.Ythglnedlbiembaa

namespace Go.Proofs.Ythglnedlbiembaa
open Go.RowKit Go.Sort

theorem hldW2 {W w' : World} {B1 b1 B2 b2 : Nat} (h1 : Arr .u64 W B1 4 (limb b1)) (h2 : Arr .u64 W B2 4 (limb b2)) (h : Below W.heap.size W w') : w'.cell? ⟨B1, 0, none⟩ = some (.int .u64 (limb b1 0 : Nat)) ∧ w'.cell? ⟨B1, 1, none⟩ = some (.int .u64 (limb b1 1 : Nat)) ∧ w'.cell? ⟨B1, 2, none⟩ = some (.int .u64 (limb b1 2 : Nat)) ∧ w'.cell? ⟨B1, 3, none⟩ = some (.int .u64 (limb b1 3 : Nat)) ∧ w'.cell? ⟨B2, 0, none⟩ = some (.int .u64 (limb b2 0 : Nat)) ∧ w'.cell? ⟨B2, 1, none⟩ = some (.int .u64 (limb b2 1 : Nat)) ∧ w'.cell? ⟨B2, 2, none⟩ = some (.int .u64 (limb b2 2 : Nat)) ∧ w'.cell? ⟨B2, 3, none⟩ = some (.int .u64 (limb b2 3 : Nat)) ∧ Below W.heap.size W w' := by
  obtain ⟨a0, a1, a2, a3⟩ := (h1.below h h1.lt4).cells4
  obtain ⟨b0, b1, b2, b3⟩ := (h2.below h h2.lt4).cells4
  exact ⟨a0, a1, a2, a3, b0, b1, b2, b3, h⟩
theorem un_hldW2 {W w' : World} {B1 b1 B2 b2 : Nat} (h : w'.cell? ⟨B1, 0, none⟩ = some (.int .u64 (limb b1 0 : Nat)) ∧ w'.cell? ⟨B1, 1, none⟩ = some (.int .u64 (limb b1 1 : Nat)) ∧ w'.cell? ⟨B1, 2, none⟩ = some (.int .u64 (limb b1 2 : Nat)) ∧ w'.cell? ⟨B1, 3, none⟩ = some (.int .u64 (limb b1 3 : Nat)) ∧ w'.cell? ⟨B2, 0, none⟩ = some (.int .u64 (limb b2 0 : Nat)) ∧ w'.cell? ⟨B2, 1, none⟩ = some (.int .u64 (limb b2 1 : Nat)) ∧ w'.cell? ⟨B2, 2, none⟩ = some (.int .u64 (limb b2 2 : Nat)) ∧ w'.cell? ⟨B2, 3, none⟩ = some (.int .u64 (limb b2 3 : Nat)) ∧ Below W.heap.size W w') : Below W.heap.size W w' := h.2.2.2.2.2.2.2.2
set_option maxRecDepth 100000 in
set_option maxHeartbeats 4000000 in
theorem move_of (d f m v r : Nat) (ok gm b : Bool) (w : World) (hm : m < 2 ^ 256) (hgm : decide (m ≤ WAD) = gm)
    (HW0 : ∀ w, Calls Try.prog 68 #[U d, U f, U WAD] w fun e w' => e = .returned (.tuple #[U v, .bool ok]) ∧ Below w.heap.size w w')
    (HF0 : ok = true → gm = true → ∀ w, Calls Try.prog 119 #[U v, U d, U m] w fun e w' => e = .returned (.tuple #[U r, .bool b]) ∧ Below w.heap.size w w')
    (h00 : (ok && gm) = false → r = 0 ∧ b = false) :
    Calls Try.prog 73 #[U d, U f, U m] w fun e w' => e = .returned (.tuple #[U r, .bool b]) ∧ Below w.heap.size w w' := by
  have T0 := Lib.hid (three0_first (a := d) (b := f) (d := m) (w := w) (t1 := 24) (t2 := 24) (t3 := 24) (t4 := 24)).rk
  have HW := Lib.hid HW0
  have HF := Lib.hid HF0
  have H0 := Lib.hid h00
  have Hm := Lib.hid hm
  have Hgm := Lib.hid hgm
  clear HW0 HF0 h00 hm hgm
  unfold U
  go_enter Try.func73, Try.ntmps73
  go_upto_region 1 with (fail)
  obtain ⟨W, hW⟩ : ∃ W, W = ((((w.alloc (.cells #[.int .u64 (limb d 0 : Nat), .int .u64 (limb d 1 : Nat), .int .u64 (limb d 2 : Nat), .int .u64 (limb d 3 : Nat)] 24)).alloc (.cells #[.int .u64 (limb f 0 : Nat), .int .u64 (limb f 1 : Nat), .int .u64 (limb f 2 : Nat), .int .u64 (limb f 3 : Nat)] 24)).alloc (.cells #[.int .u64 (limb m 0 : Nat), .int .u64 (limb m 1 : Nat), .int .u64 (limb m 2 : Nat), .int .u64 (limb m 3 : Nat)] 24)).alloc (.cells #[.int .u64 0, .int .u64 0, .int .u64 0, .int .u64 0] 24)) := ⟨_, rfl⟩
  have t0 := T0.out
  rw [← hW] at t0
  rw [← hW]
  clear T0 hW
  have B1 := Lib.hid (t0.k.b (w.heap.size, d) (by simp)).a
  have B2 := Lib.hid (t0.k.b (w.heap.size + 1, f) (by simp)).a
  have T0 := Lib.hid t0
  clear t0
  go_cut [8, 9] (fun p k wx => ∃ M, p = .pointer (some ⟨M, 0, none⟩) ∧ k = .bool ok ∧ Box wx M v ∧ Below W.heap.size W wx)
  case first =>
    go_region_held3 (fun w' => w'.cell? ⟨w.heap.size, 0, none⟩ = some (.int .u64 (limb d 0 : Nat)) ∧ w'.cell? ⟨w.heap.size, 1, none⟩ = some (.int .u64 (limb d 1 : Nat)) ∧ w'.cell? ⟨w.heap.size, 2, none⟩ = some (.int .u64 (limb d 2 : Nat)) ∧ w'.cell? ⟨w.heap.size, 3, none⟩ = some (.int .u64 (limb d 3 : Nat)) ∧ w'.cell? ⟨w.heap.size + 1, 0, none⟩ = some (.int .u64 (limb f 0 : Nat)) ∧ w'.cell? ⟨w.heap.size + 1, 1, none⟩ = some (.int .u64 (limb f 1 : Nat)) ∧ w'.cell? ⟨w.heap.size + 1, 2, none⟩ = some (.int .u64 (limb f 2 : Nat)) ∧ w'.cell? ⟨w.heap.size + 1, 3, none⟩ = some (.int .u64 (limb f 3 : Nat)) ∧ Below W.heap.size W w')
      ((refine hldW2 B1.out B2.out ?_; repeat (first | with_reducible exact k2 | with_reducible exact k1 | with_reducible exact Below.refl _ _ | with_reducible refine kpD ?_ | with_reducible refine kpA ?_ _ | with_reducible refine kpP ?_ (by omega) | with_reducible exact un_hldW2 (by with_reducible assumption))))
      (first
        | (go_at_call 68; refine (HW.out _).mono ?_; rintro e v2 ⟨rfl, hv2⟩; have k2 := kpB (un_hldW2 (by with_reducible assumption)) hv2; have y2 := hv2.size; (try simp at y2); (first | (with_reducible have zA2 := carry0 zA hv2) | skip); (first | (with_reducible have zB2 := z_one hv2) | skip); (first | (obtain ⟨_, _, _, _⟩ := zA2.frees4; obtain ⟨_, _, _, _⟩ := zA2.cells4; have lzA2 := zA2.lt4) | skip); (first | (obtain ⟨_, _, _, _⟩ := zB2.frees4; obtain ⟨_, _, _, _⟩ := zB2.cells4; have lzB2 := zB2.lt4) | skip); unfold U)
        | (go_at_call 72; refine (one_walk _).mono ?_; rintro e v1 ⟨rfl, hv1⟩; have k1 := kpB (un_hldW2 (by with_reducible assumption)) hv1; have y1 := k1.size; (first | (with_reducible have zA := z_one_d hv1) | skip); unfold U))
    all_goals
      go_wp2
      go_meet
      case rel =>
        refine ⟨_, rfl, rfl, ⟨?_, ?_⟩, ?_⟩
        · repeat (first | with_reducible assumption | with_reducible exact Arr.new4 (f := limb v) rfl | with_reducible refine Arr.put4 (f := fun _ => 0) ?_)
        · simp only [World.size_setCell, World.size_alloc]; omega
        · repeat (first | with_reducible exact k2 | with_reducible refine kpA ?_ _ | with_reducible refine kpP ?_ (by omega))
  case rest =>
    obtain ⟨M, rfl, rfl, bv, hbl⟩ := hcut
    have k3 := Rk.below T0.out hbl
    obtain ⟨⟨m0, m1, m2, m3⟩, m4⟩ := k3.k.cells (w.heap.size + 1 + 1) m (by simp)
    obtain ⟨fx, fh⟩ := k3.z.a
    obtain ⟨f0, f1, f2, f3⟩ := fh.frees4
    obtain ⟨c0, c1, c2, c3⟩ := fh.cells4
    have fl := k3.z.s
    cases ok
    · obtain ⟨rfl, rfl⟩ := H0.out rfl
      go_wp2
      refine bodyPost_ret (v := .tuple #[.agg #[.int .u64 0, .int .u64 0, .int .u64 0, .int .u64 0], .bool false]) (by simp [results, Try.results73, go_sem, c0, c1, c2, c3]) rfl ⟨rfl, below_set4 k3.k.l (by omega)⟩
    · cases gm
      · obtain ⟨rfl, rfl⟩ := H0.out rfl
        go_wp2_with (go_at_call 59; refine (good_g m _ _ Hm.out Hgm.out).mono ?_; rintro e w4 ⟨rfl, hb4⟩; have k4 := k3.below hb4; obtain ⟨gx, gh⟩ := k4.z.a; obtain ⟨g0, g1, g2, g3⟩ := gh.frees4; obtain ⟨d0, d1, d2, d3⟩ := gh.cells4; have gl := k4.z.s)
        refine bodyPost_ret (v := .tuple #[.agg #[.int .u64 0, .int .u64 0, .int .u64 0, .int .u64 0], .bool false]) (by simp [results, Try.results73, go_sem, d0, d1, d2, d3]) rfl ⟨rfl, below_set4 k4.k.l (by omega)⟩
      · have HF2 := Lib.hid (HF.out rfl rfl)
        clear HF
        go_wp2_with (first
          | (go_at_call 119; refine (HF2.out _).mono ?_; rintro e w5 ⟨rfl, hb5⟩; have k5 := k4.below hb5; obtain ⟨ix, ih⟩ := k5.z.a; obtain ⟨i0, i1, i2, i3⟩ := ih.frees4; obtain ⟨j0, j1, j2, j3⟩ := ih.cells4; have il := k5.z.s; unfold U)
          | (go_at_call 59; refine (good_g m _ _ Hm.out Hgm.out).mono ?_; rintro e w4 ⟨rfl, hb4⟩; have k4 := k3.below hb4; have bv4 := bv.below hb4; obtain ⟨n0, n1, n2, n3⟩ := bv4.a.cells4; obtain ⟨⟨q0, q1, q2, q3⟩, q4⟩ := k4.k.cells (w.heap.size + 1 + 1) m (by simp); obtain ⟨⟨p0, p1, p2, p3⟩, p4⟩ := k4.k.cells w.heap.size d (by simp)))
        refine bodyPost_ret (v := .tuple #[.agg #[.int .u64 (limb r 0 : Nat), .int .u64 (limb r 1 : Nat), .int .u64 (limb r 2 : Nat), .int .u64 (limb r 3 : Nat)], .bool b]) (by simp [results, Try.results73, go_sem, j0, j1, j2, j3]) rfl ⟨rfl, below_set4 k5.k.l (by omega)⟩
def MovePost (d f m : Nat) (w : World) (e : Ending) (w' : World) : Prop := if fgood d f WAD ∧ m ≤ WAD then FoPost (fw d f WAD) (d * m) w e w' else GrowNo w e w'
theorem move_walk (d f m : Nat) (w : World) (hd : d < 2 ^ 256) (hf : f < 2 ^ 256) (hm : m < 2 ^ 256) :
    Calls Try.prog 73 #[U d, U f, U m] w (MovePost d f m w) := by
  by_cases hg : fgood d f WAD
  · by_cases h : m ≤ WAD
    · have hdm : d * m < 2 ^ 256 := Nat.lt_of_le_of_lt (Nat.mul_le_mul hg.1 h) (by have := MOST_WAD; omega)
      have hvl : fw d f WAD < 2 ^ 256 := by have := fw_lt hg; have := MOST_WAD; omega
      have H := move_of d f m (fw d f WAD) (if fok (fw d f WAD) (d * m) then fw d f WAD * SQ / (d * m) else 0) true true (decide (fok (fw d f WAD) (d * m))) w hm (decide_eq_true h) (fun w => worth_yes_walk d f WAD w hg) (fun _ _ w => factorOf_walk (fw d f WAD) d m w hvl hd hm hdm) (fun h => by cases h)
      exact H.mono fun e w' he => by unfold MovePost; rw [if_pos ⟨hg, h⟩]; exact he
    · have H := move_of d f m (fw d f WAD) 0 true false false w hm (decide_eq_false h) (fun w => worth_yes_walk d f WAD w hg) (fun _ h => by cases h) (fun _ => ⟨rfl, rfl⟩)
      exact H.mono fun e w' he => by unfold MovePost; rw [if_neg (fun hh => h hh.2)]; exact he
  · have H := move_of d f m 0 0 false (decide (m ≤ WAD)) false w hm rfl (fun w => worth_no_walk d f WAD w hd hf WAD_lt hg) (fun h => by cases h) (fun _ => ⟨rfl, rfl⟩)
    exact H.mono fun e w' he => by unfold MovePost; rw [if_neg (fun hh => hg hh.1)]; exact he
end Go.Proofs.Ythglnedlbiembaa

namespace Go.Proofs.Ythglnedlbiembaa
open Go.RowKit Go.Sort
theorem hldL {W w' : World} {B : Nat} {x0 x1 x2 x3 : Value} (h0 : W.cell? ⟨B, 0, none⟩ = some x0) (h1 : W.cell? ⟨B, 1, none⟩ = some x1) (h2 : W.cell? ⟨B, 2, none⟩ = some x2) (h3 : W.cell? ⟨B, 3, none⟩ = some x3) (h : Below W.heap.size W w') : w'.cell? ⟨B, 0, none⟩ = some x0 ∧ w'.cell? ⟨B, 1, none⟩ = some x1 ∧ w'.cell? ⟨B, 2, none⟩ = some x2 ∧ w'.cell? ⟨B, 3, none⟩ = some x3 ∧ Below W.heap.size W w' := by
  have hB : B < W.heap.size := World.block_lt_of_cell? W _ h0
  exact ⟨by rw [h.cell (p := ⟨B, 0, none⟩) hB]; exact h0, by rw [h.cell (p := ⟨B, 1, none⟩) hB]; exact h1, by rw [h.cell (p := ⟨B, 2, none⟩) hB]; exact h2, by rw [h.cell (p := ⟨B, 3, none⟩) hB]; exact h3, h⟩
theorem un_hldL {W w' : World} {B : Nat} {x0 x1 x2 x3 : Value} (h : w'.cell? ⟨B, 0, none⟩ = some x0 ∧ w'.cell? ⟨B, 1, none⟩ = some x1 ∧ w'.cell? ⟨B, 2, none⟩ = some x2 ∧ w'.cell? ⟨B, 3, none⟩ = some x3 ∧ Below W.heap.size W w') : Below W.heap.size W w' := h.2.2.2.2
theorem worthL_c (w : World) : Calls Try.prog 68 #[.agg #[.int .u64 100, .int .u64 0, .int .u64 0, .int .u64 0], .agg #[.int .u64 1000000000000000000, .int .u64 0, .int .u64 0, .int .u64 0], .agg #[.int .u64 500000000000000000, .int .u64 0, .int .u64 0, .int .u64 0]] w fun e w' => e = .returned (.tuple #[.agg #[.int .u64 50, .int .u64 0, .int .u64 0, .int .u64 0], .bool true]) ∧ Below w.heap.size w w' := by
  have h := worth_yes_walk 100 1000000000000000000 500000000000000000 w (by decide)
  rw [U_small (show 100 < 2 ^ 64 by decide), U_small (show 1000000000000000000 < 2 ^ 64 by decide), U_small (show 500000000000000000 < 2 ^ 64 by decide)] at h
  refine h.mono fun e w' ⟨he, hw⟩ => ⟨?_, hw⟩
  rw [he, show fw 100 1000000000000000000 500000000000000000 = 50 from by decide, U_small (show 50 < 2 ^ 64 by decide)]; rfl
theorem growL_c (w : World) : Calls Try.prog 69 #[.agg #[.int .u64 100, .int .u64 0, .int .u64 0, .int .u64 0], .agg #[.int .u64 1000000000000000000, .int .u64 0, .int .u64 0, .int .u64 0], .agg #[.int .u64 500000000000000000, .int .u64 0, .int .u64 0, .int .u64 0], .agg #[.int .u64 50, .int .u64 0, .int .u64 0, .int .u64 0]] w fun e w' => e = .returned (.tuple #[.agg #[.int .u64 1333333333333333333, .int .u64 0, .int .u64 0, .int .u64 0], .bool true]) ∧ Below w.heap.size w w' := by
  have h := grow_main 100 1000000000000000000 500000000000000000 50 w (by decide) (by decide) (by decide)
  rw [U_small (show 100 < 2 ^ 64 by decide), U_small (show 1000000000000000000 < 2 ^ 64 by decide), U_small (show 500000000000000000 < 2 ^ 64 by decide), U_small (show 50 < 2 ^ 64 by decide)] at h
  refine h.mono fun e w' ⟨he, hw⟩ => ⟨?_, hw⟩
  have hf : fok (fw 100 1000000000000000000 500000000000000000 + 50) ((100 + 50) * 500000000000000000) := by decide
  rw [he, if_pos hf, decide_eq_true hf, show (fw 100 1000000000000000000 500000000000000000 + 50) * SQ / ((100 + 50) * 500000000000000000) = 1333333333333333333 from by decide, U_small (show 1333333333333333333 < 2 ^ 64 by decide)]; rfl
set_option maxRecDepth 100000 in
set_option maxHeartbeats 4000000 in
theorem lives20_walk (w : World) : Calls Try.prog 70 #[] w fun e w' => e = .returned (.bool true) ∧ Below w.heap.size w w' := by
  have heq := eqU
  go_enter Try.func70, Try.ntmps70
  go_upto_region 2 with (fail)
  obtain ⟨W, hW⟩ : ∃ W, W = (w.alloc (.cells #[.int .u64 500000000000000000, .int .u64 0, .int .u64 0, .int .u64 0] 24)) := ⟨_, rfl⟩
  obtain ⟨h0, h1, h2, h3⟩ : W.cell? ⟨w.heap.size, 0, none⟩ = some (.int .u64 500000000000000000) ∧ W.cell? ⟨w.heap.size, 1, none⟩ = some (.int .u64 0) ∧ W.cell? ⟨w.heap.size, 2, none⟩ = some (.int .u64 0) ∧ W.cell? ⟨w.heap.size, 3, none⟩ = some (.int .u64 0) := by rw [hW]; simp
  have Hb := Lib.hid (show Below w.heap.size w W by rw [hW]; exact (Below.refl _ _).alloc (Nat.le_refl _) _)
  have hws : w.heap.size < W.heap.size := by rw [hW]; simp
  rw [← hW]
  clear hW
  go_cut [2, 3] (fun p k wx => ∃ M, p = .pointer (some ⟨M, 0, none⟩) ∧ k = .bool true ∧ Box wx M 50 ∧ W.heap.size ≤ M ∧ Below W.heap.size W wx)
  case first =>
    go_region_held3 (fun w' => w'.cell? ⟨w.heap.size, 0, none⟩ = some (.int .u64 500000000000000000) ∧ w'.cell? ⟨w.heap.size, 1, none⟩ = some (.int .u64 0) ∧ w'.cell? ⟨w.heap.size, 2, none⟩ = some (.int .u64 0) ∧ w'.cell? ⟨w.heap.size, 3, none⟩ = some (.int .u64 0) ∧ Below W.heap.size W w')
      ((refine hldL h0 h1 h2 h3 ?_; repeat (first | with_reducible exact k2 | with_reducible exact k1 | with_reducible exact Below.refl _ _ | with_reducible refine kpD ?_ | with_reducible refine kpA ?_ _ | with_reducible refine kpP ?_ (by omega) | with_reducible exact un_hldL (by with_reducible assumption))))
      (first
        | (go_at_call 68; refine (worthL_c _).mono ?_; rintro e v2 ⟨rfl, hv2⟩; have k2 := kpB (un_hldL (by with_reducible assumption)) hv2; have y2 := hv2.size; (try simp at y2); (first | (with_reducible have zA2 := carry0 zA hv2) | skip); (first | (with_reducible have zB2 := z_one hv2) | skip); (first | (obtain ⟨_, _, _, _⟩ := zA2.frees4; obtain ⟨_, _, _, _⟩ := zA2.cells4; have lzA2 := zA2.lt4) | skip); (first | (obtain ⟨_, _, _, _⟩ := zB2.frees4; obtain ⟨_, _, _, _⟩ := zB2.cells4; have lzB2 := zB2.lt4) | skip))
        | (go_at_call 72; refine (oneL_c _).mono ?_; rintro e v1 ⟨rfl, hv1⟩; have k1 := kpB (un_hldL (by with_reducible assumption)) hv1; have y1 := k1.size; (first | (with_reducible have zA := z_one_d hv1) | skip)))
    all_goals
      go_wp2
      go_meet
      case rel =>
        refine ⟨_, rfl, rfl, ⟨?_, ?_⟩, ?_, ?_⟩
        · first | exact Arr.new4 (f := limb 50) rfl | exact Arr.put4 (n := 50) (f := fun _ => 0) (by with_reducible assumption)
        · simp only [World.size_setCell, World.size_alloc]; omega
        · omega
        · repeat (first | with_reducible exact k2 | with_reducible refine kpA ?_ _ | with_reducible refine kpP ?_ (by omega))
  case rest =>
    obtain ⟨M, rfl, rfl, bm, hM, hbl⟩ := hcut
    obtain ⟨W1, hW1⟩ : ∃ W, W = wc := ⟨_, rfl⟩
    obtain ⟨h0, h1, h2, h3, _⟩ := hldL h0 h1 h2 h3 hbl
    have Hb1 := Lib.hid (Below.trans Hb.out (hbl.mono (Nat.le_of_lt hws)))
    have Hbm := Lib.hid bm
    have hM1 := bm.s
    have hws1 : w.heap.size < wc.heap.size := by have := hbl.size; omega
    rw [← hW1] at h0 h1 h2 h3 Hb1 Hbm hM1 hws1
    rw [← hW1]
    clear hW1 hbl bm
    go_upto_region 3 with (fail)
    go_cut [4, 5] (fun p k wx => ∃ M, p = .pointer (some ⟨M, 0, none⟩) ∧ k = .bool true ∧ Box wx M 1333333333333333333 ∧ W1.heap.size ≤ M ∧ Below W1.heap.size W1 wx)
    case first =>
      go_region_held3 (fun w' => w'.cell? ⟨w.heap.size, 0, none⟩ = some (.int .u64 500000000000000000) ∧ w'.cell? ⟨w.heap.size, 1, none⟩ = some (.int .u64 0) ∧ w'.cell? ⟨w.heap.size, 2, none⟩ = some (.int .u64 0) ∧ w'.cell? ⟨w.heap.size, 3, none⟩ = some (.int .u64 0) ∧ Below W1.heap.size W1 w')
        ((refine hldL h0 h1 h2 h3 ?_; repeat (first | with_reducible exact k2 | with_reducible exact k1 | with_reducible exact Below.refl _ _ | with_reducible refine kpD ?_ | with_reducible refine kpA ?_ _ | with_reducible refine kpP ?_ (by omega) | with_reducible exact un_hldL (by with_reducible assumption))))
        (first
          | (go_at_call 69; refine (growL_c _).mono ?_; rintro e v2 ⟨rfl, hv2⟩; have k2 := kpB (un_hldL (by with_reducible assumption)) hv2; have y2 := hv2.size; (try simp at y2); (first | (with_reducible have zA2 := carry0 zA hv2) | skip); (first | (with_reducible have zB2 := z_one hv2) | skip); (first | (obtain ⟨_, _, _, _⟩ := zA2.frees4; obtain ⟨_, _, _, _⟩ := zA2.cells4; have lzA2 := zA2.lt4) | skip); (first | (obtain ⟨_, _, _, _⟩ := zB2.frees4; obtain ⟨_, _, _, _⟩ := zB2.cells4; have lzB2 := zB2.lt4) | skip))
          | (go_at_call 72; refine (oneL_c _).mono ?_; rintro e v1 ⟨rfl, hv1⟩; have k1 := kpB (un_hldL (by with_reducible assumption)) hv1; have y1 := k1.size; (first | (with_reducible have zA := z_one_d hv1) | skip)))
      all_goals
        go_wp2
        go_meet
        case rel =>
          refine ⟨_, rfl, rfl, ⟨?_, ?_⟩, ?_, ?_⟩
          · first | exact Arr.new4 (f := limb 1333333333333333333) rfl | exact Arr.put4 (n := 1333333333333333333) (f := fun _ => 0) (by with_reducible assumption)
          · simp only [World.size_setCell, World.size_alloc]; omega
          · omega
          · repeat (first | with_reducible exact k2 | with_reducible refine kpA ?_ _ | with_reducible refine kpP ?_ (by omega))
    case rest =>
      obtain ⟨N, rfl, rfl, bn, hN, hbl⟩ := hcut
      have bm := Hbm.out.below hbl
      have c0 : wc.cell? ⟨M, 0, none⟩ = some (.int .u64 50) := bm.a.cell 0 (by omega)
      have c1 : wc.cell? ⟨M, 1, none⟩ = some (.int .u64 0) := bm.a.cell 1 (by omega)
      have c2 : wc.cell? ⟨M, 2, none⟩ = some (.int .u64 0) := bm.a.cell 2 (by omega)
      have c3 : wc.cell? ⟨M, 3, none⟩ = some (.int .u64 0) := bm.a.cell 3 (by omega)
      have d0 : wc.cell? ⟨N, 0, none⟩ = some (.int .u64 1333333333333333333) := bn.a.cell 0 (by omega)
      have d1 : wc.cell? ⟨N, 1, none⟩ = some (.int .u64 0) := bn.a.cell 1 (by omega)
      have d2 : wc.cell? ⟨N, 2, none⟩ = some (.int .u64 0) := bn.a.cell 2 (by omega)
      have d3 : wc.cell? ⟨N, 3, none⟩ = some (.int .u64 0) := bn.a.cell 3 (by omega)
      go_wp2
      go_ret
      exact ⟨rfl, Below.trans Hb1.out (hbl.mono (Nat.le_of_lt hws1))⟩
end Go.Proofs.Ythglnedlbiembaa

namespace Go.Proofs.Ythglnedlbiembaa
open Go.RowKit Go.Sort

theorem rcmp9_c (a : Nat) (w : World) (c : Int) (ha : a < 2 ^ 256) (h : cmpU a 1000000000 = c) : Calls Try.prog 23 #[U a, .agg #[.int .u64 1000000000, .int .u64 0, .int .u64 0, .int .u64 0]] w fun e w' => e = .returned (.int .i64 c) ∧ Below w.heap.size w w' := by
  have h2 := rcmp_walk a 1000000000 w ha (by decide)
  rw [U_small (show 1000000000 < 2 ^ 64 by decide), h] at h2
  exact h2
theorem rcmp_g (a b : Nat) (w : World) (c : Int) (ha : a < 2 ^ 256) (hb : b < 2 ^ 256) (h : cmpU a b = c) : Calls Try.prog 23 #[U a, U b] w fun e w' => e = .returned (.int .i64 c) ∧ Below w.heap.size w w' := by
  rw [← h]; exact rcmp_walk a b w ha hb
theorem rdiv9_c (a : Nat) (w : World) (ha : a < 2 ^ 256) : Calls Try.prog 22 #[U a, .agg #[.int .u64 1000000000, .int .u64 0, .int .u64 0, .int .u64 0]] w fun e w' => e = .returned (.tuple #[U (a / 1000000000), U (a % 1000000000), .bool true]) ∧ Below w.heap.size w w' := by
  have h2 := rdiv_walk a 1000000000 w ha (by decide)
  rw [U_small (show 1000000000 < 2 ^ 64 by decide)] at h2
  exact h2.mono fun e w' ⟨he, hw⟩ => ⟨by rw [he, if_neg (by decide), if_neg (by decide), decide_eq_true (by decide)], hw⟩
theorem radd_g (a b s : Nat) (w : World) (ha : a < 2 ^ 256) (hb : b < 2 ^ 256) (hs : s < 2 ^ 256) (h : a + b = s) : Calls Try.prog 16 #[U a, U b] w fun e w' => e = .returned (.tuple #[U s, .bool true]) ∧ Below w.heap.size w w' := by
  have h2 := radd_walk a b w ha hb
  exact h2.mono fun e w' ⟨he, hw⟩ => ⟨by rw [he]; unfold addv addk; rw [h, if_pos hs, decide_eq_true hs], hw⟩
theorem radd2_c (a s : Nat) (w : World) (hs : s < 2 ^ 256) (h : a + 2 = s) : Calls Try.prog 16 #[U a, .agg #[.int .u64 2, .int .u64 0, .int .u64 0, .int .u64 0]] w fun e w' => e = .returned (.tuple #[U s, .bool true]) ∧ Below w.heap.size w w' := by
  have h2 := radd_g a 2 s w (by omega) (by decide) hs h
  rw [U_small (show 2 < 2 ^ 64 by decide)] at h2
  exact h2
theorem lit9 {w0 w1 : World} {t : TypeId} (hb : Below (w0.alloc (.cells #[.int .u64 1000000000, .int .u64 0, .int .u64 0, .int .u64 0] t)).heap.size (w0.alloc (.cells #[.int .u64 1000000000, .int .u64 0, .int .u64 0, .int .u64 0] t)) w1) :
    w1.cell? ⟨w0.heap.size, 0, none⟩ = some (.int .u64 1000000000) ∧ w1.cell? ⟨w0.heap.size, 1, none⟩ = some (.int .u64 0) ∧ w1.cell? ⟨w0.heap.size, 2, none⟩ = some (.int .u64 0) ∧ w1.cell? ⟨w0.heap.size, 3, none⟩ = some (.int .u64 0) := by
  have hs : w0.heap.size < (w0.alloc (.cells #[.int .u64 1000000000, .int .u64 0, .int .u64 0, .int .u64 0] t)).heap.size := by rw [World.size_alloc]; omega
  rw [hb.cell (p := ⟨w0.heap.size, 0, none⟩) hs, hb.cell (p := ⟨w0.heap.size, 1, none⟩) hs, hb.cell (p := ⟨w0.heap.size, 2, none⟩) hs, hb.cell (p := ⟨w0.heap.size, 3, none⟩) hs]
  simp
theorem bk_three {a b c : Nat} {w : World} : Bk w (((w.alloc (.cells #[.int .u64 (limb a 0 : Nat), .int .u64 (limb a 1 : Nat), .int .u64 (limb a 2 : Nat), .int .u64 (limb a 3 : Nat)] 24)).alloc (.cells #[.int .u64 (limb b 0 : Nat), .int .u64 (limb b 1 : Nat), .int .u64 (limb b 2 : Nat), .int .u64 (limb b 3 : Nat)] 24)).alloc (.cells #[.int .u64 (limb c 0 : Nat), .int .u64 (limb c 1 : Nat), .int .u64 (limb c 2 : Nat), .int .u64 (limb c 3 : Nat)] 24)) [(w.heap.size + 1 + 1, c), (w.heap.size + 1, b), (w.heap.size, a)] := Bk.three
set_option maxRecDepth 100000 in
set_option maxHeartbeats 4000000 in
theorem near_walk (v t f : Nat) (w : World) (hv : v < 2 ^ 256) (ht : t < 2 ^ 256) (hf : f < 2 ^ 256) (h : f < 1000000000 ∨ (v + t / 1000000000 + 2 < 2 ^ 256 ∧ t ≤ v + t / 1000000000 + 2)) :
    Calls Try.prog 71 #[U v, U t, U f] w fun e w' => e = .returned (.bool true) ∧ Below w.heap.size w w' := by
  have K0 := Lib.hid (bk_three (a := v) (b := t) (c := f) (w := w))
  obtain ⟨c, hc⟩ : ∃ c, c = cmpU f 1000000000 := ⟨_, rfl⟩
  have Hc := Lib.hid hc.symm
  have Hv := Lib.hid hv
  have Ht := Lib.hid ht
  have Hf := Lib.hid hf
  by_cases hlt : f < 1000000000
  · have q : c < 0 := by rw [hc, cmpU_lt hlt]; decide
    clear h hv ht hf hc hlt
    unfold U
    go_enter Try.func71, Try.ntmps71
    go_wp2_with (go_at_call 23; refine (rcmp9_c f _ _ Hf.out Hc.out).mono ?_; rintro e w1 ⟨rfl, hb1⟩; have k1 := (K0.out.alloc _).call hb1)
    go_ret
    exact ⟨rfl, k1.l⟩
  · have q : ¬ c < 0 := by
      have := (cmpU_ge' f 1000000000).2 (by omega)
      omega
    obtain ⟨hs, hle⟩ := h.resolve_left hlt
    obtain ⟨p, hp⟩ : ∃ p, p = t / 1000000000 := ⟨_, rfl⟩
    obtain ⟨r, hr⟩ : ∃ p, p = t % 1000000000 := ⟨_, rfl⟩
    obtain ⟨s, hs1⟩ : ∃ s, s = v + p := ⟨_, rfl⟩
    obtain ⟨u, hu⟩ : ∃ x, x = s + 2 := ⟨_, rfl⟩
    obtain ⟨c2, hc2⟩ : ∃ c, c = cmpU u t := ⟨_, rfl⟩
    have hu256 : u < 2 ^ 256 := by rw [hu, hs1, hp]; exact hs
    have q2 : (0 : Int) ≤ c2 := by rw [hc2]; exact (cmpU_ge' u t).2 (by rw [hu, hs1, hp]; exact hle)
    have HD := Lib.hid (show ∀ w, Calls Try.prog 22 #[U t, .agg #[.int .u64 1000000000, .int .u64 0, .int .u64 0, .int .u64 0]] w fun e w' => e = .returned (.tuple #[U p, U r, .bool true]) ∧ Below w.heap.size w w' by rw [hp, hr]; exact fun w => rdiv9_c t w ht)
    have HA := Lib.hid (fun w => radd_g v p s w hv (by omega) (by omega) hs1.symm)
    have H2 := Lib.hid (fun w => radd2_c s u w hu256 hu.symm)
    have HC := Lib.hid (fun w => rcmp_g u t w c2 hu256 ht hc2.symm)
    clear h hv ht hf hc hlt hs hle hp hr hs1 hu hc2 hu256
    unfold U
    go_enter Try.func71, Try.ntmps71
    go_wp2_with (first
      | (go_at_call 23; have g5 := k4; clear g5; refine (HC.out _).mono ?_; rintro e w5 ⟨rfl, hb5⟩)
      | (go_at_call 16; have g5 := k3; clear g5; refine (H2.out _).mono ?_; rintro e w4 ⟨rfl, hb4⟩; have k4 := k3.call hb4; obtain ⟨⟨x0, x1, x2, x3⟩, x4⟩ := k4.cells w3.heap.size s (by simp); obtain ⟨⟨y0, y1, y2, y3⟩, y4⟩ := k4.cells (w.heap.size + 1) t (by simp); obtain ⟨f0, f1, f2, f3⟩ := (k4.b (w3.heap.size, s) (by simp)).a.frees4; unfold U)
      | (go_at_call 16; have g5 := k2; clear g5; refine (HA.out _).mono ?_; rintro e w3 ⟨rfl, hb3⟩; have j3 := k2.call hb3; have k3 := j3.push (t := 24) s; obtain ⟨⟨z0, z1, z2, z3⟩, z4⟩ := j3.cells (w.heap.size + 1) t (by simp); have lz : w.heap.size + 1 < w3.heap.size := z4; unfold U)
      | (go_at_call 22; refine (HD.out _).mono ?_; rintro e w2 ⟨rfl, hb2⟩; have j2 := k1.call hb2; have k2 := j2.push2 (t := 24) (t' := 24) p r; obtain ⟨⟨b0, b1, b2, b3⟩, b4⟩ := j2.cells w.heap.size v (by simp); unfold U)
      | (go_at_call 23; refine (rcmp9_c f _ _ Hf.out Hc.out).mono ?_; rintro e w1 ⟨rfl, hb1⟩; have k1 := (K0.out.alloc _).call hb1; obtain ⟨⟨a0, a1, a2, a3⟩, a4⟩ := k1.cells (w.heap.size + 1) t (by simp); have e9 := lit9 hb1; simp only [World.size_alloc] at e9; obtain ⟨e0, e1, e2, e3⟩ := e9))
    go_ret
    exact ⟨rfl, (below_set4 k4.l (by have := j3.l.size; omega)).trans (hb5.mono (by simp only [World.size_setCell]; exact k4.l.size))⟩
end Go.Proofs.Ythglnedlbiembaa
