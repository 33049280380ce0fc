/- Four cells of a block, set. -/
import Derived.Test.YtedkhpnlhkjjgaaG13
import Derived.Test.YtedkhpnlhkjjgaaG19
import Derived.Deep.Cut
import Derived.Deep.CutBlock
namespace Go.Proofs.Ytedkhpnlhkjjgaa
open Go.RowKit

theorem set4_row {w : World} {g : Nat} {t : TypeId} {a b c d : Value} (x0 x1 x2 x3 : Value) (h : w.heap[g]? = some (.cells #[a, b, c, d] t (0, 0))) :
    ((((w.setCell ⟨g, 0, none⟩ x0).setCell ⟨g, 1, none⟩ x1).setCell ⟨g, 2, none⟩ x2).setCell ⟨g, 3, none⟩ x3).heap[g]? = some (.cells #[x0, x1, x2, x3] t (0, 0)) :=
  heap_setCell_row (heap_setCell_row (heap_setCell_row (heap_setCell_row h x0) x1) x2) x3
theorem set4_far {w : World} {g g' : Nat} (x0 x1 x2 x3 : Value) (hne : g ≠ g') {o : Obj} (h : w.heap[g']? = some o) :
    ((((w.setCell ⟨g, 0, none⟩ x0).setCell ⟨g, 1, none⟩ x1).setCell ⟨g, 2, none⟩ x2).setCell ⟨g, 3, none⟩ x3).heap[g']? = some o := by
  rw [Below.heap_setCell _ _ _ _ hne.symm, Below.heap_setCell _ _ _ _ hne.symm, Below.heap_setCell _ _ _ _ hne.symm, Below.heap_setCell _ _ _ _ hne.symm]
  exact h
end Go.Proofs.Ytedkhpnlhkjjgaa

namespace Go.Proofs.Ytedkhpnlhkjjgaa
open Go.RowKit Go.Maps Go.Sort

/-- what the law's variables say, beside the checkpoints -/
structure HtI (m : Nat) (rx ra : Nat → Nat) (blk : Int) (wv nv : Nat) (th so : Bool) (last : Int) : Prop where
  at_ : AtR m rx ra blk wv th
  hso : so = decide (0 < m)
  hnv : 0 < m → nv = ra (m - 1)
  hlast : last = if m = 0 then 0 else (rx (m - 1) : Int)
  bw : wv < 2 ^ 256
  bn : nv < 2 ^ 256
theorem HtI.start (rx ra : Nat → Nat) (blk : Int) : HtI 0 rx ra blk 0 0 false false 0 :=
  ⟨.inl ⟨rfl, rfl, fun j h => absurd h (by omega)⟩, rfl, fun h => absurd h (by omega), rfl, by decide, by decide⟩
theorem HtI.bad {m : Nat} {rx ra : Nat → Nat} {blk : Int} {wv nv : Nat} {th so : Bool} {last p : Int} {a : Nat} {r : Int} {m' : Nat} {rx' ra' : Nat → Nat} (h : HtI m rx ra blk wv nv th so last) (hp : PushR m rx ra p a r m' rx' ra') (hr : r ≠ 0) :
    m' = m ∧ rx' = rx ∧ ra' = ra ∧ ¬ (last ≤ p ∧ p ≤ 1099511627776) ∧ (r = 2 ∨ r = 10) := by
  have hl := h.hlast
  rcases hp with ⟨h1, h2, h3, h4, h5⟩ | ⟨hb, ⟨h1, h2, h3, h4, h5, h6⟩ | ⟨h1, _⟩ | ⟨h1, _⟩ | ⟨h1, _⟩⟩
  · refine ⟨h3, h4, h5, fun hh => ?_, .inl h1⟩
    have : 0 ≤ last := by rw [hl]; split <;> omega
    omega
  · refine ⟨h4, h5, h6, fun hh => ?_, .inr h1⟩
    rw [if_neg (by omega)] at hl
    omega
  · exact absurd h1 hr
  · exact absurd h1 hr
  · exact absurd h1 hr
theorem HtI.ok {m : Nat} {rx ra : Nat → Nat} {blk : Int} {wv nv : Nat} {th so : Bool} {last p : Int} {a : Nat} {m' : Nat} {rx' ra' : Nat → Nat} (h : HtI m rx ra blk wv nv th so last) (hp : PushR m rx ra p a 0 m' rx' ra') (ha : a < 2 ^ 256) (hinc : ∀ j k, j < k → k < m → rx j < rx k) :
    (last ≤ p ∧ p ≤ 1099511627776) ∧ m' ≤ m + 1 ∧ HtI m' rx' ra' blk (if p ≤ blk then a else wv) a (if p ≤ blk then true else th) true (if so = false ∨ a ≠ nv ∨ p = last then p else last) := by
  have hl := h.hlast
  have hso := h.hso
  have hat : AtR m rx ra blk wv th := h.at_
  have bwv : (if p ≤ blk then a else wv) < 2 ^ 256 := by split; exact ha; exact h.bw
  rcases hp with ⟨h1, _⟩ | ⟨hb, ⟨h1, _⟩ | ⟨_, h2, h3, h4, rfl, rfl, rfl⟩ | ⟨_, h2, h3, rfl, rfl, rfl⟩ | ⟨_, h2, rfl, rfl, rfl⟩⟩
  · omega
  · omega
  · -- it stays
    rw [if_neg (by omega)] at hl
    refine ⟨by omega, by omega, ⟨?_, by simp; omega, fun _ => h4.symm, ?_, bwv, ha⟩⟩
    · by_cases hpb : p ≤ blk
      · rw [if_pos hpb, if_pos hpb]
        exact .inr ⟨m' - 1, by omega, rfl, h4.symm, by omega, fun j hj hjm => absurd hj (by omega)⟩
      · rw [if_neg hpb, if_neg hpb]; exact hat
    · rw [if_neg (by omega : ¬ m' = 0)]
      have e1 : nv = a := by rw [h.hnv h2]; exact h4
      have e2 : so = true := by rw [hso]; simp; omega
      rw [if_neg (by rw [e1, e2]; simp; omega)]
      exact hl
  · -- the last one once more
    rw [if_neg (by omega)] at hl
    refine ⟨by omega, by omega, ⟨?_, by simp; omega, fun _ => by unfold updN; rw [if_pos rfl], ?_, bwv, ha⟩⟩
    · by_cases hpb : p ≤ blk
      · rw [if_pos hpb, if_pos hpb]
        exact .inr ⟨m' - 1, by omega, rfl, by unfold updN; rw [if_pos rfl], by omega, fun j hj hjm => absurd hj (by omega)⟩
      · rw [if_neg hpb, if_neg hpb]
        rcases hat with hh | ⟨k, k1, k2, k3, k4, k5⟩
        · exact .inl hh
        · have hk : k ≠ m' - 1 := fun e => by rw [e] at k4; omega
          exact .inr ⟨k, k1, k2, by unfold updN; rw [if_neg hk]; exact k3, k4, k5⟩
    · rw [if_neg (by omega : ¬ m' = 0), if_pos (.inr (.inr (by omega)))]
      omega
  · -- one more
    have hlast : last ≤ p := by
      rw [hl]
      split
      · exact hb.1
      · rcases h2 with h2 | ⟨h2, _⟩
        · omega
        · omega
    refine ⟨⟨hlast, hb.2⟩, Nat.le_refl _, ⟨?_, by simp, fun _ => by unfold updN; rw [if_pos (by omega)], ?_, bwv, ha⟩⟩
    · by_cases hpb : p ≤ blk
      · rw [if_pos hpb, if_pos hpb]
        exact .inr ⟨m, by omega, rfl, by unfold updN; rw [if_pos rfl], by unfold updN; rw [if_pos rfl]; omega, fun j hj hjm => absurd hj (by omega)⟩
      · rw [if_neg hpb, if_neg hpb]
        rcases hat with ⟨g1, g2, g3⟩ | ⟨k, k1, k2, k3, k4, k5⟩
        · refine .inl ⟨g1, g2, fun j hj => ?_⟩
          unfold updN
          by_cases e : j = m
          · rw [if_pos e]; omega
          · rw [if_neg e]; exact g3 j (by omega)
        · refine .inr ⟨k, by omega, k2, by unfold updN; rw [if_neg (by omega)]; exact k3, by unfold updN; rw [if_neg (by omega)]; exact k4, fun j hj hjm => ?_⟩
          unfold updN
          by_cases e : j = m
          · rw [if_pos e]; omega
          · rw [if_neg e]; exact k5 j hj (by omega)
    · rw [if_neg (by omega : ¬ m + 1 = 0)]
      have hc : so = false ∨ a ≠ nv ∨ p = last := by
        rcases h2 with h2 | ⟨h2, h3⟩
        · left; rw [hso]; simp; omega
        · by_cases hm : m = 0
          · left; rw [hso]; simp; omega
          · right; left; rw [h.hnv (by omega)]; exact fun e => h3 e.symm
      rw [if_pos hc]
      unfold updN
      rw [if_pos (by omega)]
      omega
theorem AtR.one {m : Nat} {rx ra : Nat → Nat} {blk : Int} {a a' : Nat} {o o' : Bool} (h : AtR m rx ra blk a o) (h' : AtR m rx ra blk a' o') : a = a' ∧ o = o' := by
  rcases h with ⟨h1, h2, h3⟩ | ⟨k, k1, k2, k3, k4, k5⟩
  · rcases h' with ⟨g1, g2, _⟩ | ⟨k, k1, _, _, k4, _⟩
    · exact ⟨by omega, by rw [h1, g1]⟩
    · have := h3 k k1; omega
  · rcases h' with ⟨g1, g2, g3⟩ | ⟨i, i1, i2, i3, i4, i5⟩
    · have := g3 k k1; omega
    · obtain rfl : k = i := by
        rcases Nat.lt_trichotomy k i with h | h | h
        · have := k5 i h i1; omega
        · exact h
        · have := i5 k h k1; omega
      exact ⟨by rw [k3, i3], by rw [k2, i2]⟩
theorem fU : Foreign 29 := ⟨by decide, by decide, by decide, by decide⟩
theorem fPush : Foreign 32 := ⟨by decide, by decide, by decide, by decide⟩
theorem fInt : Foreign 3 := ⟨by decide, by decide, by decide, by decide⟩
/-- the law's world: the store, and the boxes of two amounts -/
structure HtW (w W : World) (b g c m : Nat) (rx ra : Nat → Nat) (wv nv : Nat) : Prop where
  s : HisS w W b hK0 hKp c m rx ra
  a : W.heap[g]? = some (.cells #[.int .u64 (limb wv 0 : Nat), .int .u64 (limb wv 1 : Nat), .int .u64 (limb wv 2 : Nat), .int .u64 (limb wv 3 : Nat)] 29 (0, 0))
  n : W.heap[g + 1]? = some (.cells #[.int .u64 (limb nv 0 : Nat), .int .u64 (limb nv 1 : Nat), .int .u64 (limb nv 2 : Nat), .int .u64 (limb nv 3 : Nat)] 29 (0, 0))
  ge : w.heap.size ≤ g
theorem HtW.below {w W W' : World} {b g c m : Nat} {rx ra : Nat → Nat} {wv nv : Nat} (h : HtW w W b g c m rx ra wv nv) (hb : Below W.heap.size W W') : HtW w W' b g c m rx ra wv nv :=
  ⟨h.s.below hb, (hb.block _ (hp_lt h.a)).trans h.a, (hb.block _ (hp_lt h.n)).trans h.n, h.ge⟩
def set4U (W : World) (g a : Nat) : World := (((W.setCell ⟨g, 0, none⟩ (.int .u64 (limb a 0 : Nat))).setCell ⟨g, 1, none⟩ (.int .u64 (limb a 1 : Nat))).setCell ⟨g, 2, none⟩ (.int .u64 (limb a 2 : Nat))).setCell ⟨g, 3, none⟩ (.int .u64 (limb a 3 : Nat))
theorem HtW.setN {w W : World} {b g c m : Nat} {rx ra : Nat → Nat} {wv nv : Nat} (h : HtW w W b g c m rx ra wv nv) (a : Nat) : HtW w (set4U W (g + 1) a) b g c m rx ra wv a :=
  ⟨h.s.other [g + 1] (touch_set4 (by simp)) (fun k hk => by obtain rfl : k = g + 1 := (by simpa using hk); exact ⟨by have := h.ge; omega, _, _, _, h.n, fU⟩), set4_far _ _ _ _ (by omega) h.a, set4_row _ _ _ _ h.n, h.ge⟩
theorem HtW.setA {w W : World} {b g c m : Nat} {rx ra : Nat → Nat} {wv nv : Nat} (h : HtW w W b g c m rx ra wv nv) (a : Nat) : HtW w (set4U W g a) b g c m rx ra a nv :=
  ⟨h.s.other [g] (touch_set4 (by simp)) (fun k hk => by obtain rfl : k = g := (by simpa using hk); exact ⟨h.ge, _, _, _, h.a, fU⟩), set4_row _ _ _ _ h.a, set4_far _ _ _ _ (by omega) h.n, h.ge⟩
end Go.Proofs.Ytedkhpnlhkjjgaa

namespace Go.Proofs.Ytedkhpnlhkjjgaa
open Go.RowKit Go.Maps Go.Sort

theorem zeroU_eq : (Obj.cells #[.int .u64 0, .int .u64 0, .int .u64 0, .int .u64 0] 29 (0, 0)) = .cells #[.int .u64 (limb 0 0 : Nat), .int .u64 (limb 0 1 : Nat), .int .u64 (limb 0 2 : Nat), .int .u64 (limb 0 3 : Nat)] 29 (0, 0) := by
  rw [show limb 0 0 = 0 by decide, show limb 0 1 = 0 by decide, show limb 0 2 = 0 by decide, show limb 0 3 = 0 by decide]; rfl
set_option maxRecDepth 100000 in
set_option maxHeartbeats 8000000 in
theorem historyTells_go (A : Option Addr) (N C : Nat) (A0 : Nat → Option Addr) (k0 c0 : Nat → Nat) (x1 : Nat → Int) (a2 : Nat → Nat) (blk : Int) (w : World) (hr : RowsV w A N 6 (fun i => [.slice (A0 i) (k0 i) (c0 i), .int .i64 (x1 i), .int .u64 (limb (a2 i) 0 : Nat), .int .u64 (limb (a2 i) 1 : Nat), .int .u64 (limb (a2 i) 2 : Nat), .int .u64 (limb (a2 i) 3 : Nat)]))
    (hN : N ≤ 100) (hk : ∀ i, i < N → k0 i ≤ 5) (ha : ∀ i, i < N → a2 i < 2 ^ 256) :
    Calls Try.prog 3 #[.slice A N C, .int .i64 blk] w fun e w' => e = .returned (.bool true) ∧ Below w.heap.size w w' := by
  have HL1 := Lib.hid (light11_rows A N C A0 k0 c0 x1 a2 w hr (by omega) (fun i hi => by have := hk i hi; omega) true ⟨fun _ => ⟨hN, hk⟩, fun _ => rfl⟩)
  have HR := Lib.hid hr
  have HA := Lib.hid ha
  have HNn := Lib.hid hN
  have hN' : (N : Int) ≤ 100 := by omega
  clear hr hk hN ha
  go_enter Try.func3, Try.ntmps3
  go_wp2_with (first
    | (go_at_call 13; with_reducible refine (SNew.new w _ H1.out).mono ?_; rintro e w3 ⟨b, F1, rfl, hs1, _, _⟩; have H3 := Lib.hid hs1; clear hs1)
    | (go_at_call 11; with_reducible refine HL1.out.mono ?_; rintro e w1 ⟨rfl, hb1⟩; have H1 := Lib.hid hb1; clear hb1))
  have HW0 := Lib.hid (show HtW w ((w3.alloc (.cells #[.int .u64 0, .int .u64 0, .int .u64 0, .int .u64 0] 29)).alloc (.cells #[.int .u64 0, .int .u64 0, .int .u64 0, .int .u64 0] 29)) b w3.heap.size 0 0 (fun _ => 0) (fun _ => 0) 0 0 from by
    have h1 := heap_alloc_new w3 (.cells #[.int .u64 0, .int .u64 0, .int .u64 0, .int .u64 0] 29)
    have h2 := heap_alloc_new (w3.alloc (.cells #[.int .u64 0, .int .u64 0, .int .u64 0, .int .u64 0] 29)) (.cells #[.int .u64 0, .int .u64 0, .int .u64 0, .int .u64 0] 29)
    rw [World.size_alloc] at h2
    have hb := ((Below.refl w3.heap.size w3).alloc (Nat.le_refl _) (.cells #[.int .u64 0, .int .u64 0, .int .u64 0, .int .u64 0] 29)).alloc (by simp) (.cells #[.int .u64 0, .int .u64 0, .int .u64 0, .int .u64 0] 29)
    exact ⟨⟨F1, [], 0, [], H3.out.below hb, Nat.le_refl _, HisL.empty _ _ _ _⟩, ((heap_alloc_old _ _ (by simp)).trans h1).trans (congrArg some zeroU_eq), h2.trans (congrArg some zeroU_eq), H3.out.l.size⟩)
  go_loopw [7, 9, 10, 25] (fun th so la i wr => ∃ (j m : Nat) (rx ra : Nat → Nat) (wv nv : Nat) (tb sb : Bool) (lv : Int), j ≤ N ∧ i = .int .i64 (j : Nat) ∧ th = .bool tb ∧ so = .bool sb ∧ la = .int .i64 lv ∧ HtW w wr b w3.heap.size (2 * j) m rx ra wv nv ∧ m ≤ j ∧ HtI m rx ra blk wv nv tb sb lv) (fun _ _ _ i _ => N - (intOf i).toNat)
  case atStart => exact ⟨0, 0, _, _, 0, 0, false, false, 0, by omega, rfl, rfl, rfl, rfl, HW0.out, Nat.le_refl _, HtI.start _ _ _⟩
  case round =>
    obtain ⟨j, m, rx, ra, wv, nv, tb, sb, lv, hj, rfl, rfl, rfl, rfl, hw, hm, hi⟩ := hrel
    have HW := Lib.hid hw
    have HI := Lib.hid hi
    by_cases hlt : j < N
    · have p2 : (j : Int) < (N : Int) := by omega
      obtain ⟨g, o, rfl, hg, hc⟩ := (HR.out.below hw.s.l) (by omega)
      have d0 := hc j hlt 0 _ rfl
      have d1 := hc j hlt 1 _ rfl
      have d2 := hc j hlt 2 _ rfl
      have d3 := hc j hlt 3 _ rfl
      have d4 := hc j hlt 4 _ rfl
      have d5 := hc j hlt 5 _ rfl
      simp only [Nat.add_zero] at d0
      have hba := HA.out j hlt
      obtain ⟨p, ep⟩ : ∃ z, z = x1 j := ⟨_, rfl⟩
      obtain ⟨a, ea⟩ : ∃ z, z = a2 j := ⟨_, rfl⟩
      rw [← ep] at d1
      rw [← ea] at d2 d3 d4 d5 hba
      have HBa := Lib.hid hba
      have lw := hp_lt hw.n
      have lw1 : ¬ wr.heap.size = w3.heap.size + 1 := by omega
      have lw2 : ¬ wr.heap.size = w3.heap.size := by omega
      have lw3 : ¬ w3.heap.size + 1 = wr.heap.size := by omega
      have lw4 : ¬ w3.heap.size = wr.heap.size := by omega
      have hbx := (Below.refl wr.heap.size wr).alloc (Nat.le_refl _) (.cells #[.slice (A0 j) (k0 j) (c0 j), .int .i64 p, .int .u64 (limb a 0 : Nat), .int .u64 (limb a 1 : Nat), .int .u64 (limb a 2 : Nat), .int .u64 (limb a 3 : Nat)] 32)
      have hby := hbx.alloc hbx.size (.cells #[.int .i64 1] 3)
      have hpx : ((wr.alloc (.cells #[.slice (A0 j) (k0 j) (c0 j), .int .i64 p, .int .u64 (limb a 0 : Nat), .int .u64 (limb a 1 : Nat), .int .u64 (limb a 2 : Nat), .int .u64 (limb a 3 : Nat)] 32)).alloc (.cells #[.int .i64 1] 3)).heap[wr.heap.size]? = some (.cells #[.slice (A0 j) (k0 j) (c0 j), .int .i64 p, .int .u64 (limb a 0 : Nat), .int .u64 (limb a 1 : Nat), .int .u64 (limb a 2 : Nat), .int .u64 (limb a 3 : Nat)] 32 (0, 0)) := (heap_alloc_old _ _ (by simp)).trans (heap_alloc_new wr (.cells #[.slice (A0 j) (k0 j) (c0 j), .int .i64 p, .int .u64 (limb a 0 : Nat), .int .u64 (limb a 1 : Nat), .int .u64 (limb a 2 : Nat), .int .u64 (limb a 3 : Nat)] 32))
      have hin := heap_alloc_new (wr.alloc (.cells #[.slice (A0 j) (k0 j) (c0 j), .int .i64 p, .int .u64 (limb a 0 : Nat), .int .u64 (limb a 1 : Nat), .int .u64 (limb a 2 : Nat), .int .u64 (limb a 3 : Nat)] 32)) (.cells #[.int .i64 1] 3)
      have hil := il1 1 (wr.alloc (.cells #[.slice (A0 j) (k0 j) (c0 j), .int .i64 p, .int .u64 (limb a 0 : Nat), .int .u64 (limb a 1 : Nat), .int .u64 (limb a 2 : Nat), .int .u64 (limb a 3 : Nat)] 32)) 3 (by decide)
      have hst := hpush_law hK0 hKp rfl (fun _ => rfl) hKeysOk (hw.s.below hby) (by have := HNn.out; omega) (by have := HNn.out; omega) (some ⟨(wr.alloc (.cells #[.slice (A0 j) (k0 j) (c0 j), .int .i64 p, .int .u64 (limb a 0 : Nat), .int .u64 (limb a 1 : Nat), .int .u64 (limb a 2 : Nat), .int .u64 (limb a 3 : Nat)] 32)).heap.size, 0, none⟩) 1 (fun F L q qs hs W' ht => il_touch hs hin hil fInt W' ht) (fun h => by cases h) (by omega) p a hba
      simp only [World.size_alloc] at hst
      unfold U at hst
      have HSt := Lib.hid hst
      have HPx := Lib.hid hpx
      have HBy := Lib.hid hby
      clear hw hi hc hst hbx hby hpx hin hil hba ep ea
      go_upto_region 11 with (go_at_call 14; refine HSt.out.mono ?_; rintro e w5 ⟨r, m', rx', ra', rfl, hp, hs5, hk5⟩; have HP := Lib.hid hp; have hw5 : HtW w w5 b w3.heap.size (2 * (j + 1)) m' rx' ra' wv nv := ⟨hs5, (hk5 _ fU).2 _ _ _ (HW.out.below HBy.out).a, (hk5 _ fU).2 _ _ _ (HW.out.below HBy.out).n, HW.out.ge⟩; have r5 := (hk5 _ fPush).2 _ _ _ HPx.out; have y0 := (hp_cell (i := 0) r5).trans rfl; have y1 := (hp_cell (i := 1) r5).trans rfl; have y2 := (hp_cell (i := 2) r5).trans rfl; have y3 := (hp_cell (i := 3) r5).trans rfl; have y4 := (hp_cell (i := 4) r5).trans rfl; have y5 := (hp_cell (i := 5) r5).trans rfl; have n0 := (hp_cell (i := 0) hw5.n).trans rfl; have n1 := (hp_cell (i := 1) hw5.n).trans rfl; have n2 := (hp_cell (i := 2) hw5.n).trans rfl; have n3 := (hp_cell (i := 3) hw5.n).trans rfl; have nf0 := hp_free (i := 0) hw5.n; have nf1 := hp_free (i := 1) hw5.n; have nf2 := hp_free (i := 2) hw5.n; have nf3 := hp_free (i := 3) hw5.n; have a0 := (hp_cell (i := 0) hw5.a).trans rfl; have a1 := (hp_cell (i := 1) hw5.a).trans rfl; have a2' := (hp_cell (i := 2) hw5.a).trans rfl; have a3 := (hp_cell (i := 3) hw5.a).trans rfl; have af0 := hp_free (i := 0) hw5.a; have af1 := hp_free (i := 1) hw5.a; have af2 := hp_free (i := 2) hw5.a; have af3 := hp_free (i := 3) hw5.a; have lz := hp_lt hw5.n; have HW5 := Lib.hid hw5; clear hp hs5 hk5 hw5 r5)
      clear d0 d1 d2 d3 d4 d5
      by_cases hr0 : r = 0
      · subst hr0
        obtain ⟨⟨b1, b2⟩, hm', hI'⟩ := HI.out.ok HP.out HBa.out (by obtain ⟨_, _, _, _, _, _, hd⟩ := HW.out.s; exact hd.inc)
        have HM' := Lib.hid hm'
        clear hm'
        cases sb
        · skip
          skip
          by_cases hpb : p ≤ blk
          · rw [if_pos hpb, if_pos hpb, if_pos (.inl rfl)] at hI'
            have HIx := Lib.hid hI'
            clear hI'
            go_wp2
            exact ⟨⟨j + 1, m', rx', ra', a, a, true, true, p, by omega, by go_num, rfl, rfl, rfl, (HW5.out.setN a).setA a, Nat.le_trans HM'.out (by omega), HIx.out⟩, by simp [intOf]; omega⟩
          · rw [if_neg hpb, if_neg hpb, if_pos (.inl rfl)] at hI'
            have HIx := Lib.hid hI'
            clear hI'
            go_wp2
            exact ⟨⟨j + 1, m', rx', ra', wv, a, tb, true, p, by omega, by go_num, rfl, rfl, rfl, HW5.out.setN a, Nat.le_trans HM'.out (by omega), HIx.out⟩, by simp [intOf]; omega⟩
        · by_cases hne : a = nv
          · by_cases hpl : p = lv
            · subst hne
              have hEq := fun w => eq_run (a := a) (b := a) HBa.out HBa.out w
              rw [decide_eq_true (rfl : a = a)] at hEq
              subst hpl
              by_cases hpb : p ≤ blk
              · rw [if_pos hpb, if_pos hpb, if_pos (.inr (.inr rfl))] at hI'
                have HIx := Lib.hid hI'
                clear hI'
                go_wp2
                exact ⟨⟨j + 1, m', rx', ra', a, a, true, true, p, by omega, by go_num, rfl, rfl, rfl, (HW5.out.setN a).setA a, Nat.le_trans HM'.out (by omega), HIx.out⟩, by simp [intOf]; omega⟩
              · rw [if_neg hpb, if_neg hpb, if_pos (.inr (.inr rfl))] at hI'
                have HIx := Lib.hid hI'
                clear hI'
                go_wp2
                exact ⟨⟨j + 1, m', rx', ra', wv, a, tb, true, p, by omega, by go_num, rfl, rfl, rfl, HW5.out.setN a, Nat.le_trans HM'.out (by omega), HIx.out⟩, by simp [intOf]; omega⟩
            · subst hne
              have hEq := fun w => eq_run (a := a) (b := a) HBa.out HBa.out w
              rw [decide_eq_true (rfl : a = a)] at hEq
              have hpl2 : (p == lv) = false := by rw [beq_eq_false_iff_ne]; exact hpl
              by_cases hpb : p ≤ blk
              · rw [if_pos hpb, if_pos hpb, if_neg (by simp; exact hpl)] at hI'
                have HIx := Lib.hid hI'
                clear hI'
                go_wp2
                exact ⟨⟨j + 1, m', rx', ra', a, a, true, true, lv, by omega, by go_num, rfl, rfl, rfl, (HW5.out.setN a).setA a, Nat.le_trans HM'.out (by omega), HIx.out⟩, by simp [intOf]; omega⟩
              · rw [if_neg hpb, if_neg hpb, if_neg (by simp; exact hpl)] at hI'
                have HIx := Lib.hid hI'
                clear hI'
                go_wp2
                exact ⟨⟨j + 1, m', rx', ra', wv, a, tb, true, lv, by omega, by go_num, rfl, rfl, rfl, HW5.out.setN a, Nat.le_trans HM'.out (by omega), HIx.out⟩, by simp [intOf]; omega⟩
          · have hEq := fun w => eq_run (a := a) (b := nv) HBa.out HI.out.bn w
            rw [decide_eq_false hne] at hEq
            by_cases hpb : p ≤ blk
            · rw [if_pos hpb, if_pos hpb, if_pos (.inr (.inl hne))] at hI'
              have HIx := Lib.hid hI'
              clear hI'
              go_wp2
              exact ⟨⟨j + 1, m', rx', ra', a, a, true, true, p, by omega, by go_num, rfl, rfl, rfl, (HW5.out.setN a).setA a, Nat.le_trans HM'.out (by omega), HIx.out⟩, by simp [intOf]; omega⟩
            · rw [if_neg hpb, if_neg hpb, if_pos (.inr (.inl hne))] at hI'
              have HIx := Lib.hid hI'
              clear hI'
              go_wp2
              exact ⟨⟨j + 1, m', rx', ra', wv, a, tb, true, p, by omega, by go_num, rfl, rfl, rfl, HW5.out.setN a, Nat.le_trans HM'.out (by omega), HIx.out⟩, by simp [intOf]; omega⟩
      · obtain ⟨rfl, rfl, rfl, hbad, h210⟩ := HI.out.bad HP.out hr0
        clear hr0 n0 n1 n2 n3 nf0 nf1 nf2 nf3 a0 a1 a2' a3 af0 af1 af2 af3
        by_cases h1 : lv ≤ p
        · have h2 : ¬ p ≤ 1099511627776 := fun h => hbad ⟨h1, h⟩
          clear hbad
          rcases h210 with rfl | rfl
          · go_wp2
            exact ⟨⟨j + 1, m', rx', ra', wv, nv, tb, sb, lv, by omega, by go_num, rfl, rfl, rfl, HW5.out, by omega, HI.out⟩, by simp [intOf]; omega⟩
          · go_wp2
            exact ⟨⟨j + 1, m', rx', ra', wv, nv, tb, sb, lv, by omega, by go_num, rfl, rfl, rfl, HW5.out, by omega, HI.out⟩, by simp [intOf]; omega⟩
        · clear hbad
          rcases h210 with rfl | rfl
          · go_wp2
            exact ⟨⟨j + 1, m', rx', ra', wv, nv, tb, sb, lv, by omega, by go_num, rfl, rfl, rfl, HW5.out, by omega, HI.out⟩, by simp [intOf]; omega⟩
          · go_wp2
            exact ⟨⟨j + 1, m', rx', ra', wv, nv, tb, sb, lv, by omega, by go_num, rfl, rfl, rfl, HW5.out, by omega, HI.out⟩, by simp [intOf]; omega⟩
    · obtain rfl : j = N := by omega
      have p2 : ¬ (j : Int) < (j : Int) := by omega
      have hbI := (Below.refl wr.heap.size wr).alloc (Nat.le_refl _) (.cells #[.int .i64 1] 3)
      have hat := hat_law hK0 hKp rfl (fun _ => rfl) hKeysOk (hw.s.below hbI) (by have := HNn.out; omega) (some ⟨wr.heap.size, 0, none⟩) 1 (il1 1 wr 3 (by decide)) (fun h => by cases h) (by omega) blk
      unfold U at hat
      have HAt := Lib.hid hat
      have HbI := Lib.hid hbI
      have HAe := Lib.hid (fun (a : Nat) (o : Bool) (h : AtR m rx ra blk a o) => h.one hi.at_)
      have HBw := Lib.hid hi.bw
      have lw := hp_lt hw.n
      clear hw hi hat hbI HI
      go_upto_region 21 with (go_at_call 15; refine HAt.out.mono ?_; rintro e w5 ⟨⟨a, o, rfl, hat, hba⟩, hb5⟩; obtain ⟨h1, h2⟩ := HAe.out _ _ hat; subst h1 h2; have h5 := (HW.out.below HbI.out).below hb5; have a0 := (hp_cell (i := 0) h5.a).trans rfl; have a1 := (hp_cell (i := 1) h5.a).trans rfl; have a2' := (hp_cell (i := 2) h5.a).trans rfl; have a3 := (hp_cell (i := 3) h5.a).trans rfl; have lz := hp_lt h5.n; have lz1 : ¬ w5.heap.size = w3.heap.size := (by omega); have lz2 : ¬ w3.heap.size = w5.heap.size := (by omega); have lz3 : w3.heap.size < w5.heap.size := (by omega); have H5 := Lib.hid h5.s.l; clear hat hba hb5 h5)
      have hEq := fun w => eq_run (a := a) (b := a) HBw.out HBw.out w
      rw [decide_eq_true (rfl : a = a)] at hEq
      go_wp2_with (go_at_call 12; with_reducible refine (lives11_walk _).mono ?_; rintro e w9 ⟨rfl, hb9⟩; have H9 := Lib.hid hb9; clear hb9)
      go_ret
      have hx := H5.out.alloc H5.out.size (.cells #[.int .u64 (limb a 0 : Nat), .int .u64 (limb a 1 : Nat), .int .u64 (limb a 2 : Nat), .int .u64 (limb a 3 : Nat)] 29)
      exact ⟨rfl, hx.trans (H9.out.mono hx.size)⟩
end Go.Proofs.Ytedkhpnlhkjjgaa
