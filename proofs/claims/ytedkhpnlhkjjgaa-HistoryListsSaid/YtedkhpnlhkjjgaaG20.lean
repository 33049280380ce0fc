/- Four cells of a block, set. -/
import Derived.Test.YtedkhpnlhkjjgaaG13
import Derived.Test.YtedkhpnlhkjjgaaG19
import Derived.Deep.Cut
import Derived.Deep.CutBlock
import Derived.Test.YtedkhpnlhkjjgaaG01
namespace Go.Proofs.Ytedkhpnlhkjjgaa
open Go.RowKit

theorem set4_row {w : World} {g : Nat} {t : TypeId} {a b c d : Value} (x0 x1 x2 x3 : Value) (h : w.heap[g]? = some (.cells #[a, b, c, d] t (0, 0))) :
    ((((w.setCell ⟨g, 0, none⟩ x0).setCell ⟨g, 1, none⟩ x1).setCell ⟨g, 2, none⟩ x2).setCell ⟨g, 3, none⟩ x3).heap[g]? = some (.cells #[x0, x1, x2, x3] t (0, 0)) :=
  heap_setCell_row (heap_setCell_row (heap_setCell_row (heap_setCell_row h x0) x1) x2) x3
theorem set4_far {w : World} {g g' : Nat} (x0 x1 x2 x3 : Value) (hne : g ≠ g') {o : Obj} (h : w.heap[g']? = some o) :
    ((((w.setCell ⟨g, 0, none⟩ x0).setCell ⟨g, 1, none⟩ x1).setCell ⟨g, 2, none⟩ x2).setCell ⟨g, 3, none⟩ x3).heap[g']? = some o := by
  rw [Below.heap_setCell _ _ _ _ hne.symm, Below.heap_setCell _ _ _ _ hne.symm, Below.heap_setCell _ _ _ _ hne.symm, Below.heap_setCell _ _ _ _ hne.symm]
  exact h
end Go.Proofs.Ytedkhpnlhkjjgaa

namespace Go.Proofs.Ytedkhpnlhkjjgaa
open Go.RowKit Go.Maps Go.Sort

/-- what the law's variables say, beside the checkpoints -/
structure HtI (m : Nat) (rx ra : Nat → Nat) (blk : Int) (wv nv : Nat) (th so : Bool) (last : Int) : Prop where
  at_ : AtR m rx ra blk wv th
  hso : so = decide (0 < m)
  hnv : 0 < m → nv = ra (m - 1)
  hlast : last = if m = 0 then 0 else (rx (m - 1) : Int)
  bw : wv < 2 ^ 256
  bn : nv < 2 ^ 256
theorem HtI.start (rx ra : Nat → Nat) (blk : Int) : HtI 0 rx ra blk 0 0 false false 0 :=
  ⟨.inl ⟨rfl, rfl, fun j h => absurd h (by omega)⟩, rfl, fun h => absurd h (by omega), rfl, by decide, by decide⟩
theorem HtI.bad {m : Nat} {rx ra : Nat → Nat} {blk : Int} {wv nv : Nat} {th so : Bool} {last p : Int} {a : Nat} {r : Int} {m' : Nat} {rx' ra' : Nat → Nat} (h : HtI m rx ra blk wv nv th so last) (hp : PushR m rx ra p a r m' rx' ra') (hr : r ≠ 0) :
    m' = m ∧ rx' = rx ∧ ra' = ra ∧ ¬ (last ≤ p ∧ p ≤ 1099511627776) ∧ (r = 2 ∨ r = 10) := by
  have hl := h.hlast
  rcases hp with ⟨h1, h2, h3, h4, h5⟩ | ⟨hb, ⟨h1, h2, h3, h4, h5, h6⟩ | ⟨h1, _⟩ | ⟨h1, _⟩ | ⟨h1, _⟩⟩
  · refine ⟨h3, h4, h5, fun hh => ?_, .inl h1⟩
    have : 0 ≤ last := by rw [hl]; split <;> omega
    omega
  · refine ⟨h4, h5, h6, fun hh => ?_, .inr h1⟩
    rw [if_neg (by omega)] at hl
    omega
  · exact absurd h1 hr
  · exact absurd h1 hr
  · exact absurd h1 hr
theorem HtI.ok {m : Nat} {rx ra : Nat → Nat} {blk : Int} {wv nv : Nat} {th so : Bool} {last p : Int} {a : Nat} {m' : Nat} {rx' ra' : Nat → Nat} (h : HtI m rx ra blk wv nv th so last) (hp : PushR m rx ra p a 0 m' rx' ra') (ha : a < 2 ^ 256) (hinc : ∀ j k, j < k → k < m → rx j < rx k) :
    (last ≤ p ∧ p ≤ 1099511627776) ∧ m' ≤ m + 1 ∧ HtI m' rx' ra' blk (if p ≤ blk then a else wv) a (if p ≤ blk then true else th) true (if so = false ∨ a ≠ nv ∨ p = last then p else last) := by
  have hl := h.hlast
  have hso := h.hso
  have hat : AtR m rx ra blk wv th := h.at_
  have bwv : (if p ≤ blk then a else wv) < 2 ^ 256 := by split; exact ha; exact h.bw
  rcases hp with ⟨h1, _⟩ | ⟨hb, ⟨h1, _⟩ | ⟨_, h2, h3, h4, rfl, rfl, rfl⟩ | ⟨_, h2, h3, rfl, rfl, rfl⟩ | ⟨_, h2, rfl, rfl, rfl⟩⟩
  · omega
  · omega
  · -- it stays
    rw [if_neg (by omega)] at hl
    refine ⟨by omega, by omega, ⟨?_, by simp; omega, fun _ => h4.symm, ?_, bwv, ha⟩⟩
    · by_cases hpb : p ≤ blk
      · rw [if_pos hpb, if_pos hpb]
        exact .inr ⟨m' - 1, by omega, rfl, h4.symm, by omega, fun j hj hjm => absurd hj (by omega)⟩
      · rw [if_neg hpb, if_neg hpb]; exact hat
    · rw [if_neg (by omega : ¬ m' = 0)]
      have e1 : nv = a := by rw [h.hnv h2]; exact h4
      have e2 : so = true := by rw [hso]; simp; omega
      rw [if_neg (by rw [e1, e2]; simp; omega)]
      exact hl
  · -- the last one once more
    rw [if_neg (by omega)] at hl
    refine ⟨by omega, by omega, ⟨?_, by simp; omega, fun _ => by unfold updN; rw [if_pos rfl], ?_, bwv, ha⟩⟩
    · by_cases hpb : p ≤ blk
      · rw [if_pos hpb, if_pos hpb]
        exact .inr ⟨m' - 1, by omega, rfl, by unfold updN; rw [if_pos rfl], by omega, fun j hj hjm => absurd hj (by omega)⟩
      · rw [if_neg hpb, if_neg hpb]
        rcases hat with hh | ⟨k, k1, k2, k3, k4, k5⟩
        · exact .inl hh
        · have hk : k ≠ m' - 1 := fun e => by rw [e] at k4; omega
          exact .inr ⟨k, k1, k2, by unfold updN; rw [if_neg hk]; exact k3, k4, k5⟩
    · rw [if_neg (by omega : ¬ m' = 0), if_pos (.inr (.inr (by omega)))]
      omega
  · -- one more
    have hlast : last ≤ p := by
      rw [hl]
      split
      · exact hb.1
      · rcases h2 with h2 | ⟨h2, _⟩
        · omega
        · omega
    refine ⟨⟨hlast, hb.2⟩, Nat.le_refl _, ⟨?_, by simp, fun _ => by unfold updN; rw [if_pos (by omega)], ?_, bwv, ha⟩⟩
    · by_cases hpb : p ≤ blk
      · rw [if_pos hpb, if_pos hpb]
        exact .inr ⟨m, by omega, rfl, by unfold updN; rw [if_pos rfl], by unfold updN; rw [if_pos rfl]; omega, fun j hj hjm => absurd hj (by omega)⟩
      · rw [if_neg hpb, if_neg hpb]
        rcases hat with ⟨g1, g2, g3⟩ | ⟨k, k1, k2, k3, k4, k5⟩
        · refine .inl ⟨g1, g2, fun j hj => ?_⟩
          unfold updN
          by_cases e : j = m
          · rw [if_pos e]; omega
          · rw [if_neg e]; exact g3 j (by omega)
        · refine .inr ⟨k, by omega, k2, by unfold updN; rw [if_neg (by omega)]; exact k3, by unfold updN; rw [if_neg (by omega)]; exact k4, fun j hj hjm => ?_⟩
          unfold updN
          by_cases e : j = m
          · rw [if_pos e]; omega
          · rw [if_neg e]; exact k5 j hj (by omega)
    · rw [if_neg (by omega : ¬ m + 1 = 0)]
      have hc : so = false ∨ a ≠ nv ∨ p = last := by
        rcases h2 with h2 | ⟨h2, h3⟩
        · left; rw [hso]; simp; omega
        · by_cases hm : m = 0
          · left; rw [hso]; simp; omega
          · right; left; rw [h.hnv (by omega)]; exact fun e => h3 e.symm
      rw [if_pos hc]
      unfold updN
      rw [if_pos (by omega)]
      omega
theorem AtR.one {m : Nat} {rx ra : Nat → Nat} {blk : Int} {a a' : Nat} {o o' : Bool} (h : AtR m rx ra blk a o) (h' : AtR m rx ra blk a' o') : a = a' ∧ o = o' := by
  rcases h with ⟨h1, h2, h3⟩ | ⟨k, k1, k2, k3, k4, k5⟩
  · rcases h' with ⟨g1, g2, _⟩ | ⟨k, k1, _, _, k4, _⟩
    · exact ⟨by omega, by rw [h1, g1]⟩
    · have := h3 k k1; omega
  · rcases h' with ⟨g1, g2, g3⟩ | ⟨i, i1, i2, i3, i4, i5⟩
    · have := g3 k k1; omega
    · obtain rfl : k = i := by
        rcases Nat.lt_trichotomy k i with h | h | h
        · have := k5 i h i1; omega
        · exact h
        · have := i5 k h k1; omega
      exact ⟨by rw [k3, i3], by rw [k2, i2]⟩
theorem fU : Foreign 29 := ⟨by decide, by decide, by decide, by decide⟩
theorem fPush : Foreign 32 := ⟨by decide, by decide, by decide, by decide⟩
theorem fInt : Foreign 3 := ⟨by decide, by decide, by decide, by decide⟩
/-- the law's world: the store, and the boxes of two amounts -/
structure HtW (w W : World) (b g c m : Nat) (rx ra : Nat → Nat) (wv nv : Nat) : Prop where
  s : HisS w W b hK0 hKp c m rx ra
  a : W.heap[g]? = some (.cells #[.int .u64 (limb wv 0 : Nat), .int .u64 (limb wv 1 : Nat), .int .u64 (limb wv 2 : Nat), .int .u64 (limb wv 3 : Nat)] 29 (0, 0))
  n : W.heap[g + 1]? = some (.cells #[.int .u64 (limb nv 0 : Nat), .int .u64 (limb nv 1 : Nat), .int .u64 (limb nv 2 : Nat), .int .u64 (limb nv 3 : Nat)] 29 (0, 0))
  ge : w.heap.size ≤ g
theorem HtW.below {w W W' : World} {b g c m : Nat} {rx ra : Nat → Nat} {wv nv : Nat} (h : HtW w W b g c m rx ra wv nv) (hb : Below W.heap.size W W') : HtW w W' b g c m rx ra wv nv :=
  ⟨h.s.below hb, (hb.block _ (hp_lt h.a)).trans h.a, (hb.block _ (hp_lt h.n)).trans h.n, h.ge⟩
def set4U (W : World) (g a : Nat) : World := (((W.setCell ⟨g, 0, none⟩ (.int .u64 (limb a 0 : Nat))).setCell ⟨g, 1, none⟩ (.int .u64 (limb a 1 : Nat))).setCell ⟨g, 2, none⟩ (.int .u64 (limb a 2 : Nat))).setCell ⟨g, 3, none⟩ (.int .u64 (limb a 3 : Nat))
theorem HtW.setN {w W : World} {b g c m : Nat} {rx ra : Nat → Nat} {wv nv : Nat} (h : HtW w W b g c m rx ra wv nv) (a : Nat) : HtW w (set4U W (g + 1) a) b g c m rx ra wv a :=
  ⟨h.s.other [g + 1] (touch_set4 (by simp)) (fun k hk => by obtain rfl : k = g + 1 := (by simpa using hk); exact ⟨by have := h.ge; omega, _, _, _, h.n, fU⟩), set4_far _ _ _ _ (by omega) h.a, set4_row _ _ _ _ h.n, h.ge⟩
theorem HtW.setA {w W : World} {b g c m : Nat} {rx ra : Nat → Nat} {wv nv : Nat} (h : HtW w W b g c m rx ra wv nv) (a : Nat) : HtW w (set4U W g a) b g c m rx ra a nv :=
  ⟨h.s.other [g] (touch_set4 (by simp)) (fun k hk => by obtain rfl : k = g := (by simpa using hk); exact ⟨h.ge, _, _, _, h.a, fU⟩), set4_row _ _ _ _ h.a, set4_far _ _ _ _ (by omega) h.n, h.ge⟩
end Go.Proofs.Ytedkhpnlhkjjgaa

namespace Go.Proofs.Ytedkhpnlhkjjgaa
open Go.RowKit Go.Maps Go.Sort

theorem hinfoU : (Try.prog.info? 29).map (fun i => (i.zero, i.size, i.bytes)) = some (some (.agg #[.int .u64 0, .int .u64 0, .int .u64 0, .int .u64 0]), 4, 32) := by kernel_rfl
def u4s (a : Nat) : List Value := [.int .u64 (limb a 0 : Nat), .int .u64 (limb a 1 : Nat), .int .u64 (limb a 2 : Nat), .int .u64 (limb a 3 : Nat)]
def uys (f : Nat → Nat) : Nat → List Value
  | 0 => []
  | k + 1 => uys f k ++ u4s (f k)
theorem uys_length (f : Nat → Nat) : ∀ k, (uys f k).length = k * 4
  | 0 => rfl
  | k + 1 => by rw [uys, List.length_append, uys_length f k]; simp [u4s]; omega
theorem uys_get (f : Nat → Nat) : ∀ k i, i < k → ∀ j v, (u4s (f i))[j]? = some v → (uys f k)[i * 4 + j]? = some v
  | 0, i, h => absurd h (by omega)
  | k + 1, i, h => fun j v hv => by
    have hj : j < 4 := (List.getElem?_eq_some_iff.1 hv).1
    rw [uys]
    by_cases hik : i = k
    · subst hik
      rw [List.getElem?_append_right (by rw [uys_length]; omega), uys_length, Nat.add_sub_cancel_left]
      exact hv
    · rw [List.getElem?_append_left (by rw [uys_length]; omega)]
      exact uys_get f k i (by omega) j v hv
theorem own_uys {w : World} {B k : Nat} {v : Value} {f : Nat → Nat} (h : w.ownsRow B 29 4 v k (uys f k)) : ∃ A c, v = .slice A k c ∧ RowsV w A k 4 (fun i => u4s (f i)) ∧ (A = none → k = 0 ∧ c = 0) := by
  rcases h.2 with ⟨rfl, rfl⟩ | ⟨g, cap, cur, rfl, hb, hh, r⟩
  · exact ⟨none, 0, rfl, RowsV.nil _ _ _ _, fun _ => ⟨rfl, rfl⟩⟩
  · refine ⟨_, cap, rfl, fun hn => ⟨g, 0, rfl, (h.lt g rfl).2, fun i hi j v hv => ?_⟩, fun h => by cases h⟩
    have := h.cells (g := g) rfl (i * 4 + j) v (uys_get f k i hi j v hv)
    rw [show (0 : Nat) + i * 4 + j = i * 4 + j by omega]
    unfold Addr.add at this
    split at this
    · rename_i h0; rw [show i * 4 + j = 0 from by simpa using h0]; exact this
    · simpa using this
/-- the two rows that are made -/
structure HlI (w2 W : World) (i j : Nat) (rx : Nat → Int) (ra : Nat → Nat) (v8 v9 : Value) : Prop where
  b : Below w2.heap.size w2 W
  x : W.ownsRow w2.heap.size 3 1 v8 i (iys rx i)
  a : W.ownsRow w2.heap.size 29 4 v9 j (uys ra j)
theorem HlI.below {w2 W W' : World} {i j : Nat} {rx : Nat → Int} {ra : Nat → Nat} {v8 v9 : Value} (h : HlI w2 W i j rx ra v8 v9) (hb : Below W.heap.size W W') : HlI w2 W' i j rx ra v8 v9 :=
  ⟨h.b.trans (hb.mono h.b.size), ownsRow_keepT h.x (KeepT.of_below hb), ownsRow_keepT h.a (KeepT.of_below hb)⟩
theorem hl_keep {B k n : Nat} {T T' : TypeId} {V V2 : World} {v : Value} {xs : List Value} {tmp : Array Value} (ho : V.ownsRow B T k v n xs) (hg : (V.alloc (Obj.cells tmp T)).grownBy V2 v.ownBlock) (hne : T' ≠ T) : KeepT T' V V2 := by
  refine (KeepT.of_below ((Below.refl V.heap.size V).alloc (Nat.le_refl _) (Obj.cells tmp T))).trans (KeepT.grown (T' := T) hg (fun g e => ?_) hne)
  obtain ⟨cs, hc⟩ := ownsRow_typ ho e
  exact ⟨cs, (0, 0), (heap_alloc_old V _ (hp_lt hc)).trans hc⟩
theorem HlI.addX {w2 V V2 : World} {i j : Nat} {rx : Nat → Int} {ra : Nat → Nat} {v8 v9 v' : Value} {tmp : Array Value} (h : HlI w2 V i j rx ra v8 v9) (hown : V2.ownsRow w2.heap.size 3 1 v' (i + 1) (iys rx i ++ [.int .i64 (rx i)])) (hg : (V.alloc (Obj.cells tmp 3)).grownBy V2 v8.ownBlock) : HlI w2 V2 (i + 1) j rx ra v' v9 :=
  ⟨(h.b.alloc h.b.size _).grown hg (by simp only [World.size_alloc]; have := h.b.size; omega) (fun j hj => (h.x.lt j hj).1), by rw [iys_succ]; exact hown, ownsRow_keepT h.a (hl_keep h.x hg (by decide))⟩
theorem HlI.addA {w2 V V2 : World} {i j : Nat} {rx : Nat → Int} {ra : Nat → Nat} {v8 v9 v' : Value} {tmp : Array Value} (h : HlI w2 V i j rx ra v8 v9) (hown : V2.ownsRow w2.heap.size 29 4 v' (j + 1) (uys ra j ++ u4s (ra j))) (hg : (V.alloc (Obj.cells tmp 29)).grownBy V2 v9.ownBlock) : HlI w2 V2 i (j + 1) rx ra v8 v' :=
  ⟨(h.b.alloc h.b.size _).grown hg (by simp only [World.size_alloc]; have := h.b.size; omega) (fun j hj => (h.a.lt j hj).1), ownsRow_keepT h.x (hl_keep h.a hg (by decide)), hown⟩
set_option maxRecDepth 100000 in
set_option maxHeartbeats 4000000 in
theorem hlist_walk (P : Option Addr) (t : Int) (A : Option Addr) (n c : Nat) (f : Nat → Int) (m : Nat) (rx : Nat → Int) (ra : Nat → Nat) (w : World) (hl : Il w A n f) (hz : A = none → n = 0 ∧ c = 0) (hn : n ≤ 20) (hm : m ≤ 100000)
    (HL : ∀ W, Below w.heap.size w W → Calls Try.prog 17 #[.pointer P, .int .i64 t, .slice A n c] W fun e w' => e = .returned (.int .i64 (m : Nat)) ∧ Below W.heap.size W w')
    (HR : ∀ k : Nat, k < m → Reads w P t A n c f (k : Nat) (rx k) (ra k) true) :
    Calls Try.prog 16 #[.pointer P, .int .i64 t, .slice A n c] w fun e w' => (∃ B v8 v9, e = .returned (.tuple #[v8, v9]) ∧ w'.ownsRow B 3 1 v8 m (iys rx m) ∧ w'.ownsRow B 29 4 v9 m (uys ra m)) ∧ Below w.heap.size w w' := by
  obtain ⟨i0, hi, hz0, hz1, hz2⟩ := info_parts oinfoInt
  obtain ⟨u0, hu, hy0, hy1, hy2⟩ := info_parts hinfoU
  have HRd := Lib.hid (fun w => reader_walk P t A n c w)
  have HLn := Lib.hid HL
  have HRs := Lib.hid HR
  have HI := Lib.hid (And.intro hl (And.intro hz hn))
  have mI : (m : Int) ≤ 100000 := by omega
  clear HL HR hl hz hn
  go_enter Try.func16, Try.ntmps16
  go_wp2_with (first
    | (go_at_call 17; refine (HLn.out w1 H1.out.1).mono ?_; rintro e w2 ⟨rfl, hb2⟩; have H2 := Lib.hid (And.intro (H1.out.1.trans (hb2.mono H1.out.1.size)) (H1.out.2.below hb2)); clear hb2)
    | (go_at_call 62; refine (HRd.out _).mono ?_; rintro e w1 ⟨rfl, hb1, hc0, hc1, hc2, hlt⟩; have H1 := Lib.hid (And.intro hb1 (show HisAt w1 w.heap.size P t A n c f from ⟨hc0, hc1, hc2, hlt, HI.out.1.below hb1, HI.out.2.1, HI.out.2.2⟩)); clear hb1 hc0 hc1 hc2 hlt))
  go_loopw [8, 9, 23] (fun v8 v9 i wr => ∃ j : Nat, j ≤ m ∧ i = .int .i64 (j : Nat) ∧ HlI w2 wr j j rx ra v8 v9) (fun _ _ i _ => m - (intOf i).toNat)
  case atStart => exact ⟨0, by omega, rfl, Below.refl _ _, World.ownsRow_nil _ _ _ _, World.ownsRow_nil _ _ _ _⟩
  case round =>
    obtain ⟨j, hj, rfl, hh⟩ := hrel
    have HH := Lib.hid hh
    by_cases hlt : j < m
    · have p2 : (j : Int) < (m : Int) := by omega
      have hr := HRs.out j hlt w.heap.size wr (H2.out.1.trans (hh.b.mono H2.out.1.size)) (H2.out.2.below hh.b)
      obtain ⟨x, ex⟩ : ∃ z, z = rx j := ⟨_, rfl⟩
      obtain ⟨a, ea⟩ : ∃ z, z = ra j := ⟨_, rfl⟩
      rw [← ex, ← ea] at hr
      unfold hisV U at hr
      have HRj := Lib.hid hr
      have HE := Lib.hid (And.intro ex ea)
      clear hr hh ex ea
      go_upto_region 9 with (go_at_call 112; with_reducible refine HRj.out.mono ?_; rintro e w4 ⟨rfl, hb4⟩; have H4 := Lib.hid hb4; clear hb4)
      have hbx := H4.out.alloc H4.out.size (.cells #[.int .u64 (limb a 0 : Nat), .int .u64 (limb a 1 : Nat), .int .u64 (limb a 2 : Nat), .int .u64 (limb a 3 : Nat)] 29)
      have r5 := heap_alloc_new w4 (.cells #[.int .u64 (limb a 0 : Nat), .int .u64 (limb a 1 : Nat), .int .u64 (limb a 2 : Nat), .int .u64 (limb a 3 : Nat)] 29)
      obtain ⟨W5, hW5⟩ : ∃ W5, W5 = w4.alloc (.cells #[.int .u64 (limb a 0 : Nat), .int .u64 (limb a 1 : Nat), .int .u64 (limb a 2 : Nat), .int .u64 (limb a 3 : Nat)] 29) := ⟨_, rfl⟩
      rw [← hW5] at hbx r5 ⊢
      clear hW5
      have H5 := Lib.hid (HH.out.below hbx)
      have R5 := Lib.hid r5
      have z5 := (HH.out.below hbx).b.size
      have hox := (HH.out.below hbx).x
      clear hbx r5
      go_upto_region 10 with (at_builtin; refine wpList_append_own _ rfl _ _ _ rfl w2.heap.size 3 i0 _ 1 8 Try.underlying30 hi hz0 hz1 hz2 rfl (by omega) _ j (iys rx j) rfl (hox.alloc _) ⟨W5.heap.size, 0, none⟩ 1 1 [.int .i64 x] rfl rfl (World.news_of_block (cs := #[.int .i64 x]) (t := 3) (fr := (0, 0)) (heap_alloc_new W5 _)) (by simp [Value.oneCell']) (by unfold maxLen; omega) (by omega) (by simp; omega) ?_; intro v1 w6 hown1 hg1 _; have H6 := Lib.hid (H5.out.addX (by rw [← HE.out.1]; exact hown1) hg1); have R6 := Lib.hid ((hl_keep hox hg1 (by decide)).2 _ _ _ R5.out); have d0 := (hp_cell (i := 0) R6.out).trans rfl; have d1 := (hp_cell (i := 1) R6.out).trans rfl; have d2 := (hp_cell (i := 2) R6.out).trans rfl; have d3 := (hp_cell (i := 3) R6.out).trans rfl; clear hown1 hg1)
      have hoa := H6.out.a
      have z6 := H6.out.b.size
      go_wp2_with (at_builtin; refine wpList_append_own _ rfl _ _ _ rfl w2.heap.size 29 u0 _ 4 32 Try.underlying38 hu hy0 hy1 hy2 rfl (by omega) _ j (uys ra j) rfl (hoa.alloc _) ⟨w6.heap.size, 0, none⟩ 1 1 (u4s a) rfl rfl (World.news_of_block (cs := #[.int .u64 (limb a 0 : Nat), .int .u64 (limb a 1 : Nat), .int .u64 (limb a 2 : Nat), .int .u64 (limb a 3 : Nat)]) (t := 29) (fr := (0, 0)) (heap_alloc_new w6 _)) (by simp [Value.oneCell', u4s]) (by unfold maxLen; omega) (by omega) (by simp; omega) ?_; intro v2 w7 hown2 hg2 _; have H7 := Lib.hid (H6.out.addA (by rw [← HE.out.2]; exact hown2) hg2); clear hown2 hg2)
      exact ⟨⟨j + 1, by omega, by go_num, H7.out⟩, by simp [intOf]; omega⟩
    · obtain rfl : j = m := by omega
      have p2 : ¬ (j : Int) < (j : Int) := by omega
      clear hh
      go_wp2
      go_ret2
      exact ⟨⟨_, _, _, rfl, HH.out.x, HH.out.a⟩, H2.out.1.trans (HH.out.b.mono H2.out.1.size)⟩
theorem hlist_law {w0 W : World} {b : Nat} {t : Int} {n : Nat} {f : Nat → Int} {c m : Nat} {rx ra : Nat → Nat} (K0 : ByteArray) (Kp : Int → ByteArray) (hK0 : keyStr t f n = K0) (hKp : ∀ k : Int, keyStr t (icat f n fun _ => k) (n + 1) = Kp k) (hk : KeysOk K0 Kp) (h : HisS w0 W b K0 Kp c m rx ra) (hm : m ≤ 101) (A : Option Addr) (cp : Nat)
    (hl : Il W A n f) (hz : A = none → n = 0 ∧ cp = 0) (hn : n ≤ 20) :
    Calls Try.prog 16 #[.pointer (some ⟨b, 0, none⟩), .int .i64 t, .slice A n cp] W fun e W' => (∃ A1 c1 A2 c2, e = .returned (.tuple #[.slice A1 m c1, .slice A2 m c2]) ∧ Il W' A1 m (fun i => if i < m then (rx i : Int) else 0) ∧ RowsV W' A2 m 4 (fun i => u4s (ra i))) ∧ Below W.heap.size W W' := by
  obtain ⟨F, L, q, qs, hs, hq, hd⟩ := h.s
  refine (hlist_walk (some ⟨b, 0, none⟩) t A n cp f m (fun i => if i < m then (rx i : Int) else 0) ra W hl hz hn (by omega) (fun W1 hb => hlen_live (hs.below hb) t A n cp f (hl.below hb) hn K0 hK0 hk.k0.1 m hd.head (by omega)) (fun k hkm => ?_)).mono ?_
  · have := reads_some hs t A n cp f _ _ (hKp _) (rx k) (ra k) (by have := hd.bx k hkm; omega) (hd.ba k hkm) (by omega) (hk.kp k (by omega)).1 (hd.pts k hkm)
    simp only [if_pos hkm]
    exact this
  · rintro e W' ⟨⟨B, v8, v9, he, hx, ha⟩, hb⟩
    obtain ⟨A1, c1, rfl, il, _⟩ := own_il hx (fun i => by
      split
      · rename_i h; have := hd.bx i h; omega
      · decide)
    obtain ⟨A2, c2, rfl, rv, _⟩ := own_uys ha
    exact ⟨⟨A1, c1, A2, c2, he, il, rv⟩, hb⟩
theorem hlen_law {w0 W : World} {b : Nat} {t : Int} {n : Nat} {f : Nat → Int} {c m : Nat} {rx ra : Nat → Nat} (K0 : ByteArray) (Kp : Int → ByteArray) (hK0 : keyStr t f n = K0) (hk : KeysOk K0 Kp) (h : HisS w0 W b K0 Kp c m rx ra) (hm : m ≤ 101) (A : Option Addr) (cp : Nat)
    (hl : Il W A n f) (hn : n ≤ 20) :
    Calls Try.prog 17 #[.pointer (some ⟨b, 0, none⟩), .int .i64 t, .slice A n cp] W fun e W' => e = .returned (.int .i64 (m : Nat)) ∧ Below W.heap.size W W' := by
  obtain ⟨F, L, q, qs, hs, hq, hd⟩ := h.s
  exact hlen_live hs t A n cp f hl hn K0 hK0 hk.k0.1 m hd.head (by omega)
end Go.Proofs.Ytedkhpnlhkjjgaa
