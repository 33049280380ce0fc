/- The law HistoryTells, walked. -/
import Derived.Test.YtedkhpnlhkjjgaaG27
import Derived.Deep.Cut
import Derived.Deep.CutBlock
import Derived.Test.YtedkhpnlhkjjgaaG19
namespace Go.Proofs.Ytedkhpnlhkjjgaa
open Go.RowKit Go.Maps Go.Sort

/-- what the law's variables say, beside the checkpoints -/
structure HtI (m : Nat) (rx ra : Nat → Nat) (blk : Int) (wv nv : Nat) (th so : Bool) (last : Int) : Prop where
  at_ : AtR m rx ra blk wv th
  hso : so = decide (0 < m)
  hnv : 0 < m → nv = ra (m - 1)
  hlast : last = if m = 0 then 0 else (rx (m - 1) : Int)
  bw : wv < 2 ^ 256
  bn : nv < 2 ^ 256
theorem HtI.start (rx ra : Nat → Nat) (blk : Int) : HtI 0 rx ra blk 0 0 false false 0 :=
  ⟨.inl ⟨rfl, rfl, fun j h => absurd h (by omega)⟩, rfl, fun h => absurd h (by omega), rfl, by decide, by decide⟩
theorem HtI.bad {m : Nat} {rx ra : Nat → Nat} {blk : Int} {wv nv : Nat} {th so : Bool} {last p : Int} {a : Nat} {r : Int} {m' : Nat} {rx' ra' : Nat → Nat} (h : HtI m rx ra blk wv nv th so last) (hp : PushR m rx ra p a r m' rx' ra') (hr : r ≠ 0) :
    m' = m ∧ rx' = rx ∧ ra' = ra ∧ ¬ (last ≤ p ∧ p ≤ 1099511627776) ∧ (r = 2 ∨ r = 10) := by
  have hl := h.hlast
  rcases hp with ⟨h1, h2, h3, h4, h5⟩ | ⟨hb, ⟨h1, h2, h3, h4, h5, h6⟩ | ⟨h1, _⟩ | ⟨h1, _⟩ | ⟨h1, _⟩⟩
  · refine ⟨h3, h4, h5, fun hh => ?_, .inl h1⟩
    have : 0 ≤ last := by rw [hl]; split <;> omega
    omega
  · refine ⟨h4, h5, h6, fun hh => ?_, .inr h1⟩
    rw [if_neg (by omega)] at hl
    omega
  · exact absurd h1 hr
  · exact absurd h1 hr
  · exact absurd h1 hr
theorem HtI.ok {m : Nat} {rx ra : Nat → Nat} {blk : Int} {wv nv : Nat} {th so : Bool} {last p : Int} {a : Nat} {m' : Nat} {rx' ra' : Nat → Nat} (h : HtI m rx ra blk wv nv th so last) (hp : PushR m rx ra p a 0 m' rx' ra') (ha : a < 2 ^ 256) (hinc : ∀ j k, j < k → k < m → rx j < rx k) :
    (last ≤ p ∧ p ≤ 1099511627776) ∧ m' ≤ m + 1 ∧ HtI m' rx' ra' blk (if p ≤ blk then a else wv) a (if p ≤ blk then true else th) true (if so = false ∨ a ≠ nv ∨ p = last then p else last) := by
  have hl := h.hlast
  have hso := h.hso
  have hat : AtR m rx ra blk wv th := h.at_
  have bwv : (if p ≤ blk then a else wv) < 2 ^ 256 := by split; exact ha; exact h.bw
  rcases hp with ⟨h1, _⟩ | ⟨hb, ⟨h1, _⟩ | ⟨_, h2, h3, h4, rfl, rfl, rfl⟩ | ⟨_, h2, h3, rfl, rfl, rfl⟩ | ⟨_, h2, rfl, rfl, rfl⟩⟩
  · omega
  · omega
  · -- it stays
    rw [if_neg (by omega)] at hl
    refine ⟨by omega, by omega, ⟨?_, by simp; omega, fun _ => h4.symm, ?_, bwv, ha⟩⟩
    · by_cases hpb : p ≤ blk
      · rw [if_pos hpb, if_pos hpb]
        exact .inr ⟨m' - 1, by omega, rfl, h4.symm, by omega, fun j hj hjm => absurd hj (by omega)⟩
      · rw [if_neg hpb, if_neg hpb]; exact hat
    · rw [if_neg (by omega : ¬ m' = 0)]
      have e1 : nv = a := by rw [h.hnv h2]; exact h4
      have e2 : so = true := by rw [hso]; simp; omega
      rw [if_neg (by rw [e1, e2]; simp; omega)]
      exact hl
  · -- the last one once more
    rw [if_neg (by omega)] at hl
    refine ⟨by omega, by omega, ⟨?_, by simp; omega, fun _ => by unfold updN; rw [if_pos rfl], ?_, bwv, ha⟩⟩
    · by_cases hpb : p ≤ blk
      · rw [if_pos hpb, if_pos hpb]
        exact .inr ⟨m' - 1, by omega, rfl, by unfold updN; rw [if_pos rfl], by omega, fun j hj hjm => absurd hj (by omega)⟩
      · rw [if_neg hpb, if_neg hpb]
        rcases hat with hh | ⟨k, k1, k2, k3, k4, k5⟩
        · exact .inl hh
        · have hk : k ≠ m' - 1 := fun e => by rw [e] at k4; omega
          exact .inr ⟨k, k1, k2, by unfold updN; rw [if_neg hk]; exact k3, k4, k5⟩
    · rw [if_neg (by omega : ¬ m' = 0), if_pos (.inr (.inr (by omega)))]
      omega
  · -- one more
    have hlast : last ≤ p := by
      rw [hl]
      split
      · exact hb.1
      · rcases h2 with h2 | ⟨h2, _⟩
        · omega
        · omega
    refine ⟨⟨hlast, hb.2⟩, Nat.le_refl _, ⟨?_, by simp, fun _ => by unfold updN; rw [if_pos (by omega)], ?_, bwv, ha⟩⟩
    · by_cases hpb : p ≤ blk
      · rw [if_pos hpb, if_pos hpb]
        exact .inr ⟨m, by omega, rfl, by unfold updN; rw [if_pos rfl], by unfold updN; rw [if_pos rfl]; omega, fun j hj hjm => absurd hj (by omega)⟩
      · rw [if_neg hpb, if_neg hpb]
        rcases hat with ⟨g1, g2, g3⟩ | ⟨k, k1, k2, k3, k4, k5⟩
        · refine .inl ⟨g1, g2, fun j hj => ?_⟩
          unfold updN
          by_cases e : j = m
          · rw [if_pos e]; omega
          · rw [if_neg e]; exact g3 j (by omega)
        · refine .inr ⟨k, by omega, k2, by unfold updN; rw [if_neg (by omega)]; exact k3, by unfold updN; rw [if_neg (by omega)]; exact k4, fun j hj hjm => ?_⟩
          unfold updN
          by_cases e : j = m
          · rw [if_pos e]; omega
          · rw [if_neg e]; exact k5 j hj (by omega)
    · rw [if_neg (by omega : ¬ m + 1 = 0)]
      have hc : so = false ∨ a ≠ nv ∨ p = last := by
        rcases h2 with h2 | ⟨h2, h3⟩
        · left; rw [hso]; simp; omega
        · by_cases hm : m = 0
          · left; rw [hso]; simp; omega
          · right; left; rw [h.hnv (by omega)]; exact fun e => h3 e.symm
      rw [if_pos hc]
      unfold updN
      rw [if_pos (by omega)]
      omega
theorem AtR.one {m : Nat} {rx ra : Nat → Nat} {blk : Int} {a a' : Nat} {o o' : Bool} (h : AtR m rx ra blk a o) (h' : AtR m rx ra blk a' o') : a = a' ∧ o = o' := by
  rcases h with ⟨h1, h2, h3⟩ | ⟨k, k1, k2, k3, k4, k5⟩
  · rcases h' with ⟨g1, g2, _⟩ | ⟨k, k1, _, _, k4, _⟩
    · exact ⟨by omega, by rw [h1, g1]⟩
    · have := h3 k k1; omega
  · rcases h' with ⟨g1, g2, g3⟩ | ⟨i, i1, i2, i3, i4, i5⟩
    · have := g3 k k1; omega
    · obtain rfl : k = i := by
        rcases Nat.lt_trichotomy k i with h | h | h
        · have := k5 i h i1; omega
        · exact h
        · have := i5 k h k1; omega
      exact ⟨by rw [k3, i3], by rw [k2, i2]⟩
theorem fU : Foreign 29 := ⟨by decide, by decide, by decide, by decide⟩
theorem fPush : Foreign 32 := ⟨by decide, by decide, by decide, by decide⟩
theorem fInt : Foreign 3 := ⟨by decide, by decide, by decide, by decide⟩
/-- the law's world: the store, and the boxes of two amounts -/
structure HtW (w W : World) (b g c m : Nat) (rx ra : Nat → Nat) (wv nv : Nat) : Prop where
  s : HisS w W b hK0 hKp c m rx ra
  a : W.heap[g]? = some (.cells #[.int .u64 (limb wv 0 : Nat), .int .u64 (limb wv 1 : Nat), .int .u64 (limb wv 2 : Nat), .int .u64 (limb wv 3 : Nat)] 29 (0, 0))
  n : W.heap[g + 1]? = some (.cells #[.int .u64 (limb nv 0 : Nat), .int .u64 (limb nv 1 : Nat), .int .u64 (limb nv 2 : Nat), .int .u64 (limb nv 3 : Nat)] 29 (0, 0))
  ge : w.heap.size ≤ g
theorem HtW.below {w W W' : World} {b g c m : Nat} {rx ra : Nat → Nat} {wv nv : Nat} (h : HtW w W b g c m rx ra wv nv) (hb : Below W.heap.size W W') : HtW w W' b g c m rx ra wv nv :=
  ⟨h.s.below hb, (hb.block _ (hp_lt h.a)).trans h.a, (hb.block _ (hp_lt h.n)).trans h.n, h.ge⟩
def set4U (W : World) (g a : Nat) : World := (((W.setCell ⟨g, 0, none⟩ (.int .u64 (limb a 0 : Nat))).setCell ⟨g, 1, none⟩ (.int .u64 (limb a 1 : Nat))).setCell ⟨g, 2, none⟩ (.int .u64 (limb a 2 : Nat))).setCell ⟨g, 3, none⟩ (.int .u64 (limb a 3 : Nat))
theorem HtW.setN {w W : World} {b g c m : Nat} {rx ra : Nat → Nat} {wv nv : Nat} (h : HtW w W b g c m rx ra wv nv) (a : Nat) : HtW w (set4U W (g + 1) a) b g c m rx ra wv a :=
  ⟨h.s.other [g + 1] (touch_set4 (by simp)) (fun k hk => by obtain rfl : k = g + 1 := (by simpa using hk); exact ⟨by have := h.ge; omega, _, _, _, h.n, fU⟩), set4_far _ _ _ _ (by omega) h.a, set4_row _ _ _ _ h.n, h.ge⟩
theorem HtW.setA {w W : World} {b g c m : Nat} {rx ra : Nat → Nat} {wv nv : Nat} (h : HtW w W b g c m rx ra wv nv) (a : Nat) : HtW w (set4U W g a) b g c m rx ra a nv :=
  ⟨h.s.other [g] (touch_set4 (by simp)) (fun k hk => by obtain rfl : k = g := (by simpa using hk); exact ⟨h.ge, _, _, _, h.a, fU⟩), set4_row _ _ _ _ h.a, set4_far _ _ _ _ (by omega) h.n, h.ge⟩
end Go.Proofs.Ytedkhpnlhkjjgaa

namespace Go.Proofs.Ytedkhpnlhkjjgaa
open Go.RowKit Go.Maps Go.Sort

/-- the history of the law: table 13, id [7 1] -/
def mK0 : ByteArray := keyStr 13 (two2 7 1) 2
def mKp (k : Int) : ByteArray := keyStr 13 (icat (two2 7 1) 2 fun _ => k) (2 + 1)
def mZ0 : ByteArray := keyStr 13 (two2 0 1) 2
theorem mKp_last : ∀ k : Fin 128, (mKp (k.val : Int)).size = 25 ∧ (mKp (k.val : Int)).get! 24 = UInt8.ofNat k.val := by decide +kernel
theorem mKn : mKp (-1) = ⟨#[]⟩ := by decide +kernel
theorem mK0_size : mK0.size = 17 := by decide +kernel
theorem mKeysOk : KeysOk mK0 mKp := by
  have e0 := mK0_size
  have en := mKn
  refine ⟨⟨by rw [e0]; decide, fun e => by rw [e] at e0; exact absurd e0 (by decide)⟩, fun k hk => ?_, ⟨by rw [en]; decide, by rw [en]; intro e; rw [← e] at e0; exact absurd e0 (by decide)⟩, fun j k hj hk he => ?_⟩
  · have h := (mKp_last ⟨k, hk⟩).1
    simp only at h
    refine ⟨by rw [h]; decide, fun e => ?_, fun e => ?_, fun e => ?_⟩
    · rw [e] at h; exact absurd h (by decide)
    · rw [e, e0] at h; exact absurd h (by decide)
    · rw [e, en] at h; exact absurd h (by decide)
  · have h1 := (mKp_last ⟨j, hj⟩).2
    have h2 := (mKp_last ⟨k, hk⟩).2
    simp only at h1 h2
    rw [he, h2] at h1
    have := congrArg UInt8.toNat h1
    simp at this
    omega
theorem mZ0_none {L : SL} {m : Nat} {rx ra : Nat → Nat} (h : HisL mK0 mKp L m rx ra) (hm : m ≤ 101) : sget L mZ0 = none := by
  have z1 : mZ0.size = 17 := by decide +kernel
  have z2 : mZ0 ≠ mK0 := by decide +kernel
  cases hc : sget L mZ0 with
  | none => rfl
  | some v =>
    rcases h.only mZ0 (by rw [hc]; exact fun h => by cases h) with e | ⟨j, hj, e⟩
    · exact absurd e z2
    · have := (mKp_last ⟨j, by omega⟩).1
      simp only at this
      rw [← e, z1] at this
      exact absurd this (by decide)
theorem hlast_law {w0 W : World} {b : Nat} {t : Int} {n : Nat} {f : Nat → Int} {c m : Nat} {rx ra : Nat → Nat} (K0 : ByteArray) (Kp : Int → ByteArray) (hK0 : keyStr t f n = K0) (hKp : ∀ k : Int, keyStr t (icat f n fun _ => k) (n + 1) = Kp k) (hk : KeysOk K0 Kp) (h : HisS w0 W b K0 Kp c m rx ra) (hm : m ≤ 101) (A : Option Addr) (cp : Nat)
    (hl : Il W A n f) (hz : A = none → n = 0 ∧ cp = 0) (hn : n ≤ 20) :
    Calls Try.prog 101 #[.pointer (some ⟨b, 0, none⟩), .int .i64 t, .slice A n cp] W fun e W' => e = .returned (.tuple #[U (if m = 0 then 0 else ra (m - 1)), .bool (decide (0 < m))]) ∧ Below W.heap.size W W' := by
  obtain ⟨F, L, q, qs, hs, hq, hd⟩ := h.s
  have HLn : ∀ W1, Below W.heap.size W W1 → _ := fun W1 hb => hlen_live (hs.below hb) t A n cp f (hl.below hb) hn K0 hK0 hk.k0.1 m hd.head (by omega)
  rcases Nat.eq_zero_or_pos m with rfl | h0
  · exact hlast_walk (some ⟨b, 0, none⟩) t A n cp f 0 0 0 false W hl hz hn (by omega) HLn (reads_none hs t A n cp f _ _ (hKp _) (by omega) hk.kn.1 hd.neg)
  · obtain ⟨y, rfl⟩ : ∃ y, m = y + 1 := ⟨m - 1, by omega⟩
    have hR := reads_some hs t A n cp f _ _ (hKp _) (rx y) (ra y) (by have := hd.bx y (by omega); omega) (hd.ba y (by omega)) (by omega) (hk.kp y (by omega)).1 (hd.pts y (by omega))
    have := hlast_walk (some ⟨b, 0, none⟩) t A n cp f (y + 1) (rx y : Nat) (ra y) true W hl hz hn (by omega) HLn (by rw [show (((y + 1 : Nat) : Int)) - 1 = (y : Int) by omega]; exact hR)
    simpa using this
theorem eqUn (a0 a1 a2 a3 b0 b1 b2 b3 : Int) (w : World) : (Op.equalIn 9999 29 (.agg #[.int .u64 a0, .int .u64 a1, .int .u64 a2, .int .u64 a3]) (.agg #[.int .u64 b0, .int .u64 b1, .int .u64 b2, .int .u64 b3])).run Try.prog w =
   .ok (a0 == b0 && a1 == b1 && a2 == b2 && a3 == b3) w := by
  have u3 := Try.underlying27
  have aa := Try.isAgg27
  have z3 := Try.sizeOf27
  rw [show (9999 : Nat) = 9998 + 1 from rfl, Op.equalIn]
  simp only [Sem.run_bind, run_underlying Try.underlying29, Result.andThen_ok]
  simp only [Std.Legacy.Range.forIn_eq_forIn_range', Std.Legacy.Range.size, Nat.sub_zero, Nat.add_sub_cancel, Nat.div_one, List.range'_succ, List.range'_zero, List.forIn_cons, List.forIn_nil]
  go_simp
  by_cases h1 : a0 = b0 <;> by_cases h2 : a1 = b1 <;> by_cases h3 : a2 = b2 <;> by_cases h4 : a3 = b3 <;> simp [h1, h2, h3, h4]
theorem eqF_some (x : Int) (w : World) : (Op.equalIn 10000 155 (.agg #[.int .u64 x, .int .u64 0, .int .u64 0, .int .u64 0, .bool true]) (.agg #[.int .u64 0, .int .u64 0, .int .u64 0, .int .u64 0, .bool false])).run Try.prog w = .ok false w := by
  have u1 := Try.underlying29
  have u2 := Try.underlying4
  have i1 := Try.isAgg29
  have i2 := Try.isAgg4
  have z1 := Try.sizeOf29
  have z2 := Try.sizeOf4
  rw [show (10000 : Nat) = 9999 + 1 from rfl, Op.equalIn]
  simp only [Sem.run_bind, run_underlying Try.underlying155, Result.andThen_ok]
  go_simp
  rw [eqUn]
  rfl
set_option maxRecDepth 100000 in
set_option maxHeartbeats 1000000 in
theorem orOne_got (x : Int) (w : World) : Calls Try.prog 102 #[.int .i64 7, .agg #[.int .u64 x, .int .u64 0, .int .u64 0, .int .u64 0, .bool true]] w fun e w' => e = .returned (.agg #[.int .u64 x, .int .u64 0, .int .u64 0, .int .u64 0]) ∧ Below w.heap.size w w' := by
  have hq := eqF_some x
  go_enter Try.func102, Try.ntmps102
  go_wp2
  refine bodyPost_ret (v := .agg #[.int .u64 x, .int .u64 0, .int .u64 0, .int .u64 0]) (by simp [results, Try.results102, go_sem]) rfl ⟨rfl, ?_⟩
  exact ((Below.refl _ _).alloc (Nat.le_refl _) _).alloc (by simp) _
/-- what is told: the whole, where nothing is -/
def mval (m : Nat) (ra : Nat → Nat) : Nat := if m = 0 then 1000000000000000000 else ra (m - 1)
theorem mmax_law {w0 W : World} {b c m : Nat} {rx ra : Nat → Nat} (h : HisS w0 W b mK0 mKp c m rx ra) (hm : m ≤ 101) (hle : ∀ k, k < m → ra k ≤ 1000000000000000000) :
    Calls Try.prog 50 #[.pointer (some ⟨b, 0, none⟩), .int .i64 7, .int .i64 1] W fun e W' => e = .returned (V1 (mval m ra : Nat)) ∧ Below W.heap.size W W' := by
  have HLs := fun (W1 : World) (g : Nat) (hb : Below W.heap.size W W1) (hl : Il W1 (some ⟨g, 0, none⟩) 2 (two2 7 1)) => hlast_law mK0 mKp rfl (fun _ => rfl) mKeysOk (h.below hb) hm (some ⟨g, 0, none⟩) 2 hl (fun h => by cases h) (by omega)
  unfold mval
  rcases Nat.eq_zero_or_pos m with rfl | h0
  · refine mmax_walk (some ⟨b, 0, none⟩) 7 1 (by decide) (by decide) 0 false 1000000000000000000 W (fun W1 g hb hl => ?_) (orOne_none 7)
    have := HLs W1 g hb hl
    rw [if_pos rfl, U_zero] at this
    exact this
  · rw [if_neg (by omega)]
    refine mmax_walk (some ⟨b, 0, none⟩) 7 1 (by decide) (by decide) (ra (m - 1) : Nat) true (ra (m - 1) : Nat) W (fun W1 g hb hl => ?_) (orOne_got _)
    have := HLs W1 g hb hl
    rw [if_neg (by omega), decide_eq_true h0, U_sm _ (by have := hle (m - 1) (by omega); omega)] at this
    exact this
theorem AtR.ex (rx ra : Nat → Nat) (blk : Int) : ∀ m, ∃ a o, AtR m rx ra blk a o
  | 0 => ⟨0, false, .inl ⟨rfl, rfl, fun j h => absurd h (by omega)⟩⟩
  | m + 1 => by
    by_cases hb : (rx m : Int) ≤ blk
    · exact ⟨ra m, true, .inr ⟨m, by omega, rfl, rfl, hb, fun j h1 h2 => absurd h1 (by omega)⟩⟩
    · obtain ⟨a, o, h⟩ := AtR.ex rx ra blk m
      refine ⟨a, o, ?_⟩
      have ext : ∀ j, j < m + 1 → ¬ j < m → blk < rx j := fun j h1 h2 => by
        obtain rfl : j = m := by omega
        omega
      rcases h with ⟨h1, h2, h3⟩ | ⟨k, k1, k2, k3, k4, k5⟩
      · exact .inl ⟨h1, h2, fun j hj => by by_cases hj2 : j < m; exact h3 j hj2; exact ext j hj hj2⟩
      · exact .inr ⟨k, by omega, k2, k3, k4, fun j hk hj => by by_cases hj2 : j < m; exact k5 j hk hj2; exact ext j hj hj2⟩
/-- what is at a block -/
def mat (m : Nat) (rx ra : Nat → Nat) (blk : Int) (y : Nat) : Prop := (y = 1000000000000000000 ∧ ∀ j, j < m → blk < rx j) ∨ ∃ k, k < m ∧ y = ra k ∧ (rx k : Int) ≤ blk ∧ ∀ j, k < j → j < m → blk < rx j
theorem mat_law {w0 W : World} {b c m : Nat} {rx ra : Nat → Nat} (h : HisS w0 W b mK0 mKp c m rx ra) (hm : m ≤ 101) (hle : ∀ k, k < m → ra k ≤ 1000000000000000000) (blk : Int) :
    ∃ y, mat m rx ra blk y ∧ Calls Try.prog 54 #[.pointer (some ⟨b, 0, none⟩), .int .i64 7, .int .i64 1, .int .i64 blk] W fun e W' => e = .returned (V1 (y : Nat)) ∧ Below W.heap.size W W' := by
  obtain ⟨a, o, hat⟩ := AtR.ex rx ra blk m
  have HLs := fun (W1 : World) (g : Nat) (hb : Below W.heap.size W W1) (hl : Il W1 (some ⟨g, 0, none⟩) 2 (two2 7 1)) => show Calls Try.prog 15 #[.pointer (some ⟨b, 0, none⟩), .int .i64 13, .slice (some ⟨g, 0, none⟩) 2 2, .int .i64 blk] W1 fun e w' => e = .returned (.tuple #[U a, .bool o]) ∧ Below W1.heap.size W1 w' from
    (hat_law mK0 mKp rfl (fun _ => rfl) mKeysOk (h.below hb) hm (some ⟨g, 0, none⟩) 2 hl (fun h => by cases h) (by omega) blk).mono fun e w' ⟨⟨a', o', he, h2, _⟩, hb'⟩ => by
      obtain ⟨rfl, rfl⟩ := hat.one h2
      exact ⟨he, hb'⟩
  rcases hat with ⟨rfl, rfl, h3⟩ | ⟨k, k1, rfl, rfl, k4, k5⟩
  · rw [U_zero] at HLs
    exact ⟨_, .inl ⟨rfl, h3⟩, mat_walk (some ⟨b, 0, none⟩) 7 1 blk (by decide) (by decide) 0 false 1000000000000000000 W HLs (orOne_none 7)⟩
  · rw [U_sm _ (by have := hle k k1; omega)] at HLs
    exact ⟨ra k, .inr ⟨k, k1, rfl, k4, k5⟩, mat_walk (some ⟨b, 0, none⟩) 7 1 blk (by decide) (by decide) (ra k : Nat) true (ra k : Nat) W HLs (orOne_got _)⟩
/-- of nobody: the whole -/
theorem mzero {w0 W : World} {b c m : Nat} {rx ra : Nat → Nat} (h : HisS w0 W b mK0 mKp c m rx ra) (hm : m ≤ 101) (blk : Int) :
    (Calls Try.prog 50 #[.pointer (some ⟨b, 0, none⟩), .int .i64 0, .int .i64 1] W fun e W' => e = .returned (V1 1000000000000000000) ∧ Below W.heap.size W W') ∧
    (Calls Try.prog 54 #[.pointer (some ⟨b, 0, none⟩), .int .i64 0, .int .i64 1, .int .i64 blk] W fun e W' => e = .returned (V1 1000000000000000000) ∧ Below W.heap.size W W') := by
  obtain ⟨F, L, q, qs, hs, hq, hd⟩ := h.s
  have hz := mZ0_none hd hm
  have hn1 : sget L ⟨#[]⟩ = none := by rw [← mKn]; exact hd.neg
  have hzs : mZ0.size ≤ maxLen := by rw [show mZ0.size = 17 by decide +kernel]; decide
  have kn : keyStr 13 (icat (two2 0 1) 2 fun _ => ((0 : Nat) : Int) - 1) (2 + 1) = ⟨#[]⟩ := by decide +kernel
  have kn1 : keyStr 13 (icat (two2 0 1) 2 fun _ => (-1 : Int)) (2 + 1) = ⟨#[]⟩ := by decide +kernel
  have HLn := fun (W1 : World) (g : Nat) (hb : Below W.heap.size W W1) (hl : Il W1 (some ⟨g, 0, none⟩) 2 (two2 0 1)) (W2 : World) (hb2 : Below W1.heap.size W1 W2) => hlen_live ((hs.below hb).below hb2) 13 (some ⟨g, 0, none⟩) 2 2 (two2 0 1) (hl.below hb2) (by omega) mZ0 rfl hzs 0 (.inl ⟨rfl, hz⟩) (by omega)
  constructor
  · refine mmax_walk (some ⟨b, 0, none⟩) 0 1 (by decide) (by decide) 0 false 1000000000000000000 W (fun W1 g hb hl => ?_) (orOne_none 0)
    have := hlast_walk (some ⟨b, 0, none⟩) 13 (some ⟨g, 0, none⟩) 2 2 (two2 0 1) 0 0 0 false W1 hl (fun h => by cases h) (by omega) (by omega) (HLn W1 g hb hl) (reads_none (hs.below hb) 13 _ 2 2 (two2 0 1) _ ⟨#[]⟩ kn (by decide) (by decide) hn1)
    rw [U_zero] at this
    exact this
  · refine mat_walk (some ⟨b, 0, none⟩) 0 1 blk (by decide) (by decide) 0 false 1000000000000000000 W (fun W1 g hb hl => ?_) (orOne_none 0)
    have := hat_walk (some ⟨b, 0, none⟩) 13 (some ⟨g, 0, none⟩) 2 2 (two2 0 1) blk 0 (fun _ => 0) (fun _ => 0) (fun _ => false) W1 hl (fun h => by cases h) (by omega) (by omega) (HLn W1 g hb hl) (fun k h1 h2 => by
      obtain rfl : k = -1 := by omega
      exact reads_none (hs.below hb) 13 _ 2 2 (two2 0 1) _ ⟨#[]⟩ kn1 (by decide) (by decide) hn1) 0 rfl
    rw [U_zero] at this
    exact this
end Go.Proofs.Ytedkhpnlhkjjgaa

namespace Go.Proofs.Ytedkhpnlhkjjgaa
open Go.RowKit Go.Maps Go.Sort

theorem KeepT.touchNew {T : TypeId} {W V V' : World} {G : List Nat} (h : KeepT T W V) (ht : Touch G V V') (hG : ∀ g ∈ G, W.heap.size ≤ g) : KeepT T W V' :=
  ⟨Nat.le_trans h.1 ht.size, fun k cs fr hk => by
    have h1 := h.2 k cs fr hk
    exact (ht.block k (hp_lt h1) (fun hm => by have := hG k hm; have := hp_lt hk; omega)).trans h1⟩
theorem subF (cur a : Nat) (hc : cur ≤ 1000000000000000000) (ha : a < 2 ^ 256) (w : World) (h : ¬ a ≤ cur) : Calls Try.prog 103 #[V1 (cur : Nat), .agg #[.int .u64 (limb a 0 : Nat), .int .u64 (limb a 1 : Nat), .int .u64 (limb a 2 : Nat), .int .u64 (limb a 3 : Nat)]] w fun e w' => e = .returned (.tuple #[.agg #[.int .u64 0, .int .u64 0, .int .u64 0, .int .u64 0], .bool false]) ∧ Below w.heap.size w w' := by
  have hs := sub_walk cur a w (by omega) ha
  rw [U_sm cur (by omega)] at hs
  refine hs.mono ?_
  rintro e w' ⟨he, hb⟩
  rw [if_neg h, decide_eq_false h, U_zero] at he
  exact ⟨he, hb⟩
theorem subT (cur a : Nat) (hc : cur ≤ 1000000000000000000) (w : World) (h : a ≤ cur) : Calls Try.prog 103 #[V1 (cur : Nat), .agg #[.int .u64 (limb a 0 : Nat), .int .u64 (limb a 1 : Nat), .int .u64 (limb a 2 : Nat), .int .u64 (limb a 3 : Nat)]] w fun e w' => e = .returned (.tuple #[V1 ((cur - a : Nat) : Nat), .bool true]) ∧ Below w.heap.size w w' := by
  have hs := sub_walk cur a w (by omega) (by omega)
  rw [U_sm cur (by omega)] at hs
  refine hs.mono ?_
  rintro e w' ⟨he, hb⟩
  rw [if_pos h, decide_eq_true h, U_sm (cur - a) (by omega)] at he
  exact ⟨he, hb⟩
set_option maxRecDepth 100000 in
set_option maxHeartbeats 4000000 in
/-- more is cut than is left -/
theorem mcut_funds {w W : World} {b c m : Nat} {rx ra : Nat → Nat} (h : HisS w W b mK0 mKp c m rx ra) (hm : m ≤ 100) (hle : ∀ k, k < m → ra k ≤ 1000000000000000000) (x a : Nat) (ha : a < 2 ^ 256) (hak : ¬ a ≤ mval m ra) :
    Calls Try.prog 51 #[.pointer (some ⟨b, 0, none⟩), .int .i64 7, .int .i64 1, .int .i64 (x : Nat), U a] W fun e W' => e = .returned (.tuple #[.agg #[.int .u64 0, .int .u64 0, .int .u64 0, .int .u64 0], .agg #[.int .u64 0, .int .u64 0, .int .u64 0, .int .u64 0], .int .i64 13]) ∧ Below W.heap.size W W' := by
  obtain ⟨W0, hW0⟩ : ∃ W0, W0 = ((W.alloc (.cells #[.int .u64 (limb a 0 : Nat), .int .u64 (limb a 1 : Nat), .int .u64 (limb a 2 : Nat), .int .u64 (limb a 3 : Nat)] 29)).alloc (.cells #[.int .u64 0, .int .u64 0, .int .u64 0, .int .u64 0] 29)).alloc (.cells #[.int .u64 0, .int .u64 0, .int .u64 0, .int .u64 0] 29) := ⟨_, rfl⟩
  have hb0 : Below W.heap.size W W0 := by rw [hW0]; exact (((Below.refl _ _).alloc (Nat.le_refl _) _).alloc (by simp) _).alloc (by simp; omega) _
  have rA : W0.heap[W.heap.size]? = some (.cells #[.int .u64 (limb a 0 : Nat), .int .u64 (limb a 1 : Nat), .int .u64 (limb a 2 : Nat), .int .u64 (limb a 3 : Nat)] 29 (0, 0)) := by rw [hW0]; exact (heap_alloc_old _ _ (by simp; omega)).trans ((heap_alloc_old _ _ (by simp)).trans (heap_alloc_new _ _))
  have rb : W0.heap[W.heap.size + 1]? = some (.cells #[.int .u64 0, .int .u64 0, .int .u64 0, .int .u64 0] 29 (0, 0)) := by
    rw [hW0]
    refine (heap_alloc_old _ _ (by simp)).trans ?_
    have := heap_alloc_new (W.alloc (.cells #[.int .u64 (limb a 0 : Nat), .int .u64 (limb a 1 : Nat), .int .u64 (limb a 2 : Nat), .int .u64 (limb a 3 : Nat)] 29)) (.cells #[.int .u64 0, .int .u64 0, .int .u64 0, .int .u64 0] 29)
    rwa [World.size_alloc] at this
  have rc : W0.heap[W.heap.size + 1 + 1]? = some (.cells #[.int .u64 0, .int .u64 0, .int .u64 0, .int .u64 0] 29 (0, 0)) := by
    rw [hW0]
    have := heap_alloc_new ((W.alloc (.cells #[.int .u64 (limb a 0 : Nat), .int .u64 (limb a 1 : Nat), .int .u64 (limb a 2 : Nat), .int .u64 (limb a 3 : Nat)] 29)).alloc (.cells #[.int .u64 0, .int .u64 0, .int .u64 0, .int .u64 0] 29)) (.cells #[.int .u64 0, .int .u64 0, .int .u64 0, .int .u64 0] 29)
    rwa [World.size_alloc, World.size_alloc] at this
  have h0 := h.below hb0
  have HMx := Lib.hid (mmax_law h0 (by omega) hle)
  obtain ⟨cur, ecur⟩ : ∃ z, z = mval m ra := ⟨_, rfl⟩
  rw [← ecur] at hak HMx
  have hcur : cur ≤ 1000000000000000000 := by
    rw [ecur]; unfold mval
    split
    · exact Nat.le_refl _
    · exact hle _ (by omega)
  have HSu := Lib.hid (fun W1 => subF cur a hcur ha W1 hak)
  have H0 := Lib.hid (And.intro hb0 (And.intro rA (And.intro rb rc)))
  have HW := Lib.hid hW0
  clear h h0 hm hle ha hak ecur hcur
  clear hW0 hb0 rA rb rc
  unfold U
  go_enter Try.func51, Try.ntmps51
  go_upto_region 1 with fail
  rw [← HW.out]
  go_upto_region 6 with (first
    | (go_at_call 103; refine (HSu.out _).mono ?_; rintro e w5 ⟨rfl, hb5⟩; have hbx := (Below.refl w3.heap.size w3).alloc (Nat.le_refl _) (.cells #[.int .u64 (cur : Nat), .int .u64 0, .int .u64 0, .int .u64 0] 29); have hby := hbx.trans (hb5.mono hbx.size); have H5 := Lib.hid (H3.out.1.trans (hby.mono H3.out.1.size)); have R13 := Lib.hid ((hb5.block w3.heap.size (by simp)).trans (heap_alloc_new w3 (.cells #[.int .u64 (cur : Nat), .int .u64 0, .int .u64 0, .int .u64 0] 29))); clear hb5 hbx hby)
    | (go_at_call 50; refine HMx.out.mono ?_; rintro e w3 ⟨rfl, hb3⟩; have rx := (hb3.block _ (hp_lt H0.out.2.1)).trans H0.out.2.1; have c0 := (hp_cell (i := 0) rx).trans rfl; have c1 := (hp_cell (i := 1) rx).trans rfl; have c2 := (hp_cell (i := 2) rx).trans rfl; have c3 := (hp_cell (i := 3) rx).trans rfl; have L3 := hp_lt rx; have H3 := Lib.hid (And.intro hb3 rx); clear hb3 rx))
  obtain ⟨W7, hW7⟩ : ∃ W7, W7 = w5.alloc (.cells #[.int .u64 0, .int .u64 0, .int .u64 0, .int .u64 0] 29) := ⟨_, rfl⟩
  have hb7 : Below w5.heap.size w5 W7 := by rw [hW7]; exact (Below.refl _ _).alloc (Nat.le_refl _) _
  have hb07 := H5.out.trans (hb7.mono H5.out.size)
  rw [← hW7]
  clear hW7 c0 c1 c2 c3 L3
  have qb := (hb07.block _ (hp_lt H0.out.2.2.1)).trans H0.out.2.2.1
  have qc := (hb07.block _ (hp_lt H0.out.2.2.2)).trans H0.out.2.2.2
  have d0 := (hp_cell (i := 0) qb).trans rfl
  have d1 := (hp_cell (i := 1) qb).trans rfl
  have d2 := (hp_cell (i := 2) qb).trans rfl
  have d3 := (hp_cell (i := 3) qb).trans rfl
  have g0 := hp_free (i := 0) qb
  have g1 := hp_free (i := 1) qb
  have g2 := hp_free (i := 2) qb
  have g3 := hp_free (i := 3) qb
  have e0 := (hp_cell (i := 0) qc).trans rfl
  have e1 := (hp_cell (i := 1) qc).trans rfl
  have e2 := (hp_cell (i := 2) qc).trans rfl
  have e3 := (hp_cell (i := 3) qc).trans rfl
  have k0 := hp_free (i := 0) qc
  have k1 := hp_free (i := 1) qc
  have k2 := hp_free (i := 2) qc
  have k3 := hp_free (i := 3) qc
  have H7 := Lib.hid (H0.out.1.trans (hb07.mono H0.out.1.size))
  clear qb qc hb7 hb07
  go_wp2
  refine bodyPost_ret (v := .tuple #[.agg #[.int .u64 0, .int .u64 0, .int .u64 0, .int .u64 0], .agg #[.int .u64 0, .int .u64 0, .int .u64 0, .int .u64 0], .int .i64 13]) (by simp [results, Try.results51, go_sem, d0, d1, d2, d3, e0, e1, e2, e3]) rfl ⟨rfl, below_set4 (below_set4 H7.out (by omega)) (by omega)⟩
set_option maxRecDepth 100000 in
set_option maxHeartbeats 4000000 in
theorem mcut_ok {w W : World} {b c m : Nat} {rx ra : Nat → Nat} (h : HisS w W b mK0 mKp c m rx ra) (hc : c < 100000) (hm : m ≤ 100) (hle : ∀ k, k < m → ra k ≤ 1000000000000000000) (x a : Nat) (hx : x ≤ 1000000) (hord : 0 < m → rx (m - 1) ≤ x) (hak : a ≤ mval m ra) :
    Calls Try.prog 51 #[.pointer (some ⟨b, 0, none⟩), .int .i64 7, .int .i64 1, .int .i64 (x : Nat), U a] W fun e W' => ∃ m' rx' ra', e = .returned (.tuple #[V1 (mval m ra : Nat), V1 ((mval m ra - a : Nat) : Nat), .int .i64 0]) ∧ PushR m rx ra (x : Nat) (mval m ra - a) 0 m' rx' ra' ∧ HisS w W' b mK0 mKp (c + 2) m' rx' ra' ∧ ∀ T, Foreign T → KeepT T W W' := by
  obtain ⟨W0, hW0⟩ : ∃ W0, W0 = ((W.alloc (.cells #[.int .u64 (limb a 0 : Nat), .int .u64 (limb a 1 : Nat), .int .u64 (limb a 2 : Nat), .int .u64 (limb a 3 : Nat)] 29)).alloc (.cells #[.int .u64 0, .int .u64 0, .int .u64 0, .int .u64 0] 29)).alloc (.cells #[.int .u64 0, .int .u64 0, .int .u64 0, .int .u64 0] 29) := ⟨_, rfl⟩
  have hb0 : Below W.heap.size W W0 := by rw [hW0]; exact (((Below.refl _ _).alloc (Nat.le_refl _) _).alloc (by simp) _).alloc (by simp; omega) _
  have rA : W0.heap[W.heap.size]? = some (.cells #[.int .u64 (limb a 0 : Nat), .int .u64 (limb a 1 : Nat), .int .u64 (limb a 2 : Nat), .int .u64 (limb a 3 : Nat)] 29 (0, 0)) := by rw [hW0]; exact (heap_alloc_old _ _ (by simp; omega)).trans ((heap_alloc_old _ _ (by simp)).trans (heap_alloc_new _ _))
  have rb : W0.heap[W.heap.size + 1]? = some (.cells #[.int .u64 0, .int .u64 0, .int .u64 0, .int .u64 0] 29 (0, 0)) := by
    rw [hW0]
    refine (heap_alloc_old _ _ (by simp)).trans ?_
    have := heap_alloc_new (W.alloc (.cells #[.int .u64 (limb a 0 : Nat), .int .u64 (limb a 1 : Nat), .int .u64 (limb a 2 : Nat), .int .u64 (limb a 3 : Nat)] 29)) (.cells #[.int .u64 0, .int .u64 0, .int .u64 0, .int .u64 0] 29)
    rwa [World.size_alloc] at this
  have rc : W0.heap[W.heap.size + 1 + 1]? = some (.cells #[.int .u64 0, .int .u64 0, .int .u64 0, .int .u64 0] 29 (0, 0)) := by
    rw [hW0]
    have := heap_alloc_new ((W.alloc (.cells #[.int .u64 (limb a 0 : Nat), .int .u64 (limb a 1 : Nat), .int .u64 (limb a 2 : Nat), .int .u64 (limb a 3 : Nat)] 29)).alloc (.cells #[.int .u64 0, .int .u64 0, .int .u64 0, .int .u64 0] 29)) (.cells #[.int .u64 0, .int .u64 0, .int .u64 0, .int .u64 0] 29)
    rwa [World.size_alloc, World.size_alloc] at this
  have h0 := h.below hb0
  have HMx := Lib.hid (mmax_law h0 (by omega) hle)
  obtain ⟨cur, ecur⟩ : ∃ z, z = mval m ra := ⟨_, rfl⟩
  rw [← ecur] at hak HMx ⊢
  have hcur : cur ≤ 1000000000000000000 := by
    rw [ecur]; unfold mval
    split
    · exact Nat.le_refl _
    · exact hle _ (by omega)
  have HSu := Lib.hid (fun W1 => subT cur a hcur W1 hak)
  obtain ⟨y, ey⟩ : ∃ z, z = cur - a := ⟨_, rfl⟩
  rw [← ey] at HSu ⊢
  have hy : y ≤ 1000000000000000000 := by omega
  have HPu := Lib.hid (fun (W1 : World) (hb : Below W0.heap.size W0 W1) => show Calls Try.prog 14 #[.pointer (some ⟨b, 0, none⟩), .int .i64 13, .slice (some ⟨W1.heap.size, 0, none⟩) 2 2, .int .i64 (x : Nat), .agg #[.int .u64 (y : Nat), .int .u64 0, .int .u64 0, .int .u64 0]] (W1.alloc (.cells #[.int .i64 7, .int .i64 1] 3)) fun e W2 => ∃ m' rx' ra', e = .returned (.int .i64 0) ∧ PushR m rx ra (x : Nat) y 0 m' rx' ra' ∧ HisS w W2 b mK0 mKp (c + 2) m' rx' ra' ∧ ∀ T, Foreign T → KeepT T (W1.alloc (.cells #[.int .i64 7, .int .i64 1] 3)) W2 from by
    have hb1 := (Below.refl W1.heap.size W1).alloc (Nat.le_refl _) (.cells #[.int .i64 7, .int .i64 1] 3)
    have := hpush_law mK0 mKp rfl (fun _ => rfl) mKeysOk ((h0.below hb).below hb1) hc hm (some ⟨W1.heap.size, 0, none⟩) 2 (fun F L q qs hs W' ht => il_touch hs (heap_alloc_new W1 _) (il2 7 1 W1 3 (by decide) (by decide)) fInt W' ht) (fun h => by cases h) (by omega) (x : Nat) y (by omega)
    rw [U_sm y (by omega)] at this
    refine this.mono ?_
    rintro e W2 ⟨r, m', rx', ra', he, hp, hs, hk⟩
    obtain rfl : r = 0 := by
      rcases hp with ⟨_, h1, _⟩ | ⟨_, ⟨_, h1, h2, _⟩ | ⟨h1, _⟩ | ⟨h1, _⟩ | ⟨h1, _⟩⟩
      · omega
      · have := hord h1; omega
      · exact h1
      · exact h1
      · exact h1
    exact ⟨m', rx', ra', he, hp, hs, hk⟩)
  have H0 := Lib.hid (And.intro hb0 (And.intro rA (And.intro rb rc)))
  have HW := Lib.hid hW0
  have HS := Lib.hid h.l.size
  clear h h0 hm hle hak ecur hcur hc hx hord ey hy
  clear hW0 hb0 rA rb rc
  unfold U
  go_enter Try.func51, Try.ntmps51
  go_upto_region 1 with fail
  rw [← HW.out]
  go_upto_region 7 with (first
    | (go_at_call 103; refine (HSu.out _).mono ?_; rintro e w5 ⟨rfl, hb5⟩; have hbx := (Below.refl w3.heap.size w3).alloc (Nat.le_refl _) (.cells #[.int .u64 (cur : Nat), .int .u64 0, .int .u64 0, .int .u64 0] 29); have hby := hbx.trans (hb5.mono hbx.size); have H5 := Lib.hid (H3.out.1.trans (hby.mono H3.out.1.size)); have R13 := Lib.hid ((hb5.block w3.heap.size (by simp)).trans (heap_alloc_new w3 (.cells #[.int .u64 (cur : Nat), .int .u64 0, .int .u64 0, .int .u64 0] 29))); clear hb5 hbx hby)
    | (go_at_call 50; refine HMx.out.mono ?_; rintro e w3 ⟨rfl, hb3⟩; have rx := (hb3.block _ (hp_lt H0.out.2.1)).trans H0.out.2.1; have c0 := (hp_cell (i := 0) rx).trans rfl; have c1 := (hp_cell (i := 1) rx).trans rfl; have c2 := (hp_cell (i := 2) rx).trans rfl; have c3 := (hp_cell (i := 3) rx).trans rfl; have L3 := hp_lt rx; have H3 := Lib.hid (And.intro hb3 rx); clear hb3 rx))
  obtain ⟨W7, hW7⟩ : ∃ W7, W7 = w5.alloc (.cells #[.int .u64 (y : Nat), .int .u64 0, .int .u64 0, .int .u64 0] 29) := ⟨_, rfl⟩
  have hb7 : Below w5.heap.size w5 W7 := by rw [hW7]; exact (Below.refl _ _).alloc (Nat.le_refl _) _
  have r14 : W7.heap[w5.heap.size]? = some (.cells #[.int .u64 (y : Nat), .int .u64 0, .int .u64 0, .int .u64 0] 29 (0, 0)) := by rw [hW7]; exact heap_alloc_new _ _
  have r13 := (hb7.block w3.heap.size (hp_lt R13.out)).trans R13.out
  have hb07 := H5.out.trans (hb7.mono H5.out.size)
  rw [← hW7]
  clear hW7 c0 c1 c2 c3 L3
  have hz7 : W0.heap.size ≤ w3.heap.size := H3.out.1.size
  have hz8 := hp_lt R13.out
  have hzb := hp_lt H0.out.2.2.2
  have L14 := hp_lt r14
  have HL7 := Lib.hid (And.intro hb07 (And.intro r13 (And.intro r14 (And.intro ((hb07.block _ (hp_lt H0.out.2.2.1)).trans H0.out.2.2.1) ((hb07.block _ (hp_lt H0.out.2.2.2)).trans H0.out.2.2.2)))))
  have HZ7 := Lib.hid (And.intro hz7 (And.intro hz8 hzb))
  have c0 := (hp_cell (i := 0) r14).trans rfl
  have c1 := (hp_cell (i := 1) r14).trans rfl
  have c2 := (hp_cell (i := 2) r14).trans rfl
  have c3 := (hp_cell (i := 3) r14).trans rfl
  clear hb7 r14 r13 hb07 hz7 hz8 hzb
  go_upto_region 10 with (go_at_call 14; refine (HPu.out _ HL7.out.1).mono ?_; rintro e w8 ⟨m', rx', ra', rfl, hp8, hs8, hk8⟩; have HP8 := Lib.hid hp8; have HS8 := Lib.hid hs8; have HK8 := Lib.hid hk8; clear hp8 hs8 hk8)
  have tr : ∀ (k : Nat) (cs : Array Value), W7.heap[k]? = some (.cells cs 29 (0, 0)) → w8.heap[k]? = some (.cells cs 29 (0, 0)) := fun k cs ho => (HK8.out _ fU).2 _ _ _ ((heap_alloc_old W7 _ (hp_lt ho)).trans ho)
  have q13 := tr _ _ HL7.out.2.1
  have q14 := tr _ _ HL7.out.2.2.1
  have qb := tr _ _ HL7.out.2.2.2.1
  have qc := tr _ _ HL7.out.2.2.2.2
  clear tr c0 c1 c2 c3
  have H9 := Lib.hid (And.intro q13 (And.intro q14 (And.intro qb qc)))
  have a0 := (hp_cell (i := 0) q13).trans rfl
  have a1 := (hp_cell (i := 1) q13).trans rfl
  have a2 := (hp_cell (i := 2) q13).trans rfl
  have a3 := (hp_cell (i := 3) q13).trans rfl
  have b0 := (hp_cell (i := 0) q14).trans rfl
  have b1 := (hp_cell (i := 1) q14).trans rfl
  have b2 := (hp_cell (i := 2) q14).trans rfl
  have b3 := (hp_cell (i := 3) q14).trans rfl
  have d0 := (hp_cell (i := 0) qb).trans rfl
  have d1 := (hp_cell (i := 1) qb).trans rfl
  have d2 := (hp_cell (i := 2) qb).trans rfl
  have d3 := (hp_cell (i := 3) qb).trans rfl
  have g0 := hp_free (i := 0) qb
  have g1 := hp_free (i := 1) qb
  have g2 := hp_free (i := 2) qb
  have g3 := hp_free (i := 3) qb
  have e0 := (hp_cell (i := 0) qc).trans rfl
  have e1 := (hp_cell (i := 1) qc).trans rfl
  have e2 := (hp_cell (i := 2) qc).trans rfl
  have e3 := (hp_cell (i := 3) qc).trans rfl
  have k0 := hp_free (i := 0) qc
  have k1 := hp_free (i := 1) qc
  have k2 := hp_free (i := 2) qc
  have k3 := hp_free (i := 3) qc
  have n1 : ¬ W.heap.size + 1 = w3.heap.size := by have := HZ7.out.1; have := HZ7.out.2.2; omega
  have n2 : ¬ W.heap.size + 1 = w5.heap.size := by have := HZ7.out.1; have := HZ7.out.2.1; have := HZ7.out.2.2; omega
  have n3 : ¬ W.heap.size + 1 + 1 = w3.heap.size := by have := HZ7.out.1; have := HZ7.out.2.2; omega
  have n4 : ¬ W.heap.size + 1 + 1 = w5.heap.size := by have := HZ7.out.1; have := HZ7.out.2.1; have := HZ7.out.2.2; omega
  clear q13 q14 qb qc
  go_region
  all_goals go_wp2
  all_goals refine bodyPost_ret (v := .tuple #[.agg #[.int .u64 (cur : Nat), .int .u64 0, .int .u64 0, .int .u64 0], .agg #[.int .u64 (y : Nat), .int .u64 0, .int .u64 0, .int .u64 0], .int .i64 0]) (by simp [results, Try.results51, go_sem, d0, d1, d2, d3, e0, e1, e2, e3]) rfl ⟨m', rx', ra', rfl, HP8.out, ?_, fun T hT => ?_⟩
  all_goals
    have hT8 : Touch [W.heap.size + 1, W.heap.size + 1 + 1] w8 _ := (touch_set4 (w := w8) (b := W.heap.size + 1) (x0 := .int .u64 (cur : Nat)) (x1 := .int .u64 0) (x2 := .int .u64 0) (x3 := .int .u64 0) (by simp)).trans (fun _ hk => .inl hk) (touch_set4 (b := W.heap.size + 1 + 1) (x0 := .int .u64 (y : Nat)) (x1 := .int .u64 0) (x2 := .int .u64 0) (x3 := .int .u64 0) (by simp))
  all_goals first
    | (refine (HS8.out.other [W.heap.size + 1, W.heap.size + 1 + 1] hT8 (fun g hg => ?_)).below ((Below.refl _ _).drew)
       simp only [List.mem_cons, List.not_mem_nil, or_false] at hg
       rcases hg with rfl | rfl
       · exact ⟨by have := HS.out; omega, _, _, _, H9.out.2.2.1, fU⟩
       · exact ⟨by have := HS.out; omega, _, _, _, H9.out.2.2.2, fU⟩)
    | (have hk7 := ((KeepT.of_below (T := T) (H0.out.1.trans (HL7.out.1.mono H0.out.1.size))).trans (KeepT.of_below ((Below.refl W7.heap.size W7).alloc (Nat.le_refl _) (.cells #[.int .i64 7, .int .i64 1] 3)))).trans (HK8.out T hT)
       exact (hk7.touchNew hT8 (fun g hg => by simp only [List.mem_cons, List.not_mem_nil, or_false] at hg; omega)).trans (KeepT.of_below ((Below.refl _ _).drew)))
end Go.Proofs.Ytedkhpnlhkjjgaa
