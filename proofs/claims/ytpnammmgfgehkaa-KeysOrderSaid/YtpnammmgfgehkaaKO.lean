/- KeysOrder: keys stand as their numbers do: walked. -/
import Derived.Test.YtpnammmgfgehkaaK3
import Derived.Test.YtpnammmgfgehkaaKM
import Derived.Deep.AppendLies
import Derived.Lib.QuietBelow
namespace Go.Proofs.Ytpnammmgfgehkaa
open Go.RowKit Go.Sort

theorem infoI64 : (Try.prog.info? 3).map (fun i => (i.zero, i.size, i.bytes)) = some (some (.int .i64 0), 1, 8) := by kernel_rfl
def i64s (f : Nat → Int) (k : Nat) : List Value := (List.range k).map fun i => Value.int .i64 (f i)
theorem i64s_succ (f : Nat → Int) (k : Nat) : i64s f (k + 1) = i64s f k ++ [.int .i64 (f k)] := by simp [i64s, List.range_succ]
theorem i64s_get {f : Nat → Int} {k j : Nat} (h : j < k) : (i64s f k)[j]? = some (.int .i64 (f j)) := by simp [i64s, h]
def Apart (v v' : Value) : Prop := ∀ b, v.ownBlock = some b → v'.ownBlock ≠ some b
theorem Apart.ne {v v' : Value} (h : Apart v v') : v.ownBlock = none ∨ v.ownBlock ≠ v'.ownBlock := by
  cases hv : v.ownBlock with
  | none => exact .inl rfl
  | some b => exact .inr fun e => h b hv e.symm
theorem Apart.symm {v v' : Value} (h : Apart v v') : Apart v' v := fun b h1 h2 => h b h2 h1
/-- what is owned, as a slice of ints -/
theorem own_Il {w : World} {B e : Nat} {v : Value} {n : Nat} {f : Nat → Int} (hf : ∀ i, f i < 2 ^ 63) (h : w.ownsRow B e 1 v n (i64s f n)) : ∃ A c, v = .slice A n c ∧ Il w A n f := by
  rcases h.2 with ⟨rfl, rfl⟩ | ⟨g, cap, cur, rfl, hb, hg, r⟩
  · exact ⟨none, 0, rfl, hf, fun h => absurd h (by omega)⟩
  · refine ⟨some ⟨g, 0, none⟩, cap, rfl, hf, fun _ => ⟨g, 0, rfl, lt_of_block hg, fun i hi => ?_⟩⟩
    rw [Nat.zero_add, h.cellAt i (by omega), i64s_get hi]
theorem Il.drewN {w : World} {A : Option Addr} {n : Nat} {f : Nat → Int} (h : Il w A n f) (m : Nat) : Il (w.drewN m) A n f := ⟨h.most, h.at_⟩

/-- the box of two texts -/
structure Box2 (w wr : World) (s0 s1 : ByteArray) : Prop where
  c0 : wr.cell? ⟨w.heap.size, 0, none⟩ = some (.string s0)
  c1 : wr.cell? ⟨w.heap.size, 1, none⟩ = some (.string s1)
  lt : w.heap.size < wr.heap.size
theorem Box2.below {w wr w' : World} {s0 s1 : ByteArray} (h : Box2 w wr s0 s1) {B : Nat} (hb : Below B wr w') (hB : w.heap.size < B) : Box2 w w' s0 s1 :=
  ⟨by rw [hb.cell (p := ⟨w.heap.size, 0, none⟩) hB]; exact h.c0, by rw [hb.cell (p := ⟨w.heap.size, 1, none⟩) hB]; exact h.c1, Nat.lt_of_lt_of_le h.lt hb.size⟩
theorem Box2.drewN {w wr : World} {s0 s1 : ByteArray} (h : Box2 w wr s0 s1) (m : Nat) : Box2 w (wr.drewN m) s0 s1 := ⟨h.c0, h.c1, h.lt⟩
theorem one_cell (w : World) (x : Int) (t : TypeId) : ∀ j u, ([.int .i64 x] : List Value)[j]? = some u → (w.alloc (.cells #[.int .i64 x] t)).cell? ((⟨w.heap.size, 0, none⟩ : Addr).add j) = some u := by
  intro j u h
  match j, h with
  | 0, h => simp at h; subst h; simp [Addr.add]
theorem one_one (x : Int) : ∀ u ∈ ([.int .i64 x] : List Value), u.oneCell' = true := fun u hu => by simp at hu; subst hu; rfl

theorem ord_step {w wr w3 w4 : World} {fx fy : Nat → Int} {k g1 g2 p1 p2 : Nat} {v8 v9 : Value} {s0 s1 : ByteArray} {o1 o2 : Obj}
    (hx : wr.ownsRow (w.heap.size + 1) 3 1 v8 k (i64s fx k)) (hy : wr.ownsRow (w.heap.size + 1) 3 1 v9 k (i64s fy k)) (hap : Apart v8 v9) (hbox : Box2 w wr s0 s1) (hbel : Below w.heap.size w wr)
    (own3 : w3.ownsRow (w.heap.size + 1) 3 1 (.slice (some ⟨g1, 0, none⟩) (k + 1) p1) (k + 1) (i64s fx k ++ [.int .i64 (fx k)])) (hg3 : (wr.alloc o1).grownBy w3 v8.ownBlock) (hor3 : v8.ownBlock = some g1 ∨ g1 = wr.heap.size + 1) (hlt3 : g1 < w3.heap.size)
    (own4 : w4.ownsRow (w.heap.size + 1) 3 1 (.slice (some ⟨g2, 0, none⟩) (k + 1) p2) (k + 1) (i64s fy k ++ [.int .i64 (fy k)])) (hg4 : (w3.alloc o2).grownBy w4 v9.ownBlock) (hor4 : v9.ownBlock = some g2 ∨ g2 = w3.heap.size + 1) :
    w4.ownsRow (w.heap.size + 1) 3 1 (.slice (some ⟨g1, 0, none⟩) (k + 1) p1) (k + 1) (i64s fx (k + 1)) ∧ w4.ownsRow (w.heap.size + 1) 3 1 (.slice (some ⟨g2, 0, none⟩) (k + 1) p2) (k + 1) (i64s fy (k + 1)) ∧
      Apart (.slice (some ⟨g1, 0, none⟩) (k + 1) p1) (.slice (some ⟨g2, 0, none⟩) (k + 1) p2) ∧ Box2 w w4 s0 s1 ∧ Below w.heap.size w w4 := by
  have e3 : wr.heap.size + 1 ≤ w3.heap.size := by have := hg3.size; simpa using this
  have e4 : w3.heap.size + 1 ≤ w4.heap.size := by have := hg4.size; simpa using this
  have l9 : ∀ b, v9.ownBlock = some b → w.heap.size + 1 ≤ b ∧ b < wr.heap.size := hy.lt
  have l8 : ∀ b, v8.ownBlock = some b → w.heap.size + 1 ≤ b ∧ b < wr.heap.size := hx.lt
  have n1 : v9.ownBlock ≠ some g1 := by
    intro e
    rcases hor3 with h | h
    · exact hap g1 h e
    · have := (l9 g1 e).2; omega
  have n2 : g1 ≠ g2 := by
    rcases hor4 with h | h
    · intro e; exact n1 (by rw [e]; exact h)
    · omega
  have b3 : Below w.heap.size w w3 := (hbel.alloc (Nat.le_of_lt hbox.lt) _).grown hg3 (by have := hbox.lt; simp; omega) (fun b hb => by have := (l8 b hb).1; omega)
  have b4 : Below w.heap.size w w4 := (b3.alloc (by have := hbox.lt; omega) _).grown hg4 (by have := hbox.lt; simp; omega) (fun b hb => by have := (l9 b hb).1; omega)
  have q3 : Below (w.heap.size + 1) wr w3 := ((Below.refl _ wr).alloc hbox.lt o1).grown hg3 (by have := hbox.lt; simp; omega) (fun b hb => (l8 b hb).1)
  have q4 : Below (w.heap.size + 1) w3 w4 := ((Below.refl _ w3).alloc (by have := hbox.lt; omega) o2).grown hg4 (by have := hbox.lt; simp; omega) (fun b hb => (l9 b hb).1)
  refine ⟨?_, ?_, ?_, (hbox.below q3 (by omega)).below q4 (by omega), b4⟩
  · rw [i64s_succ]
    exact (own3.alloc _).kept hg4 (.inr (fun e => n1 e.symm))
  · rw [i64s_succ]; exact own4
  · intro b h1 h2
    simp [Value.ownBlock] at h1 h2
    omega

def OrdRel1 (n : Nat) (fx fy : Nat → Int) (s0 s1 : ByteArray) (w : World) (v8 v9 i : Value) (wr : World) : Prop :=
  ∃ k : Nat, k ≤ n ∧ i = .int .i64 (k : Nat) ∧ (∀ j, j < k → 0 ≤ fx j ∧ 0 ≤ fy j) ∧ wr.ownsRow (w.heap.size + 1) 3 1 v8 k (i64s fx k) ∧ wr.ownsRow (w.heap.size + 1) 3 1 v9 k (i64s fy k) ∧ Apart v8 v9 ∧ Box2 w wr s0 s1 ∧ Below w.heap.size w wr
def OrdRel2 (n : Nat) (fx fy : Nat → Int) (s0 s1 : ByteArray) (w : World) (A B : Option Addr) (v13 v14 : Value) (wr : World) : Prop :=
  ∃ r : Nat, r ≤ n ∧ v14 = .int .i64 ((r : Int) - 1) ∧ v13 = .bool (lexL fx fy r (n - r)) ∧ Il wr A n fx ∧ Il wr B n fy ∧ Box2 w wr s0 s1 ∧ Below w.heap.size w wr

theorem lexL_eq {f g : Nat → Int} {q n : Nat} (h : f q = g q) (hq : q + 1 ≤ n) : lexL f g q (n - q) = lexL f g (q + 1) (n - (q + 1)) := by
  rw [show n - q = (n - (q + 1)) + 1 by omega, lexL, if_neg (fun e => e h)]
theorem lexL_ne {f g : Nat → Int} {q n : Nat} (h : f q ≠ g q) (hq : q + 1 ≤ n) : lexL f g q (n - q) = decide (f q < g q) := by
  rw [show n - q = (n - (q + 1)) + 1 by omega, lexL, if_pos h]
theorem pos_succ {fx fy : Nat → Int} {k : Nat} (h : ∀ j, j < k → 0 ≤ fx j ∧ 0 ≤ fy j) (h1 : 0 ≤ fx k) (h2 : 0 ≤ fy k) : ∀ j, j < k + 1 → 0 ≤ fx j ∧ 0 ≤ fy j := fun j hj => by
  rcases Nat.lt_or_ge j k with h' | h'
  · exact h j h'
  · rw [show j = k by omega]; exact ⟨h1, h2⟩

theorem keyX_c (t : Int) (A : Option Addr) (n c : Nat) (f : Nat → Int) (w : World) (hl : Il w A n f) (hn : n ≤ 100) (h1 : 1 ≤ t) (h2 : t ≤ 255) (hp : ∀ i, i < n → 0 ≤ f i) :
    Calls Try.prog 57 #[.int .i64 t, .slice A n c] w fun e w' => e = .returned (.string (strOfNums (ints (kbs t.toNat f n)))) ∧ Below w.heap.size w w' :=
  (key_walk t A n c f w hl hn).mono fun e w' ⟨he, hw⟩ => ⟨by rw [he]; unfold keyStr; rw [if_pos ⟨h1, h2, hp⟩], hw⟩

theorem less_c (a b : ByteArray) (w : World) : Calls Try.prog 62 #[.string a, .string b] w fun e w' => e = .returned (.bool (Op.bytesLess a.toList b.toList)) ∧ Below w.heap.size w w' :=
  (less_walk a b w).mono fun e w' ⟨he, hw⟩ => ⟨he, by rw [hw]; exact Below.refl _ _⟩

set_option maxRecDepth 100000 in
set_option maxHeartbeats 2000000 in
theorem order_walk (A B : Option Addr) (n c m d : Nat) (fl fm fy : Nat → Int) (s0 s1 : ByteArray) (w : World) (hl : Il w A n fl) (hm : Il w B m fm) (hfy : ∀ i, fy i = if i < m then fm i else fl i) (hn63 : (n : Int) ≤ 9223372036854775807) (hm63 : (m : Int) ≤ 9223372036854775807) (hs0 : (s0.size : Int) ≤ 9223372036854775807) (hs1 : (s1.size : Int) ≤ 9223372036854775807) :
    Calls Try.prog 13 #[.slice A n c, .slice B m d, .agg #[.string s0, .string s1]] w fun e w' => e = .returned (.bool true) ∧ Below w.heap.size w w' := by
  obtain ⟨i0, hi, hz0, hz1, hz2⟩ := info_parts infoI64
  have Hfy := Lib.hid hfy
  have hymost : ∀ i, fy i < 2 ^ 63 := fun i => by rw [hfy]; split; exact hm.most i; exact hl.most i
  have Hym := Lib.hid hymost
  clear hfy hymost
  go_enter Try.func13, Try.ntmps13
  go_wp2_with (go_at_call 49; refine (lives9_walk _).mono ?_; rintro e w1 ⟨rfl, hb1⟩)
  all_goals (try (go_ret; exact ⟨rfl, ((Below.refl _ _).alloc (Nat.le_refl _) _).trans (hb1.mono (by simp only [World.size_alloc]; omega))⟩))
  have n50 : (n : Int) ≤ 50 := by omega
  have s200 : (s0.size : Int) ≤ 200 := by omega
  go_loopw [8, 9, 39] (OrdRel1 n fl fy s0 s1 w) (fun _ _ i _ => n - (intOf i).toNat)
  case atStart =>
    exact ⟨0, Nat.zero_le _, rfl, (fun j h => absurd h (by omega)), (World.ownsRow_nil _ _ _ _ : World.ownsRow _ _ _ 1 _ _ []), (World.ownsRow_nil _ _ _ _ : World.ownsRow _ _ _ 1 _ _ []), (fun b h => by simp [Value.ownBlock] at h), ⟨by simp, by simp, by simp⟩, (Below.refl _ _).alloc (Nat.le_refl _) _⟩
  case round =>
    obtain ⟨k, hk, rfl, hpos, hx, hy, hap, hbox, hbel⟩ := hrel
    have Hpos := Lib.hid hpos
    have kI : (k : Int) ≤ n := by omega
    have hsz := hbox.lt
    have bx0 := hbox.c0
    have bx1 := hbox.c1
    clear hpos
    by_cases hlt : k < n
    · obtain ⟨g, o, rfl, hg, hc⟩ := hl.at_ (by omega)
      have hck : wr.cell? ⟨g, o + k, none⟩ = some (.int .i64 (fl k)) := by rw [hbel.cell (p := ⟨g, o + k, none⟩) hg]; exact hc k hlt
      clear hc
      have Hl := Lib.hid hl
      clear hl
      by_cases hkm : k < m
      · obtain ⟨g', o', rfl, hg', hc'⟩ := hm.at_ (by omega)
        have hcm : wr.cell? ⟨g', o' + k, none⟩ = some (.int .i64 (fy k)) := by rw [hbel.cell (p := ⟨g', o' + k, none⟩) hg', Hfy.out k, if_pos hkm]; exact hc' k hkm
        clear hc'
        have Hm := Lib.hid hm
        clear hm
        go_wp2_with (first
          | (go_at_call 49; refine (lives9_walk _).mono ?_; rintro e w1 ⟨rfl, hb1⟩)
          | (at_builtin; refine wpList_append_lies _ rfl (.tmp 60) (.tmp 62) _ rfl (w.heap.size + 1) 3 i0 (.int .i64 0) 1 8 Try.underlying78 hi hz0 hz1 hz2 rfl (by decide) _ k _ rfl (hx.alloc _) ⟨wr.heap.size, 0, none⟩ 1 1 [.int .i64 (fl k)] rfl rfl (one_cell _ _ _) (one_one _) (by omega) (by unfold maxLen; omega) (by omega) (by simp only [World.size_alloc]; omega) (wr.heap.size + 1) (by simp) ?_; intro g1 p1 w3 own3 hg3 hor3 hlt3; have hy3 := (hy.alloc _).kept hg3 hap.symm.ne; have hsz3 : wr.heap.size + 1 ≤ w3.heap.size := (by have := hg3.size; simpa using this))
          | (at_builtin; refine wpList_append_lies _ rfl (.tmp 64) (.tmp 66) _ rfl (w.heap.size + 1) 3 i0 (.int .i64 0) 1 8 Try.underlying78 hi hz0 hz1 hz2 rfl (by decide) _ k _ rfl (hy3.alloc _) ⟨w3.heap.size, 0, none⟩ 1 1 [.int .i64 (fy k)] rfl rfl (one_cell _ _ _) (one_one _) (by omega) (by unfold maxLen; omega) (by omega) (by simp only [World.size_alloc]; omega) (w3.heap.size + 1) (by simp) ?_; intro g2 p2 w4 own4 hg4 hor4 hlt4))
        all_goals (try (go_ret; exact ⟨rfl, hbel.trans (hb1.mono (by omega))⟩))
        go_roundw
        case rel =>
          obtain ⟨r1, r2, r3, r4, r5⟩ := ord_step (fx := fl) (fy := fy) hx hy hap hbox hbel own3 hg3 hor3 hlt3 own4 hg4 hor4
          exact ⟨k + 1, by omega, by go_num, pos_succ Hpos.out (by omega) (by omega), r1, r2, r3, r4, r5⟩
        case measure => simp [intOf]; omega
      · have hfk : fy k = fl k := by rw [Hfy.out k, if_neg hkm]
        have Hfk := Lib.hid hfk
        clear hfk
        go_wp2_with (first
          | (go_at_call 49; refine (lives9_walk _).mono ?_; rintro e w1 ⟨rfl, hb1⟩)
          | (at_builtin; refine wpList_append_lies _ rfl (.tmp 60) (.tmp 62) _ rfl (w.heap.size + 1) 3 i0 (.int .i64 0) 1 8 Try.underlying78 hi hz0 hz1 hz2 rfl (by decide) _ k _ rfl (hx.alloc _) ⟨wr.heap.size, 0, none⟩ 1 1 [.int .i64 (fl k)] rfl rfl (one_cell _ _ _) (one_one _) (by omega) (by unfold maxLen; omega) (by omega) (by simp only [World.size_alloc]; omega) (wr.heap.size + 1) (by simp) ?_; intro g1 p1 w3 own3 hg3 hor3 hlt3; have hy3 := (hy.alloc _).kept hg3 hap.symm.ne; have hsz3 : wr.heap.size + 1 ≤ w3.heap.size := (by have := hg3.size; simpa using this))
          | (at_builtin; refine wpList_append_lies _ rfl (.tmp 64) (.tmp 66) _ rfl (w.heap.size + 1) 3 i0 (.int .i64 0) 1 8 Try.underlying78 hi hz0 hz1 hz2 rfl (by decide) _ k _ rfl (hy3.alloc _) ⟨w3.heap.size, 0, none⟩ 1 1 [.int .i64 (fl k)] rfl rfl (one_cell _ _ _) (one_one _) (by omega) (by unfold maxLen; omega) (by omega) (by simp only [World.size_alloc]; omega) (w3.heap.size + 1) (by simp) ?_; intro g2 p2 w4 own4 hg4 hor4 hlt4))
        all_goals (try (go_ret; exact ⟨rfl, hbel.trans (hb1.mono (by omega))⟩))
        go_roundw
        case rel =>
          rw [← Hfk.out] at own4
          obtain ⟨r1, r2, r3, r4, r5⟩ := ord_step (fx := fl) (fy := fy) hx hy hap hbox hbel own3 hg3 hor3 hlt3 own4 hg4 hor4
          exact ⟨k + 1, by omega, by go_num, pos_succ Hpos.out (by omega) (by rw [Hfk.out]; omega), r1, r2, r3, r4, r5⟩
        case measure => simp [intOf]; omega
    · obtain rfl : k = n := by omega
      obtain ⟨A', c', rfl, hX⟩ := own_Il hl.most hx
      obtain ⟨B', d', rfl, hY⟩ := own_Il Hym.out hy
      clear hx hy hap
      have t1 : Int.tmod (s0.size : Int) 255 = (s0.size : Int) := Int.tmod_eq_of_lt (by omega) (by omega)
      go_wp2
      go_loopw [13, 14] (OrdRel2 k fl fy s0 s1 w A' B') (fun _ i _ => (intOf i + 1).toNat)
      case atStart =>
        exact ⟨k, Nat.le_refl _, rfl, by rw [Nat.sub_self]; rfl, hX, hY, hbox, hbel⟩
      case round =>
        obtain ⟨r, hr, hv14, hv13, hXr, hYr, hboxr, hbelr⟩ := hrel
        have br0 := hboxr.c0
        have br1 := hboxr.c1
        by_cases hr0 : r = 0
        · subst hr0
          subst hv14
          subst hv13
          have hsr := hboxr.lt
          have hp1 : ∀ j, j < k → 0 ≤ fl j := fun j hj => (Hpos.out j hj).1
          have hp2 : ∀ j, j < k → 0 ≤ fy j := fun j hj => (Hpos.out j hj).2
          have HX := Lib.hid hXr
          have HY := Lib.hid hYr
          have Hp1 := Lib.hid hp1
          have Hp2 := Lib.hid hp2
          clear hXr hYr hX hY hp1 hp2
          obtain ⟨bs, hbs⟩ : ∃ b, b = lexL fl fy 0 (k - 0) := ⟨_, rfl⟩
          rw [← hbs]
          have Hbs := Lib.hid hbs
          clear hbs
          obtain ⟨sx, hsx⟩ : ∃ s, s = strOfNums (ints (kbs (1 + (s0.size : Int)).toNat fl k)) := ⟨_, rfl⟩
          obtain ⟨sy, hsy⟩ : ∃ s, s = strOfNums (ints (kbs (1 + (s0.size : Int)).toNat fy k)) := ⟨_, rfl⟩
          have hless : Op.bytesLess sx.toList sy.toList = bs := by
            rw [hsx, hsy, Hbs.out]
            exact key_less (by omega) Hp1.out Hp2.out hl.most Hym.out
          have Hsx := Lib.hid hsx
          have Hsy := Lib.hid hsy
          clear hsx hsy
          go_wp2_with (first
            | (go_at_call 57; refine (keyX_c (1 + (s0.size : Int)) B' k d' fy w2 HY2.out (by omega) (by omega) (by omega) Hp2.out).mono ?_; rintro e w3 ⟨rfl, hb3⟩; rw [← Hsy.out]; have bx3 := bx2.below hb3 bx2.lt; have hbel3 := hbel2.trans (hb3.mono (Nat.le_of_lt bx2.lt)))
            | (go_at_call 57; refine (keyX_c (1 + (s0.size : Int)) A' k c' fl wr HX.out (by omega) (by omega) (by omega) Hp1.out).mono ?_; rintro e w2 ⟨rfl, hb2⟩; rw [← Hsx.out]; have HY2 := Lib.hid (HY.out.below hb2); have bx2 := hboxr.below hb2 hsr; have hsz2 := hb2.size; have hbel2 := hbelr.trans (hb2.mono (Nat.le_of_lt hsr))))
          obtain ⟨y0, y1⟩ : (∀ d os, (grow (redrawn w3 d) os).cell? ⟨w.heap.size, 0, none⟩ = some (.string s0)) ∧ (∀ d os, (grow (redrawn w3 d) os).cell? ⟨w.heap.size, 1, none⟩ = some (.string s1)) := ⟨fun d os => cell_regrown bx3.c0 d os, fun d os => cell_regrown bx3.c1 d os⟩
          have hfin : ∀ dq osq, Below w.heap.size w (grow (redrawn w3 dq) osq) := fun dq osq => hbel3.trans ((below_regrown w3 dq osq).mono (by have := bx3.lt; omega))
          have Hfin := Lib.hid hfin
          have Hb3 := Lib.hid bx3
          clear hfin hb2 hb3 hbel2 hbel3 bx2 bx3 hbelr hboxr hbel hbox bx0 bx1 br0 br1
          refine wp_region_quiet_below (by kernel_rfl) (by kernel_rfl) ?_
          repeat (quiet_step (first | (go_at_call 62; exact Calls.regrown_of (less_c _ _ _)) | (go_at_call 49; exact Calls.regrown_of (lives9_walk _))))
          refine wpQuiet_nil ?_
          intro _ hw'
          obtain ⟨⟨dq, osq⟩, hw''⟩ := hw'
          subst hw''
          go_wp2
          go_ret
          exact ⟨rfl, Hfin.out _ _⟩
        · obtain ⟨q, rfl⟩ : ∃ q, r = q + 1 := ⟨r - 1, by omega⟩
          rw [show ((q + 1 : Nat) : Int) - 1 = (q : Int) by omega] at hv14
          subst hv14
          obtain ⟨bl, hbl⟩ : ∃ b, b = lexL fl fy (q + 1) (k - (q + 1)) := ⟨_, rfl⟩
          rw [← hbl] at hv13
          subst hv13
          obtain ⟨gx, ox, rfl, hgx, hcx⟩ := hXr.at_ (by omega)
          obtain ⟨gy, oy, rfl, hgy, hcy⟩ := hYr.at_ (by omega)
          have cx := hcx q (by omega)
          have cy := hcy q (by omega)
          have qI : (q : Int) < k := by omega
          have Hb := Lib.hid hbl
          clear hbl hcx hcy
          have HX := Lib.hid hXr
          have HY := Lib.hid hYr
          clear hXr hYr hX hY
          by_cases hd : fl q = fy q
          · go_wp2
            go_region
            all_goals (try go_wp2)
            go_roundw
            case rel => exact ⟨q, by omega, rfl, by rw [Hb.out, lexL_eq hd (by omega)], (HX.out).drewN 1, (HY.out).drewN 1, hboxr.drewN 1, below_drewN hbelr 1⟩
            case measure => simp [intOf]
          · go_wp2
            go_region
            all_goals (try go_wp2)
            all_goals (try go_region)
            all_goals (try go_wp2)
            go_roundw
            case rel => exact ⟨q, by omega, rfl, by rw [lexL_ne hd (by omega)], (HX.out).drewN 2, (HY.out).drewN 2, hboxr.drewN 2, below_drewN hbelr 2⟩
            case measure => simp [intOf]
end Go.Proofs.Ytpnammmgfgehkaa
