/- tallageref02.Quo, walked. -/
import Derived.Test.YtiofphpdonlaoaaRF
import Derived.ArgAppend
namespace Go.Proofs.Ytiofphpdonlaoaa
open Go.RowKit Go.Sort

set_option maxRecDepth 100000 in
set_option maxHeartbeats 2000000 in
theorem ofF_walk (a : Nat) (w : World) (ha : a < 2 ^ 256) : Calls Try.prog 74 #[U a] w fun e w' => (∃ v, e = .returned v ∧ NatV w' v a 8 ∧ FreshV w.heap.size v) ∧ Below w.heap.size w w' := by
  obtain ⟨i0, hi, hz0, hz1, hz2⟩ := info_parts infoU32
  have Ha := Lib.hid ha
  clear ha
  unfold U
  go_enter Try.func74, Try.ntmps74
  go_wp2
  go_loopw [3, 4] (OfRel a w) (fun _ y _ => 4 - (intOf y).toNat)
  case atStart =>
    exact ⟨0, by omega, rfl, World.ownsRow_nil _ _ _ _, Arr.new4 (f := limb a) rfl, (Below.refl _ _).alloc (Nat.le_refl _) _, by simp⟩
  case round =>
    obtain ⟨k, hk, rfl, hown, hb, hbel, hsz⟩ := hrel
    by_cases hlt : k < 4
    · have c1 := hb.cell k hlt
      have r1 := w32_lo a k
      have r2 := w32_hi a k
      have hne := own_ne hown (show w.heap.size < w.heap.size + 1 by omega)
      go_wp2
      go_region_held3 (fun w' => w'.cell? ⟨w.heap.size, k, none⟩ = some (.int .u64 (limb a k : Nat)))
        (first
          | go_keep
          | (rw [hgrow.cell_far _ (by show w.heap.size < (wr.alloc _).heap.size; rw [World.size_alloc]; omega) (Ne.symm hne)]; exact ((hb.alloc _).drew).cell k hlt))
        ((refine step_append_lies _ (by rfl) _ _ _ (by rfl) (w.heap.size + 1) 77 i0 _ 1 4 Try.underlying61 hi hz0 hz1 hz2 rfl (by omega) _ (2 * k) (u32s (w32 a) (2 * k)) (by rfl) ((hown.alloc _).drew)
             ⟨wr.heap.size, 0, none⟩ 2 2 [.int .u32 (w32 a (2 * k) : Nat), .int .u32 (w32 a (2 * k + 1) : Nat)] (by rfl) (by rfl) (World.news_of_block (cs := #[.int .u32 (w32 a (2 * k) : Nat), .int .u32 (w32 a (2 * k + 1) : Nat)]) (t := 77) (fr := (0, 0)) (heap_alloc_new wr _)) (by simp [Value.oneCell'])
             (by omega) (by unfold maxLen; omega) (by omega) (by simp; omega) (wr.heap.size + 1) (by simp) ?_; intro gg cap w1 hown1 hgrow hat hlt1))
      go_wp2
      go_roundw
      case rel =>
        have hsz2 : w.heap.size < ((wr.alloc (.cells #[.int .u32 (w32 a (2 * k) : Nat), .int .u32 (w32 a (2 * k + 1) : Nat)] 77)).drew).heap.size := by
          show w.heap.size < (wr.alloc _).heap.size; rw [World.size_alloc]; omega
        refine ⟨k + 1, by omega, by go_num, ?_, ((hb.alloc _).drew).grown hgrow hsz2 hne, ?_, Nat.lt_of_lt_of_le hsz2 hgrow.size⟩
        · rw [show 2 * (k + 1) = 2 * k + 1 + 1 by omega, u32s_succ, u32s_succ, List.append_assoc]; exact hown1
        · exact (below_drewN (hbel.alloc (Nat.le_of_lt hsz) _) 1).grown hgrow (Nat.le_of_lt hsz2) (fun j hj => by have := own_ge hown j hj; omega)
      case measure => simp [intOf]; omega
    · obtain rfl : k = 4 := by omega
      have hws := own_Ws (w32_lt a) hown
      have Hfr := Lib.hid (own_fresh hown)
      have hv : nval (w32 a) (2 * 4) = a := by rw [nval_w32]; exact Nat.mod_eq_of_lt Ha.out
      have Hws := Lib.hid hws
      have Hv := Lib.hid hv
      clear hown hb hws hv
      go_wp2_with (go_at_call 87; refine (trimF_walk _ _ _ _ Hws.out (by omega)).mono ?_; rintro e w' ⟨v, n, rfl, hn, hw, hnv, htr, rfl, hfr⟩)
      go_ret
      exact ⟨⟨v, rfl, ⟨n, w32 a, hn, hw, by rw [hnv]; exact Hv.out, htr⟩, fun g o n c e => Nat.le_of_succ_le (hfr _ Hfr.out g o n c e)⟩, hbel⟩
theorem arr_made8 {w : World} {b : Nat} {t : TypeId} (hb : b = w.heap.size) : Arr .u32 (w.alloc (.cells (madeCells #[Value.int IntKind.u32 0] 8) t)) b 8 (fun _ => 0) := by
  subst hb
  refine Arr.alloc_new w _ _ fun i hi => ?_
  have e : (madeCells #[Value.int IntKind.u32 0] 8).toList = List.replicate 8 (.int .u32 0) := toList_madeCells_one _ _
  rw [← Array.getElem?_toList, e, List.getElem?_replicate, if_pos hi]; rfl
structure QM (w wr : World) (h d : Nat) (F : Nat → Nat) : Prop where
  h : Arr .u64 wr w.heap.size 4 (limb h)
  d : Arr .u64 wr (w.heap.size + 1 + 1) 4 (limb d)
  z : Arr .u64 wr (w.heap.size + 1 + 1 + 1) 4 (fun _ => 0)
  y : Arr .u64 wr (w.heap.size + 1 + 1 + 1 + 1) 4 (fun _ => 0)
  a : Arr .u32 wr (w.heap.size + 1 + 1 + 1 + 1 + 1) 8 F
  b : Below w.heap.size w wr
  s : w.heap.size + 1 + 1 + 1 + 1 + 1 < wr.heap.size
theorem QM.below {w wr w' : World} {h d : Nat} {F : Nat → Nat} (q : QM w wr h d F) (hb : Below wr.heap.size wr w') : QM w w' h d F := by
  have := q.s
  exact ⟨q.h.below hb (by omega), q.d.below hb (by omega), q.z.below hb (by omega), q.y.below hb (by omega), q.a.below hb (by omega), q.b.trans (hb.mono (by omega)), Nat.lt_of_lt_of_le q.s hb.size⟩
theorem QM.drew {w wr : World} {h d : Nat} {F : Nat → Nat} (q : QM w wr h d F) : QM w wr.drew h d F := ⟨q.h.drew, q.d.drew, q.z.drew, q.y.drew, q.a.drew, below_drewN q.b 1, q.s⟩
theorem QM.set {w wr : World} {h d i v : Nat} {F : Nat → Nat} (q : QM w wr h d F) (hi : i < 8) : QM w (wr.setCell ⟨w.heap.size + 1 + 1 + 1 + 1 + 1, i, none⟩ (.int .u32 (v : Nat))) h d (upd F i v) :=
  ⟨q.h.set_far (by omega), q.d.set_far (by omega), q.z.set_far (by omega), q.y.set_far (by omega), q.a.set hi, q.b.setCell (by simp; omega) _, by simp only [World.size_setCell]; exact q.s⟩
theorem QM.alloc {w wr : World} {h d : Nat} {F : Nat → Nat} (q : QM w wr h d F) (o : Obj) : QM w (wr.alloc o) h d F := by
  have := q.s
  exact ⟨q.h.alloc _, q.d.alloc _, q.z.alloc _, q.y.alloc _, q.a.alloc _, q.b.alloc (by omega) _, by rw [World.size_alloc]; omega⟩
theorem qm_first {w : World} {h l d : Nat} {t t' : TypeId} : QM w ((((((w.alloc (.cells #[.int .u64 (limb h 0 : Nat), .int .u64 (limb h 1 : Nat), .int .u64 (limb h 2 : Nat), .int .u64 (limb h 3 : Nat)] t)).alloc (.cells #[.int .u64 (limb l 0 : Nat), .int .u64 (limb l 1 : Nat), .int .u64 (limb l 2 : Nat), .int .u64 (limb l 3 : Nat)] t)).alloc (.cells #[.int .u64 (limb d 0 : Nat), .int .u64 (limb d 1 : Nat), .int .u64 (limb d 2 : Nat), .int .u64 (limb d 3 : Nat)] t)).alloc (.cells #[.int .u64 0, .int .u64 0, .int .u64 0, .int .u64 0] t)).alloc (.cells #[.int .u64 0, .int .u64 0, .int .u64 0, .int .u64 0] t)).alloc (.cells (madeCells #[Value.int IntKind.u32 0] 8) t')) h d (fun _ => 0) := by
  refine ⟨?_, ?_, ?_, ?_, ?_, ?_, by simp⟩
  · exact (((((Arr.new4 (f := limb h) rfl).alloc _).alloc _).alloc _).alloc _).alloc _
  · exact (((Arr.new4 (f := limb d) (by simp)).alloc _).alloc _).alloc _
  · exact ((Arr.new4 (f := fun _ => 0) (by simp)).alloc _).alloc _
  · exact (Arr.new4 (f := fun _ => 0) (by simp)).alloc _
  · exact arr_made8 (by simp)
  · exact ((((((Below.refl _ _).alloc (Nat.le_refl _) _).alloc (by simp only [World.size_alloc]; omega) _).alloc (by simp only [World.size_alloc]; omega) _).alloc (by simp only [World.size_alloc]; omega) _).alloc (by simp only [World.size_alloc]; omega) _).alloc (by simp only [World.size_alloc]; omega) _

theorem Ws.set_far {w : World} {v : Value} {n B i : Nat} {f : Nat → Nat} {x : Value} (h : Ws w v n f) (hf : FreshV (B + 1) v) : Ws (w.setCell ⟨B, i, none⟩ x) v n f := by
  refine ⟨h.small, ?_⟩
  rcases h.at_ with h1 | ⟨g, o, c, rfl, hc, hg, hx⟩
  · exact .inl h1
  · have hb := hf _ _ _ _ rfl
    exact .inr ⟨g, o, c, rfl, hc, by rw [World.size_setCell]; exact hg, fun i' hi => by rw [World.cell?_setCell_far _ _ _ _ (show B ≠ g by omega)]; exact hx i' hi⟩
theorem Ws.cell_at {w : World} {g o c n i : Nat} {f : Nat → Nat} (h : Ws w (.slice (some ⟨g, o, none⟩) n c) n f) (hi : i < n) : w.cell? ⟨g, o + i, none⟩ = some (.int .u32 (f i : Nat)) := by
  rcases h.at_ with ⟨h1, _⟩ | ⟨g', o', c', e, _, _, hx⟩
  · cases h1
  · cases e; exact hx i hi
/-- the low words laid, the first k of them -/
def QRel (w : World) (h d n : Nat) (f : Nat → Nat) (v x : Value) (wr : World) : Prop :=
  ∃ (k : Nat) (F : Nat → Nat), k ≤ n ∧ x = .int .i64 (k : Nat) ∧ (∀ j, j < k → F j = f j) ∧ (∀ j, k ≤ j → F j = 0) ∧ (∀ j, F j < 2 ^ 32) ∧ QM w wr h d F ∧ Ws wr v n f
theorem qrel_step {w wr : World} {h d n k : Nat} {f F : Nat → Nat} {v : Value} (hk : k < n) (hn : n ≤ 8) (h1 : ∀ j, j < k → F j = f j) (h2 : ∀ j, k ≤ j → F j = 0) (h3 : ∀ j, F j < 2 ^ 32) (q : QM w wr h d F) (hv : Ws wr v n f) (hf : FreshV (w.heap.size + 1 + 1 + 1 + 1 + 1 + 1) v) :
    QRel w h d n f v (.int .i64 ((k : Int) + 1)) (wr.setCell ⟨w.heap.size + 1 + 1 + 1 + 1 + 1, k, none⟩ (.int .u32 (f k : Nat))) := by
  refine ⟨k + 1, upd F k (f k), by omega, by simp, fun j hj => ?_, fun j hj => ?_, fun j => ?_, q.set (by omega), hv.set_far hf⟩
  · by_cases e : j = k
    · subst e; exact upd_same _ _ _
    · rw [upd_ne _ e]; exact h1 j (by omega)
  · rw [upd_ne _ (by omega)]; exact h2 j (by omega)
  · by_cases e : j = k
    · subst e; rw [upd_same]; exact hv.small _
    · rw [upd_ne _ e]; exact h3 j

theorem low_val {n : Nat} {f F : Nat → Nat} (hn : n ≤ 8) (h1 : ∀ j, j < n → F j = f j) (h2 : ∀ j, n ≤ j → F j = 0) : nval F 8 = nval f n := by
  rw [nval_top (f := F) hn (fun i h _ => h2 i h)]; exact nval_congr n h1
def QCut (w : World) (h d N : Nat) (v : Value) (wx : World) : Prop :=
  ∃ n F G, n ≤ 16 ∧ Ws wx v n G ∧ nval G n = N ∧ QM w wx h d F
theorem qcut_low {w wr : World} {h l d N c : Nat} {F : Nat → Nat} (hF : ∀ j, F j < 2 ^ 32) (q : QM w wr h d F) (hl : nval F 8 = l) (hh : 0 = h) (hN : N = h * 2 ^ 256 + l) (hc : c = 8 := by rfl) :
    QCut w h d N (.slice (some ⟨w.heap.size + 1 + 1 + 1 + 1 + 1, 0, none⟩) 8 c) wr := by
  subst hc
  exact ⟨8, F, F, by omega, q.a.Ws hF q.s, by rw [hl, hN, ← hh]; omega, q⟩
theorem u32s_append (F g : Nat → Nat) (k : Nat) : ∀ m, u32s F k ++ u32s g m = u32s (fun j => if j < k then F j else g (j - k)) (k + m)
  | 0 => by
    show u32s F k ++ [] = _
    rw [List.append_nil]; exact u32s_congr fun i hi => (if_pos hi).symm
  | m + 1 => by
    rw [u32s_succ, ← List.append_assoc, u32s_append F g k m, ← Nat.add_assoc, u32s_succ]
    congr 3
    show _ = ((if k + m < k then F (k + m) else g (k + m - k) : Nat) : Int)
    rw [if_neg (by omega), Nat.add_sub_cancel_left]
theorem QM.grown {w wr w' : World} {h d : Nat} {F : Nat → Nat} (q : QM w wr h d F) (hg : wr.grownBy w' none) : QM w w' h d F := by
  have hs := q.s
  exact ⟨q.h.grown hg (by omega) (by simp), q.d.grown hg (by omega) (by simp), q.z.grown hg (by omega) (by simp), q.y.grown hg (by omega) (by simp), q.a.grown hg (by omega) (by simp), q.b.grown hg (by omega) (by simp), Nat.lt_of_lt_of_le q.s hg.size⟩
theorem qcut_grow {w wr w' : World} {h l d N m e B : Nat} {F g : Nat → Nat} {v : Value} (hF : ∀ j, F j < 2 ^ 32) (hg : ∀ j, g j < 2 ^ 32) (q : QM w wr h d F) (hm : m ≤ 8) (hown : w'.ownsRow B e 1 v (8 + m) (u32s F 8 ++ u32s g m)) (hgr : wr.grownBy w' none)
    (hl : nval F 8 = l) (hh : nval g m = h) (hN : N = h * 2 ^ 256 + l) : QCut w h d N v w' := by
  rw [u32s_append] at hown
  refine ⟨8 + m, F, _, by omega, own_Ws (fun i => ?_) hown, ?_, q.grown hgr⟩
  · show (if i < 8 then F i else g (i - 8)) < 2 ^ 32
    split; exact hF _; exact hg _
  · rw [nval_parts, nval_congr (g := F) 8 (fun i hi => if_pos hi), nval_congr (f := fun i => if 8 + i < 8 then F (8 + i) else g (8 + i - 8)) (g := g) m (fun i _ => by show (if _ then _ else _) = _; rw [if_neg (by omega), Nat.add_sub_cancel_left]), hl, hh, hN, show 32 * 8 = 256 from rfl]; omega
theorem arr_olds {w : World} {b n : Nat} {F : Nat → Nat} (h : Arr .u32 w b n F) : ∀ j u, (u32s F n)[j]? = some u → w.cell? ((⟨b, 0, none⟩ : Addr).add j) = some u := by
  intro j u hu
  have hj : j < n := by have := (List.getElem?_eq_some_iff.1 hu).1; simpa [u32s] using this
  rw [u32s_get hj] at hu
  cases hu
  rw [Addr.add_lit, Nat.zero_add]; exact h.cell j hj
theorem arr_news {w : World} {b o n : Nat} {F : Nat → Nat} (h : ∀ i, i < n → w.cell? ⟨b, o + i, none⟩ = some (.int .u32 (F i : Nat))) : ∀ j u, (u32s F n)[j]? = some u → w.cell? ((⟨b, o, none⟩ : Addr).add j) = some u := by
  intro j u hu
  have hj : j < n := by have := (List.getElem?_eq_some_iff.1 hu).1; simpa [u32s] using this
  rw [u32s_get hj] at hu
  cases hu
  rw [Addr.add_lit]; exact h j hj
theorem u32s_one (g : Nat → Nat) (m : Nat) : ∀ u ∈ u32s g m, u.oneCell' = true := by
  intro u hu
  obtain ⟨_, _, rfl⟩ := List.mem_map.1 hu
  rfl

theorem quoRem_cW (va vb : Value) (N M n : Nat) (f : Nat → Nat) (w : World) (ha : Ws w va n f) (hb : NatV w vb M 8) (hk : n ≤ 16) (hN : nval f n = N) (hM : M ≠ 0) :
    Calls Try.prog 84 #[va, vb] w fun e w' => (∃ q r, e = .returned (.tuple #[q, r]) ∧ NatV w' q (N / M) 20 ∧ NatV w' r (N % M) 20) ∧ Below w.heap.size w w' := by
  obtain ⟨m, g, k1, k2, k3, _⟩ := hb
  rw [← hN, ← k3]
  refine (quoRem_walk va vb n m f g w ha k2 (by omega) (by omega)).mono fun e w' ⟨hr, hw⟩ => ⟨?_, hw⟩
  rcases hr with ⟨h5, _⟩ | ⟨_, q, r, he, ⟨n1, f1, p1, p2, p3, p4⟩, ⟨n2, f2, s1, s2, s3, s4⟩⟩
  · exact absurd (k3.symm.trans h5) hM
  · exact ⟨q, r, he, ⟨n1, f1, by omega, p2, p3, p4⟩, ⟨n2, f2, by omega, s2, s3, s4⟩⟩

set_option maxRecDepth 100000 in
set_option maxHeartbeats 4000000 in
theorem rquo_walk (h l d N : Nat) (w : World) (hh : h < 2 ^ 256) (hl : l < 2 ^ 256) (hd : d < 2 ^ 256) (hN : N = h * 2 ^ 256 + l) :
    Calls Try.prog 48 #[U h, U l, U d] w (QuoPost N d w) := by
  have heqd := fun w => eq0_run hd w
  have Hhl := Lib.hid hh
  have Hll := Lib.hid hl
  have Hdl := Lib.hid hd
  have HN := Lib.hid hN
  clear hh hl hd hN
  unfold U
  by_cases hd0 : d = 0
  · have dd : decide (d = 0) = true := decide_eq_true hd0
    have Hd0 := Lib.hid hd0
    clear hd0
    go_enter Try.func48, Try.ntmps48
    go_wp2
    refine bodyPost_ret (v := .tuple #[.agg #[.int .u64 0, .int .u64 0, .int .u64 0, .int .u64 0], .agg #[.int .u64 0, .int .u64 0, .int .u64 0, .int .u64 0], .bool false]) (by simp [results, Try.results48, go_sem]) rfl (quoPost_no (fun h => h.1 Hd0.out) (by rw [U_zero]) ?_)
    exact ((((((Below.refl _ _).alloc (Nat.le_refl _) _).alloc (by simp only [World.size_alloc]; omega) _).alloc (by simp only [World.size_alloc]; omega) _).alloc (by simp only [World.size_alloc]; omega) _).alloc (by simp only [World.size_alloc]; omega) _)
  · have dd : decide (d = 0) = false := decide_eq_false hd0
    have Hd0 := Lib.hid hd0
    clear hd0
    obtain ⟨i0, hi, hz0, hz1, hz2⟩ := info_parts infoU32
    go_enter Try.func48, Try.ntmps48
    have Q0 := Lib.hid (qm_first (w := w) (h := h) (l := l) (d := d) (t := 24) (t' := 77))
    go_wp2_with (first
      | (go_at_call 74; refine (ofF_walk l _ Hll.out).mono ?_; rintro e w1 ⟨⟨v1, rfl, hv1, hfr⟩, hb1⟩; have q1 := Q0.out.below hb1; obtain ⟨n, f, hn, hw1, hv1, _⟩ := hv1; obtain ⟨A, c, rfl, hA⟩ := hw1.open_)
      | (at_make; refine wpList_make_arr _ rfl _ _ _ rfl 77 i0 (.int .u32 0) 1 Try.underlying61 hi hz0 hz1 .i64 .i64 8 8 8 8 rfl rfl rfl rfl (Nat.le_refl _) (by rw [hz2]; omega) (by unfold maxLen; omega) ?_))
    simp only [World.size_alloc] at hfr
    go_loopw [27] (QRel w h d n f (.slice A n c)) (fun x _ => n - (intOf x).toNat)
    case atStart => exact ⟨0, fun _ => 0, Nat.zero_le _, rfl, fun j hj => absurd hj (by omega), fun _ _ => rfl, by simp, q1, hw1⟩
    case round =>
      obtain ⟨k, F, hk, rfl, hF1, hF2, hF3, q, hws⟩ := hrel
      by_cases hlt : k < n
      · have p1 : (k : Int) < (n : Int) := by omega
        have p2 : (k : Int) < 8 := by omega
        obtain ⟨g, o, rfl, hg, _⟩ := hA (by omega)
        have hg6 := hfr _ _ _ _ rfl
        have ck := hws.cell_at hlt
        have cF := q.a.cell k (by omega)
        have fF := q.a.free k (by omega)
        have Hs := Lib.hid (qrel_step hlt hn hF1 hF2 hF3 q hws hfr)
        clear hF1 hF2 hF3 q hws
        go_wp2
        exact ⟨Hs.out, by simp [intOf]; omega⟩
      · obtain rfl : k = n := by omega
        have p1 : ¬ (k : Int) < (k : Int) := by omega
        have HF1 := Lib.hid hF1
        have HF2 := Lib.hid hF2
        have HF3 := Lib.hid hF3
        have Q := Lib.hid q
        clear hF1 hF2 hF3 q hws hA hw1 q1
        have Hlow := Lib.hid (low_val (n := k) (by omega) HF1.out HF2.out)
        clear HF1 HF2
        rw [hv1] at Hlow
        go_upto_region 9 with (fail)
        go_cut [9] (fun v wx => QCut w h d N v wx)
        case first =>
          obtain ⟨h0, h1, h2, h3⟩ := Q.out.h.cells4
          go_wp2_with fail
          refine (ofn_c h _ Hhl.out).mono ?_
          rintro e w2 ⟨⟨v2, rfl, hv2⟩, hb2⟩
          have Q2 := Lib.hid (Q.out.below hb2)
          obtain ⟨m, g, hm, hw2, hgv, _⟩ := hv2
          clear h0 h1 h2 h3 Q hb2
          rcases hw2.at_ with ⟨rfl, rfl⟩ | ⟨gg, oo, cc, rfl, hcc, hgg, hxx⟩
          · go_wp2
            go_meet
            case rel => exact qcut_low HF3.out Q2.out Hlow.out (by rw [← hgv]; rfl) HN.out
          · by_cases hm0 : m = 0
            · subst hm0
              go_wp2
              go_meet
              case rel => exact qcut_low HF3.out Q2.out Hlow.out (by rw [← hgv]; rfl) HN.out
            · have Hx := Lib.hid hxx
              have Hm0 := Lib.hid hm0
              have Hg := Lib.hid hw2.small
              have Hgv := Lib.hid hgv
              clear hxx hm0 hw2 hgv
              go_wp2_with (at_builtin; refine wpList_append_grows _ rfl _ _ _ rfl 77 i0 (.int .u32 0) 1 4 Try.underlying61 hi hz0 hz1 hz2 rfl (by omega) (some ⟨w.heap.size + 1 + 1 + 1 + 1 + 1, 0, none⟩) 8 8 (u32s F 8) rfl (by intro h; cases h) (by simp [u32s]) (fun b hb => by cases hb; exact arr_olds Q2.out.a) ⟨gg, oo, none⟩ m cc (u32s g m) rfl (by simp [u32s]) (arr_news Hx.out) (u32s_one g m) (by have := Hm0.out; omega) (by unfold maxLen; omega) (by omega) ?_)
              intro v3 w3 hown hgrow
              go_wp2
              go_meet
              case rel => exact qcut_grow HF3.out Hg.out Q2.out hm hown hgrow Hlow.out Hgv.out HN.out
        case rest =>
          obtain ⟨n2, F2, G2, hn2, hw3, hv3, q3⟩ := hcut
          have Hw3 := Lib.hid hw3
          have Hv3 := Lib.hid hv3
          have Q3 := Lib.hid q3
          obtain ⟨d0, d1, d2, d3⟩ := q3.d.cells4
          clear hw3 hv3 q3
          obtain ⟨x, hx⟩ : ∃ x, x = N / d := ⟨_, rfl⟩
          obtain ⟨r, hr⟩ : ∃ x, x = N % d := ⟨_, rfl⟩
          have HX := Lib.hid hx
          have HR := Lib.hid hr
          have HRl := Lib.hid (show r < 2 ^ 256 by rw [hr]; exact Nat.lt_trans (Nat.mod_lt _ (Nat.pos_of_ne_zero Hd0.out)) Hdl.out)
          clear hx hr
          by_cases hfit : x < 2 ^ 256
          · have Hf := Lib.hid hfit
            clear hfit
            go_wp2_with (first
              | (go_at_call 85; with_reducible refine (toU_c v6 r 20 _ (hv6.below ((Below.refl _ _).alloc (Nat.le_refl _) _)) (by omega) HRl.out).mono ?_; rintro e w7 ⟨rfl, hb7⟩; have Q7 := Lib.hid ((Q6.out.alloc _).below hb7); have bx7 := (Box.new (n := x) rfl).below hb7; obtain ⟨z0, z1, z2, z3⟩ := Q7.out.z.frees4; obtain ⟨z0', z1', z2', z3'⟩ := Q7.out.z.cells4; obtain ⟨y0, y1, y2, y3⟩ := Q7.out.y.frees4; obtain ⟨y0', y1', y2', y3'⟩ := Q7.out.y.cells4; have lz7 := Q7.out.z.lt4; have ly7 := Q7.out.y.lt4; have lz6 := Q6.out.z.lt4; have ly6 := Q6.out.y.lt4; have lb7 := bx7.s; obtain ⟨b0, b1, b2, b3⟩ := bx7.a.cells4; unfold U)
              | (go_at_call 85; with_reducible refine (toU_c v5 x 20 _ hv5 (by omega) Hf.out).mono ?_; rintro e w6 ⟨rfl, hb6⟩; have Q6 := Lib.hid (Q5.out.below hb6); have hv6 := hv6.below hb6; unfold U)
              | (go_at_call 84; refine (quoRem_cW _ v4 N d n2 G2 _ (Hw3.out.below hb4) hv4 hn2 Hv3.out Hd0.out).mono ?_; rintro e w5 ⟨⟨v5, v6, rfl, hv5, hv6⟩, hb5⟩; rw [← HX.out] at hv5; rw [← HR.out] at hv6; have Q5 := Lib.hid (Q4.out.below hb5))
              | (go_at_call 74; refine (ofn_c d _ Hdl.out).mono ?_; rintro e w4 ⟨⟨v4, rfl, hv4⟩, hb4⟩; have Q4 := Lib.hid (Q3.out.below hb4)))
            go_region
            all_goals
              go_wp2
              refine bodyPost_ret (v := .tuple #[.agg #[.int .u64 (limb x 0 : Nat), .int .u64 (limb x 1 : Nat), .int .u64 (limb x 2 : Nat), .int .u64 (limb x 3 : Nat)], .agg #[.int .u64 (limb r 0 : Nat), .int .u64 (limb r 1 : Nat), .int .u64 (limb r 2 : Nat), .int .u64 (limb r 3 : Nat)], .bool true]) (by simp [results, Try.results48, go_sem, z0', z1', z2', z3', y0', y1', y2', y3', lz7, ly7]) rfl (quoPost_yes ⟨Hd0.out, by rw [← HX.out]; exact Hf.out⟩ HX.out HR.out rfl ?_)
              refine below_drewN ?_ 1
              repeat (first | with_reducible exact Q7.out.b | with_reducible refine below_set4 ?_ (by omega) | with_reducible refine RowKit.Below.alloc ?_ (by have := Q7.out.b.size; simp only [World.size_setCell]; omega) _)
          · have Hf := Lib.hid hfit
            clear hfit
            go_wp2_with (first
              | (go_at_call 85; with_reducible refine (toUG_c v5 x 20 _ hv5 (by omega)).mono ?_; rintro e w6 ⟨rfl, hb6⟩; rw [if_neg Hf.out, decide_eq_false Hf.out, U_zero]; have Q6 := Lib.hid (Q5.out.below hb6); obtain ⟨z0, z1, z2, z3⟩ := Q6.out.z.frees4; obtain ⟨z0', z1', z2', z3'⟩ := Q6.out.z.cells4; obtain ⟨y0, y1, y2, y3⟩ := Q6.out.y.frees4; obtain ⟨y0', y1', y2', y3'⟩ := Q6.out.y.cells4; have lz := Q6.out.z.lt4; have ly := Q6.out.y.lt4)
              | (go_at_call 84; refine (quoRem_cW _ v4 N d n2 G2 _ (Hw3.out.below hb4) hv4 hn2 Hv3.out Hd0.out).mono ?_; rintro e w5 ⟨⟨v5, v6, rfl, hv5, hv6⟩, hb5⟩; rw [← HX.out] at hv5; have Q5 := Lib.hid (Q4.out.below hb5))
              | (go_at_call 74; refine (ofn_c d _ Hdl.out).mono ?_; rintro e w4 ⟨⟨v4, rfl, hv4⟩, hb4⟩; have Q4 := Lib.hid (Q3.out.below hb4)))
            refine bodyPost_ret (v := .tuple #[.agg #[.int .u64 0, .int .u64 0, .int .u64 0, .int .u64 0], .agg #[.int .u64 0, .int .u64 0, .int .u64 0, .int .u64 0], .bool false]) (by simp [results, Try.results48, go_sem, z0', z1', z2', z3', y0', y1', y2', y3', lz, ly]) rfl (quoPost_no (fun h => Hf.out (by rw [HX.out]; exact h.2)) (by rw [U_zero]) ?_)
            repeat (first | with_reducible exact Q6.out.b | with_reducible refine below_set4 ?_ (by omega) | with_reducible refine RowKit.Below.alloc ?_ (by have := Q6.out.b.size; simp only [World.size_setCell]; omega) _)
end Go.Proofs.Ytiofphpdonlaoaa
