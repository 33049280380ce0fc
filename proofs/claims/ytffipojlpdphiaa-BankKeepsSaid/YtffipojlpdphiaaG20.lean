/- The store: Undo of many changes, walked. -/
import Derived.Test.YtffipojlpdphiaaG19
import Derived.Test.YtffipojlpdphiaaG11
namespace Go.Proofs.Ytffipojlpdphiaa
open Go.RowKit Go.Maps Go.Sort

def UndPost (b : Nat) (F : List Nat) (L : SL) (R : List Ch) (m : Nat) (w : World) (e : Ending) (w' : World) : Prop :=
  e = .returned (.bool true) ∧ ∃ F', StP w' b F' (und L R (R.length - m)) m (chs (R.drop (R.length - m))) ∧ Touch F w w' ∧ ∀ k ∈ F', k ∈ F ∨ w.heap.size ≤ k
set_option maxRecDepth 100000 in
set_option maxHeartbeats 8000000 in
theorem undo_row (b bm g cap : Nat) (vb : Value) (vk : List Seg) (L : SL) (R : List Ch) (q m : Nat) (w : World) (hqR : q = R.length) (h : StM w b bm vb vk (.slice (some ⟨g, 0, none⟩) q cap) L q (chs R)) (hH : HOk L R) (hm : m ≤ q) (hq : q < 1000000) :
    Calls Try.prog 86 #[.pointer (some ⟨b, 0, none⟩), .int .i64 (m : Nat)] w (UndPost b (fpr b bm vb vk (.slice (some ⟨g, 0, none⟩) q cap) L) L R m w) := by
  have HM := Lib.hid (made_live b _ L q _ w ⟨bm, vb, vk, _, rfl, h⟩)
  have c2 := (hp_cell (i := 2) h.r).trans rfl
  have lb := hp_lt h.r
  obtain ⟨cur, hgc, hn1, hn2, hn3, _, _⟩ := ownsRow_open h.kq
  have Hh := Lib.hid (And.intro h (And.intro hH hqR))
  have HC := Lib.hid (And.intro hn2 hn3)
  have m0 : ¬ (m : Int) < 0 := by omega
  have m1 : ¬ q < m := by omega
  have hcm : cap ≤ 9223372036854775807 := by unfold maxLen at hn2; omega
  clear h hH hqR hgc hn2 hn3
  go_enter Try.func86, Try.ntmps86
  go_wp2_with (go_at_call 70; refine HM.out.mono ?_; rintro e w1 ⟨rfl, rfl⟩)
  go_loopw [5] (fun i wr => ∃ n : Nat, m ≤ n ∧ n ≤ q ∧ i = .int .i64 ((n : Int) - 1) ∧ ∃ vb' vk', StM wr b bm vb' vk' (.slice (some ⟨g, 0, none⟩) q cap) (und L R (q - n)) q (chs R) ∧ Touch (fpr b bm vb vk (.slice (some ⟨g, 0, none⟩) q cap) L) w wr ∧ ∀ k' ∈ fpr b bm vb' vk' (.slice (some ⟨g, 0, none⟩) q cap) (und L R (q - n)), k' ∈ fpr b bm vb vk (.slice (some ⟨g, 0, none⟩) q cap) L ∨ w.heap.size ≤ k') (fun i _ => (intOf i - (m : Int) + 1).toNat)
  case atStart => exact ⟨q, hm, Nat.le_refl _, by go_num, vb, vk, by rw [Nat.sub_self]; exact Hh.out.1, Touch.refl _ _, fun k' hk' => by rw [Nat.sub_self] at hk'; exact .inl hk'⟩
  case round =>
    obtain ⟨n, hmn, hnq, rfl, vb', vk', hM, ht, hF⟩ := hrel
    have c2r := (hp_cell (i := 2) hM.r).trans rfl
    have HR := Lib.hid (And.intro hM (And.intro ht hF))
    by_cases hlt : m < n
    · obtain ⟨n, rfl⟩ : ∃ n', n = n' + 1 := ⟨n - 1, by omega⟩
      rw [show (((n + 1 : Nat) : Int) - 1) = (n : Int) by omega]
      have p1 : (m : Int) ≤ (n : Int) := by omega
      have p2 : (n : Int) < (q : Int) := by omega
      have hj : q - (n + 1) < R.length := by have := Hh.out.2.2; omega
      have hk := chs_at hj (i := n) (by have := Hh.out.2.2; omega)
      have hcc := fun j u (hj : (chs R)[j]? = some u) => ownsRow_cell hM.kq rfl hj
      have k0 := hcc _ _ hk.1
      have k1 := hcc _ _ hk.2.1
      have k2 := hcc _ _ hk.2.2
      have ho := HOk.at_ Hh.out.2.1 hj
      have hs := und_succ L hj
      rw [show q - (n + 1) + 1 = q - n by omega] at hs
      obtain ⟨c, ec⟩ : ∃ y, y = R[q - (n + 1)] := ⟨_, rfl⟩
      rw [← ec] at k0 k1 k2 ho hs
      obtain ⟨k, had, was⟩ := c
      simp only at k0 k1 k2 ho
      have hb0 : Below wr.heap.size wr (wr.alloc (.cells #[.string k, .bool had, .string was] 185)) := (Below.refl _ _).alloc (Nat.le_refl _) _
      have HB0 := Lib.hid hb0
      have HO := Lib.hid ho
      cases had with
      | true =>
        have HP := Lib.hid (put_live b bm vb' vk' (.slice (some ⟨g, 0, none⟩) q cap) _ q (chs R) k was _ (HR.out.1.below hb0) ho.1 ho.2.1 ho.2.2.1)
        rw [show sset (und L R (q - (n + 1))) k was = und L R (q - n) from hs.symm] at HP
        clear hM ht hF hcc hk hb0 ho hs ec
        go_wp2_with (go_at_call 149; refine HP.out.mono ?_; rintro e w6 ⟨rfl, vb5, vk5, hM5, ht5, hF5⟩; have HM6 := Lib.hid (And.intro hM5 (And.intro ht5 hF5)); clear hM5 ht5 hF5)
        exact ⟨⟨n, by omega, by omega, by go_num, vb5, vk5, HM6.out.1, HR.out.2.1.trans HR.out.2.2 ((Touch.of_below HB0.out).trans (fun _ hk => .inl hk) HM6.out.2.1), fun k' hk' => by
          rcases HM6.out.2.2 k' hk' with h1 | h1
          · exact HR.out.2.2 k' h1
          · right; have := HB0.out.size; have := HR.out.2.1.size; omega⟩, by simp [intOf]; omega⟩
      | false =>
        have HP := Lib.hid (drop_live b bm vb' vk' (.slice (some ⟨g, 0, none⟩) q cap) _ q (chs R) k _ (HR.out.1.below hb0) ho.1 (Nat.le_of_lt ho.2.2.1) (ho.2.2.2 rfl))
        rw [show sdel (und L R (q - (n + 1))) k = und L R (q - n) from hs.symm] at HP
        clear hM ht hF hcc hk hb0 ho hs ec
        go_wp2_with (go_at_call 130; refine HP.out.mono ?_; rintro e w6 ⟨rfl, vb5, vk5, hM5, ht5, hF5⟩; have HM6 := Lib.hid (And.intro hM5 (And.intro ht5 hF5)); clear hM5 ht5 hF5)
        exact ⟨⟨n, by omega, by omega, by go_num, vb5, vk5, HM6.out.1, HR.out.2.1.trans HR.out.2.2 ((Touch.of_below HB0.out).trans (fun _ hk => .inl hk) HM6.out.2.1), fun k' hk' => by
          rcases HM6.out.2.2 k' hk' with h1 | h1
          · exact HR.out.2.2 k' h1
          · right; have := HB0.out.size; have := HR.out.2.1.size; omega⟩, by simp [intOf]; omega⟩
    · obtain rfl : n = m := by omega
      obtain ⟨cur', hg', _, _, hs', _, _⟩ := ownsRow_open hM.kq
      have hqd : q = n + (q - n) := by omega
      have hM2 : StM wr b bm vb' vk' (.slice (some ⟨g, 0, none⟩) (n + (q - n)) cap) (und L R (q - n)) (n + (q - n)) (chs (R.drop (q - n)) ++ chs (R.take (q - n))) := by
        rw [← chs_drop, ← hqd]; exact hM
      have hlq : (chs (R.drop (q - n))).length = n * 3 := by rw [chs_len, List.length_drop]; have := Hh.out.2.2; omega
      have hd := und_done_n (zs := zch (q - n)) hM2 hlq (zch_len _)
      rw [← hqd] at hd
      obtain ⟨W2, hW2⟩ : ∃ W2, W2 = wr.setCells g (n * 3) (zch (q - n)) := ⟨_, rfl⟩
      rw [← hW2] at hd
      have hgb : b ≠ g := fun e => (hM.vq_kfp g rfl).2 (mem_kfp.2 (.inl e.symm))
      have hr2 : W2.heap[b]? = some (.cells #[.map (some bm), vb', .slice (some ⟨g, 0, none⟩) q cap] 114 (0, 0)) := by rw [hW2]; exact ((touch_setCells (F := [g]) g (by simp) (zch (q - n)) (n * 3) wr).block b (hp_lt hM.r) (by simp; exact hgb)).trans hM.r
      have cw := (hp_cell (i := 2) hM.r).trans rfl
      have cw2 := (hp_cell (i := 2) hr2).trans rfl
      have fw2 := hp_free (i := 2) hr2
      have HX := Lib.hid (And.intro hd (And.intro ht hF))
      have cm1 : n ≤ cap := by omega
      have hend : ∀ W3, W3 = W2.setCell ⟨b, 2, none⟩ (.slice (some ⟨g, 0, none⟩) n cap) → UndPost b (fpr b bm vb vk (.slice (some ⟨g, 0, none⟩) q cap) L) L R n w (.returned (.bool true)) W3 := by
        rintro W3 rfl
        have e := Hh.out.2.2
        unfold UndPost
        rw [← e]
        refine ⟨rfl, _, ⟨bm, vb', vk', _, rfl, HX.out.1.1⟩, HX.out.2.1.trans HX.out.2.2 HX.out.1.2, fun k' hk' => ?_⟩
        refine HX.out.2.2 k' ((fpr_kfp _ _ _ _ _ _ _).2 ?_)
        rcases (fpr_kfp _ _ _ _ _ _ _).1 hk' with h1 | h1 | h1
        · exact .inl h1
        · exact .inr (.inl h1)
        · exact .inr (.inr h1)
      have HE := Lib.hid hend
      by_cases hc : n < cap
      · have hcl : ∀ ty, (Builtin.clear_ #[112] ty #[.slice (some ⟨g, n * 3, none⟩) (q - n) (cap - n)]).run Try.prog wr = .ok (.tuple #[]) W2 := fun ty => by
          rw [hW2]
          exact clear_n wr ty g (n * 3) (q - n) (cap - n) (fun j hj => by rw [hp_cell hg']; simp [hs']; omega) (fun j => hp_free hg')
        clear hM ht hF hd hg' hs' hgb hr2 hW2 hM2 hlq hqd hend c2r
        go_wp2_with fail
        go_ret
        exact HE.out _ rfl
      · obtain rfl : n = q := by omega
        obtain rfl : n = cap := by omega
        have hcl : ∀ ty a c, (Builtin.clear_ #[112] ty #[.slice a 0 c]).run Try.prog wr = .ok (.tuple #[]) wr := fun ty a c => by
          cases a <;> simp [Builtin.clear_, run_underlying Try.underlying112]
        have hz : zch (n - n) = [] := List.eq_nil_of_length_eq_zero (by rw [zch_len]; omega)
        rw [hz] at hW2
        replace hW2 : W2 = wr := hW2
        subst hW2
        clear hM ht hF hd hg' hs' hgb hr2 hM2 hlq hqd hend hc hz c2r
        go_wp2_with fail
        go_ret
        exact HE.out _ rfl
end Go.Proofs.Ytffipojlpdphiaa

namespace Go.Proofs.Ytffipojlpdphiaa
open Go.RowKit Go.Maps Go.Sort

set_option maxRecDepth 100000 in
set_option maxHeartbeats 4000000 in
/-- no change was ever made: to the mark 0 -/
theorem undo_nil (b bm : Nat) (vb : Value) (vk : List Seg) (L : SL) (w : World) (h : StM w b bm vb vk (.slice none 0 0) L 0 []) :
    Calls Try.prog 86 #[.pointer (some ⟨b, 0, none⟩), .int .i64 0] w (UndPost b (fpr b bm vb vk (.slice none 0 0) L) L [] 0 w) := by
  have HM := Lib.hid (made_live b _ L 0 _ w ⟨bm, vb, vk, _, rfl, h⟩)
  have c2 := (hp_cell (i := 2) h.r).trans rfl
  have f2 := hp_free (i := 2) h.r
  have hb : b ∈ kfp b vb vk := mem_kfp.2 (.inl rfl)
  have hcl : ∀ ty a c, (Builtin.clear_ #[112] ty #[.slice a 0 c]).run Try.prog w = .ok (.tuple #[]) w := fun ty a c => by
    cases a <;> simp [Builtin.clear_, run_underlying Try.underlying112]
  have hend : ∀ W3, W3 = w.setCell ⟨b, 2, none⟩ (.slice none 0 0) → UndPost b (fpr b bm vb vk (.slice none 0 0) L) L [] 0 w (.returned (.bool true)) W3 := by
    rintro W3 rfl
    have hfar : ∀ k, k ≠ b → (w.setCell ⟨b, 2, none⟩ (.slice none 0 0)).heap[k]? = w.heap[k]? := fun k hk => Below.heap_setCell _ _ _ _ hk
    have h0 := h.keys
    refine ⟨rfl, _, ⟨bm, vb, vk, .slice none 0 0, rfl, ⟨⟨?_, ownsRow_same h0.kb fun k hk => hfar k (h0.ba_b hk), ⟨fun s hm => (h0.kk.at_ s hm).same (hfar _ (h0.seg_b hm)), h0.kk.ne, h0.kk.ap⟩, h0.fl, h0.so⟩, h.m.same (hfar bm (fun e => h.bm_kfp (e ▸ hb))), World.ownsRow_nil _ _ _ _⟩⟩, Touch.setCell _ _ _ ((fpr_kfp _ _ _ _ _ _ _).2 (.inr (.inl hb))), fun k hk => .inl hk⟩
    rw [heap_setCell_row h.r]
    rfl
  have HE := Lib.hid hend
  clear h hb hend
  go_enter Try.func86, Try.ntmps86
  go_wp2_with (go_at_call 70; refine HM.out.mono ?_; rintro e w1 ⟨rfl, rfl⟩)
  go_loopw [5] (fun i wr => i = .int .i64 (-1) ∧ wr = w) (fun i _ => 0)
  case atStart => exact ⟨by go_num, rfl⟩
  case round =>
    obtain ⟨rfl, rfl⟩ := hrel
    go_wp2_with fail
    go_ret
    exact HE.out _ rfl
/-- what Undo of a mark does to a store -/
def UndTo (b : Nat) (F : List Nat) (L : SL) (R : List Ch) (mark : Int) (w : World) (e : Ending) (w' : World) : Prop :=
  ∃ d, d = (if 0 ≤ mark ∧ mark ≤ (R.length : Int) then R.length - mark.toNat else 0) ∧ e = .returned (.bool (decide (0 ≤ mark ∧ mark ≤ (R.length : Int)))) ∧ ∃ F', StP w' b F' (und L R d) (R.drop d).length (chs (R.drop d)) ∧ Touch F w w' ∧ ∀ k ∈ F', k ∈ F ∨ w.heap.size ≤ k
set_option maxRecDepth 100000 in
set_option maxHeartbeats 4000000 in
theorem undo_any (b : Nat) (F : List Nat) (L : SL) (R : List Ch) (mark : Int) (w : World) (h : StP w b F L R.length (chs R)) (hH : HOk L R) (hq : R.length < 1000000) (hmk : -9223372036854775808 ≤ mark ∧ mark < 2 ^ 63) :
    Calls Try.prog 86 #[.pointer (some ⟨b, 0, none⟩), .int .i64 mark] w (UndTo b F L R mark w) := by
  by_cases hg : 0 ≤ mark ∧ mark ≤ (R.length : Int)
  · obtain ⟨m, rfl⟩ : ∃ m : Nat, mark = (m : Int) := ⟨mark.toNat, by omega⟩
    have hpost : ∀ e w', UndPost b F L R m w e w' → UndTo b F L R (m : Int) w e w' := by
      rintro e w' ⟨rfl, F', h1, h2, h3⟩
      refine ⟨R.length - m, by rw [if_pos hg]; rfl, by rw [decide_eq_true hg], F', ?_, h2, h3⟩
      rw [show (R.drop (R.length - m)).length = m by rw [List.length_drop]; omega]
      exact h1
    obtain ⟨bm, vb, vk, vq, rfl, hM⟩ := h
    rcases hM.kq.2 with ⟨rfl, h0⟩ | ⟨g, cap, cur, rfl, _, _, _⟩
    · have hR : R = [] := List.eq_nil_of_length_eq_zero (by simpa using h0)
      subst hR
      obtain rfl : m = 0 := by have := hg.2; simp at this; omega
      exact (undo_nil b bm vb vk L w hM).mono hpost
    · exact (undo_row b bm g cap vb vk L R R.length m w rfl hM hH (by omega) hq).mono hpost
  · have HM := Lib.hid (made_live b _ L _ _ w h)
    have HH := Lib.hid h
    have HG := Lib.hid hg
    obtain ⟨bm, vb, vk, vq, hF, hM⟩ := h
    have c2 := (hp_cell (i := 2) hM.r).trans rfl
    obtain ⟨A, C, rfl⟩ : ∃ A C, vq = .slice A R.length C := by
      rcases hM.kq.2 with ⟨rfl, h0⟩ | ⟨g, cap, cur, rfl, _, _, _⟩
      · exact ⟨none, 0, by rw [h0]⟩
      · exact ⟨_, _, rfl⟩
    obtain ⟨q, hq'⟩ : ∃ q, q = R.length := ⟨_, rfl⟩
    rw [← hq'] at c2
    have hend : UndTo b F L R mark w (.returned (.bool false)) w := by
      refine ⟨0, by rw [if_neg HG.out], by rw [decide_eq_false HG.out], F, HH.out, Touch.refl _ _, fun k hk => .inl hk⟩
    have HE := Lib.hid hend
    by_cases h0 : mark < 0
    · clear hM hF hH hq hg hq' hend
      go_enter Try.func86, Try.ntmps86
      go_wp2_with (go_at_call 70; refine HM.out.mono ?_; rintro e w1 ⟨rfl, rfl⟩)
      go_ret
      exact HE.out
    · have h1 : (q : Int) < mark := by rw [hq']; omega
      clear hM hF hH hq hg hq' hend
      go_enter Try.func86, Try.ntmps86
      go_wp2_with (go_at_call 70; refine HM.out.mono ?_; rintro e w1 ⟨rfl, rfl⟩)
      go_ret
      exact HE.out
end Go.Proofs.Ytffipojlpdphiaa

namespace Go.Proofs.Ytffipojlpdphiaa
open Go.RowKit Go.Maps Go.Sort

theorem sget_setL (L : SL) (k v k' : ByteArray) : sget (setL L k v) k' = if k' = k then some v else sget L k' := by
  unfold setL
  split
  · rename_i h
    split
    · rename_i e; rw [e, h]
    · rfl
  · exact sget_sset L k v k'
theorem setL_len (L : SL) (k v : ByteArray) : (setL L k v).length ≤ L.length + 1 := by
  unfold setL
  split
  · omega
  · unfold sset
    split
    · simp
    · simp; omega
set_option maxRecDepth 100000 in
set_option maxHeartbeats 2000000 in
theorem set_empty (b : Nat) (F : List Nat) (L : SL) (q : Nat) (qs : List Value) (v : ByteArray) (w : World) (h : StP w b F L q qs) :
    Calls Try.prog 163 #[.pointer (some ⟨b, 0, none⟩), .string ⟨#[]⟩, .string v] w fun e w' => e = .returned (.int .i64 2) ∧ w = w' := by
  have HM := Lib.hid (made_live b F L q qs w h)
  have hk1 : (⟨#[]⟩ : ByteArray).toList.isEmpty = true := by rw [Lib.toList_data]; rfl
  clear h
  go_enter Try.func163, Try.ntmps163
  go_wp2_with (go_at_call 70; refine HM.out.mono ?_; rintro e w1 ⟨rfl, rfl⟩)
  go_ret
  exact ⟨rfl, rfl⟩
/-- what Set makes of the entries -/
def setE (L : SL) (k v : ByteArray) : SL := if k = ⟨#[]⟩ then L else setL L k v
theorem SNew.setAny {w W : World} {b : Nat} {F : List Nat} {L : SL} {q : Nat} {qs : List Value} (h : SNew w W b F L q qs) (k v : ByteArray) (hk : k.size ≤ maxLen) (hv : v.size ≤ maxLen) (hN : L.length < 1000000) (hq : q < 1000000) :
    Calls Try.prog 163 #[.pointer (some ⟨b, 0, none⟩), .string k, .string v] W fun e W' => (∃ r, e = .returned (.int .i64 r)) ∧ LiveTo w W W' b F (setE L k v) (q + 1) := by
  unfold setE
  by_cases hk0 : k = ⟨#[]⟩
  · rw [if_pos hk0]
    subst hk0
    refine (set_empty b F L q qs v W h.s).mono ?_
    rintro e W' ⟨rfl, rfl⟩
    obtain ⟨F', q', qs', h1, h2, h3⟩ := h.start
    exact ⟨⟨2, rfl⟩, F', q', qs', h1, by omega, h3⟩
  · rw [if_neg hk0]
    refine (h.sets k v hk hv hk0 hN hq).mono ?_
    rintro e W' ⟨he, hl⟩
    exact ⟨⟨0, he⟩, hl⟩
end Go.Proofs.Ytffipojlpdphiaa
