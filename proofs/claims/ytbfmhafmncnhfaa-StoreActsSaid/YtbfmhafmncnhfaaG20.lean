/- An act of any kind, by the plain model; what is read of a store with its changes. -/
import Derived.Test.YtbfmhafmncnhfaaG19
import Derived.Test.YtbfmhafmncnhfaaG16
import Derived.Test.YtbfmhafmncnhfaaG05
import Derived.Maps.RangeWalk
import Derived.Maps.Ext
namespace Go.Proofs.Ytbfmhafmncnhfaa
open Go.RowKit Go.Maps Go.Sort

/-- the entries behind an act -/
def aL (kd : Int) (L : SL) (R : List Ch) (k v : ByteArray) (n : Int) : SL := if kd = 0 then setE L k v else if kd = 1 then sdel L k else if kd = 2 then und L R (undD R n) else L
/-- the changes behind it -/
def aR (kd : Int) (L : SL) (R : List Ch) (k v : ByteArray) (n : Int) : List Ch := if kd = 0 then setR L R k v else if kd = 1 then delR L R k else if kd = 2 then R.drop (undD R n) else if kd = 3 then [] else R
theorem und_len : ∀ (R : List Ch) (d : Nat) (L : SL), (und L R d).length + (R.drop d).length ≤ L.length + R.length
  | R, 0, L => by simp [und]
  | [], d + 1, L => by simp [und]
  | c :: R, d + 1, L => by
    have h1 := und_len R d (undo1 L c)
    have h2 := undo1_len L c
    have e : und L (c :: R) (d + 1) = und (undo1 L c) R d := by simp [und]
    rw [e, List.drop_succ_cons, List.length_cons]
    omega
theorem setE_len2 (L : SL) (R : List Ch) (k v : ByteArray) : (setE L k v).length ≤ L.length + 1 ∧ (setR L R k v).length ≤ R.length + 1 := by
  refine ⟨setE_len L k v, ?_⟩
  unfold setR
  split
  · omega
  · split <;> simp
theorem delE_len2 (L : SL) (R : List Ch) (k : ByteArray) : (sdel L k).length ≤ L.length ∧ (delR L R k).length ≤ R.length + 1 := by
  refine ⟨List.length_filter_le _ _, ?_⟩
  unfold delR
  split <;> simp
theorem aL_len (kd : Int) (L : SL) (R : List Ch) (k v : ByteArray) (n : Int) : (aL kd L R k v n).length + (aR kd L R k v n).length ≤ L.length + R.length + 2 := by
  unfold aL aR
  split
  · have := setE_len2 L R k v; omega
  · split
    · have := delE_len2 L R k; omega
    · split
      · have := und_len R (undD R n) L; omega
      · split
        · simp; omega
        · omega
theorem rise_setE {L : SL} (h : Rising (skeys L)) (k v : ByteArray) : Rising (skeys (setE L k v)) := by
  unfold setE
  split
  · exact h
  · unfold setL
    split
    · exact h
    · exact rising_sset h k v
theorem rise_und : ∀ (R : List Ch) (d : Nat) {L : SL}, Rising (skeys L) → Rising (skeys (und L R d))
  | R, 0, L, h => by simpa [und] using h
  | [], d + 1, L, h => by simpa [und] using h
  | c :: R, d + 1, L, h => by
    have e : und L (c :: R) (d + 1) = und (undo1 L c) R d := by simp [und]
    rw [e]
    exact rise_und R d (undo1_rise h c)
theorem rise_aL {kd : Int} {L : SL} {R : List Ch} {k v : ByteArray} {n : Int} (h : Rising (skeys L)) : Rising (skeys (aL kd L R k v n)) := by
  unfold aL
  split
  · exact rise_setE h k v
  · split
    · exact rising_sdel h
    · split
      · exact rise_und R _ h
      · exact h
theorem act_any (w W : World) (b m : Nat) (F : List Nat) (L L' : SL) (R R' : List Ch) (kd : Int) (k v : ByteArray) (n : Int) (hs : SH w W b F L R) (hd : DS w W m L' R') (hr : Rising (skeys L')) (hk : k.size ≤ maxLen) (hv : v.size ≤ maxLen) (hn : -9223372036854775808 ≤ n ∧ n < 2 ^ 63)
    (hN : L.length + R.length + 1 < 1000000) (hN' : L'.length + R'.length < 1000000) :
    Calls Try.prog 11 #[.pointer (some ⟨b, 0, none⟩), .pointer (some ⟨m, 0, none⟩), .agg #[.int .i64 kd, .string k, .string v, .int .i64 n]] W fun e W' => ∃ r, e = .returned (.bool r) ∧ (L = L' → R = R' → r = true) ∧ ActPost w W W' b m (aL kd L R k v n) (aR kd L R k v n) (aL kd L' R' k v n) (aR kd L' R' k v n) := by
  unfold aL aR
  by_cases h0 : kd = 0
  · subst h0
    simp only [if_true]
    exact (act_set w W b m F L L' R R' k v n hs hd hr hk hv (by omega) (by omega) (by omega) (by omega)).mono fun e W' h => ⟨true, h.1, fun _ _ => rfl, h.2⟩
  · simp only [if_neg h0]
    by_cases h1 : kd = 1
    · subst h1
      simp only [if_true]
      exact (act_del w W b m F L L' R R' k v n hs hd hr hk (by omega) (by omega) (by omega) (by omega)).mono fun e W' h => ⟨_, h.1, fun e1 _ => by rw [e1]; exact beq_self_eq_true _, h.2⟩
    · simp only [if_neg h1]
      by_cases h2 : kd = 2
      · subst h2
        simp only [if_true]
        exact (act_undo w W b m F L L' R R' k v n hs hd hr hn (by omega) hN').mono fun e W' h => ⟨_, h.1, fun _ e2 => by rw [e2]; exact beq_self_eq_true _, h.2⟩
      · simp only [if_neg h2]
        by_cases h3 : kd = 3
        · subst h3
          simp only [if_true]
          exact (act_settle w W b m F L L' R R' k v n hs hd (by omega) (by omega)).mono fun e W' h => ⟨_, h.1, fun e1 _ => by rw [e1]; exact decide_eq_true rfl, h.2⟩
        · simp only [if_neg h3]
          exact (act_other w W b m F L L' R R' kd k v n hs hd (by omega) (by omega) h0 h1 h2 h3).mono fun e W' h => ⟨_, h.1, fun e1 _ => by rw [e1]; exact decide_eq_true rfl, h.2⟩
theorem SH.all {w W : World} {b : Nat} {F : List Nat} {L : SL} {R : List Ch} (h : SH w W b F L R) (hN : L.length < 1000000) :
    Calls Try.prog 20 #[.pointer (some ⟨b, 0, none⟩)] W fun e w' => (∃ v, e = .returned v ∧ w'.ownsRow W.heap.size 43 2 v L.length (pcs L)) ∧ Below W.heap.size W w' :=
  all_live b F L _ _ W h.s.s (fun p hp => (h.z p hp).1) hN
theorem SH.get {w W : World} {b : Nat} {F : List Nat} {L : SL} {R : List Ch} (h : SH w W b F L R) (k : ByteArray) (hk : k.size ≤ maxLen) :
    Calls Try.prog 12 #[.pointer (some ⟨b, 0, none⟩), .string k] W fun e W' => e = .returned (.tuple #[.string ((sget L k).getD ⟨#[]⟩), .bool (sget L k).isSome]) ∧ Below W.heap.size W W' :=
  sget_live b F L R.length (chs R) k W h.s.s hk
theorem SH.mark {w W : World} {b : Nat} {F : List Nat} {L : SL} {R : List Ch} (h : SH w W b F L R) :
    Calls Try.prog 14 #[.pointer (some ⟨b, 0, none⟩)] W fun e W' => e = .returned (.int .i64 (R.length : Nat)) ∧ W = W' :=
  mark_live b F L R.length (chs R) W h.s.s
theorem SH.len {w W : World} {b : Nat} {F : List Nat} {L : SL} {R : List Ch} (h : SH w W b F L R) :
    Calls Try.prog 15 #[.pointer (some ⟨b, 0, none⟩)] W fun e W' => e = .returned (.int .i64 (L.length : Nat)) ∧ W = W' :=
  len_live b F L R.length (chs R) W h.s.s
theorem SH.new (w W : World) (hb : Below w.heap.size w W) : Calls Try.prog 10 #[] W fun e W' => ∃ b F, e = .returned (.pointer (some ⟨b, 0, none⟩)) ∧ SH w W' b F [] [] ∧ Below W.heap.size W W' :=
  (SNew.new w W hb).mono fun e W' ⟨b, F, he, hs, hb, _⟩ => ⟨b, F, he, ⟨hs, trivial, fun p hp => by cases hp⟩, hb⟩
theorem SH.l {w W : World} {b : Nat} {F : List Nat} {L : SL} {R : List Ch} (h : SH w W b F L R) : Below w.heap.size w W := h.s.l
/-- behind a mark: a change more -/
theorem und_more {L L1 : SL} {R2 R1 : List Ch} {c : Ch} (h : und L (R2 ++ R1) R2.length = L1) {L' : SL} (hu : undo1 L' c = L) : und L' ((c :: R2) ++ R1) (c :: R2).length = L1 := by
  have e : und L' ((c :: R2) ++ R1) (c :: R2).length = und (undo1 L' c) (R2 ++ R1) R2.length := by simp [und]
  rw [e, hu, h]
theorem keep_set {L L1 : SL} {R2 R1 : List Ch} (hr : Rising (skeys L)) (h : und L (R2 ++ R1) R2.length = L1) (k v : ByteArray) : ∃ R3, setR L (R2 ++ R1) k v = R3 ++ R1 ∧ und (setE L k v) (R3 ++ R1) R3.length = L1 := by
  unfold setR setE
  by_cases h0 : k = ⟨#[]⟩
  · rw [if_pos h0, if_pos h0]; exact ⟨R2, rfl, h⟩
  · rw [if_neg h0, if_neg h0]
    unfold setL
    by_cases h1 : sget L k = some v
    · rw [if_pos h1, if_pos h1]; exact ⟨R2, rfl, h⟩
    · rw [if_neg h1, if_neg h1]
      exact ⟨_ :: R2, rfl, und_more h (undo_sset hr k v)⟩
theorem keep_del {L L1 : SL} {R2 R1 : List Ch} (hr : Rising (skeys L)) (h : und L (R2 ++ R1) R2.length = L1) (k : ByteArray) : ∃ R3, delR L (R2 ++ R1) k = R3 ++ R1 ∧ und (sdel L k) (R3 ++ R1) R3.length = L1 := by
  unfold delR
  cases hs : sget L k with
  | none =>
    have e0 : sdel L k = L := by
      unfold sdel
      rw [List.filter_eq_self]
      intro p hp
      simp [sget_none (by rw [hs]; rfl) p hp]
    rw [e0]
    exact ⟨R2, rfl, h⟩
  | some o => exact ⟨_ :: R2, rfl, und_more h (undo_sdel hr hs)⟩
end Go.Proofs.Ytbfmhafmncnhfaa

namespace Go.Proofs.Ytbfmhafmncnhfaa
open Go.RowKit Go.Maps Go.Sort

/-- a new store, where it lies -/
theorem new_at (w : World) : Calls Try.prog 10 #[] w fun e w' => ∃ b bm, e = .returned (.pointer (some ⟨b, 0, none⟩)) ∧ w.heap.size ≤ b ∧ w.heap.size ≤ bm ∧ b ≠ bm ∧ w'.heap[b]? = some (.cells #[.map (some bm), .slice none 0 0, .slice none 0 0] 77 (0, 0)) ∧
    (w'.ownsMap (H := Unit) Try.prog 9 entR bm 0 (.map [])) ∧ Below w.heap.size w w' := by
  have hmm := @run_makeMap Try.prog
  go_enter Try.func10, Try.ntmps10
  go_wp2
  go_ret
  refine ⟨_, w.heap.size, rfl, by simp, Nat.le_refl _, by simp, ?_, (World.ownsMap_made w _ _ _).alloc _, ((Below.refl _ _).alloc (Nat.le_refl _) _).alloc (by simp) _⟩
  simpa using heap_alloc_new (w.alloc (.map #[] 0)) (.cells #[.map (some w.heap.size), .slice none 0 0, .slice none 0 0] 77)
theorem cinfo : (Try.prog.info? 87).map (fun i => (i.zero, i.size, i.bytes)) = some (some (.agg #[.string ⟨#[]⟩, .bool false, .string ⟨#[]⟩]), 3, 40) := by kernel_rfl
theorem chs_one (R : List Ch) : ∀ u ∈ chs R, u.oneCell' = true := by
  intro u hu
  unfold chs at hu
  obtain ⟨c, _, h⟩ := List.mem_flatMap.1 hu
  unfold chg at h
  simp only [List.mem_cons, List.not_mem_nil, or_false] at h
  rcases h with rfl | rfl | rfl <;> rfl
set_option maxRecDepth 100000 in
set_option maxHeartbeats 2000000 in
/-- the changes' clone -/
theorem cloneCh (R : List Ch) (v : Value) (w : World) (h : w.ownsRow 0 87 3 v R.length (chs R)) (hN : R.length < 1000000) :
    Calls Try.prog 46 #[v] w fun e w' => ∃ v', e = .returned v' ∧ w'.ownsRow w.heap.size 87 3 v' R.length (chs R) ∧ Below w.heap.size w w' := by
  have q24 : ∀ (w : World) (a : Option Addr) (n c n' c' : Nat), (binOp .eql 75 (.slice a n c) (.slice none n' c')).run Try.prog w = .ok (.bool a.isNone) w := fun w a n c n' c' => Lib.run_eql_slice_nil w _ _ a n c n' c' Try.underlying75
  obtain ⟨i0, hi, hz0, hz1, hz2⟩ := info_parts cinfo
  rcases h.2 with ⟨rfl, h0⟩ | ⟨g, cap, cur, rfl, hb, hg, hn, _⟩
  · have e : R = [] := List.length_eq_zero_iff.1 h0
    subst e
    clear h h0
    go_enter Try.func46, Try.ntmps46
    go_wp2
    go_ret
    exact ⟨_, rfl, World.ownsRow_nil _ _ _ _, Below.refl _ _⟩
  · have HC := Lib.hid h
    have hl := chs_len R
    have HB := Lib.hid (ownsRow_blk h g rfl)
    clear h hb hg
    go_enter Try.func46, Try.ntmps46
    go_wp2_with (at_builtin; refine wpList_append_own _ rfl _ _ 75 rfl w.heap.size 87 i0 _ 3 40 Try.underlying75 hi hz0 hz1 hz2 rfl (by decide) _ 0 [] rfl (World.ownsRow_made w #[] 0 (Nat.le_refl _) (Nat.zero_le _) rfl) ⟨g, 0, none⟩ R.length cap (chs R) rfl hl (fun j u hu => (by rw [Addr.add_lit, Nat.zero_add]; exact (((Below.refl w.heap.size w).alloc (Nat.le_refl _) _).cell (p := ⟨g, j, none⟩) HB.out).trans (ownsRow_cell HC.out rfl hu))) (chs_one R) (by unfold maxLen; omega) (by omega) (by simp) ?_; intro v' w1 hown hgrow _; have H1 := Lib.hid (And.intro hown (((Below.refl w.heap.size w).alloc (Nat.le_refl _) _).grown hgrow (by simp) (fun k hk => by have hk' : some w.heap.size = some k := hk; cases hk'; exact Nat.le_refl _))); clear hown hgrow)
    go_ret
    have h1 := H1.out.1
    rw [Nat.zero_add, List.nil_append] at h1
    exact ⟨_, rfl, h1, H1.out.2⟩
/-- a block of keys' clone -/
theorem cloneSeg (s : Seg) (w : World) (h : s.At w) (h0 : 0 < s.ks.length) (h1 : s.ks.length ≤ 128) :
    Calls Try.prog 45 #[s.val] w fun e w' => ∃ s' : Seg, e = .returned s'.val ∧ s'.At w' ∧ s'.ks = s.ks ∧ w.heap.size ≤ s'.g ∧ Below w.heap.size w w' := by
  obtain ⟨cur, hc, hle, hcs⟩ := h.row
  have e0 : ∀ l : List ByteArray, l.take l.length = l := fun l => List.take_length
  refine (Try.slices_Clone_string s.g s.o s.ks.length s.c s.ks w (Nat.le_refl _) (by omega) (fun j hj => ?_)).mono ?_
  · rw [hp_cell hc]
    refine hcs j _ ?_
    rw [List.getD_eq_getElem?_getD, List.getElem?_eq_getElem hj]
    rfl
  · rintro e w' ⟨v', rfl, ho, hne, hb⟩
    rw [e0] at ho
    rcases ho.2 with ⟨rfl, h2⟩ | ⟨g, cap, cur', rfl, hb', hg, hn, hc', hs', ht'⟩
    · omega
    · refine ⟨⟨g, 0, cap, s.ks⟩, rfl, ⟨hn, hc', cur', hg, by show 0 + cap ≤ cur'.size; omega, fun j u hu => ?_⟩, rfl, hb', hb⟩
      have := ownsRow_cell ho rfl (j := j) (u := .string u) (by rw [List.getElem?_map, hu]; rfl)
      rw [hp_cell hg] at this
      show cur'[0 + j]? = _
      rw [Nat.zero_add]
      exact this
end Go.Proofs.Ytbfmhafmncnhfaa

namespace Go.Proofs.Ytbfmhafmncnhfaa
open Go.RowKit Go.Maps Go.Sort

theorem ownsMap_same {w w' : World} {b n : Nat} {D : DataW Unit} (h : w.ownsMap Try.prog 9 entR b n D) (e : w'.heap[b]? = w.heap[b]?) : w'.ownsMap Try.prog 9 entR b n D := by
  obtain ⟨es, clock, hb, F, hs, hD⟩ := h
  exact ⟨es, clock, e.trans hb, F, hs, hD⟩
theorem hRep_sz {D : DataW Unit} {L : SL} (h : Rep D L) : Maps.size D = L.length := h.sz
theorem inv_s : ∀ (key : Value) (kl : Lit), keyOf Try.prog 9 key = some kl → ∃ x : ByteArray, key = .string x := fun key kl h => by
  obtain ⟨s, e, _, _⟩ := Go.WideMaps.string_of_keyOf Try.underlying9 h
  exact ⟨s, e⟩
theorem inv_e : ∀ (v : Value) (y : DataW Unit × List MemPlace), entR v = some y → ∃ c : ByteArray, v = .agg #[.string c] := fun v y h => by
  obtain ⟨s, e, _⟩ := entR_inv h
  exact ⟨s, e⟩
/-- an entry has come -/
structure Came (w w' : World) (bm it n : Nat) (D : DataW Unit) (left : Lit → Bool) (cnt cnt' : Nat) (x c : ByteArray) : Prop where
  hkey : keyOf Try.prog 9 (.string x) = some (.string x.data.toList)
  hv : entR (H := Unit) (.agg #[.string c]) = some (.lit (.string c.data.toList), [])
  hat : ∀ zd, D.atKey (.string x.data.toList) zd = .lit (.string c.data.toList)
  hrg : w'.ranges Try.prog 9 entR bm it n D (fun z => left z && !z.sameKey (.string x.data.toList)) cnt'
  hlt : cnt' < cnt
  hg : w.grownBy w' (some it)
  hen : (Instr.entry (.pointer (some ⟨it, 0, none⟩))).run Try.prog w' = .ok (.tuple #[.string x, .agg #[.string c]]) w'
structure Gone (left : Lit → Bool) (cnt : Nat) : Prop where
  c : cnt = 0
  l : ∀ kl, left kl = false
theorem wpList_next_se {ops : Array Oper} {rest : List Oper} {o : Oper} {a : Act} {Q : Exit → Act → World → Prop} {w : World} (hg : o.guard = none) (it0 : Operand) (hop : o.op = Op.next it0 false) (bm it n : Nat) (D : DataW Unit) (left : Lit → Bool) (cnt : Nat)
    (hit : a.eval it0 = .pointer (some ⟨it, 0, none⟩)) (h : w.ranges Try.prog 9 entR bm it n D left cnt)
    (hDone : Gone left cnt → wpList Try.prog ops Q rest (a.put o.dst (.tuple #[.bool false])) w)
    (hMore : ∀ (x c : ByteArray) (w' : World) (cnt' : Nat), Came w w' bm it n D left cnt cnt' x c → wpList Try.prog ops Q rest (a.put o.dst (.tuple #[.bool true, .string x, .agg #[.string c]])) w') :
    wpList Try.prog ops Q (o :: rest) a w :=
  wpList_next_ranges w hg it0 hop 9 skeyed entR Value.string (fun c : ByteArray => .agg #[.string c]) inv_s inv_e bm it n D left cnt hit h (fun h1 h2 => hDone ⟨h1, h2⟩) fun x c kl y w' cnt' hkey _ hv hat hrg hlt hgr _ hen => by
    obtain ⟨s, e, rfl, _⟩ := Go.WideMaps.string_of_keyOf Try.underlying9 hkey
    cases e
    obtain ⟨s', e', rfl⟩ := entR_inv hv
    have e2 : c = s' := by
      have e3 := Value.agg.inj e'
      have := congrArg Array.toList e3
      simpa using this
    subst e2
    exact hMore x c w' cnt' ⟨hkey, hv, hat, hrg, hlt, hgr, hen⟩
/-- the copy, its map filled, i of its blocks of keys laid -/
structure CpAt (w W : World) (b' bm' : Nat) (vb' : Value) (G' : List Seg) (ks : List (List ByteArray)) : Prop where
  l : Below w.heap.size w W
  b : w.heap.size ≤ b'
  r : W.heap[b']? = some (.cells #[.map (some bm'), vb', .slice none 0 0] 77 (0, 0))
  kb : W.ownsRow w.heap.size 83 1 vb' G'.length (G'.map Seg.val)
  kk : Segs W G'
  ge : ∀ s ∈ G', w.heap.size ≤ s.g
  ks : G'.map Seg.ks = ks
theorem CpAt.below {w W W' : World} {b' bm' : Nat} {vb' : Value} {G' : List Seg} {ks : List (List ByteArray)} (h : CpAt w W b' bm' vb' G' ks) (hb : Below W.heap.size W W') : CpAt w W' b' bm' vb' G' ks :=
  ⟨h.l.trans (hb.mono h.l.size), h.b, (hb.block b' (hp_lt h.r)).trans h.r, ownsRow_same h.kb fun k hk => hb.block k (ownsRow_blk h.kb k hk), ⟨fun s hm => (h.kk.at_ s hm).same (hb.block s.g (h.kk.at_ s hm).lt), h.kk.ne, h.kk.ap⟩, h.ge, h.ks⟩
theorem val_one (G : List Seg) : ∀ u ∈ G.map Seg.val, u.oneCell' = true := fun u hu => by
  obtain ⟨s, _, rfl⟩ := List.mem_map.1 hu
  rfl
/-- a block of keys more: W1 is behind the append -/
theorem CpAt.more {w W W1 : World} {b' bm' : Nat} {vb' v1 : Value} {G' : List Seg} {ks : List (List ByteArray)} (h : CpAt w W b' bm' vb' G' ks) (s : Seg) (hs : s.At W) (hge : ∀ t ∈ G', t.g ≠ s.g) (hw : w.heap.size ≤ s.g) (hne : 0 < s.ks.length ∧ s.ks.length ≤ 128)
    (hg : ∃ o, (W.alloc o).grownBy W1 vb'.ownBlock) (ho : W1.ownsRow w.heap.size 83 1 v1 (G'.length + 1) (G'.map Seg.val ++ [s.val])) :
    CpAt w (W1.setCell ⟨b', 1, none⟩ v1) b' bm' v1 (G' ++ [s]) (ks ++ [s.ks]) ∧ ∀ k, w.heap.size ≤ k → k < W.heap.size → (∀ cs fr, W.heap[k]? ≠ some (.cells cs 83 fr)) → k ≠ b' → (W1.setCell ⟨b', 1, none⟩ v1).heap[k]? = W.heap[k]? := by
  obtain ⟨o, hg⟩ := hg
  have hal := (Below.refl W.heap.size W).alloc (Nat.le_refl _) o
  have hblk : ∀ k, k < W.heap.size → (∀ cs fr, W.heap[k]? ≠ some (.cells cs 83 fr)) → W1.heap[k]? = W.heap[k]? := fun k hk hT => by
    refine (hg.block k (Nat.lt_of_lt_of_le hk hal.size) (fun e => ?_)).trans (hal.block k hk)
    obtain ⟨cs, hc⟩ := ownsRow_ty h.kb e.symm
    exact hT _ _ hc
  have hfar : ∀ k, k ≠ b' → (W1.setCell ⟨b', 1, none⟩ v1).heap[k]? = W1.heap[k]? := fun k hk => Below.heap_setCell _ _ _ _ hk
  have hr1 : W1.heap[b']? = some (.cells #[.map (some bm'), vb', .slice none 0 0] 77 (0, 0)) := (hblk b' (hp_lt h.r) (fun cs fr e => by rw [h.r] at e; cases e)).trans h.r
  have hstr : ∀ t : Seg, t.At W → (W1.setCell ⟨b', 1, none⟩ v1).heap[t.g]? = W.heap[t.g]? := fun t ht => by
    obtain ⟨cur, hc, _⟩ := ht.row
    rw [hfar t.g (fun e => by rw [e, h.r] at hc; cases hc)]
    exact hblk t.g (hp_lt hc) (fun cs fr e => by rw [hc] at e; cases e)
  refine ⟨⟨?_, h.b, ?_, ?_, ⟨fun t ht => ?_, fun t ht => ?_, ?_⟩, fun t ht => ?_, ?_⟩, fun k hw hk hT hb => (hfar k hb).trans (hblk k hk hT)⟩
  · have t1 : Below w.heap.size w W1 := (h.l.alloc h.l.size o).grown hg (Nat.le_trans h.l.size hal.size) (fun q hq => (h.kb.lt q hq).1)
    exact t1.trans (Touch.below (Touch.setCell (F := [b']) W1 ⟨b', 1, none⟩ v1 (by simp)) (fun k hk => by rw [List.mem_singleton.1 hk]; exact h.b) t1.size)
  · rw [heap_setCell_row hr1]; rfl
  · rw [List.length_append, List.map_append]
    refine ownsRow_same ho fun g hg2 => hfar g fun e => ?_
    subst e
    obtain ⟨cs, hc⟩ := ownsRow_ty ho hg2
    rw [hr1] at hc; cases hc
  · rcases List.mem_append.1 ht with ht | ht
    · exact (h.kk.at_ t ht).same (hstr t (h.kk.at_ t ht))
    · rw [List.mem_singleton.1 ht]; exact hs.same (hstr s hs)
  · rcases List.mem_append.1 ht with ht | ht
    · exact h.kk.ne t ht
    · rw [List.mem_singleton.1 ht]; exact hne
  · rw [List.pairwise_append]
    refine ⟨h.kk.ap, List.pairwise_singleton _ _, fun t ht u hu => ?_⟩
    rw [List.mem_singleton.1 hu]
    exact .inl (hge t ht)
  · rcases List.mem_append.1 ht with ht | ht
    · exact h.ge t ht
    · rw [List.mem_singleton.1 ht]; exact hw
  · rw [List.map_append, h.ks]; rfl
theorem step_append_own {ops : Array Oper} {o : Oper} {a : Act} {w : World} {K : Act → World → Prop} {Q : Exit → Act → World → Prop} {E : Prop} (hgd : o.guard = none) (s x : Operand) (t : TypeId)
    (ho : o.op = .call { callee := .builtin .append, args := #[s, x], argTypes := #[t, t] })
    (base : Nat) (e : TypeId) (i : TypeInfo) (z : Value) (size bytes : Nat) (ht : Try.prog.underlying t = some (.slice e)) (hi : Try.prog.info? e = some i) (hz : i.zero = some z)
    (hsize : i.size = size) (hby : i.bytes = bytes) (hzs : z.cells.size = size) (hsz : 0 < size)
    (v : Value) (n : Nat) (xs : List Value) (hs : a.eval s = v) (hown : w.ownsRow base e size v n xs)
    (ad : Addr) (m c : Nat) (news : List Value) (hx : a.eval x = .slice (some ad) m c) (hl : news.length = m * size) (hnews : ∀ j u, news[j]? = some u → w.cell? (ad.add j) = some u) (h1 : ∀ u ∈ news, u.oneCell' = true)
    (h63 : n + m ≤ maxLen) (hbytes : (n + m) * bytes ≤ 140737488355328) (hbase : base ≤ w.heap.size)
    (h : ∀ v' w', w'.ownsRow base e size v' (n + m) (xs ++ news) → w.grownBy w' v.ownBlock → K (a.put o.dst v') w') :
    if Region.wanted o (yielded ops a.tmps) = true then Oper.wp Try.prog o a w K Q else E := by
  have hw : Region.wanted o (yielded ops a.tmps) = true := by simp [Region.wanted, hgd]
  rw [if_pos hw]
  exact wp_append_own w s x t ho base e i z size bytes ht hi hz hsize hby hzs hsz v n xs hs hown ad m c news hx hl hnews h1 h63 hbytes hbase fun v' w' h2 h3 _ => h v' w' h2 h3
theorem cp_r4 {w W2 W4 : World} {b' bm' : Nat} {vb' : Value} {G' : List Seg} {ks : List (List ByteArray)} {o : Obj} (h : CpAt w W2 b' bm' vb' G' ks) (hg : (W2.alloc o).grownBy W4 vb'.ownBlock) : W4.heap[b']? = some (.cells #[.map (some bm'), vb', .slice none 0 0] 77 (0, 0)) := by
  have hal := (Below.refl W2.heap.size W2).alloc (Nat.le_refl _) o
  refine (hg.block b' (Nat.lt_of_lt_of_le (hp_lt h.r) hal.size) (fun e => ?_)).trans ((hal.block b' (hp_lt h.r)).trans h.r)
  obtain ⟨cs, hc⟩ := ownsRow_ty h.kb e.symm
  rw [h.r] at hc; cases hc
theorem flat_ks (G : List Seg) : flat G = (G.map Seg.ks).flatten := by unfold flat; rw [List.flatMap_def]
theorem seg_bytes {w : World} {G : List Seg} {b bm : Nat} {vb vq : Value} {ks : List ByteArray} (h : KeysAt w b bm vb G vq ks) : G.length ≤ ks.length := by
  rw [← h.fl]
  have := h.kk.ne
  clear h
  induction G with
  | nil => exact Nat.zero_le _
  | cons s r ih =>
    have h1 := (this s (by simp)).1
    have h2 := ih fun t ht => this t (List.mem_cons_of_mem _ ht)
    unfold flat at h2 ⊢
    rw [List.flatMap_cons, List.length_append, List.length_cons]
    omega
/-- the whole copy, its changes laid -/
theorem copy_fin {w W W5 : World} {b' b0 bm0 bm' : Nat} {vb0 vq0 vb' v5 : Value} {G G' : List Seg} {L : SL} {R : List Ch} {D : DataW Unit} {w0 : World} (hS : StM w0 b0 bm0 vb0 G vq0 L R.length (chs R)) (hc : CpAt w W b' bm' vb' G' (G.map Seg.ks)) (hom : W.ownsMap Try.prog 9 entR bm' L.length D) (hRep : Rep D L) (hwm : w.heap.size ≤ bm')
    (hb : Below W.heap.size W W5) (ho : W5.ownsRow W.heap.size 87 3 v5 R.length (chs R)) :
    ∃ F', StP (W5.setCell ⟨b', 2, none⟩ v5) b' F' L R.length (chs R) ∧ (∀ k ∈ F', w.heap.size ≤ k) ∧ Below w.heap.size w (W5.setCell ⟨b', 2, none⟩ v5) := by
  have hr5 := (hb.block b' (hp_lt hc.r)).trans hc.r
  have hfar : ∀ k, k ≠ b' → (W5.setCell ⟨b', 2, none⟩ v5).heap[k]? = W5.heap[k]? := fun k hk => Below.heap_setCell _ _ _ _ hk
  have hbm : bm' ≠ b' := fun e => by
    obtain ⟨es, clock, h1, _⟩ := hom
    rw [e, hc.r] at h1; cases h1
  have hseg : ∀ s ∈ G', (W5.setCell ⟨b', 2, none⟩ v5).heap[s.g]? = W.heap[s.g]? := fun s hs => by
    obtain ⟨cur, hcc, _⟩ := (hc.kk.at_ s hs).row
    rw [hfar s.g (fun e => by rw [e, hc.r] at hcc; cases hcc)]
    exact hb.block s.g (hp_lt hcc)
  have hw5 : Below w.heap.size w W5 := hc.l.trans (hb.mono hc.l.size)
  refine ⟨_, ⟨bm', vb', G', v5, rfl, ⟨⟨?_, ?_, ⟨fun s hs => (hc.kk.at_ s hs).same (hseg s hs), hc.kk.ne, hc.kk.ap⟩, ?_, hS.so⟩, ⟨D, ownsMap_same hom ((hfar bm' hbm).trans (hb.block bm' hom.lt)), hRep⟩, ?_⟩⟩, fun k hk => ?_, ?_⟩
  · rw [heap_setCell_row hr5]; rfl
  · refine ownsRow_same (iown_base' hc.kb (Nat.zero_le _)) fun g hg => ?_
    obtain ⟨cs, hcc⟩ := ownsRow_ty hc.kb hg
    rw [hfar g (fun e => by rw [e, hc.r] at hcc; cases hcc)]
    exact hb.block g (hp_lt hcc)
  · rw [flat_ks, hc.ks, ← flat_ks, hS.keys.fl]
  · refine ownsRow_same (iown_base' ho (Nat.zero_le _)) fun g hg => hfar g fun e => ?_
    have := (ho.lt g hg).1
    have := hp_lt hc.r
    omega
  · rcases (fpr_kfp _ _ _ _ _ _ _).1 hk with rfl | h1 | h1
    · exact hwm
    · rcases mem_kfp.1 h1 with rfl | h2 | ⟨s, hs, rfl⟩
      · exact hc.b
      · exact (hc.kb.lt k h2).1
      · exact hc.ge s hs
    · exact Nat.le_trans hc.l.size (ho.lt k h1).1
  · exact hw5.trans (Touch.below (Touch.setCell (F := [b']) W5 ⟨b', 2, none⟩ v5 (by simp)) (fun k hk => by rw [List.mem_singleton.1 hk]; exact hc.b) hw5.size)
theorem binfo : (Try.prog.info? 83).map (fun i => (i.zero, i.size, i.bytes)) = some (some (.slice none 0 0), 1, 24) := by kernel_rfl
set_option maxRecDepth 100000 in
set_option maxHeartbeats 8000000 in
theorem copy_walk (b : Nat) (F : List Nat) (L : SL) (R : List Ch) (w : World) (h : StP w b F L R.length (chs R)) (hN : L.length < 1000000) (hR : R.length < 1000000) :
    Calls Try.prog 16 #[.pointer (some ⟨b, 0, none⟩)] w fun e w' => ∃ b' F', e = .returned (.pointer (some ⟨b', 0, none⟩)) ∧ StP w' b' F' L R.length (chs R) ∧ (∀ k ∈ F', w.heap.size ≤ k) ∧ Below w.heap.size w w' := by
  have HM := Lib.hid (made_live b F L R.length (chs R) w h)
  obtain ⟨bm, vb, G, vq, _, hS⟩ := h
  obtain ⟨D, ho, hRep⟩ := hS.m
  have HS := Lib.hid (And.intro hS (And.intro ho hRep))
  have c0 := (hp_cell (i := 0) hS.r).trans rfl
  clear hS ho hRep
  go_enter Try.func16, Try.ntmps16
  go_upto_region 4 with (first
    | (go_at_call 10; refine (new_at _).mono ?_; rintro e w2 ⟨b', bm', rfl, hb', hbm', hne, hr', hom', hb2⟩; have H2 := Lib.hid (And.intro hb' (And.intro hbm' (And.intro hne (And.intro hr' (And.intro hom' hb2))))); have d0 := ((hb2.cell (p := ⟨b, 0, none⟩) (hp_lt HS.out.1.r)).trans c0); clear hb' hbm' hne hr' hom' hb2)
    | (go_at_call 18; refine HM.out.mono ?_; rintro e w1 ⟨rfl, rfl⟩))
  have hown2 : w2.ownsMap Try.prog 9 entR bm L.length D := ownsMap_same HS.out.2.1 (H2.out.2.2.2.2.2.block bm HS.out.2.1.lt)
  go_wp2_with (at_range; refine wpList_range_own _ rfl _ _ rfl 9 80 skeyed Try.underlying73 _ bm L.length D rfl hown2 ?_; intro w0 hrg0 hg0 hs0; have H0 := Lib.hid (And.intro hrg0 (And.intro hg0 hs0)); clear hrg0 hg0 hs0)
  clear hown2
  go_frame
  obtain ⟨it, hit⟩ : ∃ it, it = w2.heap.size := ⟨_, rfl⟩
  rw [← hit] at H0 ⊢
  have HIt := Lib.hid hit
  clear hit
  go_loopw [17] (fun _ wr => ∃ (left : Lit → Bool) (cnt : Nat) (Dout : DataW Unit), wr.ranges Try.prog 9 entR bm it L.length D left cnt ∧ cnt ≤ Maps.size D ∧
      wr.ownsMap Try.prog 9 entR bm' (Maps.size D - cnt) Dout ∧ Agree Dout D left ∧ Below w.heap.size w wr ∧ w2.heap.size ≤ wr.heap.size ∧ wr.heap[b']? = some (.cells #[.map (some bm'), .slice none 0 0, .slice none 0 0] 77 (0, 0)))
    (fun _ wr => wr.rangeLeft bm it)
  case atStart =>
    have hgb := H0.out.2.1
    exact ⟨_, _, .map [], H0.out.1, Nat.le_refl _, (H2.out.2.2.2.2.1.kept hgb (by simp)).mono (Nat.zero_le _), agree_start D, H2.out.2.2.2.2.2.grown hgb H2.out.2.2.2.2.2.size (fun j hj => by cases hj), by have := H0.out.2.2; have := HIt.out; omega, (hgb.block b' (hp_lt H2.out.2.2.2.1) (by simp)).trans H2.out.2.2.2.1⟩
  case round =>
    obtain ⟨left, cnt, Dout, hrg, hcs, hout, hA, hnx, hsz2, hrb⟩ := hrel
    go_wp2_with (at_next; refine wpList_next_se rfl _ rfl bm it L.length _ _ _ rfl hrg ?_ ?_)
    · intro hgone
      obtain ⟨hc0, hl0⟩ := hgone
      subst hc0
      have e := agree_end hA hl0 (hout.canon skeyed) (HS.out.2.1.canon skeyed)
      subst e
      have hszD := hRep_sz HS.out.2.2
      rw [Nat.sub_zero, hszD] at hout
      have hSr := HS.out.1.below hnx
      have hvbl := seg_bytes hSr.keys
      obtain ⟨A0, C0, evb⟩ := row_any hSr.keys.kb
      have b1 := (hp_cell (i := 1) hSr.r).trans rfl
      have hmh : wr.heap[b']? = some (.cells #[.map (some bm'), .slice none 0 0, .slice none 0 0] 77 (0, 0)) := hrb
      have hcp : CpAt w wr b' bm' (.slice none 0 0) [] [] := ⟨hnx, H2.out.1, hmh, World.ownsRow_nil _ _ _ _, ⟨fun _ h => (by cases h), fun _ h => (by cases h), List.Pairwise.nil⟩, fun _ h => (by cases h), rfl⟩
      have HW := Lib.hid (And.intro hSr (And.intro hcp (And.intro hout H2.out.2.1)))
      have hskl : (skeys L).length = L.length := by unfold skeys; simp
      obtain ⟨N, hNG⟩ : ∃ N, N = G.length := ⟨_, rfl⟩
      have hNI : N < 1000000 := by omega
      have HNG := Lib.hid (And.intro hNG evb)
      rw [evb, ← hNG] at b1
      obtain ⟨i0, hi, hz0, hz1, hz2⟩ := info_parts binfo
      clear hout hSr hcp hrg hcs hA hnx hsz2 hrb hl0 hmh hvbl evb hNG hskl hszD
      go_wp2
      go_loopw [33] (fun i wr => ∃ (j : Nat) (vb' : Value) (G' : List Seg), j ≤ N ∧ i = .int .i64 (j : Nat) ∧ G'.length = j ∧ CpAt w wr b' bm' vb' G' ((G.take j).map Seg.ks) ∧ wr.ownsMap Try.prog 9 entR bm' L.length Dout) (fun i _ => N - (intOf i).toNat)
      case atStart => exact ⟨0, _, [], Nat.zero_le _, rfl, rfl, HW.out.2.1, HW.out.2.2.1⟩
      case round =>
        obtain ⟨j, vb', G', hj, rfl, hGl, hc, hom⟩ := hrel
        by_cases hlt2 : j < N
        · have p1 : (j : Int) < (N : Int) := by omega
          have hjG : j < G.length := by have := HNG.out.1; omega
          have hSz := HS.out.1.below hc.l
          obtain ⟨ba, bc, eA⟩ : ∃ ba bc, vb = .slice (some ⟨ba, 0, none⟩) G.length bc := by
            rcases hSz.keys.kb.2 with ⟨_, h0⟩ | ⟨g, cap, cur, e, _⟩
            · omega
            · exact ⟨g, cap, e⟩
          have ecell := ownsRow_cell hSz.keys.kb eA (j := j) (u := G[j].val) (by rw [List.getElem?_map, List.getElem?_eq_getElem hjG]; rfl)
          obtain rfl : A0 = some ⟨ba, 0, none⟩ := by
            have := HNG.out.2.symm.trans eA
            cases this; rfl
          have hsg := And.intro (hSz.keys.kk.at_ _ (List.getElem_mem hjG)) (hSz.keys.kk.ne _ (List.getElem_mem hjG))
          have htk : (G.take (j + 1)).map Seg.ks = (G.take j).map Seg.ks ++ [G[j].ks] := by rw [List.take_succ_eq_append_getElem hjG, List.map_append]; rfl
          obtain ⟨sg, esg⟩ : ∃ y, y = G[j] := ⟨_, rfl⟩
          rw [← esg] at ecell hsg htk
          unfold Seg.val at ecell
          obtain ⟨A1, C1, rfl⟩ := row_any hc.kb
          have u1 := (hp_cell (i := 1) hc.r).trans rfl
          have hlt' : ∀ t ∈ G', t.g < wr.heap.size := fun t ht => (hc.kk.at_ t ht).lt
          have hl0' : G'.length ≤ 1000000 := by omega
          have HC := Lib.hid (hc.below (Below.refl wr.heap.size wr).drew)
          have HOm := Lib.hid (show wr.drew.ownsMap Try.prog 9 entR bm' L.length Dout from hom)
          have HSg := Lib.hid (show sg.At wr.drew ∧ 0 < sg.ks.length ∧ sg.ks.length ≤ 128 from ⟨hsg.1.same rfl, hsg.2⟩)
          have HX := Lib.hid (And.intro htk (And.intro hlt' hGl))
          clear hSz eA hsg htk esg hc hom hlt' hGl
          have hfin : ∀ (s' : Seg) (W4 : World) (A4 : Option Addr) (C4 : Nat) (W2 : World), CpAt w W2 b' bm' (.slice A1 G'.length C1) G' ((G.take j).map Seg.ks) ∧ s'.At W2 ∧ s'.ks = sg.ks ∧ wr.drew.heap.size ≤ s'.g ∧ Below wr.drew.heap.size wr.drew W2 ∧ W2.ownsMap Try.prog 9 entR bm' L.length Dout →
              W4.ownsRow w.heap.size 83 1 (.slice A4 (G'.length + 1) C4) (G'.length + 1) (G'.map Seg.val ++ [s'.val]) → (∃ o, (W2.alloc o).grownBy W4 (Value.slice A1 G'.length C1).ownBlock) →
              CpAt w (W4.setCell ⟨b', 1, none⟩ (.slice A4 (G'.length + 1) C4)) b' bm' (.slice A4 (G'.length + 1) C4) (G' ++ [s']) ((G.take (j + 1)).map Seg.ks) ∧ (W4.setCell ⟨b', 1, none⟩ (.slice A4 (G'.length + 1) C4)).ownsMap Try.prog 9 entR bm' L.length Dout := by
            rintro s' W4 A4 C4 W2 ⟨hc2, hat', hks', hge', hb2, om2⟩ hown4 hg4
            have hm := hc2.more s' hat' (fun t ht e => by have := HX.out.2.1 t ht; have h2 : wr.heap.size ≤ s'.g := hge'; omega) (by have h2 : wr.heap.size ≤ s'.g := hge'; have := HC.out.l.size; have h3 : wr.drew.heap.size = wr.heap.size := rfl; omega) (by rw [hks']; exact HSg.out.2) hg4 hown4
            rw [HX.out.1]
            rw [hks'] at hm
            refine ⟨hm.1, ownsMap_same om2 (hm.2 bm' HW.out.2.2.2 om2.lt (fun cs fr e => ?_) (fun e => ?_))⟩
            · obtain ⟨es, clock, h1, _⟩ := om2
              rw [e] at h1; cases h1
            · obtain ⟨es, clock, h1, _⟩ := om2
              rw [e, hc2.r] at h1; cases h1
          have HFin := Lib.hid hfin
          clear hfin
          go_upto_region 11 with fail
          refine wp_region_held_drew (S := fun _ => True) (by kernel_rfl) ?_ (fun hHeld => ?_)
          · exact trivial
          refine wpAnyH_take (i := 0) (v := ?_) rfl (by kernel_rfl) (by kernel_rfl) (by kernel_rfl) (fun _ _ _ h => h) (Or.inl ⟨by kernel_rfl, ?_⟩) (by with_reducible assumption) ?_
          rotate_left
          · intro wz hSw
            (try dsimp only at hSw)
            go_simp
            (try with_reducible rfl)
          show wpAnyH _ _ _ _ _ _ _ (Act.put _ (some 37) _) _
          (try simp only [Act.put, List.setIfInBounds_toArray, List.set_cons_zero, List.set_cons_succ])
          refine wpAnyH_take (i := 1) (v := ?_) rfl (by kernel_rfl) (by kernel_rfl) (by kernel_rfl) (fun _ _ _ h => h) (Or.inl ⟨by kernel_rfl, ?_⟩) (by with_reducible assumption) ?_
          rotate_left
          · intro wz hSw
            (try dsimp only at hSw)
            go_simp
            (try with_reducible rfl)
          show wpAnyH _ _ _ _ _ _ _ (Act.put _ (some 38) _) _
          (try simp only [Act.put, List.setIfInBounds_toArray, List.set_cons_zero, List.set_cons_succ])
          refine wpAnyH_take (i := 2) (v := ?_) rfl (by kernel_rfl) (by kernel_rfl) (by kernel_rfl) (fun _ _ _ h => h) (Or.inl ⟨by kernel_rfl, ?_⟩) (by with_reducible assumption) ?_
          rotate_left
          · intro wz hSw
            (try dsimp only at hSw)
            go_simp
            (try with_reducible rfl)
          show wpAnyH _ _ _ _ _ _ _ (Act.put _ (some 39) _) _
          (try simp only [Act.put, List.setIfInBounds_toArray, List.set_cons_zero, List.set_cons_succ])
          refine wpAnyH_take (i := 3) (v := ?_) rfl (by kernel_rfl) (by kernel_rfl) (by kernel_rfl) (fun _ _ _ h => h) (Or.inl ⟨by kernel_rfl, ?_⟩) (by with_reducible assumption) ?_
          rotate_left
          · intro wz hSw
            (try dsimp only at hSw)
            go_simp
            (try with_reducible rfl)
          show wpAnyH _ _ _ _ _ _ _ (Act.put _ (some 40) _) _
          (try simp only [Act.put, List.setIfInBounds_toArray, List.set_cons_zero, List.set_cons_succ])
          refine wpAnyH_take (i := 5) (v := ?_) rfl (by kernel_rfl) (by kernel_rfl) (by kernel_rfl) (fun _ _ _ h => h) (Or.inl ⟨by kernel_rfl, ?_⟩) (by with_reducible assumption) ?_
          rotate_left
          · intro wz hSw
            (try dsimp only at hSw)
            go_simp
            (try with_reducible rfl)
          show wpAnyH _ _ _ _ _ _ _ (Act.put _ (some 42) _) _
          (try simp only [Act.put, List.setIfInBounds_toArray, List.set_cons_zero, List.set_cons_succ])
          refine wpAnyH_ready (rs := [4, 6]) (by kernel_rfl) (by simp) ?_
          refine AllReadyH.cons rfl (fun K hK => ?_) (AllReadyH.cons rfl (fun K hK => ?_) AllReadyH.nil)
          · clear hHeld
            go_simp
            refine hK.out _ _ ?_ (fun hHeld => ?_)
            · exact trivial
            clear hK K
            (try simp only [Act.put, List.setIfInBounds_toArray, List.set_cons_zero, List.set_cons_succ])
            refine wpAnyH_ready (rs := [6]) (by kernel_rfl) (by simp) ?_
            refine AllReadyH.cons rfl (fun K hK => ?_) AllReadyH.nil
            clear hHeld
            go_simp
            go_at_call 45
            refine (cloneSeg sg _ HSg.out.1 HSg.out.2.1 HSg.out.2.2).mono ?_
            rintro e W2 ⟨s', rfl, hat', hks', hge', hb2⟩
            have hc2 := HC.out.below hb2
            have u2 := (hp_cell (i := 1) hc2.r).trans rfl
            have om2 := ownsMap_same HOm.out (hb2.block bm' HOm.out.lt)
            have HC2 := Lib.hid (And.intro hc2 (And.intro hat' (And.intro hks' (And.intro hge' (And.intro hb2 om2)))))
            clear hc2 hat' hks' hge' hb2 om2
            unfold Seg.val
            go_wp2_with fail
            refine hK.out _ _ ?_ (fun hHeld => ?_)
            · exact trivial
            clear hK K
            (try simp only [Act.put, List.setIfInBounds_toArray, List.set_cons_zero, List.set_cons_succ])
            refine wpAnyH_ready (rs := [7]) (by kernel_rfl) (by simp) ?_
            refine AllReadyH.cons rfl (fun K hK => ?_) AllReadyH.nil
            clear hHeld
            go_simp
            refine hK.out _ _ ?_ (fun hHeld => ?_)
            · exact trivial
            clear hK K
            (try simp only [Act.put, List.setIfInBounds_toArray, List.set_cons_zero, List.set_cons_succ])
            have u3 := (((Below.refl W2.heap.size W2).alloc (Nat.le_refl _) (.cells #[.slice (some ⟨s'.g, s'.o, none⟩) s'.ks.length s'.c] 83)).cell (p := ⟨b', 1, none⟩) (hp_lt HC2.out.1.r)).trans u2
            refine wpAnyH_ready (rs := [8]) (by kernel_rfl) (by simp) ?_
            refine AllReadyH.cons rfl (fun K hK => ?_) AllReadyH.nil
            clear hHeld
            refine step_append_own rfl (.tmp 41) (.tmp 44) 74 rfl w.heap.size 83 i0 _ 1 24 Try.underlying74 hi hz0 hz1 hz2 rfl (by omega) (.slice A1 G'.length C1) G'.length (G'.map Seg.val) rfl (HC2.out.1.kb.alloc _) ⟨W2.heap.size, 0, none⟩ 1 1 [s'.val] rfl rfl (World.news_of_block (cs := #[s'.val]) (t := 83) (fr := (0, 0)) (heap_alloc_new W2 _)) (by intro u hu; rw [List.mem_singleton.1 hu]; rfl) (by unfold maxLen; omega) (by omega) (Nat.le_trans HC2.out.1.l.size (by simp)) ?_
            intro v1 W4 hown4 hg4
            obtain ⟨A4, C4, rfl⟩ := row_any hown4
            have hr4 : W4.heap[b']? = some (.cells #[.map (some bm'), .slice A1 G'.length C1, .slice none 0 0] 77 (0, 0)) := cp_r4 HC2.out.1 hg4
            have z1 := (hp_cell (i := 1) hr4).trans rfl
            have z2 := hp_free (i := 1) hr4
            have HF := Lib.hid (And.intro hown4 (⟨_, hg4⟩ : ∃ o, (W2.alloc o).grownBy W4 (Value.slice A1 G'.length C1).ownBlock))
            clear hown4 hg4 hr4
            refine hK.out _ _ ?_ (fun hHeld => ?_)
            · exact trivial
            clear hK K
            (try simp only [Act.put, List.setIfInBounds_toArray, List.set_cons_zero, List.set_cons_succ])
            refine wpAnyH_take (i := 9) (v := ?_) rfl (by kernel_rfl) (by kernel_rfl) (by kernel_rfl) (fun _ _ _ h => h) (Or.inl ⟨by kernel_rfl, ?_⟩) (by with_reducible assumption) ?_
            rotate_left
            · intro wz hSw
              (try dsimp only at hSw)
              go_simp
              (try with_reducible rfl)
            show wpAnyH _ _ _ _ _ _ _ (Act.put _ (some 46) _) _
            (try simp only [Act.put, List.setIfInBounds_toArray, List.set_cons_zero, List.set_cons_succ])
            refine wpAnyH_take (i := 10) (v := ?_) rfl (by kernel_rfl) (by kernel_rfl) (by kernel_rfl) (fun _ _ _ h => h) (Or.inl ⟨by kernel_rfl, ?_⟩) (by with_reducible assumption) ?_
            rotate_left
            · intro wz hSw
              (try dsimp only at hSw)
              go_simp
              (try with_reducible rfl)
            show wpAnyH _ _ _ _ _ _ _ (Act.put _ (some 47) _) _
            (try simp only [Act.put, List.setIfInBounds_toArray, List.set_cons_zero, List.set_cons_succ])
            refine wpAnyH_ready (rs := [11]) (by kernel_rfl) (by simp) ?_
            refine AllReadyH.cons rfl (fun K hK => ?_) AllReadyH.nil
            clear hHeld
            go_simp
            refine hK.out _ _ ?_ (fun hHeld => ?_)
            · exact trivial
            clear hK K
            (try simp only [Act.put, List.setIfInBounds_toArray, List.set_cons_zero, List.set_cons_succ])
            refine wpAnyH_done (by kernel_rfl) ?_ _
            go_wp2_with fail
            have hf := HFin.out s' W4 A4 C4 W2 HC2.out HF.out.1 HF.out.2
            exact ⟨⟨j + 1, _, G' ++ [s'], by omega, by go_num, by rw [List.length_append, HX.out.2.2]; rfl, hf.1, hf.2⟩, by simp [intOf]; omega⟩
          · clear hHeld
            go_simp
            go_at_call 45
            refine (cloneSeg sg _ HSg.out.1 HSg.out.2.1 HSg.out.2.2).mono ?_
            rintro e W2 ⟨s', rfl, hat', hks', hge', hb2⟩
            have hc2 := HC.out.below hb2
            have u2 := (hp_cell (i := 1) hc2.r).trans rfl
            have om2 := ownsMap_same HOm.out (hb2.block bm' HOm.out.lt)
            have HC2 := Lib.hid (And.intro hc2 (And.intro hat' (And.intro hks' (And.intro hge' (And.intro hb2 om2)))))
            clear hc2 hat' hks' hge' hb2 om2
            unfold Seg.val
            go_wp2_with fail
            refine hK.out _ _ ?_ (fun hHeld => ?_)
            · exact trivial
            clear hK K
            (try simp only [Act.put, List.setIfInBounds_toArray, List.set_cons_zero, List.set_cons_succ])
            refine wpAnyH_ready (rs := [4, 7]) (by kernel_rfl) (by simp) ?_
            refine AllReadyH.cons rfl (fun K hK => ?_) (AllReadyH.cons rfl (fun K hK => ?_) AllReadyH.nil)
            · clear hHeld
              go_simp
              refine hK.out _ _ ?_ (fun hHeld => ?_)
              · exact trivial
              clear hK K
              (try simp only [Act.put, List.setIfInBounds_toArray, List.set_cons_zero, List.set_cons_succ])
              refine wpAnyH_ready (rs := [7]) (by kernel_rfl) (by simp) ?_
              refine AllReadyH.cons rfl (fun K hK => ?_) AllReadyH.nil
              clear hHeld
              go_simp
              refine hK.out _ _ ?_ (fun hHeld => ?_)
              · exact trivial
              clear hK K
              (try simp only [Act.put, List.setIfInBounds_toArray, List.set_cons_zero, List.set_cons_succ])
              have u3 := (((Below.refl W2.heap.size W2).alloc (Nat.le_refl _) (.cells #[.slice (some ⟨s'.g, s'.o, none⟩) s'.ks.length s'.c] 83)).cell (p := ⟨b', 1, none⟩) (hp_lt HC2.out.1.r)).trans u2
              refine wpAnyH_ready (rs := [8]) (by kernel_rfl) (by simp) ?_
              refine AllReadyH.cons rfl (fun K hK => ?_) AllReadyH.nil
              clear hHeld
              refine step_append_own rfl (.tmp 41) (.tmp 44) 74 rfl w.heap.size 83 i0 _ 1 24 Try.underlying74 hi hz0 hz1 hz2 rfl (by omega) (.slice A1 G'.length C1) G'.length (G'.map Seg.val) rfl (HC2.out.1.kb.alloc _) ⟨W2.heap.size, 0, none⟩ 1 1 [s'.val] rfl rfl (World.news_of_block (cs := #[s'.val]) (t := 83) (fr := (0, 0)) (heap_alloc_new W2 _)) (by intro u hu; rw [List.mem_singleton.1 hu]; rfl) (by unfold maxLen; omega) (by omega) (Nat.le_trans HC2.out.1.l.size (by simp)) ?_
              intro v1 W4 hown4 hg4
              obtain ⟨A4, C4, rfl⟩ := row_any hown4
              have hr4 : W4.heap[b']? = some (.cells #[.map (some bm'), .slice A1 G'.length C1, .slice none 0 0] 77 (0, 0)) := cp_r4 HC2.out.1 hg4
              have z1 := (hp_cell (i := 1) hr4).trans rfl
              have z2 := hp_free (i := 1) hr4
              have HF := Lib.hid (And.intro hown4 (⟨_, hg4⟩ : ∃ o, (W2.alloc o).grownBy W4 (Value.slice A1 G'.length C1).ownBlock))
              clear hown4 hg4 hr4
              refine hK.out _ _ ?_ (fun hHeld => ?_)
              · exact trivial
              clear hK K
              (try simp only [Act.put, List.setIfInBounds_toArray, List.set_cons_zero, List.set_cons_succ])
              refine wpAnyH_take (i := 9) (v := ?_) rfl (by kernel_rfl) (by kernel_rfl) (by kernel_rfl) (fun _ _ _ h => h) (Or.inl ⟨by kernel_rfl, ?_⟩) (by with_reducible assumption) ?_
              rotate_left
              · intro wz hSw
                (try dsimp only at hSw)
                go_simp
                (try with_reducible rfl)
              show wpAnyH _ _ _ _ _ _ _ (Act.put _ (some 46) _) _
              (try simp only [Act.put, List.setIfInBounds_toArray, List.set_cons_zero, List.set_cons_succ])
              refine wpAnyH_take (i := 10) (v := ?_) rfl (by kernel_rfl) (by kernel_rfl) (by kernel_rfl) (fun _ _ _ h => h) (Or.inl ⟨by kernel_rfl, ?_⟩) (by with_reducible assumption) ?_
              rotate_left
              · intro wz hSw
                (try dsimp only at hSw)
                go_simp
                (try with_reducible rfl)
              show wpAnyH _ _ _ _ _ _ _ (Act.put _ (some 47) _) _
              (try simp only [Act.put, List.setIfInBounds_toArray, List.set_cons_zero, List.set_cons_succ])
              refine wpAnyH_ready (rs := [11]) (by kernel_rfl) (by simp) ?_
              refine AllReadyH.cons rfl (fun K hK => ?_) AllReadyH.nil
              clear hHeld
              go_simp
              refine hK.out _ _ ?_ (fun hHeld => ?_)
              · exact trivial
              clear hK K
              (try simp only [Act.put, List.setIfInBounds_toArray, List.set_cons_zero, List.set_cons_succ])
              refine wpAnyH_done (by kernel_rfl) ?_ _
              go_wp2_with fail
              have hf := HFin.out s' W4 A4 C4 W2 HC2.out HF.out.1 HF.out.2
              exact ⟨⟨j + 1, _, G' ++ [s'], by omega, by go_num, by rw [List.length_append, HX.out.2.2]; rfl, hf.1, hf.2⟩, by simp [intOf]; omega⟩
            · clear hHeld
              go_simp
              refine hK.out _ _ ?_ (fun hHeld => ?_)
              · exact trivial
              clear hK K
              (try simp only [Act.put, List.setIfInBounds_toArray, List.set_cons_zero, List.set_cons_succ])
              have u3 := (((Below.refl W2.heap.size W2).alloc (Nat.le_refl _) (.cells #[.slice (some ⟨s'.g, s'.o, none⟩) s'.ks.length s'.c] 83)).cell (p := ⟨b', 1, none⟩) (hp_lt HC2.out.1.r)).trans u2
              refine wpAnyH_ready (rs := [4]) (by kernel_rfl) (by simp) ?_
              refine AllReadyH.cons rfl (fun K hK => ?_) AllReadyH.nil
              clear hHeld
              go_simp
              refine hK.out _ _ ?_ (fun hHeld => ?_)
              · exact trivial
              clear hK K
              (try simp only [Act.put, List.setIfInBounds_toArray, List.set_cons_zero, List.set_cons_succ])
              refine wpAnyH_ready (rs := [8]) (by kernel_rfl) (by simp) ?_
              refine AllReadyH.cons rfl (fun K hK => ?_) AllReadyH.nil
              clear hHeld
              refine step_append_own rfl (.tmp 41) (.tmp 44) 74 rfl w.heap.size 83 i0 _ 1 24 Try.underlying74 hi hz0 hz1 hz2 rfl (by omega) (.slice A1 G'.length C1) G'.length (G'.map Seg.val) rfl (HC2.out.1.kb.alloc _) ⟨W2.heap.size, 0, none⟩ 1 1 [s'.val] rfl rfl (World.news_of_block (cs := #[s'.val]) (t := 83) (fr := (0, 0)) (heap_alloc_new W2 _)) (by intro u hu; rw [List.mem_singleton.1 hu]; rfl) (by unfold maxLen; omega) (by omega) (Nat.le_trans HC2.out.1.l.size (by simp)) ?_
              intro v1 W4 hown4 hg4
              obtain ⟨A4, C4, rfl⟩ := row_any hown4
              have hr4 : W4.heap[b']? = some (.cells #[.map (some bm'), .slice A1 G'.length C1, .slice none 0 0] 77 (0, 0)) := cp_r4 HC2.out.1 hg4
              have z1 := (hp_cell (i := 1) hr4).trans rfl
              have z2 := hp_free (i := 1) hr4
              have HF := Lib.hid (And.intro hown4 (⟨_, hg4⟩ : ∃ o, (W2.alloc o).grownBy W4 (Value.slice A1 G'.length C1).ownBlock))
              clear hown4 hg4 hr4
              refine hK.out _ _ ?_ (fun hHeld => ?_)
              · exact trivial
              clear hK K
              (try simp only [Act.put, List.setIfInBounds_toArray, List.set_cons_zero, List.set_cons_succ])
              refine wpAnyH_take (i := 9) (v := ?_) rfl (by kernel_rfl) (by kernel_rfl) (by kernel_rfl) (fun _ _ _ h => h) (Or.inl ⟨by kernel_rfl, ?_⟩) (by with_reducible assumption) ?_
              rotate_left
              · intro wz hSw
                (try dsimp only at hSw)
                go_simp
                (try with_reducible rfl)
              show wpAnyH _ _ _ _ _ _ _ (Act.put _ (some 46) _) _
              (try simp only [Act.put, List.setIfInBounds_toArray, List.set_cons_zero, List.set_cons_succ])
              refine wpAnyH_take (i := 10) (v := ?_) rfl (by kernel_rfl) (by kernel_rfl) (by kernel_rfl) (fun _ _ _ h => h) (Or.inl ⟨by kernel_rfl, ?_⟩) (by with_reducible assumption) ?_
              rotate_left
              · intro wz hSw
                (try dsimp only at hSw)
                go_simp
                (try with_reducible rfl)
              show wpAnyH _ _ _ _ _ _ _ (Act.put _ (some 47) _) _
              (try simp only [Act.put, List.setIfInBounds_toArray, List.set_cons_zero, List.set_cons_succ])
              refine wpAnyH_ready (rs := [11]) (by kernel_rfl) (by simp) ?_
              refine AllReadyH.cons rfl (fun K hK => ?_) AllReadyH.nil
              clear hHeld
              go_simp
              refine hK.out _ _ ?_ (fun hHeld => ?_)
              · exact trivial
              clear hK K
              (try simp only [Act.put, List.setIfInBounds_toArray, List.set_cons_zero, List.set_cons_succ])
              refine wpAnyH_done (by kernel_rfl) ?_ _
              go_wp2_with fail
              have hf := HFin.out s' W4 A4 C4 W2 HC2.out HF.out.1 HF.out.2
              exact ⟨⟨j + 1, _, G' ++ [s'], by omega, by go_num, by rw [List.length_append, HX.out.2.2]; rfl, hf.1, hf.2⟩, by simp [intOf]; omega⟩
        · obtain rfl : j = N := by omega
          have p1 : ¬ (j : Int) < (j : Int) := by omega
          have etk : G.take j = G := List.take_of_length_le (by have := HNG.out.1; omega)
          rw [etk] at hc
          have hSz := HS.out.1.below hc.l
          obtain ⟨A5, C5, evq⟩ := row_any hSz.kq
          have b2 := (hp_cell (i := 2) hSz.r).trans rfl
          have hcl := cloneCh R vq wr hSz.kq hR
          rw [evq] at b2 hcl
          have HCl := Lib.hid (And.intro hcl (And.intro hc hom))
          clear hcl hc hom hSz evq etk
          go_wp2_with (go_at_call 46; refine HCl.out.1.mono ?_; rintro e W5 ⟨v5, rfl, ho5, hb5⟩; obtain ⟨A6, C6, rfl⟩ := row_any ho5; have hr5 := (hb5.block b' (hp_lt HCl.out.2.1.r)).trans HCl.out.2.1.r; have z1 := (hp_cell (i := 2) hr5).trans rfl; have z2 := hp_free (i := 2) hr5; have HFn := Lib.hid (copy_fin HS.out.1 HCl.out.2.1 HCl.out.2.2 HS.out.2.2 HW.out.2.2.2 hb5 ho5); clear ho5 hb5 hr5)
          go_ret
          obtain ⟨F', h1, h2, h3⟩ := HFn.out
          exact ⟨b', F', rfl, h1, h2, h3⟩
    · intro x c w1 cnt1 hcame
      obtain ⟨hkey, hv, hat, hrg1, hlt, hg1, hen⟩ := hcame
      have hbi : bm' ≠ it := by have := H2.out.2.2.2.2.1.lt; have := HIt.out; omega
      have hbi2 : b' ≠ it := by have := hp_lt H2.out.2.2.2.1; have := HIt.out; omega
      have hbb : b' ≠ bm' := H2.out.2.2.1
      have hwi : w.heap.size ≤ it := by have := H2.out.2.2.2.2.2.size; have := HIt.out; omega
      have hwb : w.heap.size ≤ bm' := H2.out.2.1
      have hout1 := hout.kept hg1 (by intro e; cases e; exact hbi rfl)
      have hr1 := (hg1.block b' (hp_lt hrb) (by intro e; cases e; exact hbi2 rfl)).trans hrb
      have hbw1 : Below w.heap.size w w1 := hnx.grown hg1 hnx.size (fun j hj => by cases hj; exact hwi)
      have hml := Lib.hid hrg.left_eq
      have hszD := hRep_sz HS.out.2.2
      have hbb0 : bm ≠ bm' := by have := HS.out.2.1.lt; omega
      have HH := Lib.hid (And.intro hout1 (And.intro hr1 (And.intro hbw1 (And.intro hrg1 (And.intro hA (And.intro hat (And.intro hkey (And.intro hlt (And.intro hcs (And.intro hv (And.intro (Nat.le_trans hsz2 hg1.size) hout.isMap)))))))))))
      clear hout hout1 hr1 hbw1 hrg hrg1 hA hat hkey hlt hcs hv hnx hsz2 hrb hg1
      go_upto_region 7 with fail
      have hx3 := heap_alloc_new w1 (.cells #[.string c] 80)
      have hb3 := (Below.refl w1.heap.size w1).alloc (Nat.le_refl _) (.cells #[.string c] 80)
      have hrg3 := HH.out.2.2.2.1.alloc (.cells #[.string c] 80)
      have hout3 := HH.out.1.alloc (.cells #[.string c] 80)
      generalize w1.alloc (.cells #[.string c] 80) = W3 at hx3 hb3 hrg3 hout3 ⊢
      have hr3 := (hb3.block b' (hp_lt HH.out.2.1)).trans HH.out.2.1
      have y0 := (hp_cell (i := 0) hx3).trans rfl
      have e0 := (hp_cell (i := 0) hr3).trans rfl
      obtain ⟨W4, hrun, hout4, hg4⟩ := World.ownsMap.update (w := W3.drew) (show W3.drew.ownsMap Try.prog 9 entR bm' _ Dout from hout3) skeyed Try.underlying73 (by unfold maxLen; omega) HH.out.2.2.2.2.2.2.1 HH.out.2.2.2.2.2.2.2.2.2.1
      have hrg4 := World.ranges.kept (w := W3.drew) (show W3.drew.ranges Try.prog 9 entR bm it L.length D (fun z => left z && !z.sameKey (.string x.data.toList)) cnt1 from hrg3) hg4 (by intro e; cases e; exact hbb0 rfl) (by intro e; cases e; exact hbi rfl)
      have hr4 := (hg4.block b' (show b' < W3.drew.heap.size from hp_lt hr3) (by intro e; cases e; exact hbb rfl)).trans (show W3.drew.heap[b']? = _ from hr3)
      have hbw3 : Below w.heap.size w W3.drew := (HH.out.2.2.1.trans (hb3.mono HH.out.2.2.1.size)).drew
      have hbw4 : Below w.heap.size w W4 := hbw3.grown hg4 hbw3.size (fun j hj => by cases hj; exact hwb)
      have hs4 := hg4.size
      have hs3 := hb3.size
      have H4 := Lib.hid (And.intro hout4 (And.intro hrg4 (And.intro hr4 (And.intro hbw4 (And.intro hs4 hs3)))))
      clear hx3 hb3 hrg3 hout3 hr3 hout4 hg4 hrg4 hr4 hbw3 hbw4 hs4 hs3
      go_region
      go_wp2
      have hs4 := H4.out.2.2.2.2.1
      have hs4' : W3.heap.size ≤ W4.heap.size := hs4
      refine ⟨⟨_, cnt1, _, H4.out.2.1, by have := HH.out.2.2.2.2.2.2.2.1; have := HH.out.2.2.2.2.2.2.2.2.1; omega, H4.out.1.mono (by have := HH.out.2.2.2.2.2.2.2.1; have := HH.out.2.2.2.2.2.2.2.2.1; omega), agree_step HH.out.2.2.2.2.1 HH.out.2.2.2.2.2.2.2.2.2.2.2 (skeyed.key HH.out.2.2.2.2.2.2.1) HH.out.2.2.2.2.2.1, H4.out.2.2.2.1, by have := H4.out.2.2.2.2.2; have := HH.out.2.2.2.2.2.2.2.2.2.2.1; omega, H4.out.2.2.1⟩, ?_⟩
      show W4.rangeLeft bm it < wr.rangeLeft bm it
      rw [H4.out.2.1.left_eq, hml.out]
      exact HH.out.2.2.2.2.2.2.2.1
end Go.Proofs.Ytbfmhafmncnhfaa
