/- The store: insert, walked. -/
import Derived.Test.YtedkhpnlhkjjgaaT4
namespace Go.Proofs.Ytedkhpnlhkjjgaa
open Go.RowKit Go.Maps Go.Sort

def insK (ks : List ByteArray) (x : ByteArray) : List ByteArray := ks.take (klo ks x) ++ [x] ++ ks.drop (klo ks x)
theorem klo_parts (x : ByteArray) : ∀ ks : List ByteArray, Rising ks → (∀ y ∈ ks.take (klo ks x), y.data.toList < x.data.toList) ∧ (∀ y ∈ ks.drop (klo ks x), ¬ y.data.toList < x.data.toList)
  | [], _ => ⟨fun _ h => by simp at h, fun _ h => by simp at h⟩
  | a :: r, h => by
    have hr := (List.pairwise_cons.1 h).2
    have ha := (List.pairwise_cons.1 h).1
    obtain ⟨i1, i2⟩ := klo_parts x r hr
    unfold klo at i1 i2 ⊢
    by_cases e : a.data.toList < x.data.toList
    · rw [List.countP_cons_of_pos (by simpa using e), List.take_succ_cons, List.drop_succ_cons]
      exact ⟨fun y hy => by rcases List.mem_cons.1 hy with rfl | hy; exact e; exact i1 y hy, i2⟩
    · have hz : r.countP (fun y => decide (y.data.toList < x.data.toList)) = 0 := by
        rw [List.countP_eq_zero]
        intro y hy hd
        exact e (List.lt_trans (ha y hy) (of_decide_eq_true hd))
      rw [List.countP_cons_of_neg (by simpa using e), hz]
      refine ⟨fun y hy => by simp at hy, fun y hy => ?_⟩
      rw [List.drop_zero] at hy
      rcases List.mem_cons.1 hy with rfl | hy
      · exact e
      · exact fun hd => e (List.lt_trans (ha y hy) hd)
theorem rising_ins {ks : List ByteArray} (h : Rising ks) {x : ByteArray} (hx : x ∉ ks) : Rising (insK ks x) := by
  obtain ⟨h1, h2⟩ := klo_parts x ks h
  have hp : (ks.take (klo ks x) ++ ks.drop (klo ks x)).Pairwise (fun a b => a.data.toList < b.data.toList) := by rw [List.take_append_drop]; exact h
  rw [List.pairwise_append] at hp
  have hgt : ∀ y ∈ ks.drop (klo ks x), x.data.toList < y.data.toList := fun y hy => by
    rcases List.le_iff_lt_or_eq.1 (List.not_lt.1 (h2 y hy)) with h3 | h3
    · exact h3
    · exfalso
      have : x = y := by
        cases x with | mk a => cases y with | mk b =>
        have := Array.toList_inj.1 h3
        subst this; rfl
      subst this
      exact hx (List.mem_of_mem_drop hy)
  unfold Rising insK
  rw [List.append_assoc, List.pairwise_append, List.pairwise_append]
  refine ⟨hp.1, ⟨List.pairwise_singleton _ _, hp.2.1, fun a ha b hb => by rw [List.mem_singleton.1 ha]; exact hgt b hb⟩, fun a ha b hb => ?_⟩
  rcases List.mem_append.1 hb with hb | hb
  · rw [List.mem_singleton.1 hb]; exact h1 a ha
  · exact hp.2.2 a ha b hb
/-- the blocks of a store's keys, its own among them -/
def kfp (b : Nat) (vb vk : Value) (ks : List ByteArray) : List Nat := b :: (vb.ownBlock.toList ++ (if ks = [] then [] else vk.ownBlock.toList))
/-- the keys of a store in memory -/
structure KeysAt (w : World) (b bm : Nat) (vb vk vq : Value) (ks : List ByteArray) : Prop where
  r : w.heap[b]? = some (.cells #[.map (some bm), vb, vq] 107 (0, 0))
  kb : w.ownsRow 0 193 1 vb (if ks = [] then 0 else 1) (if ks = [] then [] else [vk])
  kk : ks ≠ [] → w.ownsRow 0 9 1 vk ks.length (ks.map Value.string)
  so : Rising ks
  nd : (kfp b vb vk ks).Nodup
theorem KeysAt.same {w w' : World} {b bm : Nat} {vb vk vq : Value} {ks : List ByteArray} (h : KeysAt w b bm vb vk vq ks) (hs : ∀ k ∈ kfp b vb vk ks, w'.heap[k]? = w.heap[k]?) : KeysAt w' b bm vb vk vq ks := by
  have hm : ∀ k, (k = b ∨ vb.ownBlock = some k ∨ (ks ≠ [] ∧ vk.ownBlock = some k)) → w'.heap[k]? = w.heap[k]? := fun k hk => hs k (by
    unfold kfp
    simp only [List.mem_cons, List.mem_append, Option.mem_toList]
    rcases hk with h | h | ⟨hn, h⟩
    · exact .inl h
    · exact .inr (.inl h)
    · exact .inr (.inr (by rw [if_neg hn]; simpa using h)))
  exact ⟨(hm b (.inl rfl)).trans h.r, ownsRow_same h.kb fun g hg => hm g (.inr (.inl hg)), fun hn => ownsRow_same (h.kk hn) fun g hg => hm g (.inr (.inr ⟨hn, hg⟩)), h.so, h.nd⟩
theorem KeysAt.lt {w : World} {b bm : Nat} {vb vk vq : Value} {ks : List ByteArray} (h : KeysAt w b bm vb vk vq ks) : ∀ k ∈ kfp b vb vk ks, k < w.heap.size := by
  intro k hk
  unfold kfp at hk
  simp only [List.mem_cons, List.mem_append, Option.mem_toList] at hk
  rcases hk with rfl | (hk | hk)
  · exact hp_lt h.r
  · exact ownsRow_blk h.kb k hk
  · split at hk
    · cases hk
    · rename_i hn
      exact ownsRow_blk (h.kk hn) k (by simpa using hk)
theorem KeysAt.below {w w' : World} {b bm : Nat} {vb vk vq : Value} {ks : List ByteArray} (h : KeysAt w b bm vb vk vq ks) (hb : Below w.heap.size w w') : KeysAt w' b bm vb vk vq ks := h.same fun k hk => hb.block k (h.lt k hk)
/-- what insert leaves -/
def InsPost (b bm : Nat) (vb vk vq : Value) (ks : List ByteArray) (x : ByteArray) (w : World) (e : Ending) (w' : World) : Prop :=
  e = .returned (.tuple #[]) ∧ ∃ vb' vk', KeysAt w' b bm vb' vk' vq (insK ks x) ∧ Touch (kfp b vb vk ks) w w' ∧ ∀ k ∈ kfp b vb' vk' (insK ks x), k ∈ kfp b vb vk ks ∨ w.heap.size ≤ k
theorem ins_r {w w1 w3 : World} {o : Obj} {bk p : Nat} {O : Obj} (hB : Below w.heap.size w w1) (hr : w.heap[p]? = some O) (hp : p ≠ bk) (ht : Touch [bk] (w1.alloc o) w3) : w3.heap[p]? = some O :=
  (ht.block p (by rw [World.size_alloc]; have := hp_lt hr; have := hB.size; omega) (by simp; exact hp)).trans ((heap_alloc_old _ _ (Nat.lt_of_lt_of_le (hp_lt hr) hB.size)).trans ((hB.block _ (hp_lt hr)).trans hr))
theorem ins_done {w w1 w3 : World} {b bm ba bc bk kc g cap : Nat} {vq : Value} {ks : List ByteArray} {x : ByteArray} {cur : Array Value} (hB : Below w.heap.size w w1)
    (hr : w.heap[b]? = some (.cells #[.map (some bm), .slice (some ⟨ba, 0, none⟩) 1 bc, vq] 107 (0, 0))) (hc : w.heap[ba]? = some (.cells cur 193 (0, 0))) (d1 : b ≠ ba) (d2 : b ≠ bk) (d3 : ba ≠ bk) (hbk : bk < w.heap.size) (h1 : 1 ≤ bc) (h2 : bc ≤ maxLen) (h3 : cur.size = bc * 1)
    (hs : Rising ks) (hne : ks ≠ []) (hx : x ∉ ks)
    (hown : w3.ownsRow 0 9 1 (.slice (some ⟨g, 0, none⟩) (ks.length + 1) cap) (ks.length + 1) ((insK ks x).map Value.string)) (hg : g = bk ∨ (w1.alloc (.cells #[.string x] 9)).heap.size ≤ g) (hgl : g < w3.heap.size) (ht : Touch [bk] (w1.alloc (.cells #[.string x] 9)) w3) :
    InsPost b bm (.slice (some ⟨ba, 0, none⟩) 1 bc) (.slice (some ⟨bk, 0, none⟩) ks.length kc) vq ks x w (.returned (.tuple #[])) (w3.setCell ⟨ba, 0, none⟩ (.slice (some ⟨g, 0, none⟩) (ks.length + 1) cap)) := by
  have hl : (insK ks x).length = ks.length + 1 := by
    unfold insK
    have := klo_le ks x
    simp
    omega
  have hgb : g ≠ ba := by
    rcases hg with rfl | hg
    · exact fun e => d3 e.symm
    · rw [World.size_alloc] at hg
      have := hp_lt hc; have := hB.size
      omega
  have hgb2 : g ≠ b := by
    rcases hg with rfl | hg
    · exact fun e => d2 e.symm
    · rw [World.size_alloc] at hg
      have := hp_lt hr; have := hB.size
      omega
  have hin : insK ks x ≠ [] := fun e => by rw [e] at hl; cases hl
  refine ⟨rfl, .slice (some ⟨ba, 0, none⟩) 1 bc, .slice (some ⟨g, 0, none⟩) (ks.length + 1) cap, ⟨?_, ?_, fun _ => ?_, rising_ins hs hx, ?_⟩, ?_, ?_⟩
  · rw [Below.heap_setCell _ _ _ _ (show b ≠ ba from d1)]
    exact ins_r hB hr d2 ht
  · rw [if_neg hin, if_neg hin]
    refine ownsRow_shut (heap_setCell_row (ins_r hB hc d3 ht) _) h1 h2 (by simpa using h3) ?_ rfl
    have : 0 < cur.size := by omega
    rw [Array.toList_setIfInBounds]
    match hcl : cur.toList with
    | [] => simp at hcl; subst hcl; simp at this
    | c :: r => simp
  · rw [hl]
    exact ownsRow_same hown fun k hk => by cases hk; exact Below.heap_setCell _ _ _ _ (show g ≠ ba from hgb)
  · unfold kfp
    rw [if_neg hin]
    simp [Value.ownBlock]
    exact ⟨⟨d1, fun e => hgb2 e.symm⟩, fun e => hgb e.symm⟩
  · have t1 : Touch (kfp b (.slice (some ⟨ba, 0, none⟩) 1 bc) (.slice (some ⟨bk, 0, none⟩) ks.length kc) ks) w (w1.alloc (.cells #[.string x] 9)) := touch_alloc (Touch.of_below hB) _
    have t2 : Touch (kfp b (.slice (some ⟨ba, 0, none⟩) 1 bc) (.slice (some ⟨bk, 0, none⟩) ks.length kc) ks) (w1.alloc (.cells #[.string x] 9)) w3 := ht.mono fun k hk => by
      rw [List.mem_singleton.1 hk]; unfold kfp; rw [if_neg hne]; simp [Value.ownBlock]
    exact (t1.trans (fun _ hk => .inl hk) t2).trans (fun _ hk => .inl hk) (Touch.setCell _ _ _ (by unfold kfp; simp [Value.ownBlock]))
  · intro k hk
    unfold kfp at hk ⊢
    rw [if_neg hin] at hk
    rw [if_neg hne]
    simp [Value.ownBlock] at hk ⊢
    rcases hk with rfl | rfl | rfl
    · exact .inl (.inl rfl)
    · exact .inl (.inr (.inl rfl))
    · rcases hg with rfl | hg
      · exact .inl (.inr (.inr rfl))
      · right
        rw [World.size_alloc] at hg
        have := hB.size
        omega
set_option maxRecDepth 100000 in
set_option maxHeartbeats 2000000 in
theorem insert_none (b bm : Nat) (vb vk vq : Value) (x : ByteArray) (w : World) (h : KeysAt w b bm vb vk vq []) :
    Calls Try.prog 142 #[.pointer (some ⟨b, 0, none⟩), .string x] w (InsPost b bm vb vk vq [] x w) := by
  obtain ⟨A, c, rfl⟩ : ∃ A c, vb = .slice A 0 c := by
    rcases h.kb.2 with ⟨h1, _⟩ | ⟨g, cap, cur, h1, _⟩
    · exact ⟨_, _, h1⟩
    · exact ⟨_, _, h1⟩
  have hr := h.r
  have c1 := (hp_cell (i := 1) hr).trans rfl
  have f1 := hp_free (i := 1) hr
  have HR := Lib.hid hr
  have HL := hp_lt hr
  clear h hr
  go_enter Try.func142, Try.ntmps142
  go_wp2
  refine bodyPost_ret (v := .tuple #[]) (by simp [results, Try.results142, go_sem]) rfl ⟨rfl, .slice (some ⟨w.heap.size + 1, 0, none⟩) 1 1, .slice (some ⟨w.heap.size, 0, none⟩) 1 1, ?_, ?_, ?_⟩
  · have e1 : insK [] x = [x] := rfl
    rw [e1]
    refine ⟨?_, ?_, fun _ => ?_, List.pairwise_singleton _ _, ?_⟩
    · exact (heap_alloc_old _ _ (by simp; omega)).trans ((heap_alloc_old _ _ (by simp; omega)).trans (heap_setCell_row HR.out _))
    · rw [if_neg (by simp), if_neg (by simp)]
      refine ownsRow_shut (cur := #[.slice (some ⟨w.heap.size, 0, none⟩) 1 1]) ?_ (Nat.le_refl _) (by decide) rfl rfl rfl
      have := heap_alloc_new ((w.setCell ⟨b, 1, none⟩ (.slice (some ⟨w.heap.size + 1, 0, none⟩) 1 1)).alloc (.cells #[.string x] 9)) (.cells #[.slice (some ⟨w.heap.size, 0, none⟩) 1 1] 193)
      rw [World.size_alloc, World.size_setCell] at this
      exact this
    · refine ownsRow_shut (cur := #[.string x]) ?_ (Nat.le_refl _) (by decide) rfl rfl rfl
      have := heap_alloc_new (w.setCell ⟨b, 1, none⟩ (.slice (some ⟨w.heap.size + 1, 0, none⟩) 1 1)) (.cells #[.string x] 9)
      rw [World.size_setCell] at this
      exact (heap_alloc_old _ _ (by simp)).trans this
    · unfold kfp
      simp [Value.ownBlock]
      omega
  · exact touch_alloc (touch_alloc (Touch.setCell w ⟨b, 1, none⟩ _ (by unfold kfp; simp)) _) _
  · intro k hk
    unfold kfp at hk ⊢
    simp [Value.ownBlock, insK] at hk ⊢
    rcases hk with rfl | rfl | rfl
    · exact .inl (.inl rfl)
    · exact .inr (by omega)
    · exact .inr (Nat.le_refl _)
set_option maxRecDepth 100000 in
set_option maxHeartbeats 4000000 in
theorem insert_some (b bm : Nat) (vb vk vq : Value) (ks : List ByteArray) (x : ByteArray) (w : World) (h : KeysAt w b bm vb vk vq ks) (hn : 0 < ks.length) (hN : ks.length < 128) (hx : x ∉ ks) :
    Calls Try.prog 142 #[.pointer (some ⟨b, 0, none⟩), .string x] w (InsPost b bm vb vk vq ks x w) := by
  have hne : ks ≠ [] := fun e => by rw [e] at hn; exact absurd hn (by decide)
  have hkb := h.kb
  rw [if_neg hne, if_neg hne] at hkb
  obtain ⟨ba, bc, rfl, hba⟩ := ownsRow_form hkb (by decide)
  have hkk := h.kk hne
  obtain ⟨bk, kc, rfl, hbk⟩ := ownsRow_form hkk hn
  have hr := h.r
  have hnd := h.nd
  unfold kfp at hnd
  rw [if_neg hne] at hnd
  simp [Value.ownBlock] at hnd
  obtain ⟨⟨d1, d2⟩, d3⟩ := hnd
  obtain ⟨cur, hcur, hc1, hc2, hc3, hc4, _⟩ := ownsRow_open hkb
  have ha : w.cell? ⟨ba, 0, none⟩ = some (.slice (some ⟨bk, 0, none⟩) ks.length kc) := ownsRow_cell hkb rfl rfl
  have HP := Lib.hid (place_some b bm ba bc bk kc ks vq x w hn (by omega) h.so hr ha (fun i hi => ownsRow_cell hkk rfl (by simp [hi])))
  obtain ⟨l, hl⟩ : ∃ l, l = klo ks x := ⟨_, rfl⟩
  have hll : l ≤ ks.length := by rw [hl]; exact klo_le _ _
  rw [← hl] at HP
  have HI := Lib.hid (fun W (hB : Below w.heap.size w W) => show Calls Try.prog 152 #[.slice (some ⟨bk, 0, none⟩) ks.length kc, .int .i64 (l : Nat), .slice (some ⟨W.heap.size, 0, none⟩) 1 1] (W.alloc (.cells #[.string x] 9)) _ from
    insert_own ks bk kc W.heap.size l x (W.alloc (.cells #[.string x] 9)) hll hn (by omega) (by have := hB.size; omega) (ownsRow_same hkk fun g hg => by cases hg; exact (heap_alloc_old _ _ (Nat.lt_of_lt_of_le hbk hB.size)).trans (hB.block _ hbk)) (heap_alloc_new _ _))
  have HR := Lib.hid hr
  have HC := Lib.hid hcur
  have HD := Lib.hid (And.intro d1 (And.intro d2 (And.intro d3 (And.intro hba (And.intro hbk (And.intro hc1 (And.intro hc2 (And.intro hc3 hc4))))))))
  have HS := Lib.hid (And.intro h.so (And.intro hne (And.intro hx hl)))
  obtain ⟨n, hnn⟩ : ∃ n, n = ks.length := ⟨_, rfl⟩
  rw [← hnn] at HP HI ha hN
  have HN := Lib.hid hnn
  have q0 : ¬ (128 : Int) < (n : Int) + 1 := by omega
  have c1 := (hp_cell (i := 1) hr).trans rfl
  clear h hn hkb hkk hr d1 d2 d3 hba hbk hc1 hc2 hc3 hc4 hx hl hll hne hcur hnn hN
  by_cases hln : l = n
  · rw [if_pos hln] at HP
    rw [hln] at HI
    have HE := Lib.hid hln
    clear hln
    go_enter Try.func142, Try.ntmps142
    go_wp2_with (first
      | (go_at_call 152; refine (HI.out w1 HB1.out).mono ?_; rintro e w3 ⟨g, cap, rfl, hown, hg, hgl, ht⟩; have HO := Lib.hid (And.intro hown (And.intro hg (And.intro hgl ht))); have e1 := (hp_cell (i := 1) (ins_r HB1.out HR.out HD.out.2.1 ht)).trans rfl; have e2 := hp_free (i := 0) (ins_r HB1.out HC.out HD.out.2.2.1 ht); have e3 := (hp_cell (i := 0) (ins_r HB1.out HC.out HD.out.2.2.1 ht)).trans ((hp_cell (i := 0) HC.out).symm.trans ha); clear hown hg hgl ht)
      | (go_at_call 145; refine HP.out.mono ?_; rintro e w1 ⟨rfl, hb⟩; have HB1 := Lib.hid hb; have r1 := (hp_cell (i := 1) ((hb.block _ (hp_lt HR.out)).trans HR.out)).trans rfl; have a1 := (hb.cell (p := ⟨ba, 0, none⟩) (hp_lt HC.out)).trans ha; have b1 := Nat.lt_of_lt_of_le (hp_lt HR.out) hb.size; have b2 := Nat.lt_of_lt_of_le (hp_lt HC.out) hb.size; clear hb))
    have hf := ins_done (kc := kc) HB1.out HR.out HC.out HD.out.1 HD.out.2.1 HD.out.2.2.1 HD.out.2.2.2.2.1 HD.out.2.2.2.2.2.1 HD.out.2.2.2.2.2.2.1 HD.out.2.2.2.2.2.2.2.1 HS.out.1 HS.out.2.1 HS.out.2.2.1 (g := g) (cap := cap) (w3 := w3) (by have h := HO.out.1; rw [← HN.out]; unfold insK; rw [← HE.out.symm.trans HS.out.2.2.2]; exact h) HO.out.2.1 HO.out.2.2.1 HO.out.2.2.2
    rw [← HN.out] at hf
    go_end0
    exact hf
  · rw [if_neg hln] at HP
    clear hln
    go_enter Try.func142, Try.ntmps142
    go_wp2_with (first
      | (go_at_call 152; refine (HI.out w1 HB1.out).mono ?_; rintro e w3 ⟨g, cap, rfl, hown, hg, hgl, ht⟩; have HO := Lib.hid (And.intro hown (And.intro hg (And.intro hgl ht))); have e1 := (hp_cell (i := 1) (ins_r HB1.out HR.out HD.out.2.1 ht)).trans rfl; have e2 := hp_free (i := 0) (ins_r HB1.out HC.out HD.out.2.2.1 ht); have e3 := (hp_cell (i := 0) (ins_r HB1.out HC.out HD.out.2.2.1 ht)).trans ((hp_cell (i := 0) HC.out).symm.trans ha); clear hown hg hgl ht)
      | (go_at_call 145; refine HP.out.mono ?_; rintro e w1 ⟨rfl, hb⟩; have HB1 := Lib.hid hb; have r1 := (hp_cell (i := 1) ((hb.block _ (hp_lt HR.out)).trans HR.out)).trans rfl; have a1 := (hb.cell (p := ⟨ba, 0, none⟩) (hp_lt HC.out)).trans ha; have b1 := Nat.lt_of_lt_of_le (hp_lt HR.out) hb.size; have b2 := Nat.lt_of_lt_of_le (hp_lt HC.out) hb.size; clear hb))
    have hf := ins_done (kc := kc) HB1.out HR.out HC.out HD.out.1 HD.out.2.1 HD.out.2.2.1 HD.out.2.2.2.2.1 HD.out.2.2.2.2.2.1 HD.out.2.2.2.2.2.2.1 HD.out.2.2.2.2.2.2.2.1 HS.out.1 HS.out.2.1 HS.out.2.2.1 (g := g) (cap := cap) (w3 := w3) (by have h := HO.out.1; rw [← HN.out]; unfold insK; rw [← HS.out.2.2.2]; exact h) HO.out.2.1 HO.out.2.2.1 HO.out.2.2.2
    rw [← HN.out] at hf
    go_end0
    exact hf
end Go.Proofs.Ytedkhpnlhkjjgaa
