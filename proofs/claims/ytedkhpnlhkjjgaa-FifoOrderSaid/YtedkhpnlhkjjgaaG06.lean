/- The store: insert, walked. -/
import Derived.Test.YtedkhpnlhkjjgaaG05
namespace Go.Proofs.Ytedkhpnlhkjjgaa
open Go.RowKit Go.Maps Go.Sort

def insK (ks : List ByteArray) (x : ByteArray) : List ByteArray := ks.take (klo ks x) ++ [x] ++ ks.drop (klo ks x)
theorem klo_parts (x : ByteArray) : ∀ ks : List ByteArray, Rising ks → (∀ y ∈ ks.take (klo ks x), y.data.toList < x.data.toList) ∧ (∀ y ∈ ks.drop (klo ks x), ¬ y.data.toList < x.data.toList)
  | [], _ => ⟨fun _ h => by simp at h, fun _ h => by simp at h⟩
  | a :: r, h => by
    have hr := (List.pairwise_cons.1 h).2
    have ha := (List.pairwise_cons.1 h).1
    obtain ⟨i1, i2⟩ := klo_parts x r hr
    unfold klo at i1 i2 ⊢
    by_cases e : a.data.toList < x.data.toList
    · rw [List.countP_cons_of_pos (by simpa using e), List.take_succ_cons, List.drop_succ_cons]
      exact ⟨fun y hy => by rcases List.mem_cons.1 hy with rfl | hy; exact e; exact i1 y hy, i2⟩
    · have hz : r.countP (fun y => decide (y.data.toList < x.data.toList)) = 0 := by
        rw [List.countP_eq_zero]
        intro y hy hd
        exact e (List.lt_trans (ha y hy) (of_decide_eq_true hd))
      rw [List.countP_cons_of_neg (by simpa using e), hz]
      refine ⟨fun y hy => by simp at hy, fun y hy => ?_⟩
      rw [List.drop_zero] at hy
      rcases List.mem_cons.1 hy with rfl | hy
      · exact e
      · exact fun hd => e (List.lt_trans (ha y hy) hd)
theorem rising_ins {ks : List ByteArray} (h : Rising ks) {x : ByteArray} (hx : x ∉ ks) : Rising (insK ks x) := by
  obtain ⟨h1, h2⟩ := klo_parts x ks h
  have hp : (ks.take (klo ks x) ++ ks.drop (klo ks x)).Pairwise (fun a b => a.data.toList < b.data.toList) := by rw [List.take_append_drop]; exact h
  rw [List.pairwise_append] at hp
  have hgt : ∀ y ∈ ks.drop (klo ks x), x.data.toList < y.data.toList := fun y hy => by
    rcases List.le_iff_lt_or_eq.1 (List.not_lt.1 (h2 y hy)) with h3 | h3
    · exact h3
    · exfalso
      have : x = y := by
        cases x with | mk a => cases y with | mk b =>
        have := Array.toList_inj.1 h3
        subst this; rfl
      subst this
      exact hx (List.mem_of_mem_drop hy)
  unfold Rising insK
  rw [List.append_assoc, List.pairwise_append, List.pairwise_append]
  refine ⟨hp.1, ⟨List.pairwise_singleton _ _, hp.2.1, fun a ha b hb => by rw [List.mem_singleton.1 ha]; exact hgt b hb⟩, fun a ha b hb => ?_⟩
  rcases List.mem_append.1 hb with hb | hb
  · rw [List.mem_singleton.1 hb]; exact h1 a ha
  · exact hp.2.2 a ha b hb
/-- the blocks of a store's keys, its own among them -/
def kfp (b : Nat) (vb vk : Value) (ks : List ByteArray) : List Nat := b :: (vb.ownBlock.toList ++ (if ks = [] then [] else vk.ownBlock.toList))
/-- the keys of a store in memory -/
structure KeysAt (w : World) (b bm : Nat) (vb vk vq : Value) (ks : List ByteArray) : Prop where
  r : w.heap[b]? = some (.cells #[.map (some bm), vb, vq] 107 (0, 0))
  kb : w.ownsRow 0 193 1 vb (if ks = [] then 0 else 1) (if ks = [] then [] else [vk])
  kk : ks ≠ [] → w.ownsRow 0 9 1 vk ks.length (ks.map Value.string)
  so : Rising ks
  nd : (kfp b vb vk ks).Nodup
theorem KeysAt.same {w w' : World} {b bm : Nat} {vb vk vq : Value} {ks : List ByteArray} (h : KeysAt w b bm vb vk vq ks) (hs : ∀ k ∈ kfp b vb vk ks, w'.heap[k]? = w.heap[k]?) : KeysAt w' b bm vb vk vq ks := by
  have hm : ∀ k, (k = b ∨ vb.ownBlock = some k ∨ (ks ≠ [] ∧ vk.ownBlock = some k)) → w'.heap[k]? = w.heap[k]? := fun k hk => hs k (by
    unfold kfp
    simp only [List.mem_cons, List.mem_append, Option.mem_toList]
    rcases hk with h | h | ⟨hn, h⟩
    · exact .inl h
    · exact .inr (.inl h)
    · exact .inr (.inr (by rw [if_neg hn]; simpa using h)))
  exact ⟨(hm b (.inl rfl)).trans h.r, ownsRow_same h.kb fun g hg => hm g (.inr (.inl hg)), fun hn => ownsRow_same (h.kk hn) fun g hg => hm g (.inr (.inr ⟨hn, hg⟩)), h.so, h.nd⟩
theorem KeysAt.lt {w : World} {b bm : Nat} {vb vk vq : Value} {ks : List ByteArray} (h : KeysAt w b bm vb vk vq ks) : ∀ k ∈ kfp b vb vk ks, k < w.heap.size := by
  intro k hk
  unfold kfp at hk
  simp only [List.mem_cons, List.mem_append, Option.mem_toList] at hk
  rcases hk with rfl | (hk | hk)
  · exact hp_lt h.r
  · exact ownsRow_blk h.kb k hk
  · split at hk
    · cases hk
    · rename_i hn
      exact ownsRow_blk (h.kk hn) k (by simpa using hk)
theorem KeysAt.below {w w' : World} {b bm : Nat} {vb vk vq : Value} {ks : List ByteArray} (h : KeysAt w b bm vb vk vq ks) (hb : Below w.heap.size w w') : KeysAt w' b bm vb vk vq ks := h.same fun k hk => hb.block k (h.lt k hk)
/-- what insert leaves -/
def InsPost (b bm : Nat) (vb vk vq : Value) (ks : List ByteArray) (x : ByteArray) (w : World) (e : Ending) (w' : World) : Prop :=
  e = .returned (.tuple #[]) ∧ ∃ vb' vk', KeysAt w' b bm vb' vk' vq (insK ks x) ∧ Touch (kfp b vb vk ks) w w' ∧ ∀ k ∈ kfp b vb' vk' (insK ks x), k ∈ kfp b vb vk ks ∨ w.heap.size ≤ k
theorem ins_r {w w1 w3 : World} {o : Obj} {bk p : Nat} {O : Obj} (hB : Below w.heap.size w w1) (hr : w.heap[p]? = some O) (hp : p ≠ bk) (ht : Touch [bk] (w1.alloc o) w3) : w3.heap[p]? = some O :=
  (ht.block p (by rw [World.size_alloc]; have := hp_lt hr; have := hB.size; omega) (by simp; exact hp)).trans ((heap_alloc_old _ _ (Nat.lt_of_lt_of_le (hp_lt hr) hB.size)).trans ((hB.block _ (hp_lt hr)).trans hr))
theorem ins_done {w w1 w3 : World} {b bm ba bc bk kc g cap : Nat} {vq : Value} {ks : List ByteArray} {x : ByteArray} {cur : Array Value} (hB : Below w.heap.size w w1)
    (hr : w.heap[b]? = some (.cells #[.map (some bm), .slice (some ⟨ba, 0, none⟩) 1 bc, vq] 107 (0, 0))) (hc : w.heap[ba]? = some (.cells cur 193 (0, 0))) (d1 : b ≠ ba) (d2 : b ≠ bk) (d3 : ba ≠ bk) (hbk : bk < w.heap.size) (h1 : 1 ≤ bc) (h2 : bc ≤ maxLen) (h3 : cur.size = bc * 1)
    (hs : Rising ks) (hne : ks ≠ []) (hx : x ∉ ks)
    (hown : w3.ownsRow 0 9 1 (.slice (some ⟨g, 0, none⟩) (ks.length + 1) cap) (ks.length + 1) ((insK ks x).map Value.string)) (hg : g = bk ∨ (w1.alloc (.cells #[.string x] 9)).heap.size ≤ g) (hgl : g < w3.heap.size) (ht : Touch [bk] (w1.alloc (.cells #[.string x] 9)) w3) :
    InsPost b bm (.slice (some ⟨ba, 0, none⟩) 1 bc) (.slice (some ⟨bk, 0, none⟩) ks.length kc) vq ks x w (.returned (.tuple #[])) (w3.setCell ⟨ba, 0, none⟩ (.slice (some ⟨g, 0, none⟩) (ks.length + 1) cap)) := by
  have hl : (insK ks x).length = ks.length + 1 := by
    unfold insK
    have := klo_le ks x
    simp
    omega
  have hgb : g ≠ ba := by
    rcases hg with rfl | hg
    · exact fun e => d3 e.symm
    · rw [World.size_alloc] at hg
      have := hp_lt hc; have := hB.size
      omega
  have hgb2 : g ≠ b := by
    rcases hg with rfl | hg
    · exact fun e => d2 e.symm
    · rw [World.size_alloc] at hg
      have := hp_lt hr; have := hB.size
      omega
  have hin : insK ks x ≠ [] := fun e => by rw [e] at hl; cases hl
  refine ⟨rfl, .slice (some ⟨ba, 0, none⟩) 1 bc, .slice (some ⟨g, 0, none⟩) (ks.length + 1) cap, ⟨?_, ?_, fun _ => ?_, rising_ins hs hx, ?_⟩, ?_, ?_⟩
  · rw [Below.heap_setCell _ _ _ _ (show b ≠ ba from d1)]
    exact ins_r hB hr d2 ht
  · rw [if_neg hin, if_neg hin]
    refine ownsRow_shut (heap_setCell_row (ins_r hB hc d3 ht) _) h1 h2 (by simpa using h3) ?_ rfl
    have : 0 < cur.size := by omega
    rw [Array.toList_setIfInBounds]
    match hcl : cur.toList with
    | [] => simp at hcl; subst hcl; simp at this
    | c :: r => simp
  · rw [hl]
    exact ownsRow_same hown fun k hk => by cases hk; exact Below.heap_setCell _ _ _ _ (show g ≠ ba from hgb)
  · unfold kfp
    rw [if_neg hin]
    simp [Value.ownBlock]
    exact ⟨⟨d1, fun e => hgb2 e.symm⟩, fun e => hgb e.symm⟩
  · have t1 : Touch (kfp b (.slice (some ⟨ba, 0, none⟩) 1 bc) (.slice (some ⟨bk, 0, none⟩) ks.length kc) ks) w (w1.alloc (.cells #[.string x] 9)) := touch_alloc (Touch.of_below hB) _
    have t2 : Touch (kfp b (.slice (some ⟨ba, 0, none⟩) 1 bc) (.slice (some ⟨bk, 0, none⟩) ks.length kc) ks) (w1.alloc (.cells #[.string x] 9)) w3 := ht.mono fun k hk => by
      rw [List.mem_singleton.1 hk]; unfold kfp; rw [if_neg hne]; simp [Value.ownBlock]
    exact (t1.trans (fun _ hk => .inl hk) t2).trans (fun _ hk => .inl hk) (Touch.setCell _ _ _ (by unfold kfp; simp [Value.ownBlock]))
  · intro k hk
    unfold kfp at hk ⊢
    rw [if_neg hin] at hk
    rw [if_neg hne]
    simp [Value.ownBlock] at hk ⊢
    rcases hk with rfl | rfl | rfl
    · exact .inl (.inl rfl)
    · exact .inl (.inr (.inl rfl))
    · rcases hg with rfl | hg
      · exact .inl (.inr (.inr rfl))
      · right
        rw [World.size_alloc] at hg
        have := hB.size
        omega
set_option maxRecDepth 100000 in
set_option maxHeartbeats 2000000 in
theorem insert_none (b bm : Nat) (vb vk vq : Value) (x : ByteArray) (w : World) (h : KeysAt w b bm vb vk vq []) :
    Calls Try.prog 142 #[.pointer (some ⟨b, 0, none⟩), .string x] w (InsPost b bm vb vk vq [] x w) := by
  obtain ⟨A, c, rfl⟩ : ∃ A c, vb = .slice A 0 c := by
    rcases h.kb.2 with ⟨h1, _⟩ | ⟨g, cap, cur, h1, _⟩
    · exact ⟨_, _, h1⟩
    · exact ⟨_, _, h1⟩
  have hr := h.r
  have c1 := (hp_cell (i := 1) hr).trans rfl
  have f1 := hp_free (i := 1) hr
  have HR := Lib.hid hr
  have HL := hp_lt hr
  clear h hr
  go_enter Try.func142, Try.ntmps142
  go_wp2
  refine bodyPost_ret (v := .tuple #[]) (by simp [results, Try.results142, go_sem]) rfl ⟨rfl, .slice (some ⟨w.heap.size + 1, 0, none⟩) 1 1, .slice (some ⟨w.heap.size, 0, none⟩) 1 1, ?_, ?_, ?_⟩
  · have e1 : insK [] x = [x] := rfl
    rw [e1]
    refine ⟨?_, ?_, fun _ => ?_, List.pairwise_singleton _ _, ?_⟩
    · exact (heap_alloc_old _ _ (by simp; omega)).trans ((heap_alloc_old _ _ (by simp; omega)).trans (heap_setCell_row HR.out _))
    · rw [if_neg (by simp), if_neg (by simp)]
      refine ownsRow_shut (cur := #[.slice (some ⟨w.heap.size, 0, none⟩) 1 1]) ?_ (Nat.le_refl _) (by decide) rfl rfl rfl
      have := heap_alloc_new ((w.setCell ⟨b, 1, none⟩ (.slice (some ⟨w.heap.size + 1, 0, none⟩) 1 1)).alloc (.cells #[.string x] 9)) (.cells #[.slice (some ⟨w.heap.size, 0, none⟩) 1 1] 193)
      rw [World.size_alloc, World.size_setCell] at this
      exact this
    · refine ownsRow_shut (cur := #[.string x]) ?_ (Nat.le_refl _) (by decide) rfl rfl rfl
      have := heap_alloc_new (w.setCell ⟨b, 1, none⟩ (.slice (some ⟨w.heap.size + 1, 0, none⟩) 1 1)) (.cells #[.string x] 9)
      rw [World.size_setCell] at this
      exact (heap_alloc_old _ _ (by simp)).trans this
    · unfold kfp
      simp [Value.ownBlock]
      omega
  · exact touch_alloc (touch_alloc (Touch.setCell w ⟨b, 1, none⟩ _ (by unfold kfp; simp)) _) _
  · intro k hk
    unfold kfp at hk ⊢
    simp [Value.ownBlock, insK] at hk ⊢
    rcases hk with rfl | rfl | rfl
    · exact .inl (.inl rfl)
    · exact .inr (by omega)
    · exact .inr (Nat.le_refl _)
set_option maxRecDepth 100000 in
set_option maxHeartbeats 4000000 in
theorem insert_some (b bm : Nat) (vb vk vq : Value) (ks : List ByteArray) (x : ByteArray) (w : World) (h : KeysAt w b bm vb vk vq ks) (hn : 0 < ks.length) (hN : ks.length < 128) (hx : x ∉ ks) :
    Calls Try.prog 142 #[.pointer (some ⟨b, 0, none⟩), .string x] w (InsPost b bm vb vk vq ks x w) := by
  have hne : ks ≠ [] := fun e => by rw [e] at hn; exact absurd hn (by decide)
  have hkb := h.kb
  rw [if_neg hne, if_neg hne] at hkb
  obtain ⟨ba, bc, rfl, hba⟩ := ownsRow_form hkb (by decide)
  have hkk := h.kk hne
  obtain ⟨bk, kc, rfl, hbk⟩ := ownsRow_form hkk hn
  have hr := h.r
  have hnd := h.nd
  unfold kfp at hnd
  rw [if_neg hne] at hnd
  simp [Value.ownBlock] at hnd
  obtain ⟨⟨d1, d2⟩, d3⟩ := hnd
  obtain ⟨cur, hcur, hc1, hc2, hc3, hc4, _⟩ := ownsRow_open hkb
  have ha : w.cell? ⟨ba, 0, none⟩ = some (.slice (some ⟨bk, 0, none⟩) ks.length kc) := ownsRow_cell hkb rfl rfl
  have HP := Lib.hid (place_some b bm ba bc bk kc ks vq x w hn (by omega) h.so hr ha (fun i hi => ownsRow_cell hkk rfl (by simp [hi])))
  obtain ⟨l, hl⟩ : ∃ l, l = klo ks x := ⟨_, rfl⟩
  have hll : l ≤ ks.length := by rw [hl]; exact klo_le _ _
  rw [← hl] at HP
  have HI := Lib.hid (fun W (hB : Below w.heap.size w W) => show Calls Try.prog 152 #[.slice (some ⟨bk, 0, none⟩) ks.length kc, .int .i64 (l : Nat), .slice (some ⟨W.heap.size, 0, none⟩) 1 1] (W.alloc (.cells #[.string x] 9)) _ from
    insert_own ks bk kc W.heap.size l x (W.alloc (.cells #[.string x] 9)) hll hn (by omega) (by have := hB.size; omega) (ownsRow_same hkk fun g hg => by cases hg; exact (heap_alloc_old _ _ (Nat.lt_of_lt_of_le hbk hB.size)).trans (hB.block _ hbk)) (heap_alloc_new _ _))
  have HR := Lib.hid hr
  have HC := Lib.hid hcur
  have HD := Lib.hid (And.intro d1 (And.intro d2 (And.intro d3 (And.intro hba (And.intro hbk (And.intro hc1 (And.intro hc2 (And.intro hc3 hc4))))))))
  have HS := Lib.hid (And.intro h.so (And.intro hne (And.intro hx hl)))
  obtain ⟨n, hnn⟩ : ∃ n, n = ks.length := ⟨_, rfl⟩
  rw [← hnn] at HP HI ha hN
  have HN := Lib.hid hnn
  have q0 : ¬ (128 : Int) < (n : Int) + 1 := by omega
  have c1 := (hp_cell (i := 1) hr).trans rfl
  clear h hn hkb hkk hr d1 d2 d3 hba hbk hc1 hc2 hc3 hc4 hx hl hll hne hcur hnn hN
  by_cases hln : l = n
  · rw [if_pos hln] at HP
    rw [hln] at HI
    have HE := Lib.hid hln
    clear hln
    go_enter Try.func142, Try.ntmps142
    go_wp2_with (first
      | (go_at_call 152; refine (HI.out w1 HB1.out).mono ?_; rintro e w3 ⟨g, cap, rfl, hown, hg, hgl, ht⟩; have HO := Lib.hid (And.intro hown (And.intro hg (And.intro hgl ht))); have e1 := (hp_cell (i := 1) (ins_r HB1.out HR.out HD.out.2.1 ht)).trans rfl; have e2 := hp_free (i := 0) (ins_r HB1.out HC.out HD.out.2.2.1 ht); have e3 := (hp_cell (i := 0) (ins_r HB1.out HC.out HD.out.2.2.1 ht)).trans ((hp_cell (i := 0) HC.out).symm.trans ha); clear hown hg hgl ht)
      | (go_at_call 145; refine HP.out.mono ?_; rintro e w1 ⟨rfl, hb⟩; have HB1 := Lib.hid hb; have r1 := (hp_cell (i := 1) ((hb.block _ (hp_lt HR.out)).trans HR.out)).trans rfl; have a1 := (hb.cell (p := ⟨ba, 0, none⟩) (hp_lt HC.out)).trans ha; have b1 := Nat.lt_of_lt_of_le (hp_lt HR.out) hb.size; have b2 := Nat.lt_of_lt_of_le (hp_lt HC.out) hb.size; clear hb))
    have hf := ins_done (kc := kc) HB1.out HR.out HC.out HD.out.1 HD.out.2.1 HD.out.2.2.1 HD.out.2.2.2.2.1 HD.out.2.2.2.2.2.1 HD.out.2.2.2.2.2.2.1 HD.out.2.2.2.2.2.2.2.1 HS.out.1 HS.out.2.1 HS.out.2.2.1 (g := g) (cap := cap) (w3 := w3) (by have h := HO.out.1; rw [← HN.out]; unfold insK; rw [← HE.out.symm.trans HS.out.2.2.2]; exact h) HO.out.2.1 HO.out.2.2.1 HO.out.2.2.2
    rw [← HN.out] at hf
    go_end0
    exact hf
  · rw [if_neg hln] at HP
    clear hln
    go_enter Try.func142, Try.ntmps142
    go_wp2_with (first
      | (go_at_call 152; refine (HI.out w1 HB1.out).mono ?_; rintro e w3 ⟨g, cap, rfl, hown, hg, hgl, ht⟩; have HO := Lib.hid (And.intro hown (And.intro hg (And.intro hgl ht))); have e1 := (hp_cell (i := 1) (ins_r HB1.out HR.out HD.out.2.1 ht)).trans rfl; have e2 := hp_free (i := 0) (ins_r HB1.out HC.out HD.out.2.2.1 ht); have e3 := (hp_cell (i := 0) (ins_r HB1.out HC.out HD.out.2.2.1 ht)).trans ((hp_cell (i := 0) HC.out).symm.trans ha); clear hown hg hgl ht)
      | (go_at_call 145; refine HP.out.mono ?_; rintro e w1 ⟨rfl, hb⟩; have HB1 := Lib.hid hb; have r1 := (hp_cell (i := 1) ((hb.block _ (hp_lt HR.out)).trans HR.out)).trans rfl; have a1 := (hb.cell (p := ⟨ba, 0, none⟩) (hp_lt HC.out)).trans ha; have b1 := Nat.lt_of_lt_of_le (hp_lt HR.out) hb.size; have b2 := Nat.lt_of_lt_of_le (hp_lt HC.out) hb.size; clear hb))
    have hf := ins_done (kc := kc) HB1.out HR.out HC.out HD.out.1 HD.out.2.1 HD.out.2.2.1 HD.out.2.2.2.2.1 HD.out.2.2.2.2.2.1 HD.out.2.2.2.2.2.2.1 HD.out.2.2.2.2.2.2.2.1 HS.out.1 HS.out.2.1 HS.out.2.2.1 (g := g) (cap := cap) (w3 := w3) (by have h := HO.out.1; rw [← HN.out]; unfold insK; rw [← HS.out.2.2.2]; exact h) HO.out.2.1 HO.out.2.2.1 HO.out.2.2.2
    rw [← HN.out] at hf
    go_end0
    exact hf
end Go.Proofs.Ytedkhpnlhkjjgaa

namespace Go.Proofs.Ytedkhpnlhkjjgaa
open Go.RowKit Go.Maps Go.Sort

theorem skeys_sset (L : SL) (k v : ByteArray) : skeys (sset L k v) = if (sget L k).isSome then skeys L else insK (skeys L) k := by
  unfold sset
  cases h : (sget L k).isSome with
  | true =>
    rw [if_pos rfl, if_pos rfl]
    unfold skeys
    rw [List.map_map]
    apply List.map_congr_left
    intro p _
    show (if keq p.1 k = true then (k, v) else p).1 = p.1
    by_cases e : keq p.1 k = true
    · rw [if_pos e]; exact (keq_iff.1 e).symm
    · rw [if_neg e]
  | false =>
    rw [if_neg (by decide), if_neg (by decide)]
    unfold insK skeys
    rw [List.map_append, List.map_append, List.map_take, List.map_drop]
    rfl
theorem sget_not_mem {L : SL} {k : ByteArray} (h : (sget L k).isSome = false) : k ∉ skeys L := by
  intro hm
  obtain ⟨p, hp, hk⟩ := List.mem_map.1 hm
  have := sget_none h p hp
  rw [hk, keq_self] at this
  cases this
theorem sset_ne (L : SL) (k v : ByteArray) : sset L k v ≠ [] := by
  intro e
  have h := sget_sset L k v k
  rw [e, if_pos rfl] at h
  cases h
theorem skeys_nil {L : SL} : skeys L = [] ↔ L = [] := List.map_eq_nil_iff
theorem fpr_kfp (b bm : Nat) (vb vk vq : Value) (L : SL) (k : Nat) : k ∈ fpr b bm vb vk vq L ↔ k = bm ∨ k ∈ kfp b vb vk (skeys L) ∨ vq.ownBlock = some k := by
  unfold fpr kfp
  simp only [List.mem_cons, List.mem_append, Option.mem_toList, skeys_nil]
  constructor
  · rintro (h | h | ((h | h) | h))
    · exact .inr (.inl (.inl h))
    · exact .inl h
    · exact .inr (.inl (.inr (.inl h)))
    · exact .inr (.inl (.inr (.inr h)))
    · exact .inr (.inr h)
  · rintro (h | (h | h | h) | h)
    · exact .inr (.inl h)
    · exact .inl h
    · exact .inr (.inr (.inl (.inl h)))
    · exact .inr (.inr (.inl (.inr h)))
    · exact .inr (.inr (.inr h))
theorem nodup_fpr {b bm : Nat} {vb vk vq : Value} {L : SL} : (fpr b bm vb vk vq L).Nodup ↔ (kfp b vb vk (skeys L)).Nodup ∧ bm ∉ kfp b vb vk (skeys L) ∧ (∀ k, vq.ownBlock = some k → k ≠ bm ∧ k ∉ kfp b vb vk (skeys L)) := by
  have e : List.Perm (fpr b bm vb vk vq L) (bm :: (kfp b vb vk (skeys L) ++ vq.ownBlock.toList)) := by
    unfold fpr kfp
    simp only [skeys_nil]
    have := List.Perm.swap bm b (vb.ownBlock.toList ++ (if L = [] then [] else vk.ownBlock.toList) ++ vq.ownBlock.toList)
    simpa using this
  rw [e.nodup_iff, List.nodup_cons, List.nodup_append]
  constructor
  · rintro ⟨h1, h2, h3, h4⟩
    refine ⟨h2, fun h => h1 (List.mem_append_left _ h), fun k hk => ⟨fun he => h1 (List.mem_append_right _ (by rw [hk, he]; simp)), fun hm => h4 k hm k (by rw [hk]; simp) rfl⟩⟩
  · rintro ⟨h1, h2, h3⟩
    refine ⟨fun h => ?_, h1, ?_, fun a ha c hc => ?_⟩
    · rcases List.mem_append.1 h with h | h
      · exact h2 h
      · exact (h3 bm (by simpa using h)).1 rfl
    · cases vq.ownBlock with
      | none => exact List.nodup_nil
      | some g => simp
    · intro e2
      subst e2
      exact (h3 a (by simpa using hc)).2 ha
theorem StM.keys {w : World} {b bm : Nat} {vb vk vq : Value} {L : SL} {q : Nat} {qs : List Value} (h : StM w b bm vb vk vq L q qs) : KeysAt w b bm vb vk vq (skeys L) :=
  ⟨h.r, by simp only [skeys_nil]; exact h.kb, fun hn => by have := h.kk (fun e => hn (skeys_nil.2 e)); rw [show (skeys L).length = L.length by unfold skeys; simp]; exact this, h.so, (nodup_fpr.1 h.nd).1⟩
theorem StM.mk' {w : World} {b bm : Nat} {vb vk vq : Value} {L : SL} {q : Nat} {qs : List Value} {ks : List ByteArray} (hk : KeysAt w b bm vb vk vq ks) (e : ks = skeys L) (hm : MapAt w bm L) (hq : w.ownsRow 0 166 3 vq q qs) (h1 : bm ∉ kfp b vb vk ks) (h2 : ∀ k, vq.ownBlock = some k → k ≠ bm ∧ k ∉ kfp b vb vk ks) : StM w b bm vb vk vq L q qs := by
  subst e
  refine ⟨hk.r, hm, ?_, fun hn => ?_, hq, hk.so, nodup_fpr.2 ⟨hk.nd, h1, h2⟩⟩
  · have := hk.kb; simp only [skeys_nil] at this; exact this
  · have := hk.kk (fun e => hn (skeys_nil.1 e)); rw [show (skeys L).length = L.length by unfold skeys; simp] at this; exact this
/-- what put leaves -/
def PutPost (b bm : Nat) (vb vk vq : Value) (L L' : SL) (q : Nat) (qs : List Value) (w : World) (e : Ending) (w' : World) : Prop :=
  e = .returned (.tuple #[]) ∧ ∃ vb' vk', StM w' b bm vb' vk' vq L' q qs ∧ Touch (fpr b bm vb vk vq L) w w' ∧ ∀ k ∈ fpr b bm vb' vk' vq L', k ∈ fpr b bm vb vk vq L ∨ w.heap.size ≤ k
theorem MapAt.below {w w' : World} {bm : Nat} {L : SL} (h : MapAt w bm L) (hb : Below w.heap.size w w') : MapAt w' bm L := h.same (hb.block _ h.lt)
theorem MapAt.drew {w : World} {bm : Nat} {L : SL} (h : MapAt w bm L) : MapAt w.drew bm L := h.same rfl
theorem KeysAt.drew {w : World} {b bm : Nat} {vb vk vq : Value} {ks : List ByteArray} (h : KeysAt w b bm vb vk vq ks) : KeysAt w.drew b bm vb vk vq ks := h.same fun _ _ => rfl
theorem put_done {w w3 w4 : World} {b bm : Nat} {vb vk vq vb' vk' : Value} {L : SL} {q : Nat} {qs : List Value} {k v : ByteArray} {ks' : List ByteArray} (h : StM w b bm vb vk vq L q qs) (e : ks' = skeys (sset L k v)) (hK : KeysAt w3 b bm vb' vk' vq ks') (ht : Touch (kfp b vb vk (skeys L)) w w3) (hF : ∀ k ∈ kfp b vb' vk' ks', k ∈ kfp b vb vk (skeys L) ∨ w.heap.size ≤ k)
    (hm : MapAt w4 bm (sset L k v)) (hg : w3.grownBy w4 (some bm)) : PutPost b bm vb vk vq L (sset L k v) q qs w (.returned (.tuple #[])) w4 := by
  have hnd := nodup_fpr.1 h.nd
  have hbm : bm ∉ kfp b vb' vk' ks' := fun hm' => by
    rcases hF bm hm' with h1 | h1
    · exact hnd.2.1 h1
    · have := h.m.lt; omega
  have hvq : ∀ k, vq.ownBlock = some k → k ≠ bm ∧ k ∉ kfp b vb' vk' ks' := fun k hk => ⟨(hnd.2.2 k hk).1, fun hm' => by
    rcases hF k hm' with h1 | h1
    · exact (hnd.2.2 k hk).2 h1
    · have := ownsRow_blk h.kq k hk; omega⟩
  have t1 : Touch (fpr b bm vb vk vq L) w w3 := ht.mono fun k hk => (fpr_kfp _ _ _ _ _ _ _).2 (.inr (.inl hk))
  have t2 : Touch (fpr b bm vb vk vq L) w3 w4 := Touch.grown hg fun k hk => by cases hk; exact (fpr_kfp _ _ _ _ _ _ _).2 (.inl rfl)
  refine ⟨rfl, vb', vk', StM.mk' (hK.same fun k hk => hg.block k (hK.lt k hk) fun e => by cases e; exact hbm hk) e hm (ownsRow_same h.kq fun g hgq => ?_) hbm hvq, t1.trans (fun _ hk => .inl hk) t2, fun k hk => ?_⟩
  · have hlt := ownsRow_blk h.kq g hgq
    exact (hg.block g (Nat.lt_of_lt_of_le hlt ht.size) fun e => by cases e; exact (hnd.2.2 _ hgq).1 rfl).trans (ht.block g hlt (hnd.2.2 g hgq).2)
  · rcases (fpr_kfp _ _ _ _ _ _ _).1 hk with h1 | h1 | h1
    · exact .inl ((fpr_kfp _ _ _ _ _ _ _).2 (.inl h1))
    · rw [← e] at h1
      rcases hF k h1 with h2 | h2
      · exact .inl ((fpr_kfp _ _ _ _ _ _ _).2 (.inr (.inl h2)))
      · exact .inr h2
    · exact .inl ((fpr_kfp _ _ _ _ _ _ _).2 (.inr (.inr h1)))
theorem insert_live (b bm : Nat) (vb vk vq : Value) (ks : List ByteArray) (x : ByteArray) (w : World) (h : KeysAt w b bm vb vk vq ks) (hN : ks.length < 128) (hx : x ∉ ks) :
    Calls Try.prog 142 #[.pointer (some ⟨b, 0, none⟩), .string x] w (InsPost b bm vb vk vq ks x w) := by
  by_cases e : ks = []
  · subst e; exact insert_none b bm vb vk vq x w h
  · exact insert_some b bm vb vk vq ks x w h (by cases ks with | nil => exact absurd rfl e | cons a r => simp) hN hx
set_option maxRecDepth 100000 in
set_option maxHeartbeats 4000000 in
theorem put_live (b bm : Nat) (vb vk vq : Value) (L : SL) (q : Nat) (qs : List Value) (k v : ByteArray) (w : World) (h : StM w b bm vb vk vq L q qs) (hk : k.size ≤ maxLen) (hv : v.size ≤ maxLen) (hN : L.length < 128) :
    Calls Try.prog 115 #[.pointer (some ⟨b, 0, none⟩), .string k, .agg #[.string v]] w (PutPost b bm vb vk vq L (sset L k v) q qs w) := by
  have hb0 := (Below.refl w.heap.size w).alloc (Nat.le_refl _) (.cells #[.string v] 148)
  have hl := (h.m.below hb0).look k hk
  have c0 := (hp_cell (i := 0) h.r).trans rfl
  have lb := hp_lt h.r
  obtain ⟨old, hold⟩ : ∃ o, o = (sget L k).getD { data := #[] } := ⟨_, rfl⟩
  obtain ⟨had, hhad⟩ : ∃ o, o = (sget L k).isSome := ⟨_, rfl⟩
  rw [← hold, ← hhad] at hl
  have hsk := skeys_sset L k v
  rw [← hhad] at hsk
  have hKx := h.keys.below (((Below.refl w.heap.size w).alloc (Nat.le_refl _) (.cells #[.string v] 148)).alloc (by simp) (.cells #[.string old] 148))
  have Hh := Lib.hid (And.intro h (And.intro hk (And.intro hv (And.intro hN (And.intro hsk (And.intro hhad hKx))))))
  clear h hk hv hN hsk hhad hold hb0 hKx
  cases had
  · have hI := insert_live b bm vb vk vq (skeys L) k _ Hh.out.2.2.2.2.2.2 (by unfold skeys; simpa using Hh.out.2.2.2.1) (sget_not_mem Hh.out.2.2.2.2.2.1.symm)
    have HI := Lib.hid hI
    clear hI
    go_enter Try.func115, Try.ntmps115
    go_upto_region 4 with (go_at_call 142; refine HI.out.mono ?_; rintro e w3 ⟨rfl, vb', vk', hK, ht, hF⟩)
    have h := Hh.out.1
    have hlt : ∀ k ∈ kfp b vb vk (skeys L), k < w.heap.size := h.keys.lt
    have hb2 : Below w.heap.size w ((w.alloc (.cells #[.string v] 148)).alloc (.cells #[.string old] 148)) := ((Below.refl w.heap.size w).alloc (Nat.le_refl _) _).alloc (by simp) _
    have r5 : w3.heap[w.heap.size]? = some (.cells #[.string v] 148 (0, 0)) :=
      (ht.block w.heap.size (by simp; omega) (fun hm => Nat.lt_irrefl _ (hlt _ hm))).trans ((heap_alloc_old _ _ (by simp)).trans (heap_alloc_new _ _))
    have m3 : MapAt w3 bm L := h.m.same ((ht.block bm (Nat.lt_of_lt_of_le h.m.lt hb2.size) (nodup_fpr.1 h.nd).2.1).trans (hb2.block bm h.m.lt))
    obtain ⟨w4, hput, hm4, hg4⟩ := MapAt.put (w := w3.drew) m3.drew k v Hh.out.2.1 Hh.out.2.2.1 (by have := Hh.out.2.2.2.1; unfold maxLen; omega)
    have c3 := (hp_cell (i := 0) hK.r).trans rfl
    have c5 := (hp_cell (i := 0) r5).trans rfl
    have hfin := Lib.hid (put_done (k := k) (v := v) (w4 := w4) h (by rw [Hh.out.2.2.2.2.1, if_neg (by decide)]) hK.drew (touch_drew ((Touch.of_below hb2).trans (fun _ hk => .inl hk) ht)) (fun k hk => by
      rcases hF k hk with h1 | h1
      · exact .inl h1
      · right; have := hb2.size; omega) hm4 hg4)
    clear hK ht hF h hlt hb2 r5 m3 hm4 hg4 HI Hh c0 hl
    go_region
    all_goals go_wp2
    all_goals go_end0
    all_goals exact hfin.out
  · go_enter Try.func115, Try.ntmps115
    go_upto_region 4 with (fail)
    obtain ⟨W, hW⟩ : ∃ W, W = (w.alloc (.cells #[.string v] 148)).alloc (.cells #[.string old] 148) := ⟨_, rfl⟩
    have h := Hh.out.1
    have hb2 : Below w.heap.size w W := by rw [hW]; exact ((Below.refl w.heap.size w).alloc (Nat.le_refl _) _).alloc (by simp) _
    have r5 : W.heap[w.heap.size]? = some (.cells #[.string v] 148 (0, 0)) := by rw [hW]; exact (heap_alloc_old _ _ (by simp)).trans (heap_alloc_new _ _)
    have hK := Hh.out.2.2.2.2.2.2
    rw [← hW] at hK ⊢
    obtain ⟨w4, hput, hm4, hg4⟩ := MapAt.put (w := W.drew) (h.m.below hb2).drew k v Hh.out.2.1 Hh.out.2.2.1 (by have := Hh.out.2.2.2.1; unfold maxLen; omega)
    have c3 := (hp_cell (i := 0) hK.r).trans rfl
    have c5 := (hp_cell (i := 0) r5).trans rfl
    have hfin := Lib.hid (put_done (k := k) (v := v) (w4 := w4) h (by rw [Hh.out.2.2.2.2.1, if_pos rfl]) hK.drew (touch_drew (Touch.of_below hb2)) (fun k hk => .inl hk) hm4 hg4)
    clear hK h hb2 r5 hm4 hg4 Hh c0 hl hW
    go_region
    all_goals go_wp2
    all_goals go_end0
    all_goals exact hfin.out
end Go.Proofs.Ytedkhpnlhkjjgaa

namespace Go.Proofs.Ytedkhpnlhkjjgaa
open Go.RowKit Go.Maps

/-- a key that is there stands in its place, and taking it away takes just that place -/
theorem sdel_parts (k : ByteArray) : ∀ L : SL, Rising (skeys L) → (sget L k).isSome = true → klo (skeys L) k < L.length ∧ (skeys L)[klo (skeys L) k]? = some k ∧ sdel L k = L.take (klo (skeys L) k) ++ L.drop (klo (skeys L) k + 1)
  | [], _, h => by simp [sget] at h
  | (a, va) :: r, hr, h => by
    have hrr : Rising (skeys r) := (List.pairwise_cons.1 hr).2
    have har : ∀ y ∈ skeys r, a.data.toList < y.data.toList := (List.pairwise_cons.1 hr).1
    by_cases e : a = k
    · subst e
      have hz : klo (skeys ((a, va) :: r)) a = 0 := by
        unfold klo
        rw [List.countP_eq_zero]
        intro y hy hd
        have hd := of_decide_eq_true hd
        rcases List.mem_cons.1 (show y ∈ a :: skeys r from hy) with rfl | hy
        · exact absurd hd (List.lt_irrefl _)
        · exact List.lt_asymm hd (har y hy)
      rw [hz]
      refine ⟨by simp, rfl, ?_⟩
      unfold sdel
      rw [List.filter_cons_of_neg (by simp [keq_self])]
      simp only [List.take_zero, Nat.zero_add, List.drop_succ_cons, List.drop_zero, List.nil_append]
      rw [List.filter_eq_self]
      intro p hp
      have hl := har p.1 (List.mem_map.2 ⟨p, hp, rfl⟩)
      have hne : p.1 ≠ a := fun e => by rw [e] at hl; exact absurd hl (List.lt_irrefl _)
      simp [keq_ne hne]
    · have hk : (sget r k).isSome = true := by
        unfold sget at h ⊢
        rwa [List.find?_cons_of_neg (by simp [keq_ne e])] at h
      obtain ⟨h1, h2, h3⟩ := sdel_parts k r hrr hk
      have hak : a.data.toList < k.data.toList := har k (List.mem_of_getElem? h2)
      have hs : klo (skeys ((a, va) :: r)) k = klo (skeys r) k + 1 := by
        show (a :: skeys r).countP _ = _
        rw [List.countP_cons_of_pos (by simpa using hak)]
        rfl
      rw [hs]
      refine ⟨by simpa using h1, h2, ?_⟩
      unfold sdel at h3 ⊢
      rw [List.filter_cons_of_pos (by simp [keq_ne e]), h3]
      rfl
theorem skeys_sdel {k : ByteArray} {L : SL} (hr : Rising (skeys L)) (h : (sget L k).isSome = true) : skeys (sdel L k) = (skeys L).take (klo (skeys L) k) ++ (skeys L).drop (klo (skeys L) k + 1) := by
  rw [(sdel_parts k L hr h).2.2]
  simp [skeys, List.map_take, List.map_drop]
theorem length_sdel {k : ByteArray} {L : SL} (hr : Rising (skeys L)) (h : (sget L k).isSome = true) : (sdel L k).length + 1 = L.length := by
  obtain ⟨h1, _, h3⟩ := sdel_parts k L hr h
  rw [h3, List.length_append, List.length_take, List.length_drop]
  omega
theorem rising_sdel {k : ByteArray} {L : SL} (hr : Rising (skeys L)) : Rising (skeys (sdel L k)) := by
  unfold skeys sdel
  exact List.Pairwise.sublist (List.filter_sublist.map _) hr
theorem Rep.del {D : DataW Unit} {L : SL} (h : Rep D L) (hr : Rising (skeys L)) (k : ByteArray) : Rep (D.del (.string k.data.toList)) (sdel L k) := by
  refine ⟨h.td.del _, fun k' => ?_, fun k' z => ?_, ?_⟩
  · rw [sget_sdel]
    by_cases e : k' = k
    · rw [if_pos e, e, has_del_same]; rfl
    · rw [if_neg e, has_del_other (fun hh => e (lit_inj hh)), h.has]
  · rw [sget_sdel]
    by_cases e : k' = k
    · rw [if_pos e, e, atKey_del_same]
    · rw [if_neg e, atKey_del_other (fun hh => e (lit_inj hh)), h.at_]
  · have hs := size_del h.td (k := .string k.data.toList)
    rw [h.has, h.sz] at hs
    cases hh : (sget L k).isSome with
    | true =>
      have := length_sdel hr hh
      rw [hh, if_pos rfl] at hs
      omega
    | false =>
      rw [hh] at hs
      have he : sdel L k = L := by
        unfold sdel
        rw [List.filter_eq_self]
        intro p hp
        simp [sget_none hh p hp]
      rw [he]
      simpa using hs
/-- 'delete(m, k)' -/
theorem MapAt.del {w : World} {bm : Nat} {L : SL} (h : MapAt w bm L) (hr : Rising (skeys L)) (k : ByteArray) (hk : k.size ≤ maxLen) (ty : TypeId) :
    ∃ w', (Builtin.delete_ #[103, 9] ty #[.map (some bm), .string k]).run Try.prog w = .ok (.tuple #[]) w' ∧ MapAt w' bm (sdel L k) ∧ Touch [bm] w w' := by
  obtain ⟨D, ho, hR⟩ := h
  obtain ⟨w', hrun, ho', hg⟩ := ho.drop skeyed Try.underlying103 (keyOf_s hk) ty
  have hR' := hR.del hr k
  refine ⟨w', hrun, ⟨_, by rw [← hR'.sz]; exact ownsMap_size ho', hR'⟩, ?_⟩
  exact Touch.grown hg.grown fun k hk => by cases hk; simp
end Go.Proofs.Ytedkhpnlhkjjgaa
