/- The store: a key is put into a row of keys (slices.Insert of one string), whatever its room. -/
import Derived.Test.YtedkhpnlhkjjgaaT3
namespace Go.Proofs.Ytedkhpnlhkjjgaa
open Go.RowKit Go.Maps Go.Sort

def putA (cur : Array Value) : Nat → List Value → Array Value
  | _, [] => cur
  | o, v :: r => putA (cur.setIfInBounds o v) (o + 1) r
theorem putA_size : ∀ (vs : List Value) (cur : Array Value) (o : Nat), (putA cur o vs).size = cur.size
  | [], _, _ => rfl
  | v :: r, cur, o => by rw [putA, putA_size r]; simp
theorem putA_list : ∀ (vs : List Value) (cur : Array Value) (o : Nat), o + vs.length ≤ cur.size → (putA cur o vs).toList = cur.toList.take o ++ vs ++ cur.toList.drop (o + vs.length)
  | [], cur, o, h => by simp [putA]
  | v :: r, cur, o, h => by
    rw [putA, putA_list r _ _ (by simp at h ⊢; omega)]
    have h1 : o < cur.toList.length := by simp at h ⊢; omega
    have hlo : (cur.toList.take o).length = o := by rw [List.length_take]; omega
    have e1 : (cur.toList.set o v).take (o + 1) = cur.toList.take o ++ [v] := by
      rw [List.set_eq_take_append_cons_drop, if_pos h1, List.take_append, hlo, List.take_of_length_le (by omega), Nat.add_sub_cancel_left]
      rfl
    rw [Array.toList_setIfInBounds, e1, List.drop_set_of_lt (by omega)]
    simp [Nat.add_assoc, Nat.add_comm 1]
theorem heap_setCell_row {w : World} {b o : Nat} {cur : Array Value} {t : TypeId} {fr : Nat × Nat} (h : w.heap[b]? = some (.cells cur t fr)) (v : Value) : (w.setCell ⟨b, o, none⟩ v).heap[b]? = some (.cells (cur.setIfInBounds o v) t fr) := by
  simp only [World.setCell, Array.getElem?_modify]
  rw [if_pos trivial, h]
  rfl
theorem heap_setCells_row : ∀ (vs : List Value) (o : Nat) {w : World} {b : Nat} {cur : Array Value} {t : TypeId} {fr : Nat × Nat}, w.heap[b]? = some (.cells cur t fr) → (w.setCells b o vs).heap[b]? = some (.cells (putA cur o vs) t fr)
  | [], _, _, _, _, _, _, h => h
  | v :: r, o, _, _, _, _, _, h => heap_setCells_row r (o + 1) (heap_setCell_row h v)
theorem touch_setCells {F : List Nat} (b : Nat) (hb : b ∈ F) : ∀ (vs : List Value) (o : Nat) (w : World), Touch F w (w.setCells b o vs)
  | [], _, w => Touch.refl F w
  | v :: r, o, w => (Touch.setCell w ⟨b, o, none⟩ v hb).trans (fun _ hk => .inl hk) (touch_setCells b hb r (o + 1) _)
/-- a row that the store owns, opened -/
theorem ownsRow_open {w : World} {e : TypeId} {size : Nat} {g n cap : Nat} {xs : List Value} (h : w.ownsRow 0 e size (.slice (some ⟨g, 0, none⟩) n cap) n xs) : ∃ cur, w.heap[g]? = some (.cells cur e (0, 0)) ∧ n ≤ cap ∧ cap ≤ maxLen ∧ cur.size = cap * size ∧ cur.toList.take (n * size) = xs ∧ xs.length = n * size := by
  obtain ⟨h1, h2⟩ := h
  rcases h2 with ⟨h3, _⟩ | ⟨g', cap', cur, hv, hb, hg, hn, hc, hs, ht⟩
  · cases h3
  · cases hv
    exact ⟨cur, hg, hn, hc, hs, ht, h1⟩
theorem ownsRow_shut {w : World} {e : TypeId} {size : Nat} {g n cap : Nat} {xs : List Value} {cur : Array Value} (hg : w.heap[g]? = some (.cells cur e (0, 0))) (hn : n ≤ cap) (hc : cap ≤ maxLen) (hs : cur.size = cap * size) (ht : cur.toList.take (n * size) = xs) (hl : xs.length = n * size) : w.ownsRow 0 e size (.slice (some ⟨g, 0, none⟩) n cap) n xs :=
  ⟨hl, .inr ⟨g, cap, cur, rfl, Nat.zero_le _, hg, hn, hc, hs, ht⟩⟩
theorem zeroCells_size (n : Nat) : (Builtin.zeroCells (Value.string ⟨#[]⟩).cells n).size = n := by
  unfold Builtin.zeroCells
  rw [Array.size_map, Array.size_range]
  exact Nat.mul_one n
theorem ins_list {α : Type} (cs cur : List α) (x : α) (i n : Nat) (hn : cs.length = n) (hi : i ≤ n) (hc : n + 1 ≤ cur.length) (ht : cur.take i = cs.take i) :
    ((cur.take (i + 1) ++ cs.drop i ++ cur.drop (i + 1 + (n - i))).take i ++ [x] ++ (cur.take (i + 1) ++ cs.drop i ++ cur.drop (i + 1 + (n - i))).drop (i + 1)).take (n + 1) = cs.take i ++ [x] ++ cs.drop i := by
  have l1 : (cur.take (i + 1)).length = i + 1 := by rw [List.length_take]; omega
  have e1 : (cur.take (i + 1) ++ cs.drop i ++ cur.drop (i + 1 + (n - i))).take i = cs.take i := by
    rw [List.append_assoc, List.take_append_of_le_length (by omega), List.take_take, Nat.min_eq_left (by omega), ht]
  have e2 : (cur.take (i + 1) ++ cs.drop i ++ cur.drop (i + 1 + (n - i))).drop (i + 1) = cs.drop i ++ cur.drop (i + 1 + (n - i)) := by
    rw [List.append_assoc, List.drop_left' l1]
  rw [e1, e2, ← List.append_assoc]
  exact List.take_left' (by simp; omega)
theorem ins_list2 {α : Type} (cs cur : List α) (x : α) (i n : Nat) (hn : cs.length = n) (hi : i ≤ n) (hc : n + 1 ≤ cur.length) (ht : cur.take i = cs.take i) :
    ((cur.take i ++ [x] ++ cur.drop (i + 1)).take (i + 1) ++ cs.drop i ++ (cur.take i ++ [x] ++ cur.drop (i + 1)).drop (i + 1 + (n - i))).take (n + 1) = cs.take i ++ [x] ++ cs.drop i := by
  have l1 : (cur.take i ++ [x]).length = i + 1 := by simp; omega
  rw [List.take_left' l1, ht]
  exact List.take_left' (by simp; omega)
theorem touch_drew {F : List Nat} {w w' : World} (h : Touch F w w') : Touch F w w'.drew := ⟨h.os, h.tape, h.output, h.size, h.block⟩
theorem touch_alloc {F : List Nat} {w w' : World} (h : Touch F w w') (o : Obj) : Touch F w (w'.alloc o) :=
  ⟨h.os, h.tape, h.output, by rw [World.size_alloc]; have := h.size; omega, fun k hk hn => (Below.heap_alloc _ _ _ (Nat.lt_of_lt_of_le hk h.size)).trans (h.block k hk hn)⟩
theorem touch_cells_new {F : List Nat} {w w' : World} (h : Touch F w w') (b : Nat) (hb : w.heap.size ≤ b) (vs : List Value) (o : Nat) : Touch F w (w'.setCells b o vs) := by
  have h2 := touch_setCells (F := [b]) b (by simp) vs o w'
  exact ⟨h2.os.trans h.os, h2.tape.trans h.tape, h2.output.trans h.output, Nat.le_trans h.size h2.size, fun k hk hn => (h2.block k (Nat.lt_of_lt_of_le hk h.size) (by simp; omega)).trans (h.block k hk hn)⟩
set_option maxRecDepth 100000 in
set_option maxHeartbeats 1000000 in
theorem insert_own (ks : List ByteArray) (bk kc vb i : Nat) (x : ByteArray) (w : World) (hi : i ≤ ks.length) (hn : 0 < ks.length) (hN : ks.length ≤ 1000000) (hne : vb ≠ bk)
    (hk : w.ownsRow 0 9 1 (.slice (some ⟨bk, 0, none⟩) ks.length kc) ks.length (ks.map Value.string)) (hv : w.heap[vb]? = some (.cells #[.string x] 9 (0, 0))) :
    Calls Try.prog 152 #[.slice (some ⟨bk, 0, none⟩) ks.length kc, .int .i64 (i : Nat), .slice (some ⟨vb, 0, none⟩) 1 1] w fun e w' =>
      ∃ g cap, e = .returned (.slice (some ⟨g, 0, none⟩) (ks.length + 1 : Nat) cap) ∧ w'.ownsRow 0 9 1 (.slice (some ⟨g, 0, none⟩) (ks.length + 1) cap) (ks.length + 1) ((ks.take i ++ [x] ++ ks.drop i).map Value.string) ∧ (g = bk ∨ w.heap.size ≤ g) ∧ g < w'.heap.size ∧ Touch [bk] w w' := by
  obtain ⟨cur, hg, hnc, hcm, hcs, hct, hxl⟩ := ownsRow_open hk
  rw [Nat.mul_one] at hcs hct hxl
  have hcell : ∀ j v, (ks.map Value.string)[j]? = some v → w.cell? ⟨bk, 0 + j, none⟩ = some v := fun j v hj => by
    rw [Nat.zero_add]
    exact ownsRow_cell hk rfl hj
  have hvs : ∀ j v, [Value.string x][j]? = some v → w.cell? ⟨vb, 0 + j, none⟩ = some v := fun j v hj => by
    rcases j with _ | j
    · simp at hj; subst hj; rw [hp_cell hv]; rfl
    · simp at hj
  have h1v : ∀ v ∈ [Value.string x], v.oneCell' = true := fun v hv => by simp at hv; subst hv; rfl
  have h1c : ∀ v ∈ ks.map Value.string, v.oneCell' = true := fun v hv => by obtain ⟨y, _, rfl⟩ := List.mem_map.1 hv; rfl
  have hsome : ∀ j, j < kc → (w.cell? ⟨bk, j, none⟩).isSome = true := fun j hj => by
    rw [hp_cell hg]; simp [hcs, hj]
  have hfree : ∀ j, w.frozen? ⟨bk, j, none⟩ = false := fun j => hp_free hg
  have hc63 : kc ≤ 9223372036854775807 := hcm
  by_cases hroom : ks.length + 1 ≤ kc
  · by_cases he : i = ks.length
    · subst he
      refine (Try.slices_Insert_end_room bk 0 ks.length kc vb 0 1 1 [.string x] w (by omega) hroom hc63 rfl (fun j hj => by rw [Nat.zero_add]; exact hsome _ (by omega)) (fun j _ => hfree _) hvs h1v).mono ?_
      rintro e w' ⟨rfl, rfl⟩
      rw [Nat.zero_add]
      refine ⟨bk, kc, rfl, ?_, .inl rfl, ?_, touch_setCells bk (by simp) _ _ _⟩
      · refine ownsRow_shut (heap_setCells_row _ _ hg) hroom hcm (by rw [putA_size, hcs, Nat.mul_one]) ?_ (by simp)
        rw [putA_list _ _ _ (by simp; omega)]
        simp only [List.length_cons, List.length_nil, Nat.zero_add, Nat.mul_one]
        rw [hct, List.take_append_of_le_length (by simp), List.take_of_length_le (by simp)]
        simp
      · have := (touch_setCells (F := [bk]) bk (by simp) [.string x] ks.length w).size
        exact Nat.lt_of_lt_of_le (hp_lt hg) this
    · obtain ⟨tA, tB, kA, kB, s1, s2, s3⟩ : ∃ tA tB kA kB, w.shape? vb = some (tA, kA) ∧ w.shape? bk = some (tB, kB) ∧ kB ≠ 0 := ⟨9, 9, 1, kc, by simp [World.shape?, hv], by simp [World.shape?, hg, hcs], by omega⟩
      refine (Try.slices_Insert_shift bk 0 ks.length kc i vb 0 1 1 (ks.map Value.string) [.string x] w (by omega) (by omega) hroom hc63 hne (by simp) rfl hcell (fun j hj => by rw [Nat.zero_add]; exact hsome _ (by omega)) (fun j _ => hfree _) hvs h1c h1v tA tB kA kB s1 s2 s3 (hp_free hv) (hp_free hv)).mono ?_
      rintro e w' ⟨rfl, rfl⟩
      rw [Nat.zero_add, Nat.zero_add]
      refine ⟨bk, kc, rfl, ?_, .inl rfl, ?_, ?_⟩
      · refine ownsRow_shut (heap_setCells_row _ _ (heap_setCells_row _ _ (show w.drew.heap[bk]? = _ from hg))) hroom hcm (by rw [putA_size, putA_size, hcs, Nat.mul_one]) ?_ (by simp; omega)
        have l1 : ((ks.map Value.string).drop i).length = ks.length - i := by simp
        rw [putA_list _ _ _ (by rw [putA_size]; simp; omega), putA_list _ _ _ (by rw [l1]; omega), l1]
        simp only [List.length_cons, List.length_nil, Nat.zero_add, Nat.mul_one]
        rw [ins_list (ks.map Value.string) cur.toList (.string x) i ks.length (by simp) hi (by simp; omega) (by rw [← hct, List.take_take, Nat.min_eq_left (by omega)])]
        simp
      · have h1 := (touch_setCells (F := [bk]) bk (by simp) ((ks.map Value.string).drop i) (i + 1) w.drew).size
        have h2 := (touch_setCells (F := [bk]) bk (by simp) [.string x] i (w.drew.setCells bk (i + 1) ((ks.map Value.string).drop i))).size
        exact Nat.lt_of_lt_of_le (hp_lt hg) (Nat.le_trans h1 h2)
      · exact (touch_drew (Touch.refl [bk] w)).trans (fun _ hk => .inl hk) ((touch_setCells bk (by simp) _ _ _).trans (fun _ hk => .inl hk) (touch_setCells bk (by simp) _ _ _))
  · have hbig : (ks.length + 1) * 16 ≤ 140737488355328 := by omega
    have hge := grownCap_ge w (ks.length + 1) kc 9
    have hle := grownCap_le_maxLen w (ks.length + 1) kc 9 (by unfold maxLen; omega)
    obtain ⟨G, hG⟩ : ∃ G, G = grownCap w (ks.length + 1) kc 9 := ⟨_, rfl⟩
    rw [← hG] at hge hle
    by_cases he : i = ks.length
    · subst he
      refine (Try.slices_Insert_end_grow (some ⟨bk, 0, none⟩) ks.length kc vb 0 1 1 (ks.map Value.string) [.string x] w (by omega) hnc (by omega) hbig (by simp) rfl (fun h => by cases h) (fun a ha j v hj => by cases ha; rw [Addr.add_lit]; exact hcell j v hj) hvs h1v).mono ?_
      rintro e w' ⟨rfl, rfl⟩
      rw [← hG]
      refine ⟨w.heap.size, G, rfl, ?_, .inr (Nat.le_refl _), by simp, touch_alloc (touch_drew (Touch.refl [bk] w)) _⟩
      refine ownsRow_shut (heap_alloc_new w.drew _) hge hle (by simp [zeroCells_size]; omega) ?_ (by simp)
      rw [Array.toList_append, List.take_append_of_le_length (by simp), List.take_of_length_le (by simp)]
      simp
    · refine (Try.slices_Insert_grow bk 0 ks.length kc i vb 0 1 1 (ks.map Value.string) [.string x] w (by omega) (by omega) hnc (by omega) hbig (by simp) rfl hcell hvs h1c h1v).mono ?_
      rintro e w' ⟨rfl, rfl⟩
      rw [← hG]
      have hz := zeroCells_size (ks.length + 1 - i)
      have hz2 := zeroCells_size (G - (ks.length + 1))
      generalize Builtin.zeroCells (Value.string ⟨#[]⟩).cells (ks.length + 1 - i) = Z at hz ⊢
      generalize Builtin.zeroCells (Value.string ⟨#[]⟩).cells (G - (ks.length + 1)) = Y at hz2 ⊢
      refine ⟨w.heap.size, G, rfl, ?_, .inr (Nat.le_refl _), ?_, ?_⟩
      · refine ownsRow_shut (heap_setCells_row _ _ (heap_setCells_row _ _ (show (w.alloc (.cells _ 9)).drew.heap[w.heap.size]? = _ from heap_alloc_new w _))) hge hle (by rw [putA_size, putA_size]; simp [hz, hz2]; omega) ?_ (by simp; omega)
        have l1 : ((ks.map Value.string).drop i).length = ks.length - i := by simp
        have l2 : ((ks.map Value.string).take i).length = i := by simp; omega
        rw [putA_list _ _ _ (by rw [putA_size, l1]; simp [hz, hz2]; omega), putA_list _ _ _ (by simp [hz, hz2]; omega), l1]
        simp only [List.length_cons, List.length_nil, Nat.zero_add, Nat.mul_one]
        rw [ins_list2 (ks.map Value.string) _ (.string x) i ks.length (by simp) hi (by simp [hz, hz2]; omega) (by
          simp only [Array.toList_append, List.append_assoc]
          exact List.take_left' l2)]
        simp
      · have h1 := (touch_cells_new (F := []) (touch_drew (touch_alloc (Touch.refl [] w) (.cells (((ks.map Value.string).take i).toArray ++ Z ++ Y) 9))) w.heap.size (Nat.le_refl _) [.string x] i)
        have h2 := touch_cells_new (F := []) (touch_drew h1) w.heap.size (Nat.le_refl _) ((ks.map Value.string).drop i) (i + 1)
        have h3 := (touch_setCells (F := [w.heap.size]) w.heap.size (by simp) [.string x] i (w.alloc (.cells (((ks.map Value.string).take i).toArray ++ Z ++ Y) 9)).drew).size
        have h4 := (touch_setCells (F := [w.heap.size]) w.heap.size (by simp) ((ks.map Value.string).drop i) (i + 1) ((w.alloc (.cells (((ks.map Value.string).take i).toArray ++ Z ++ Y) 9)).drew.setCells w.heap.size i [.string x]).drew).size
        refine Nat.lt_of_lt_of_le ?_ h4
        refine Nat.lt_of_lt_of_le ?_ h3
        show w.heap.size < (w.alloc _).heap.size
        simp
      · exact touch_cells_new (touch_drew (touch_cells_new (touch_drew (touch_alloc (Touch.refl [bk] w) _)) _ (Nat.le_refl _) _ _)) _ (Nat.le_refl _) _ _
end Go.Proofs.Ytedkhpnlhkjjgaa
