/- What lies in blocks of types that no store has stays, whatever a store does. -/
import Derived.Test.YtedkhpnlhkjjgaaG13
import Derived.Test.YtedkhpnlhkjjgaaG14
import Derived.Test.YtedkhpnlhkjjgaaG17
import Derived.Lib.QuietBelow
import Derived.StillTailTactics
namespace Go.Proofs.Ytedkhpnlhkjjgaa
open Go.RowKit Go.Maps Go.Sort

/-- what keeps every block of cells of one type -/
def KeepT (T : TypeId) (W W' : World) : Prop := W.heap.size ≤ W'.heap.size ∧ ∀ (k : Nat) (cs : Array Value) (fr : Nat × Nat), W.heap[k]? = some (Obj.cells cs T fr) → W'.heap[k]? = some (Obj.cells cs T fr)
theorem KeepT.refl (T : TypeId) (W : World) : KeepT T W W := ⟨Nat.le_refl _, fun _ _ _ h => h⟩
theorem KeepT.trans {T : TypeId} {A B C : World} (h : KeepT T A B) (k : KeepT T B C) : KeepT T A C := ⟨Nat.le_trans h.1 k.1, fun i cs fr hi => k.2 i cs fr (h.2 i cs fr hi)⟩
theorem KeepT.of_below {T : TypeId} {W W' : World} (h : Below W.heap.size W W') : KeepT T W W' := ⟨h.size, fun k cs fr hk => (h.block k (hp_lt hk)).trans hk⟩
theorem ownsRow_keepT {T : TypeId} {w w' : World} {B k n : Nat} {v : Value} {xs : List Value} (h : w.ownsRow B T k v n xs) (hk : KeepT T w w') : w'.ownsRow B T k v n xs := by
  refine ownsRow_same h fun g hg => ?_
  rcases h.2 with ⟨rfl, _⟩ | ⟨g', cap, cur, rfl, _, hh, _⟩
  · cases hg
  · cases hg
    exact (hk.2 _ _ _ hh).trans hh.symm
theorem ownsRow_typ {T : TypeId} {w : World} {B k n : Nat} {v : Value} {xs : List Value} (h : w.ownsRow B T k v n xs) {g : Nat} (hg : v.ownBlock = some g) : ∃ cs, w.heap[g]? = some (Obj.cells cs T (0, 0)) := by
  rcases h.2 with ⟨rfl, _⟩ | ⟨g', cap, cur, rfl, _, hh, _⟩
  · cases hg
  · cases hg
    exact ⟨_, hh⟩
/-- a type of which no block of a store is -/
structure Foreign (T : TypeId) : Prop where
  s : T ≠ 107
  b : T ≠ 193
  k : T ≠ 9
  c : T ≠ 166
theorem stp_blk {w : World} {b : Nat} {F : List Nat} {L : SL} {q : Nat} {qs : List Value} (h : StP w b F L q qs) : ∀ k ∈ F, (∃ es c, w.heap[k]? = some (Obj.map es c)) ∨ ∃ cs T, w.heap[k]? = some (Obj.cells cs T (0, 0)) ∧ ¬ Foreign T := by
  obtain ⟨bm, vb, vk, vq, rfl, hS⟩ := h
  intro k hk
  unfold fpr at hk
  simp only [List.mem_cons, List.mem_append, Option.mem_toList] at hk
  rcases hk with rfl | rfl | (hk | hk) | hk
  · exact .inr ⟨_, _, hS.r, fun h => h.s rfl⟩
  · obtain ⟨D, ⟨es, clock, hb, _⟩, _⟩ := hS.m
    exact .inl ⟨_, _, hb⟩
  · obtain ⟨cs, hc⟩ := ownsRow_typ hS.kb hk
    exact .inr ⟨cs, _, hc, fun h => h.b rfl⟩
  · split at hk
    · cases hk
    · rename_i hL
      obtain ⟨cs, hc⟩ := ownsRow_typ (hS.kk hL) (by simpa using hk)
      exact .inr ⟨cs, _, hc, fun h => h.k rfl⟩
  · obtain ⟨cs, hc⟩ := ownsRow_typ hS.kq hk
    exact .inr ⟨cs, _, hc, fun h => h.c rfl⟩
theorem stp_other {w : World} {b : Nat} {F : List Nat} {L : SL} {q : Nat} {qs : List Value} (h : StP w b F L q qs) {k : Nat} {cs : Array Value} {T : TypeId} {fr : Nat × Nat} (hk : w.heap[k]? = some (Obj.cells cs T fr)) (hT : Foreign T) : k ∉ F := fun hm => by
  rcases stp_blk h k hm with ⟨es, c, h1⟩ | ⟨cs', T', h1, h2⟩
  · rw [h1] at hk; cases hk
  · rw [h1] at hk; cases hk; exact h2 hT
theorem LiveTo.keepT {w W W' : World} {b : Nat} {F : List Nat} {L L' : SL} {q q' : Nat} {qs : List Value} (hs : SNew w W b F L q qs) (h : LiveTo w W W' b F L' q') {T : TypeId} (hT : Foreign T) : KeepT T W W' := by
  obtain ⟨_, _, _, _, _, ht, _⟩ := h
  exact ⟨ht.size, fun k cs fr hk => (ht.block k (hp_lt hk) (stp_other hs.s hk hT)).trans hk⟩
/-- a store lies as it lay where a block of another type is written -/
theorem SNew.other {w W W' : World} {b : Nat} {F : List Nat} {L : SL} {q : Nat} {qs : List Value} (h : SNew w W b F L q qs) (G : List Nat) (ht : Touch G W W') (hG : ∀ g ∈ G, w.heap.size ≤ g ∧ ∃ cs T fr, W.heap[g]? = some (Obj.cells cs T fr) ∧ Foreign T) : SNew w W' b F L q qs :=
  ⟨h.s.touch ht (fun k hk hm => by obtain ⟨_, cs, T, fr, h1, h2⟩ := hG k hm; exact stp_other h.s h1 h2 hk), h.f, h.l.trans (ht.below (fun k hk => (hG k hk).1) h.l.size)⟩
theorem KeepT.setOther {T T' : TypeId} {W : World} {g o : Nat} {cs : Array Value} {fr : Nat × Nat} (v : Value) (hg : W.heap[g]? = some (Obj.cells cs T' fr)) (hne : T ≠ T') : KeepT T W (W.setCell ⟨g, o, none⟩ v) := by
  refine ⟨by simp, fun k cs' fr' hk => ?_⟩
  have hk2 : k ≠ g := fun e => by subst e; rw [hg] at hk; cases hk; exact hne rfl
  rw [Below.heap_setCell _ _ _ _ hk2]
  exact hk
theorem KeepT.grown {T T' : TypeId} {W W' : World} {row : Option Nat} (hg : W.grownBy W' row) (hr : ∀ g, row = some g → ∃ cs fr, W.heap[g]? = some (Obj.cells cs T' fr)) (hne : T ≠ T') : KeepT T W W' :=
  ⟨hg.size, fun k cs fr hk => (hg.block k (hp_lt hk) (fun e => by
    obtain ⟨cs', fr', h1⟩ := hr k e.symm
    rw [hk] at h1; cases h1; exact hne rfl)).trans hk⟩
theorem Touch.keepT {F : List Nat} {W W' : World} {T : TypeId} (ht : Touch F W W') (hF : ∀ k ∈ F, ∀ cs fr, W.heap[k]? ≠ some (Obj.cells cs T fr)) : KeepT T W W' :=
  ⟨ht.size, fun k cs fr hk => (ht.block k (hp_lt hk) (fun hm => hF k hm cs fr hk)).trans hk⟩
/-- a row of ints in a block of its own stays -/
theorem il_touch {w W : World} {b : Nat} {F : List Nat} {L : SL} {q : Nat} {qs : List Value} (hs : SNew w W b F L q qs) {g : Nat} {cs : Array Value} (hg : W.heap[g]? = some (Obj.cells cs 3 (0, 0))) {n : Nat} {f : Nat → Int} (hl : Il W (some ⟨g, 0, none⟩) n f) (hT : Foreign 3) (W' : World) (ht : Touch F W W') : Il W' (some ⟨g, 0, none⟩) n f := by
  have he := ht.block g (hp_lt hg) (stp_other hs.s hg hT)
  refine ⟨hl.1, fun hn => ?_⟩
  obtain ⟨g', o, e, hlt, hc⟩ := hl.2 hn
  cases e
  refine ⟨g, 0, rfl, Nat.lt_of_lt_of_le hlt ht.size, fun i hi => ?_⟩
  rw [← hc i hi]
  simp only [World.cell?, he]
end Go.Proofs.Ytedkhpnlhkjjgaa

namespace Go.Proofs.Ytedkhpnlhkjjgaa
open Go.RowKit Go.Maps Go.Sort

set_option maxRecDepth 100000 in
set_option maxHeartbeats 1000000 in
theorem point_is (t : Int) (A : Option Addr) (n c : Nat) (f : Nat → Int) (k : Int) (K : ByteArray) (hK : keyStr t (icat f n fun _ => k) (n + 1) = K) (w : World) (hl : Il w A n f) (hz : A = none → n = 0 ∧ c = 0) (hn : n ≤ 20) (hk : k < 2 ^ 63) :
    Calls Try.prog 65 #[.int .i64 t, .slice A n c, .int .i64 k] w fun e w' => e = .returned (.string K) ∧ Below w.heap.size w w' := by
  have hb0 := (Below.refl w.heap.size w).alloc (Nat.le_refl _) (.cells #[.int .i64 k] 3)
  have HB0 := Lib.hid hb0
  have hc := iconcat2_c A (some ⟨w.heap.size, 0, none⟩) n 1 c 1 f (fun _ => k) (w.alloc (.cells #[.int .i64 k] 3)) (hl.below hb0) (il1 k w 3 hk) hz (fun h => by cases h) (by omega) (by omega) 30
  rw [World.size_alloc] at hc
  have HC := Lib.hid (hc.mono fun e w' hh => (⟨hh.1, hb0.trans (hh.2.mono (by simp))⟩ : (∃ v, e = .returned v ∧ w'.ownsRow (w.heap.size + 1) 3 1 v (n + 1) (iys (icat f n fun _ => k) (n + 1))) ∧ Below w.heap.size w w'))
  have HK := Lib.hid (fun (A' : Option Addr) (c' : Nat) (W : World) (h : Il W A' (n + 1) (icat f n fun _ => k)) => key_is t A' (n + 1) c' _ K hK W h (by omega))
  have HM := Lib.hid (fun (i : Nat) => show icat f n (fun _ => k) i < 2 ^ 63 from by unfold icat; split; exact hl.most _; exact hk)
  clear hl hK hz hn hk hb0 hc HB0
  go_enter Try.func65, Try.ntmps65
  go_wp2_with (first
    | (go_at_call 60; refine (HK.out _ _ _ HI.out).mono ?_; rintro e w2 ⟨rfl, hb2⟩; have HB2 := Lib.hid (HB1.out.trans (hb2.mono HB1.out.size)); clear hb2)
    | (go_at_call 116; refine HC.out.mono ?_; rintro e w1 ⟨⟨v, rfl, hv⟩, hb1⟩; obtain ⟨A1, c1, rfl, il, _⟩ := own_il hv HM.out; have HI := Lib.hid il; have HB1 := Lib.hid hb1; clear hv il hb1))
  go_ret
  exact ⟨rfl, HB2.out⟩
set_option maxRecDepth 100000 in
set_option maxHeartbeats 1000000 in
theorem reader_walk (P : Option Addr) (t : Int) (A : Option Addr) (n c : Nat) (w : World) : Calls Try.prog 62 #[.pointer P, .int .i64 t, .slice A n c] w fun e w' =>
    e = .returned (.func (.func 112) #[] #[.pointer (some ⟨w.heap.size, 0, none⟩), .pointer (some ⟨w.heap.size + 1, 0, none⟩), .pointer (some ⟨w.heap.size + 1 + 1, 0, none⟩)]) ∧ Below w.heap.size w w' ∧
    w'.cell? ⟨w.heap.size, 0, none⟩ = some (.pointer P) ∧ w'.cell? ⟨w.heap.size + 1, 0, none⟩ = some (.int .i64 t) ∧ w'.cell? ⟨w.heap.size + 1 + 1, 0, none⟩ = some (.slice A n c) ∧ w.heap.size + 1 + 1 < w'.heap.size := by
  go_enter Try.func62, Try.ntmps62
  go_wp2
  go_ret
  refine ⟨rfl, (((Below.refl _ _).alloc (Nat.le_refl _) _).alloc (by simp) _).alloc (by simp; omega) _, ?_, ?_, ?_, by simp⟩
  · rw [World.cell?_alloc_old _ _ _ (by simp; omega), World.cell?_alloc_old _ _ _ (by simp)]
    exact (World.cell?_alloc_at _ _ _ _ rfl).trans rfl
  · rw [World.cell?_alloc_old _ _ _ (by simp)]
    exact (World.cell?_alloc_at _ _ _ _ (by simp)).trans rfl
  · exact (World.cell?_alloc_at _ _ _ _ (by simp)).trans rfl
/-- a history's place in a world: the boxes b of its reader, the store P, the id's numbers -/
structure HisAt (w : World) (b : Nat) (P : Option Addr) (t : Int) (A : Option Addr) (n c : Nat) (f : Nat → Int) : Prop where
  c0 : w.cell? ⟨b, 0, none⟩ = some (.pointer P)
  c1 : w.cell? ⟨b + 1, 0, none⟩ = some (.int .i64 t)
  c2 : w.cell? ⟨b + 1 + 1, 0, none⟩ = some (.slice A n c)
  lt : b + 1 + 1 < w.heap.size
  l : Il w A n f
  z : A = none → n = 0 ∧ c = 0
  n : n ≤ 20
theorem HisAt.below {w w' : World} {b : Nat} {P : Option Addr} {t : Int} {A : Option Addr} {n c : Nat} {f : Nat → Int} (h : HisAt w b P t A n c f) (hb : Below w.heap.size w w') : HisAt w' b P t A n c f :=
  ⟨(hb.cell (p := ⟨b, 0, none⟩) (by have := h.lt; show b < _; omega)).trans h.c0, (hb.cell (p := ⟨b + 1, 0, none⟩) (by have := h.lt; show b + 1 < _; omega)).trans h.c1, (hb.cell (p := ⟨b + 1 + 1, 0, none⟩) h.lt).trans h.c2, Nat.lt_of_lt_of_le h.lt hb.size, h.l.below hb, h.z, h.n⟩
/-- what a checkpoint tells -/
def hisV (x : Int) (a : Nat) (ok : Bool) : Value := .tuple #[.int .i64 x, U a, .bool ok]
set_option maxRecDepth 100000 in
set_option maxHeartbeats 2000000 in
/-- a checkpoint that is not there -/
theorem read_none (b : Nat) (P : Option Addr) (t : Int) (A : Option Addr) (n c : Nat) (f : Nat → Int) (k : Int) (K : ByteArray) (hK : keyStr t (icat f n fun _ => k) (n + 1) = K) (ok : Bool) (w : World) (h : HisAt w b P t A n c f) (hk : k < 2 ^ 63)
    (hG : ∀ W, Below w.heap.size w W → Calls Try.prog 47 #[.pointer P, .string K] W fun e w' => e = .returned (.tuple #[.string ⟨#[]⟩, .bool ok]) ∧ Below W.heap.size W w') :
    Calls Try.prog 112 #[.int .i64 k, .pointer (some ⟨b, 0, none⟩), .pointer (some ⟨b + 1, 0, none⟩), .pointer (some ⟨b + 1 + 1, 0, none⟩)] w fun e w' => e = .returned (hisV 0 0 false) ∧ Below w.heap.size w w' := by
  obtain ⟨W0, hW0⟩ : ∃ W0, W0 = w.alloc (.cells #[.int .u64 0, .int .u64 0, .int .u64 0, .int .u64 0] 29) := ⟨_, rfl⟩
  have hb0 : Below w.heap.size w W0 := by rw [hW0]; exact (Below.refl _ _).alloc (Nat.le_refl _) _
  have r0 : W0.heap[w.heap.size]? = some (.cells #[.int .u64 0, .int .u64 0, .int .u64 0, .int .u64 0] 29 (0, 0)) := by rw [hW0]; exact heap_alloc_new _ _
  have hA := h.below hb0
  have f0 := fun (dq : Nat) (osq : Array Obj) => cell_regrown hA.c0 dq osq
  have f1 := fun (dq : Nat) (osq : Array Obj) => cell_regrown hA.c1 dq osq
  have f2 := fun (dq : Nat) (osq : Array Obj) => cell_regrown hA.c2 dq osq
  have HP := Lib.hid (fun (dq : Nat) (osq : Array Obj) => point_is t A n c f k K hK (grow (redrawn W0 dq) osq) (hA.l.below (below_regrown W0 dq osq)) h.z h.n hk)
  have HG := Lib.hid (fun (dq : Nat) (osq : Array Obj) => hG (grow (redrawn W0 dq) osq) (hb0.trans ((below_regrown W0 dq osq).mono hb0.size)))
  have HF := Lib.hid (fun (dq : Nat) (osq : Array Obj) => And.intro (hb0.trans ((below_regrown W0 dq osq).mono hb0.size)) (((below_regrown W0 dq osq).block w.heap.size (hp_lt r0)).trans r0))
  have HW := Lib.hid hW0
  clear h hG hA hb0 r0 hK hk hW0
  unfold hisV
  rw [U_zero]
  go_enter Try.func112, Try.ntmps112
  go_wp2
  rw [← HW.out]
  refine wp_region_quiet_below (by kernel_rfl) (by kernel_rfl) ?_
  repeat (quiet_step (first
    | (go_at_call 65; with_reducible exact Calls.regrown_of (HP.out _ _))
    | (go_at_call 47; with_reducible exact Calls.regrown_of (HG.out _ _))))
  refine wpQuiet_nil ?_
  intro _ hw'
  obtain ⟨⟨dq, osq⟩, hw''⟩ := hw'
  subst hw''
  have hf := HF.out dq osq
  obtain ⟨W, hW⟩ : ∃ W, W = grow (redrawn W0 dq) osq := ⟨_, rfl⟩
  rw [← hW] at hf ⊢
  clear hW f0 f1 f2 HF HP HG
  have HB := Lib.hid hf.1
  have d0 := (hp_cell (i := 0) hf.2).trans rfl
  have d1 := (hp_cell (i := 1) hf.2).trans rfl
  have d2 := (hp_cell (i := 2) hf.2).trans rfl
  have d3 := (hp_cell (i := 3) hf.2).trans rfl
  have g0 := hp_free (i := 0) hf.2
  have g1 := hp_free (i := 1) hf.2
  have g2 := hp_free (i := 2) hf.2
  have g3 := hp_free (i := 3) hf.2
  clear hf
  go_wp2
  refine bodyPost_ret (v := .tuple #[.int .i64 0, .agg #[.int .u64 0, .int .u64 0, .int .u64 0, .int .u64 0], .bool false]) (by simp [results, Try.results112, go_sem, d0, d1, d2, d3]) rfl ⟨rfl, below_set4 HB.out (Nat.le_refl _)⟩
end Go.Proofs.Ytedkhpnlhkjjgaa

namespace Go.Proofs.Ytedkhpnlhkjjgaa
open Go.RowKit Go.Maps Go.Sort

/-- the value of a checkpoint -/
def hpV (x a : Nat) : ByteArray := numStr (x : Int) ++ amtStr a
theorem ba_size_append (a b : ByteArray) : (a ++ b).size = a.size + b.size := by simp
theorem hpV_size (x a : Nat) : (hpV x a).size = 40 := by unfold hpV; rw [ba_size_append, numStr_sizeA, amtStr_size]
theorem hpV_lo (x a : Nat) : (hpV x a).extract 0 8 = numStr (x : Int) := by
  unfold hpV
  have := ByteArray.extract_append_eq_left (a := numStr (x : Int)) (b := amtStr a) (i := 8) (numStr_sizeA _).symm
  exact this
theorem hpV_hi (x a : Nat) : (hpV x a).extract 8 40 = amtStr a := by
  unfold hpV
  have := ByteArray.extract_append_eq_right (a := numStr (x : Int)) (b := amtStr a) (i := 8) (j := 40) (numStr_sizeA _).symm (by rw [numStr_sizeA, amtStr_size])
  exact this
theorem arr_zero {w : World} {b : Nat} {t : TypeId} (h : w.heap[b]? = some (.cells #[.int .u64 0, .int .u64 0, .int .u64 0, .int .u64 0] t (0, 0))) : Arr .u64 w b 4 (fun _ => 0) :=
  ⟨fun i hi => by
    rw [hp_cell h]
    rcases (by omega : i = 0 ∨ i = 1 ∨ i = 2 ∨ i = 3) with rfl | rfl | rfl | rfl <;> rfl, fun i hi => hp_free h⟩
set_option maxRecDepth 100000 in
set_option maxHeartbeats 2000000 in
/-- a checkpoint that is there -/
theorem read_some (b : Nat) (P : Option Addr) (t : Int) (A : Option Addr) (n c : Nat) (f : Nat → Int) (k : Int) (K : ByteArray) (hK : keyStr t (icat f n fun _ => k) (n + 1) = K) (x a : Nat) (hx : x < 2 ^ 63) (ha : a < 2 ^ 256) (w : World) (h : HisAt w b P t A n c f) (hk : k < 2 ^ 63)
    (hG : ∀ W, Below w.heap.size w W → Calls Try.prog 47 #[.pointer P, .string K] W fun e w' => e = .returned (.tuple #[.string (hpV x a), .bool true]) ∧ Below W.heap.size W w') :
    Calls Try.prog 112 #[.int .i64 k, .pointer (some ⟨b, 0, none⟩), .pointer (some ⟨b + 1, 0, none⟩), .pointer (some ⟨b + 1 + 1, 0, none⟩)] w fun e w' => e = .returned (hisV x a true) ∧ Below w.heap.size w w' := by
  obtain ⟨W0, hW0⟩ : ∃ W0, W0 = w.alloc (.cells #[.int .u64 0, .int .u64 0, .int .u64 0, .int .u64 0] 29) := ⟨_, rfl⟩
  have hb0 : Below w.heap.size w W0 := by rw [hW0]; exact (Below.refl _ _).alloc (Nat.le_refl _) _
  have r0 : W0.heap[w.heap.size]? = some (.cells #[.int .u64 0, .int .u64 0, .int .u64 0, .int .u64 0] 29 (0, 0)) := by rw [hW0]; exact heap_alloc_new _ _
  have hA := h.below hb0
  have f0 := fun (dq : Nat) (osq : Array Obj) => cell_regrown hA.c0 dq osq
  have f1 := fun (dq : Nat) (osq : Array Obj) => cell_regrown hA.c1 dq osq
  have f2 := fun (dq : Nat) (osq : Array Obj) => cell_regrown hA.c2 dq osq
  have HP := Lib.hid (fun (dq : Nat) (osq : Array Obj) => point_is t A n c f k K hK (grow (redrawn W0 dq) osq) (hA.l.below (below_regrown W0 dq osq)) h.z h.n hk)
  have HF := Lib.hid (fun (dq : Nat) (osq : Array Obj) => And.intro (hb0.trans ((below_regrown W0 dq osq).mono hb0.size)) (((below_regrown W0 dq osq).block w.heap.size (hp_lt r0)).trans r0))
  have hs := hpV_size x a
  have hlo := hpV_lo x a
  have hhi := hpV_hi x a
  obtain ⟨V, hV⟩ : ∃ V, V = hpV x a := ⟨_, rfl⟩
  rw [← hV] at hs hlo hhi hG
  have HG := Lib.hid (fun (dq : Nat) (osq : Array Obj) => hG (grow (redrawn W0 dq) osq) (hb0.trans ((below_regrown W0 dq osq).mono hb0.size)))
  have HW := Lib.hid hW0
  have hs0 : ¬ V.size < 8 := by omega
  have hs1 : V.size = 40 := hs
  have HN := Lib.hid (fun w => nums_one x w hx)
  have HT := Lib.hid (fun w => toAmount_walk (amtStr a) a true w (amt_fbv a ha) (by rw [amtStr_size]; rfl))
  clear h hG hA hb0 r0 hK hk hW0 hV hx ha
  unfold hisV
  rw [show U a = .agg #[.int .u64 (limb a 0 : Nat), .int .u64 (limb a 1 : Nat), .int .u64 (limb a 2 : Nat), .int .u64 (limb a 3 : Nat)] from rfl]
  go_enter Try.func112, Try.ntmps112
  go_wp2
  rw [← HW.out]
  refine wp_region_quiet_below (by kernel_rfl) (by kernel_rfl) ?_
  repeat (quiet_step (first
    | (go_at_call 65; with_reducible exact Calls.regrown_of (HP.out _ _))
    | (go_at_call 47; with_reducible exact Calls.regrown_of (HG.out _ _))))
  refine wpQuiet_nil ?_
  intro _ hw'
  obtain ⟨⟨dq, osq⟩, hw''⟩ := hw'
  subst hw''
  have hf := HF.out dq osq
  obtain ⟨W, hW⟩ : ∃ W, W = grow (redrawn W0 dq) osq := ⟨_, rfl⟩
  rw [← hW] at hf ⊢
  clear hW f0 f1 f2 HF HP HG
  have HB := Lib.hid hf.1
  have R := Lib.hid hf.2
  clear hf
  go_upto_region 10 with (first
    | (go_at_call 114; refine (HT.out _).mono ?_; rintro e w3 ⟨rfl, hb3⟩; unfold U; have r3 := (hb3.block w.heap.size (hp_lt R2.out)).trans R2.out; have HB3 := Lib.hid (HB2.out.trans (hb3.mono HB2.out.size)); have HX3 := Lib.hid ((hb3.cell (p := ⟨G, 0, none⟩) HG2.out).trans HX2.out); have R3 := Lib.hid r3; have d0 := (hp_cell (i := 0) r3).trans rfl; have d1 := (hp_cell (i := 1) r3).trans rfl; have d2 := (hp_cell (i := 2) r3).trans rfl; have d3 := (hp_cell (i := 3) r3).trans rfl; have g0 := hp_free (i := 0) r3; have g1 := hp_free (i := 1) r3; have g2 := hp_free (i := 2) r3; have g3 := hp_free (i := 3) r3; clear r3 hb3)
    | (go_at_call 113; refine (HN.out _).mono ?_; rintro e w2 ⟨rfl, hc2, hl2, hb2⟩; obtain ⟨G, hG⟩ : ∃ G, G = W.heap.size := ⟨_, rfl⟩; rw [← hG] at hc2 hl2 ⊢; have HX2 := Lib.hid hc2; have HG2 := Lib.hid hl2; have HB2 := Lib.hid (HB.out.trans (hb2.mono HB.out.size)); have R2 := Lib.hid ((hb2.block w.heap.size (hp_lt R.out)).trans R.out); have HGw := Lib.hid (show w.heap.size < G from by rw [hG]; exact hp_lt R.out); clear hc2 hl2 hb2 hG))
  have x3 := HX3.out
  have n1 : ¬ w.heap.size = G := by have := HGw.out; omega
  have n2 : ¬ G = w.heap.size := by have := HGw.out; omega
  go_region
  all_goals
    go_wp2
    obtain ⟨e0, e1, e2, e3⟩ := ((((arr_zero R3.out).put4 (n := a)).put4 (n := a)).drew).cells4
    refine bodyPost_ret (v := .tuple #[.int .i64 (x : Nat), .agg #[.int .u64 (limb a 0 : Nat), .int .u64 (limb a 1 : Nat), .int .u64 (limb a 2 : Nat), .int .u64 (limb a 3 : Nat)], .bool true]) (by simp [results, Try.results112, go_sem, e0, e1, e2, e3]) rfl ⟨rfl, ?_⟩
    have hB := (below_set4 (x0 := .int .u64 (limb a 0 : Nat)) (x1 := .int .u64 (limb a 1 : Nat)) (x2 := .int .u64 (limb a 2 : Nat)) (x3 := .int .u64 (limb a 3 : Nat)) (below_set4 (x0 := .int .u64 (limb a 0 : Nat)) (x1 := .int .u64 (limb a 1 : Nat)) (x2 := .int .u64 (limb a 2 : Nat)) (x3 := .int .u64 (limb a 3 : Nat)) HB3.out (Nat.le_refl _)) (Nat.le_refl _)).drew
    exact hB
end Go.Proofs.Ytedkhpnlhkjjgaa
