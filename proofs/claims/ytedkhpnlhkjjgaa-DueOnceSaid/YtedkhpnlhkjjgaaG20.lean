/- A range over a function whose iterator tells the body something of what it yields, in the world of the yield (G). -/
import Derived.Test.YtedkhpnlhkjjgaaG13
import Derived.RangeFuncWrites
import Derived.Test.YtedkhpnlhkjjgaaG14
import Derived.Test.YtedkhpnlhkjjgaaG18
import Derived.Lib.QuietBelow
namespace Go.Proofs.Ytedkhpnlhkjjgaa
open Go.RowKit

/-- the two kinds of blocks that a loop keeps its books in -/
def isBook : Obj → Bool
  | .loop _ => true
  | .deferred _ => true
  | _ => false
theorem isBook_cells {o : Obj} (h : isBook o = true) : o.isCells = false := by cases o <;> first | rfl | cases h
theorem isBook_walk {o : Obj} (h : isBook o = true) : o.isWalk = false := by cases o <;> first | rfl | cases h
/-- what abides new blocks, and the books of loops that began behind B -/
structure Stays {β : Type} (B : Nat) (I : β → World → Prop) : Prop where
  new : ∀ s W W', I s W → Below W.heap.size W W' → I s W'
  put : ∀ s W (l : Nat) (o o' : Obj), I s W → B ≤ l → W.heap[l]? = some o → isBook o = true → I s (W.putObj l o')
theorem Stays.alloc {β : Type} {B : Nat} {I : β → World → Prop} (h : Stays B I) {s : β} {W : World} (o : Obj) (hs : I s W) : I s (W.alloc o) := h.new s W _ hs ((Below.refl _ _).alloc (Nat.le_refl _) o)
/-- what a body keeps: the books of loops that began behind B -/
structure KeepBook (B : Nat) (W W' : World) : Prop where
  size : W.heap.size ≤ W'.heap.size
  same : ∀ (k : Nat) (o : Obj), B ≤ k → W.heap[k]? = some o → isBook o = true → W'.heap[k]? = some o
theorem KeepBook.of_below {B : Nat} {W W' : World} (h : Below W.heap.size W W') : KeepBook B W W' := ⟨h.size, fun k o _ hk _ => (h.block k (Array.getElem?_eq_some_iff.1 hk).1).trans hk⟩
theorem KeepBook.trans {B : Nat} {X Y Z : World} (h : KeepBook B X Y) (k : KeepBook B Y Z) : KeepBook B X Z := ⟨Nat.le_trans h.size k.size, fun i o hB hi ho => k.same i o hB (h.same i o hB hi ho) ho⟩
/-- how a body may be left -/
def bookPost {α : Type} (B : Nat) (Kp : World → World → Prop) (I : List α → World → Prop) (Ix : Code → List α → World → Prop) (xs : List α) (W : World) : Exit → Act → World → Prop
  | .normal, _, W' => KeepBook B W W' ∧ Kp W W' ∧ I xs W'
  | .ret, _, W' => KeepBook B W W' ∧ Ix .ret xs W'
  | .exit id, _, W' => KeepBook B W W' ∧ Ix (.exit id) xs W'
  | .goto t, _, W' => KeepBook B W W' ∧ Ix (.goto t) xs W'
  | .panic _, _, _ => False
  | .outgrown, _, _ => False
/-- an iterator's word: at each yield the part x (encs x its values) is such that G pre x holds there -/
def SeqTells {α : Type} (F : Fence) (n : Nat) (P : Program) (g : Nat) (lb : Array Value) (encs : α → Array Value) (Kp : World → World → Prop) (G : List α → α → World → Prop) (S Sp : List α → Prop) (w : World) : Prop :=
  ∀ (l : Nat) (J Jx : List α → World → Prop) (W : World), Below w.heap.size w W → (∀ s A B, J s A → Below A.heap.size A B → J s B) → (∀ s A B, Jx s A → Below A.heap.size A B → Jx s B) →
    (∀ pre x W1, J pre W1 → G pre x W1 → YieldAt F (n - 1) P l (encs x) W1 fun e W' =>
      (e = .returned (.bool true) ∧ J (pre ++ [x]) W' ∧ Kp W1 W') ∨ (e = .returned (.bool false) ∧ Jx (pre ++ [x]) W')) →
    J [] W →
    CallsIn F n P g (#[.func (.yield l) #[] #[]] ++ lb) W fun e W' => (∃ v, e = .returned v) ∧ ((∃ xs, S xs ∧ J xs W') ∨ (∃ pre, Sp pre ∧ Jx pre W'))

/-- the two blocks of a loop's own: its record at l, in state st with the jump j, and the block at d for deferred calls -/
def Book (mk : LoopState → Option Code → Loop) (d : Nat) (st : LoopState) (j : Option Code) (W : World) : Prop :=
  W.heap[d + 1]? = some (.loop (mk st j)) ∧ W.heap[d]? = some (.deferred (some []))
theorem Book.lt {mk : LoopState → Option Code → Loop} {d : Nat} {st : LoopState} {j : Option Code} {W : World} (h : Book mk d st j W) : d + 1 < W.heap.size := (Array.getElem?_eq_some_iff.1 h.1).1
theorem Book.turn {mk : LoopState → Option Code → Loop} {d : Nat} {st : LoopState} {j : Option Code} {W : World} (h : Book mk d st j W) (st' : LoopState) (j' : Option Code) : Book mk d st' j' (W.putObj (d + 1) (.loop (mk st' j'))) :=
  ⟨World.putObj_heap_same h.lt, (World.putObj_heap_other (by omega)).trans h.2⟩
theorem Book.from {mk : LoopState → Option Code → Loop} {d B : Nat} {st : LoopState} {j : Option Code} {W W' : World} (h : Book mk d st j W) (hB : B ≤ d) (k : KeepBook B W W') : Book mk d st j W' :=
  ⟨k.same _ _ (by omega) h.1 rfl, k.same _ _ hB h.2 rfl⟩
theorem Book.below {mk : LoopState → Option Code → Loop} {d : Nat} {st : LoopState} {j : Option Code} {A B : World} (h : Book mk d st j A) (hb : Below A.heap.size A B) : Book mk d st j B :=
  ⟨(hb.block _ (Array.getElem?_eq_some_iff.1 h.1).1).trans h.1, (hb.block _ (Array.getElem?_eq_some_iff.1 h.2).1).trans h.2⟩

variable {F : Fence} {n : Nat} {P : Program}
set_option maxHeartbeats 1000000 in
theorem wpIn_rangeFunc_tells {α : Type} {g : Operand} {ps : Array Tmp} {assign body : Code} {Q : Exit → Act → World → Prop} {a : Act} {w : World}
    (hro : F.round = none) (h1 : 1 ≤ n) {gf : Nat} {lb : Array Value} (hg : a.eval g = .func (.func gf) #[] lb) (hFg : F.fn gf) (eg : ∀ args w, (callFunc gf args).run P w = .ok (.enter gf args) w)
    {encs : α → Array Value} {Kp : World → World → Prop} {G : List α → α → World → Prop} {S Sp : List α → Prop} {w0 : World} (hseq : SeqTells F (n - 1) P gf lb encs Kp G S Sp w0)
    (hKt : ∀ {A B C : World}, Kp A B → Kp B C → Kp A C) (hKb : ∀ (W : World) (l : Nat) (o o' : Obj), w.heap.size ≤ l → W.heap[l]? = some o → isBook o = true → Kp W (W.putObj l o')) (hb0 : Below w0.heap.size w0 w) (hps : ∀ x, (encs x).size = ps.size)
    (hGb : ∀ pre x (W : World) (l : Nat) (o o' : Obj), G pre x W → w.heap.size ≤ l → W.heap[l]? = some o → isBook o = true → G pre x (W.putObj l o'))
    (I : List α → World → Prop) (Ix : Code → List α → World → Prop) (hI : Stays w.heap.size I) (hIx : ∀ c, Stays w.heap.size (Ix c)) (h0 : I [] w) (a₁ : α → Act)
    (hassign : ∀ (l : Nat) (x : α) (W : World) (K : Act → World → Prop), K (a₁ x) W →
      assign.wpIn (F.inRound l) (n - 1 - 1) P (Exit.then K (fun _ _ _ => False)) { tmps := (ps.zip (encs x)).foldl (fun t (p, v) => t.setIfInBounds p v) a.tmps, defers := [] } W)
    (hbody : ∀ (l : Nat) (pre : List α) (x : α) (W : World), w.heap.size ≤ l → (∃ o : Obj, W.heap[l]? = some o ∧ isBook o = true) → I pre W → G pre x W → body.wpIn (F.inRound l) (n - 1 - 1) P (bookPost w.heap.size Kp I Ix (pre ++ [x]) W) (a₁ x) W)
    (hdone : ∀ (D : Nat) (xs : List α) (W : World), w.heap.size ≤ D → S xs → I xs W → W.heap[D]? = some (.deferred (some [])) → Q .normal { a with defers := { target := .collected D, args := #[] } :: a.defers } W)
    (hstop : ∀ (D : Nat) (c : Code) (pre : List α) (W : World), w.heap.size ≤ D → Sp pre → Ix c pre W → W.heap[D]? = some (.deferred (some [])) → c.wpIn F n P Q { a with defers := { target := .collected D, args := #[] } :: a.defers } W) :
    (Code.rangeFunc g ps assign body).wpIn F n P Q a w := by
  refine wpIn_rangeFunc fun fn hfn => ?_
  rw [hro]
  let mk : LoopState → Option Code → Loop := fun st j => { state := st, pending := j, fn, tmps := a.tmps, params := ps, assign, body, defers := w.heap.size }
  obtain ⟨V, hV⟩ : ∃ V, (w.alloc (.deferred (some []))).alloc (.loop (mk .ready none)) = V := ⟨_, rfl⟩
  have hVs : V.heap.size = w.heap.size + 2 := by rw [← hV]; simp
  have hbook : Book mk w.heap.size .ready none V := by
    rw [← hV]
    refine ⟨?_, (Below.heap_alloc _ _ _ (by simp)).trans (World.alloc_heap_new w _)⟩
    have := World.alloc_heap_new (w.alloc (.deferred (some []))) (.loop (mk .ready none))
    rwa [World.size_alloc] at this
  have hIV : I [] V := by rw [← hV]; exact hI.alloc _ (hI.alloc _ h0)
  have hbV : Below w0.heap.size w0 V := by
    rw [← hV]; exact (hb0.alloc hb0.size _).alloc (by have := hb0.size; simp only [World.size_alloc]; omega) _
  refine ⟨w.heap.size + 1, [{ target := .collected w.heap.size, args := #[] }], V, { target := .fn (.func gf) lb, args := #[.func (.yield (w.heap.size + 1)) #[] #[]] }, V, gf, #[.func (.yield (w.heap.size + 1)) #[] #[]] ++ lb, V, ?_, ?_, ?_, ?_, fun _ => h1, ?_⟩
  · rw [← hV]; exact run_enterLoop_outer _ _ _ _ _
  · simp only [resolve, hg]; simp [go_sem]
  · intro f' hf'; simp [Target.leads] at hf'; subst hf'; exact hFg
  · simp [invoke, go_sem, eg]
  have hJ : ∀ s A B, (I s A ∧ Book mk w.heap.size .ready none A) → Below A.heap.size A B → (I s B ∧ Book mk w.heap.size .ready none B) := fun s A B h hb => ⟨hI.new s A B h.1 hb, h.2.below hb⟩
  have hJx : ∀ s A B, (∃ c, Ix c s A ∧ Book mk w.heap.size .done (some c) A) → Below A.heap.size A B → (∃ c, Ix c s B ∧ Book mk w.heap.size .done (some c) B) := fun s A B h hb => by
    obtain ⟨c, hc, hk⟩ := h
    exact ⟨c, (hIx c).new s A B hc hb, hk.below hb⟩
  refine (hseq (w.heap.size + 1) (fun pre W => I pre W ∧ Book mk w.heap.size .ready none W) (fun pre W => ∃ c, Ix c pre W ∧ Book mk w.heap.size .done (some c) W) V hbV hJ hJx ?_ ⟨hIV, hbook⟩).mono ?_
  · rintro pre x W ⟨hi, hb⟩ hG
    have hl := hb.1
    have hy := run_yield (P := P) (args := encs x) hl (hps x)
    refine ⟨fn, _, assign, body, hy, roundIn_of_wpIn hfn (hassign _ x W _ ⟨_, run_beginRound hl rfl, ?_⟩)⟩
    obtain ⟨W2, hW2⟩ : ∃ W2, W.putObj (w.heap.size + 1) (.loop (mk .busy none)) = W2 := ⟨_, rfl⟩
    have hb2 : Book mk w.heap.size .busy none W2 := by rw [← hW2]; exact hb.turn _ _
    have hk2 : Kp W W2 := by rw [← hW2]; exact hKb _ _ _ _ (by omega) hl rfl
    have hi2 : I pre W2 := by rw [← hW2]; exact hI.put _ _ _ _ _ hi (by omega) hl rfl
    have hG2 : G pre x W2 := by rw [← hW2]; exact hGb _ _ _ _ _ _ hG (by omega) hl rfl
    show Code.wpIn _ _ _ _ _ _ (W.putObj (w.heap.size + 1) (.loop (mk .busy none)))
    rw [hW2]
    have fin : ∀ (j : Option Code) (W3 : World), KeepBook w.heap.size W2 W3 →
        (Instr.endRound (w.heap.size + 1) j).run P W3 = .ok (.bool j.isNone) (W3.putObj (w.heap.size + 1) (.loop (mk (if j.isNone then .ready else .done) j))) ∧
        W3.heap[w.heap.size + 1]? = some (.loop (mk .busy none)) ∧ Book mk w.heap.size (if j.isNone then .ready else .done) j (W3.putObj (w.heap.size + 1) (.loop (mk (if j.isNone then .ready else .done) j))) := fun j W3 hk3 => by
      have hb3 := hb2.from (Nat.le_refl _) hk3
      exact ⟨run_endRound (P := P) j hb3.1, hb3.1, hb3.turn _ _⟩
    refine wpIn_mono (hbody _ pre x W2 (by omega) ⟨_, hb2.1, rfl⟩ hi2 hG2) ?_
    rintro e a3 W3 hp
    cases e with
    | normal =>
      obtain ⟨hk3, hkp3, hi3⟩ := hp
      obtain ⟨hr, hl3, hb4⟩ := fin none W3 hk3
      exact ⟨_, _, hr, .inl ⟨rfl, ⟨hI.put _ _ _ _ _ hi3 (by omega) hl3 rfl, hb4⟩, hKt (hKt hk2 hkp3) (hKb _ _ _ _ (by omega) hl3 rfl)⟩⟩
    | ret =>
      obtain ⟨hr, hl3, hb4⟩ := fin (some .ret) W3 hp.1
      exact ⟨_, _, hr, .inr ⟨rfl, .ret, (hIx _).put _ _ _ _ _ hp.2 (by omega) hl3 rfl, hb4⟩⟩
    | exit id =>
      obtain ⟨hr, hl3, hb4⟩ := fin (some (.exit id)) W3 hp.1
      exact ⟨_, _, hr, .inr ⟨rfl, .exit id, (hIx _).put _ _ _ _ _ hp.2 (by omega) hl3 rfl, hb4⟩⟩
    | goto t =>
      obtain ⟨hr, hl3, hb4⟩ := fin (some (.goto t)) W3 hp.1
      exact ⟨_, _, hr, .inr ⟨rfl, .goto t, (hIx _).put _ _ _ _ _ hp.2 (by omega) hl3 rfl, hb4⟩⟩
    | panic ch => exact hp.elim
    | outgrown => exact hp.elim
  · rintro e W2 ⟨⟨v, rfl⟩, (⟨xs, hS, hi, hb⟩ | ⟨pre, hSp, c, hi, hb⟩)⟩
    · exact ⟨none, _, run_endLoop (P := P) hb.1 (by simp [mk]), hdone _ xs _ (Nat.le_refl _) hS (hI.put _ _ _ _ _ hi (by omega) hb.1 rfl) ((World.putObj_heap_other (by omega)).trans hb.2)⟩
    · exact ⟨some c, _, run_endLoop (P := P) hb.1 (by simp [mk]), hstop _ c pre _ (Nat.le_refl _) hSp ((hIx c).put _ _ _ _ _ hi (by omega) hb.1 rfl) ((World.putObj_heap_other (by omega)).trans hb.2)⟩
end Go.Proofs.Ytedkhpnlhkjjgaa

namespace Go.Proofs.Ytedkhpnlhkjjgaa
open Go.RowKit Go.Maps Go.Sort

/-- what keeps every block of cells of one type -/
def KeepT (T : TypeId) (W W' : World) : Prop := W.heap.size ≤ W'.heap.size ∧ ∀ (k : Nat) (cs : Array Value) (fr : Nat × Nat), W.heap[k]? = some (Obj.cells cs T fr) → W'.heap[k]? = some (Obj.cells cs T fr)
theorem KeepT.refl (T : TypeId) (W : World) : KeepT T W W := ⟨Nat.le_refl _, fun _ _ _ h => h⟩
theorem KeepT.trans {T : TypeId} {A B C : World} (h : KeepT T A B) (k : KeepT T B C) : KeepT T A C := ⟨Nat.le_trans h.1 k.1, fun i cs fr hi => k.2 i cs fr (h.2 i cs fr hi)⟩
theorem KeepT.of_below {T : TypeId} {W W' : World} (h : Below W.heap.size W W') : KeepT T W W' := ⟨h.size, fun k cs fr hk => (h.block k (hp_lt hk)).trans hk⟩
theorem ownsRow_keepT {T : TypeId} {w w' : World} {B k n : Nat} {v : Value} {xs : List Value} (h : w.ownsRow B T k v n xs) (hk : KeepT T w w') : w'.ownsRow B T k v n xs := by
  refine ownsRow_same h fun g hg => ?_
  rcases h.2 with ⟨rfl, _⟩ | ⟨g', cap, cur, rfl, _, hh, _⟩
  · cases hg
  · cases hg
    exact (hk.2 _ _ _ hh).trans hh.symm
theorem ownsRow_typ {T : TypeId} {w : World} {B k n : Nat} {v : Value} {xs : List Value} (h : w.ownsRow B T k v n xs) {g : Nat} (hg : v.ownBlock = some g) : ∃ cs, w.heap[g]? = some (Obj.cells cs T (0, 0)) := by
  rcases h.2 with ⟨rfl, _⟩ | ⟨g', cap, cur, rfl, _, hh, _⟩
  · cases hg
  · cases hg
    exact ⟨_, hh⟩
/-- a type of which no block of a store is -/
structure Foreign (T : TypeId) : Prop where
  s : T ≠ 107
  b : T ≠ 193
  k : T ≠ 9
  c : T ≠ 166
theorem stp_blk {w : World} {b : Nat} {F : List Nat} {L : SL} {q : Nat} {qs : List Value} (h : StP w b F L q qs) : ∀ k ∈ F, (∃ es c, w.heap[k]? = some (Obj.map es c)) ∨ ∃ cs T, w.heap[k]? = some (Obj.cells cs T (0, 0)) ∧ ¬ Foreign T := by
  obtain ⟨bm, vb, vk, vq, rfl, hS⟩ := h
  intro k hk
  unfold fpr at hk
  simp only [List.mem_cons, List.mem_append, Option.mem_toList] at hk
  rcases hk with rfl | rfl | (hk | hk) | hk
  · exact .inr ⟨_, _, hS.r, fun h => h.s rfl⟩
  · obtain ⟨D, ⟨es, clock, hb, _⟩, _⟩ := hS.m
    exact .inl ⟨_, _, hb⟩
  · obtain ⟨cs, hc⟩ := ownsRow_typ hS.kb hk
    exact .inr ⟨cs, _, hc, fun h => h.b rfl⟩
  · split at hk
    · cases hk
    · rename_i hL
      obtain ⟨cs, hc⟩ := ownsRow_typ (hS.kk hL) (by simpa using hk)
      exact .inr ⟨cs, _, hc, fun h => h.k rfl⟩
  · obtain ⟨cs, hc⟩ := ownsRow_typ hS.kq hk
    exact .inr ⟨cs, _, hc, fun h => h.c rfl⟩
theorem stp_other {w : World} {b : Nat} {F : List Nat} {L : SL} {q : Nat} {qs : List Value} (h : StP w b F L q qs) {k : Nat} {cs : Array Value} {T : TypeId} {fr : Nat × Nat} (hk : w.heap[k]? = some (Obj.cells cs T fr)) (hT : Foreign T) : k ∉ F := fun hm => by
  rcases stp_blk h k hm with ⟨es, c, h1⟩ | ⟨cs', T', h1, h2⟩
  · rw [h1] at hk; cases hk
  · rw [h1] at hk; cases hk; exact h2 hT
theorem LiveTo.keepT {w W W' : World} {b : Nat} {F : List Nat} {L L' : SL} {q q' : Nat} {qs : List Value} (hs : SNew w W b F L q qs) (h : LiveTo w W W' b F L' q') {T : TypeId} (hT : Foreign T) : KeepT T W W' := by
  obtain ⟨_, _, _, _, _, ht, _⟩ := h
  exact ⟨ht.size, fun k cs fr hk => (ht.block k (hp_lt hk) (stp_other hs.s hk hT)).trans hk⟩
/-- a store lies as it lay where a block of another type is written -/
theorem SNew.other {w W W' : World} {b : Nat} {F : List Nat} {L : SL} {q : Nat} {qs : List Value} (h : SNew w W b F L q qs) (G : List Nat) (ht : Touch G W W') (hG : ∀ g ∈ G, w.heap.size ≤ g ∧ ∃ cs T fr, W.heap[g]? = some (Obj.cells cs T fr) ∧ Foreign T) : SNew w W' b F L q qs :=
  ⟨h.s.touch ht (fun k hk hm => by obtain ⟨_, cs, T, fr, h1, h2⟩ := hG k hm; exact stp_other h.s h1 h2 hk), h.f, h.l.trans (ht.below (fun k hk => (hG k hk).1) h.l.size)⟩
theorem KeepT.setOther {T T' : TypeId} {W : World} {g o : Nat} {cs : Array Value} {fr : Nat × Nat} (v : Value) (hg : W.heap[g]? = some (Obj.cells cs T' fr)) (hne : T ≠ T') : KeepT T W (W.setCell ⟨g, o, none⟩ v) := by
  refine ⟨by simp, fun k cs' fr' hk => ?_⟩
  have hk2 : k ≠ g := fun e => by subst e; rw [hg] at hk; cases hk; exact hne rfl
  rw [Below.heap_setCell _ _ _ _ hk2]
  exact hk
theorem KeepT.grown {T T' : TypeId} {W W' : World} {row : Option Nat} (hg : W.grownBy W' row) (hr : ∀ g, row = some g → ∃ cs fr, W.heap[g]? = some (Obj.cells cs T' fr)) (hne : T ≠ T') : KeepT T W W' :=
  ⟨hg.size, fun k cs fr hk => (hg.block k (hp_lt hk) (fun e => by
    obtain ⟨cs', fr', h1⟩ := hr k e.symm
    rw [hk] at h1; cases h1; exact hne rfl)).trans hk⟩
theorem Touch.keepT {F : List Nat} {W W' : World} {T : TypeId} (ht : Touch F W W') (hF : ∀ k ∈ F, ∀ cs fr, W.heap[k]? ≠ some (Obj.cells cs T fr)) : KeepT T W W' :=
  ⟨ht.size, fun k cs fr hk => (ht.block k (hp_lt hk) (fun hm => hF k hm cs fr hk)).trans hk⟩
/-- a row of ints in a block of its own stays -/
theorem il_touch {w W : World} {b : Nat} {F : List Nat} {L : SL} {q : Nat} {qs : List Value} (hs : SNew w W b F L q qs) {g : Nat} {cs : Array Value} (hg : W.heap[g]? = some (Obj.cells cs 3 (0, 0))) {n : Nat} {f : Nat → Int} (hl : Il W (some ⟨g, 0, none⟩) n f) (hT : Foreign 3) (W' : World) (ht : Touch F W W') : Il W' (some ⟨g, 0, none⟩) n f := by
  have he := ht.block g (hp_lt hg) (stp_other hs.s hg hT)
  refine ⟨hl.1, fun hn => ?_⟩
  obtain ⟨g', o, e, hlt, hc⟩ := hl.2 hn
  cases e
  refine ⟨g, 0, rfl, Nat.lt_of_lt_of_le hlt ht.size, fun i hi => ?_⟩
  rw [← hc i hi]
  simp only [World.cell?, he]
end Go.Proofs.Ytedkhpnlhkjjgaa

namespace Go.Proofs.Ytedkhpnlhkjjgaa
open Go.RowKit Go.Maps Go.Sort

set_option maxRecDepth 100000 in
set_option maxHeartbeats 1000000 in
theorem point_is (t : Int) (A : Option Addr) (n c : Nat) (f : Nat → Int) (k : Int) (K : ByteArray) (hK : keyStr t (icat f n fun _ => k) (n + 1) = K) (w : World) (hl : Il w A n f) (hz : A = none → n = 0 ∧ c = 0) (hn : n ≤ 20) (hk : k < 2 ^ 63) :
    Calls Try.prog 65 #[.int .i64 t, .slice A n c, .int .i64 k] w fun e w' => e = .returned (.string K) ∧ Below w.heap.size w w' := by
  have hb0 := (Below.refl w.heap.size w).alloc (Nat.le_refl _) (.cells #[.int .i64 k] 3)
  have HB0 := Lib.hid hb0
  have hc := iconcat2_c A (some ⟨w.heap.size, 0, none⟩) n 1 c 1 f (fun _ => k) (w.alloc (.cells #[.int .i64 k] 3)) (hl.below hb0) (il1 k w 3 hk) hz (fun h => by cases h) (by omega) (by omega) 30
  rw [World.size_alloc] at hc
  have HC := Lib.hid (hc.mono fun e w' hh => (⟨hh.1, hb0.trans (hh.2.mono (by simp))⟩ : (∃ v, e = .returned v ∧ w'.ownsRow (w.heap.size + 1) 3 1 v (n + 1) (iys (icat f n fun _ => k) (n + 1))) ∧ Below w.heap.size w w'))
  have HK := Lib.hid (fun (A' : Option Addr) (c' : Nat) (W : World) (h : Il W A' (n + 1) (icat f n fun _ => k)) => key_is t A' (n + 1) c' _ K hK W h (by omega))
  have HM := Lib.hid (fun (i : Nat) => show icat f n (fun _ => k) i < 2 ^ 63 from by unfold icat; split; exact hl.most _; exact hk)
  clear hl hK hz hn hk hb0 hc HB0
  go_enter Try.func65, Try.ntmps65
  go_wp2_with (first
    | (go_at_call 60; refine (HK.out _ _ _ HI.out).mono ?_; rintro e w2 ⟨rfl, hb2⟩; have HB2 := Lib.hid (HB1.out.trans (hb2.mono HB1.out.size)); clear hb2)
    | (go_at_call 116; refine HC.out.mono ?_; rintro e w1 ⟨⟨v, rfl, hv⟩, hb1⟩; obtain ⟨A1, c1, rfl, il, _⟩ := own_il hv HM.out; have HI := Lib.hid il; have HB1 := Lib.hid hb1; clear hv il hb1))
  go_ret
  exact ⟨rfl, HB2.out⟩
set_option maxRecDepth 100000 in
set_option maxHeartbeats 1000000 in
theorem reader_walk (P : Option Addr) (t : Int) (A : Option Addr) (n c : Nat) (w : World) : Calls Try.prog 62 #[.pointer P, .int .i64 t, .slice A n c] w fun e w' =>
    e = .returned (.func (.func 112) #[] #[.pointer (some ⟨w.heap.size, 0, none⟩), .pointer (some ⟨w.heap.size + 1, 0, none⟩), .pointer (some ⟨w.heap.size + 1 + 1, 0, none⟩)]) ∧ Below w.heap.size w w' ∧
    w'.cell? ⟨w.heap.size, 0, none⟩ = some (.pointer P) ∧ w'.cell? ⟨w.heap.size + 1, 0, none⟩ = some (.int .i64 t) ∧ w'.cell? ⟨w.heap.size + 1 + 1, 0, none⟩ = some (.slice A n c) ∧ w.heap.size + 1 + 1 < w'.heap.size := by
  go_enter Try.func62, Try.ntmps62
  go_wp2
  go_ret
  refine ⟨rfl, (((Below.refl _ _).alloc (Nat.le_refl _) _).alloc (by simp) _).alloc (by simp; omega) _, ?_, ?_, ?_, by simp⟩
  · rw [World.cell?_alloc_old _ _ _ (by simp; omega), World.cell?_alloc_old _ _ _ (by simp)]
    exact (World.cell?_alloc_at _ _ _ _ rfl).trans rfl
  · rw [World.cell?_alloc_old _ _ _ (by simp)]
    exact (World.cell?_alloc_at _ _ _ _ (by simp)).trans rfl
  · exact (World.cell?_alloc_at _ _ _ _ (by simp)).trans rfl
/-- a history's place in a world: the boxes b of its reader, the store P, the id's numbers -/
structure HisAt (w : World) (b : Nat) (P : Option Addr) (t : Int) (A : Option Addr) (n c : Nat) (f : Nat → Int) : Prop where
  c0 : w.cell? ⟨b, 0, none⟩ = some (.pointer P)
  c1 : w.cell? ⟨b + 1, 0, none⟩ = some (.int .i64 t)
  c2 : w.cell? ⟨b + 1 + 1, 0, none⟩ = some (.slice A n c)
  lt : b + 1 + 1 < w.heap.size
  l : Il w A n f
  z : A = none → n = 0 ∧ c = 0
  n : n ≤ 20
theorem HisAt.below {w w' : World} {b : Nat} {P : Option Addr} {t : Int} {A : Option Addr} {n c : Nat} {f : Nat → Int} (h : HisAt w b P t A n c f) (hb : Below w.heap.size w w') : HisAt w' b P t A n c f :=
  ⟨(hb.cell (p := ⟨b, 0, none⟩) (by have := h.lt; show b < _; omega)).trans h.c0, (hb.cell (p := ⟨b + 1, 0, none⟩) (by have := h.lt; show b + 1 < _; omega)).trans h.c1, (hb.cell (p := ⟨b + 1 + 1, 0, none⟩) h.lt).trans h.c2, Nat.lt_of_lt_of_le h.lt hb.size, h.l.below hb, h.z, h.n⟩
/-- what a checkpoint tells -/
def hisV (x : Int) (a : Nat) (ok : Bool) : Value := .tuple #[.int .i64 x, U a, .bool ok]
set_option maxRecDepth 100000 in
set_option maxHeartbeats 2000000 in
/-- a checkpoint that is not there -/
theorem read_none (b : Nat) (P : Option Addr) (t : Int) (A : Option Addr) (n c : Nat) (f : Nat → Int) (k : Int) (K : ByteArray) (hK : keyStr t (icat f n fun _ => k) (n + 1) = K) (ok : Bool) (w : World) (h : HisAt w b P t A n c f) (hk : k < 2 ^ 63)
    (hG : ∀ W, Below w.heap.size w W → Calls Try.prog 47 #[.pointer P, .string K] W fun e w' => e = .returned (.tuple #[.string ⟨#[]⟩, .bool ok]) ∧ Below W.heap.size W w') :
    Calls Try.prog 112 #[.int .i64 k, .pointer (some ⟨b, 0, none⟩), .pointer (some ⟨b + 1, 0, none⟩), .pointer (some ⟨b + 1 + 1, 0, none⟩)] w fun e w' => e = .returned (hisV 0 0 false) ∧ Below w.heap.size w w' := by
  obtain ⟨W0, hW0⟩ : ∃ W0, W0 = w.alloc (.cells #[.int .u64 0, .int .u64 0, .int .u64 0, .int .u64 0] 29) := ⟨_, rfl⟩
  have hb0 : Below w.heap.size w W0 := by rw [hW0]; exact (Below.refl _ _).alloc (Nat.le_refl _) _
  have r0 : W0.heap[w.heap.size]? = some (.cells #[.int .u64 0, .int .u64 0, .int .u64 0, .int .u64 0] 29 (0, 0)) := by rw [hW0]; exact heap_alloc_new _ _
  have hA := h.below hb0
  have f0 := fun (dq : Nat) (osq : Array Obj) => cell_regrown hA.c0 dq osq
  have f1 := fun (dq : Nat) (osq : Array Obj) => cell_regrown hA.c1 dq osq
  have f2 := fun (dq : Nat) (osq : Array Obj) => cell_regrown hA.c2 dq osq
  have HP := Lib.hid (fun (dq : Nat) (osq : Array Obj) => point_is t A n c f k K hK (grow (redrawn W0 dq) osq) (hA.l.below (below_regrown W0 dq osq)) h.z h.n hk)
  have HG := Lib.hid (fun (dq : Nat) (osq : Array Obj) => hG (grow (redrawn W0 dq) osq) (hb0.trans ((below_regrown W0 dq osq).mono hb0.size)))
  have HF := Lib.hid (fun (dq : Nat) (osq : Array Obj) => And.intro (hb0.trans ((below_regrown W0 dq osq).mono hb0.size)) (((below_regrown W0 dq osq).block w.heap.size (hp_lt r0)).trans r0))
  have HW := Lib.hid hW0
  clear h hG hA hb0 r0 hK hk hW0
  unfold hisV
  rw [U_zero]
  go_enter Try.func112, Try.ntmps112
  go_wp2
  rw [← HW.out]
  refine wp_region_quiet_below (by kernel_rfl) (by kernel_rfl) ?_
  repeat (quiet_step (first
    | (go_at_call 65; with_reducible exact Calls.regrown_of (HP.out _ _))
    | (go_at_call 47; with_reducible exact Calls.regrown_of (HG.out _ _))))
  refine wpQuiet_nil ?_
  intro _ hw'
  obtain ⟨⟨dq, osq⟩, hw''⟩ := hw'
  subst hw''
  have hf := HF.out dq osq
  obtain ⟨W, hW⟩ : ∃ W, W = grow (redrawn W0 dq) osq := ⟨_, rfl⟩
  rw [← hW] at hf ⊢
  clear hW f0 f1 f2 HF HP HG
  have HB := Lib.hid hf.1
  have d0 := (hp_cell (i := 0) hf.2).trans rfl
  have d1 := (hp_cell (i := 1) hf.2).trans rfl
  have d2 := (hp_cell (i := 2) hf.2).trans rfl
  have d3 := (hp_cell (i := 3) hf.2).trans rfl
  have g0 := hp_free (i := 0) hf.2
  have g1 := hp_free (i := 1) hf.2
  have g2 := hp_free (i := 2) hf.2
  have g3 := hp_free (i := 3) hf.2
  clear hf
  go_wp2
  refine bodyPost_ret (v := .tuple #[.int .i64 0, .agg #[.int .u64 0, .int .u64 0, .int .u64 0, .int .u64 0], .bool false]) (by simp [results, Try.results112, go_sem, d0, d1, d2, d3]) rfl ⟨rfl, below_set4 HB.out (Nat.le_refl _)⟩
end Go.Proofs.Ytedkhpnlhkjjgaa
